/- exact.multiplyLimbs. exact.multiply of factors of fewer than 80 limbs. exact.integer: times; exact.Mul, Sign, sign. Written by gen_int4.py. Lehmer's steps of a common divisor: plain arithmetic. math/bits.LeadingZeros64, Len64: by the library's contracts. -/
import Derived.Test.YtbapeilpkhbbeaaGreatBn04
import Derived.Test.YtbapeilpkhbbeaaGreatBn01
import Derived.Shelf.Small.Bits
import Derived.Shelf.Strconv.Itoa0
/- exact.multiplyLimbs. -/
namespace Go.Proofs.YtbapeilpkhbbeaaGreat
open Go.RowKit

/-- After k limbs of the second factor: Q is the product so far. -/
structure LimbI (w wr : World) (g : Nat) (LA LB : List Int) (k : Nat) (Q : List Int) : Prop where
  row : Row .u64 106 wr g (Q ++ List.replicate (LB.length - k) 0)
  gr : w.grownBy wr (some g)
  len : Q.length = LA.length + k
  dig : Dig B64 Q
  eq : val B64 Q = val B64 LA * val B64 (LB.take k)

theorem LimbI.step {w wr w1 : World} {g : Nat} {LA LB Q A1 : List Int} {k : Nat} {cc y : Int} (h : LimbI w wr g LA LB k Q) (hk : k < LB.length) (hy : y = LB[k]?.getD 0)
    (hm : MulI wr w1 g (Q.take k) (Q.drop k) (List.replicate (LB.length - k) 0) (Q.drop k).length (val B64 LA * y) A1 cc) :
    LimbI w (w1.setCell ⟨g, k + LA.length, none⟩ (.int .u64 cc)) g LA LB (k + 1) (Q.take k ++ A1 ++ [cc]) := by
  have hl1 : A1.length = LA.length := by rw [hm.len, List.length_drop, h.len]; omega
  have hlP : (Q.take k).length = k := by rw [List.length_take, h.len]; omega
  have hr := hm.row.set (k + LA.length) cc
  have hz : LB.length - k = (LB.length - (k + 1)) + 1 := by omega
  rw [hz, List.replicate_succ, List.set_append_right _ _ (by simp [hlP, hl1]), show k + LA.length - (Q.take k ++ A1).length = 0 by simp [hlP, hl1], List.set_cons_zero] at hr
  refine ⟨by simpa [List.append_assoc] using hr, grown_trans (grown_trans h.gr hm.gr) (grown_set _ _ _ _), by simp [hlP, hl1]; omega, ((h.dig.take k).append hm.dig).append (Dig.cons hm.c0 hm.c1 (Dig.nil _)), ?_⟩
  have e := hm.eq
  have ld : (Q.drop k).length = LA.length := by rw [List.length_drop, h.len]; omega
  rw [ld] at e
  rw [List.append_assoc, val_append, val_snoc, hlP, hl1, e, val_take_succ B64 LB k hk, ← hy]
  have e2 := val_append B64 (Q.take k) (Q.drop k)
  rw [List.take_append_drop, hlP, h.eq] at e2
  grind

set_option maxRecDepth 100000 in
set_option maxHeartbeats 2000000 in
theorem multiplyLimbs_any (va vb : Value) (a b : Int) (Ka Kb : Nat) (w : World) (hA : Nt w va a Ka) (hB : Nt w vb b Kb) (h1 : Ka ≤ 1073741824) (h2 : Kb ≤ 1073741824) :
    Calls Tryz.prog 107 #[va, vb] w (RetN w (a * b) (Ka + Kb)) := by
  obtain ⟨ao, ca, LA, rfl, hA⟩ := hA
  obtain ⟨bo, cb, LB, rfl, hB⟩ := hB
  obtain ⟨n, hn⟩ : ∃ n, n = LA.length := ⟨_, rfl⟩
  obtain ⟨m, hm⟩ : ∃ m, m = LB.length := ⟨_, rfl⟩
  have hn30 : n ≤ 1073741824 := by have := hA.le; omega
  have hm30 : m ≤ 1073741824 := by have := hB.le; omega
  rw [← hn, ← hm]
  have HA := hid hA; have HB := hid hB; have Hn := hid hn; have Hm := hid hm
  clear hA hB hn hm
  obtain ⟨i0, hi, hz0, hz1, hz2⟩ := info_parts Tryz.info106
  go_enter Tryz.func107, Tryz.ntmps107
  go_wp2_with (at_make; refine wpList_make_row w rfl _ _ 76 rfl 106 i0 .u64 Tryz.underlying76 hi hz0 hz1 .i64 .i64 _ _ (n + m) rfl rfl (by omega) (by omega) (by rw [hz2]; omega) (by unfold maxLen; omega) ?_)
  intro w1 hrow hg1
  have hb1 := grown_below hg1
  have H0 : LimbI w w1 w.heap.size LA LB 0 (List.replicate n 0) := by
    refine ⟨?_, grown_any hg1, by simp [Hn.out], Dig.replicate B64_pos _, by simp [val_replicate, val]⟩
    have e : List.replicate n (0 : Int) ++ List.replicate (LB.length - 0) 0 = List.replicate (n + m) 0 := by rw [List.replicate_append_replicate, Nat.sub_zero, ← Hm.out]
    rw [e]; exact hrow
  have HG1 := hid (HA.out.rd.ne (Nat.le_refl w.heap.size)); have HG2 := hid (HB.out.rd.ne (Nat.le_refl w.heap.size))
  clear hrow hg1
  go_wp2
  go_loopw [16] (fun iv wr => ∃ k : Nat, ∃ Q, k ≤ m ∧ iv = .int .i64 k ∧ LimbI w wr w.heap.size LA LB k Q ∧ Below w.heap.size w wr) (fun iv _ => m - (intOf iv).toNat)
  case atStart => exact ⟨0, _, Nat.zero_le _, rfl, H0, hb1⟩
  case round =>
    obtain ⟨k, Q, hk, rfl, H, hbr⟩ := hrel
    by_cases hlt : k < m
    · obtain ⟨b1, o1, rfl⟩ := HB.out.rd.adr (by have := Hm.out; omega)
      have hBk := (HB.out.rd.keptNew H.gr HG2.out).cell b1 o1 rfl k (by have := Hm.out; omega)
      have hAr := HA.out.rd.keptNew H.gr HG1.out
      have hy := HB.out.dig.at B64_pos k
      obtain ⟨y, hye⟩ : ∃ y, y = LB[k]?.getD 0 := ⟨_, rfl⟩
      rw [← hye] at hBk hy
      have hlP : (Q.take k).length = k := by rw [List.length_take, H.len]; omega
      have hlA : (Q.drop k).length = n := by rw [List.length_drop, H.len, Hn.out]; omega
      have hc := addProduct_any w.heap.size (Q.take k) (Q.drop k) (List.replicate (LB.length - k) 0) LA (n + m - k) ca ao y wr (by rw [List.take_append_drop]; exact H.row) (H.dig.drop k) HA.out.dig hy.1 hy.2 (by omega) (by omega) hAr (by rw [hlA, Hn.out]) HG1.out
      rw [hlP, hlA, ← Hn.out] at hc
      have hstep := fun (w1 : World) (A1 : List Int) (cc : Int) (hm : MulI wr w1 w.heap.size (Q.take k) (Q.drop k) (List.replicate (LB.length - k) 0) n (val B64 LA * y) A1 cc) => H.step (by have := Hm.out; omega) hye (by rw [hlA]; exact hm)
      rw [← Hn.out] at hstep
      have hcell := fun (w1 : World) (A1 : List Int) (cc : Int) (hm : MulI wr w1 w.heap.size (Q.take k) (Q.drop k) (List.replicate (LB.length - k) 0) n (val B64 LA * y) A1 cc) => (show (∃ u, w1.cell? ⟨w.heap.size, k + n, none⟩ = some (.int .u64 u)) ∧ w1.frozen? ⟨w.heap.size, k + n, none⟩ = false from
        ⟨⟨_, hm.row.cell (k + n) (by have e1 := hm.len; rw [hlA] at e1; have := Hm.out; simp only [List.length_append, List.length_replicate]; omega)⟩, hm.row.frozen _⟩)
      have HC := hid hc; have HSt := hid hstep; have HCe := hid hcell; have Hye := hid hye; have HH := hid H
      clear hc hstep hcell hye H hAr hlP hlA H0 hb1
      go_wp2_with (go_at_call 136; refine HC.out.mono ?_; rintro e w2 ⟨A1, cc, rfl, HI⟩; obtain ⟨⟨u, hu⟩, hf⟩ := HCe.out w2 A1 cc HI)
      go_roundw
      case rel => exact ⟨k + 1, _, by omega, by go_num, HSt.out w2 A1 cc HI, (hbr.grown HI.gr hbr.size (fun i e => by cases e; exact Nat.le_refl _)).setCell (Nat.le_refl _) _⟩
      case measure => simp [intOf]; omega
    · obtain rfl : k = m := by omega
      have hr := H.row
      have hv := H.eq
      have hl := H.len
      rw [← Hm.out, Nat.sub_self, List.replicate_zero, List.append_nil] at hr
      rw [Hm.out, List.take_length, HA.out.eq, HB.out.eq] at hv
      rw [← Hn.out] at hl
      have ht := trim64_any (some ⟨w.heap.size, 0, none⟩) (n + k) Q wr (row_rd hr (by omega) (by omega))
      rw [hl] at ht
      have hres := nt_row (c := n + k) (K := Ka + Kb) hr H.dig hv (by omega) (by omega) (by have := HA.out.le; have := HB.out.le; have := Hn.out; have := Hm.out; omega)
      have HT := hid ht; have Hres := hid hres
      clear ht hres hr hv hl H H0 hb1
      go_wp2_with (go_at_call 109; refine HT.out.mono ?_; rintro e w2 ⟨rfl, rfl⟩)
      go_ret
      exact ⟨_, rfl, Hres.out, hbr⟩

end Go.Proofs.YtbapeilpkhbbeaaGreat

/- exact.multiply of factors of fewer than 80 limbs. -/
namespace Go.Proofs.YtbapeilpkhbbeaaGreat
open Go.RowKit

set_option maxRecDepth 100000 in
set_option maxHeartbeats 2000000 in
theorem multiply_short (va vb : Value) (a b : Int) (Ka Kb : Nat) (w : World) (hA : Nt w va a Ka) (hB : Nt w vb b Kb) (h1 : Ka ≤ 79) (h2 : Kb ≤ 79) :
    Calls Tryz.prog 68 #[va, vb] w (RetN w (a * b) (Ka + Kb)) := by
  have hC := multiplyLimbs_any va vb a b Ka Kb w hA hB (by omega) (by omega)
  have hC' := multiplyLimbs_any vb va b a Kb Ka w hB hA (by omega) (by omega)
  obtain ⟨ao, ca, LA, rfl, hA⟩ := hA
  obtain ⟨bo, cb, LB, rfl, hB⟩ := hB
  obtain ⟨n, hn⟩ : ∃ n, n = LA.length := ⟨_, rfl⟩
  obtain ⟨m, hm⟩ : ∃ m, m = LB.length := ⟨_, rfl⟩
  have hn80 : n < 80 := by have := hA.le; omega
  have hm80 : m < 80 := by have := hB.le; omega
  rw [← hn, ← hm] at hC hC' ⊢
  have HC := hid hC; have HC' := hid hC'
  clear hA hB hC hC' hn hm
  by_cases hlt : n < m
  · go_enter Tryz.func68, Tryz.ntmps68
    go_wp2_with fail
    refine HC'.out.mono ?_
    rintro e w' ⟨v, rfl, hv, hb⟩
    go_wp2
    go_ret
    exact ⟨v, rfl, by rw [Int.mul_comm, Nat.add_comm]; exact hv, hb⟩
  · go_enter Tryz.func68, Tryz.ntmps68
    go_wp2_with fail
    refine HC.out.mono ?_
    rintro e w' ⟨v, rfl, hv, hb⟩
    go_wp2
    go_ret
    exact ⟨v, rfl, hv, hb⟩

end Go.Proofs.YtbapeilpkhbbeaaGreat

/- exact.integer: times; exact.Mul, Sign, sign. Written by gen_int4.py. -/
namespace Go.Proofs.YtbapeilpkhbbeaaGreat
open Go.RowKit

theorem sgn_mul (x y : Int) : sgn (decide (x < 0) != decide (y < 0)) ((x.natAbs : Int) * (y.natAbs : Int)) = x * y := by
  have hx : (x.natAbs : Int) = if x < 0 then -x else x := by split <;> omega
  have hy : (y.natAbs : Int) = if y < 0 then -y else y := by split <;> omega
  rw [hx, hy]
  by_cases h1 : x < 0 <;> by_cases h2 : y < 0 <;> simp [h1, h2, sgn, Int.neg_mul, Int.mul_neg]

end Go.Proofs.YtbapeilpkhbbeaaGreat

/- Lehmer's steps of a common divisor: plain arithmetic. -/
namespace Go.Proofs.YtbapeilpkhbbeaaGreat

theorem leh_mul {u x D S : Int} (h0 : 0 ≤ u) (h1 : u ≤ D) (a0 : 0 ≤ x) (a1 : x < S) : 0 ≤ u * x ∧ u * x ≤ D * S - D := by
  refine ⟨Int.mul_nonneg h0 a0, ?_⟩
  have h2 : u * x ≤ D * x := Int.mul_le_mul_of_nonneg_right h1 a0
  have h3 : D * x ≤ D * (S - 1) := Int.mul_le_mul_of_nonneg_left (by omega) (by omega)
  rw [Int.mul_sub, Int.mul_one] at h3
  omega
theorem leh_pos {g u v x y D S : Int} (hg : g = 1 ∨ g = -1) (hu0 : 0 ≤ u) (hu : u ≤ D) (hv0 : 0 ≤ v) (hv : v ≤ D) (x0 : 0 ≤ x) (x1 : x < S) (y0 : 0 ≤ y) (y1 : y < S) : D ≤ D * S + g * (u * x - v * y) := by
  have h1 := leh_mul hu0 hu x0 x1
  have h2 := leh_mul hv0 hv y0 y1
  generalize u * x = p at *
  generalize v * y = q at *
  generalize D * S = r at *
  rcases hg with rfl | rfl
  · rw [Int.one_mul]; omega
  · rw [Int.neg_mul, Int.one_mul]; omega

/-- Some of Euclid's steps of a and b, told by their highest bits A and B. -/
structure LehN (a b A B : Int) (cnt a0 b0 a1 b1 hi lo : Int) : Prop where
  c0 : 0 ≤ cnt
  cb : cnt + 1 ≤ b0 + b1
  a00 : 0 ≤ a0
  b00 : 0 ≤ b0
  a10 : 0 ≤ a1
  b11 : 1 ≤ b1
  ab1 : a1 ≤ b1
  abs : a0 + a1 ≤ b0 + b1
  b0s : b0 < 4294967296
  b1s : b1 < 4294967296
  lo0 : 0 ≤ lo
  le : lo ≤ hi
  eA : b1 * hi + b0 * lo = A
  eB : a1 * hi + a0 * lo = B
  sg : ∃ g R0 R1 : Int, (g = 1 ∧ cnt % 2 = 0 ∨ g = -1 ∧ cnt % 2 = 1) ∧ R0 = g * (a0 * a - b0 * b) ∧ R1 = g * (b1 * b - a1 * a) ∧ hi = g * (a0 * A - b0 * B) ∧ lo = g * (b1 * B - a1 * A) ∧
    0 ≤ R1 ∧ (cnt = 0 ∧ R1 = b ∨ 0 < cnt ∧ R1 < R0 ∧ R0 ≤ b) ∧ Int.gcd R0 R1 = Int.gcd a b

theorem LehN.start {a b A B : Int} (hb : 0 ≤ b) (hB : 0 ≤ B) (hAB : B ≤ A) : LehN a b A B 0 1 0 0 1 A B :=
  ⟨by decide, by decide, by decide, by decide, by decide, by decide, by decide, by decide, by decide, by decide, hB, hAB, by omega, by omega, 1, a, b, .inl ⟨rfl, rfl⟩, by omega, by omega, by omega, by omega, hb, .inl ⟨rfl, rfl⟩, rfl⟩

theorem gcd_sub_mul (x y q : Int) : Int.gcd y (x - q * y) = Int.gcd x y := by
  apply Nat.dvd_antisymm
  · apply Int.dvd_gcd
    · have h1 := Int.gcd_dvd_left y (x - q * y)
      have h2 := Int.gcd_dvd_right y (x - q * y)
      have := Int.dvd_add h2 (Int.dvd_mul_of_dvd_right h1 (b := q))
      simpa using this
    · exact Int.gcd_dvd_left y (x - q * y)
  · apply Int.dvd_gcd
    · exact Int.gcd_dvd_right x y
    · exact Int.dvd_sub (Int.gcd_dvd_left x y) (Int.dvd_mul_of_dvd_right (Int.gcd_dvd_right x y))

/-- What the numbers of the next step are at most. -/
structure LehB (a0 b0 a1 b1 hi lo q rest a2 b2 : Int) : Prop where
  q1 : 1 ≤ q
  qh : q * lo ≤ hi
  r0 : 0 ≤ rest
  r1 : rest < lo
  a20 : 0 ≤ a2
  qa0 : 0 ≤ q * a1
  qa : q * a1 ≤ a2
  ab2 : a2 ≤ b2
  qb0 : 0 ≤ q * b1
  qb : q * b1 ≤ b2
  b21 : 1 ≤ b2
  bA : b2 * lo + b1 * rest = b1 * hi + b0 * lo
  bB : a2 * lo + a1 * rest = a1 * hi + a0 * lo

theorem LehN.bounds {a b A B cnt a0 b0 a1 b1 hi lo : Int} (H : LehN a b A B cnt a0 b0 a1 b1 hi lo) (hlo : 0 < lo) :
    LehB a0 b0 a1 b1 hi lo (hi / lo) (hi - hi / lo * lo) (a0 + hi / lo * a1) (b0 + hi / lo * b1) := by
  have e := Int.emod_add_mul_ediv hi lo
  have m0 := Int.emod_nonneg hi (show lo ≠ 0 by omega)
  have m1 := Int.emod_lt_of_pos hi hlo
  have q1 : 1 ≤ hi / lo := by
    have := Int.ediv_le_ediv hlo H.le
    rw [Int.ediv_self (by omega)] at this; exact this
  rw [Int.mul_comm lo] at e
  generalize hi / lo = q at *
  generalize hi % lo = m at *
  have ha := H.a10; have hb := H.b11; have h1 := H.ab1; have h2 := H.abs; have h3 := H.a00; have h4 := H.b00
  have f1 : 0 ≤ q * a1 := Int.mul_nonneg (by omega) ha
  have f2 : 0 ≤ q * b1 := Int.mul_nonneg (by omega) (by omega)
  have f3 : (q - 1) * a1 ≤ (q - 1) * b1 := Int.mul_le_mul_of_nonneg_left h1 (by omega)
  have f4 : 1 * 1 ≤ q * b1 := Int.mul_le_mul q1 hb (by decide) (by omega)
  rw [Int.sub_mul, Int.sub_mul, Int.one_mul, Int.one_mul] at f3
  refine ⟨q1, by omega, by omega, by omega, by omega, f1, by omega, by omega, f2, by omega, by omega, ?_, ?_⟩
  · have : hi - q * lo = m := by omega
    rw [← e]; grind
  · rw [← e]; grind

/-- A factor of what is small is small. -/
theorem leh_le {u x p A : Int} (hu : 0 ≤ u) (hx : 1 ≤ x) (hp : 0 ≤ p) (h : u * x + p = A) : u ≤ A := by
  have : u * 1 ≤ u * x := Int.mul_le_mul_of_nonneg_left hx hu
  omega

theorem LehB.fits {a0 b0 a1 b1 hi lo q rest a2 b2 A B : Int} (h : LehB a0 b0 a1 b1 hi lo q rest a2 b2) (hA : b1 * hi + b0 * lo = A) (hB : a1 * hi + a0 * lo = B) (hb1 : 1 ≤ b1) (ha1 : 0 ≤ a1) : b2 ≤ A ∧ a2 ≤ B ∧ (b2 ≤ rest → b1 + b2 ≤ A ∧ b2 * b2 ≤ A) := by
  have hlo : 1 ≤ lo := by have := h.r0; have := h.r1; omega
  have e1 := h.bA; have e2 := h.bB
  rw [hA] at e1; rw [hB] at e2
  have p1 : 0 ≤ b1 * rest := Int.mul_nonneg (by omega) h.r0
  have p2 : 0 ≤ a1 * rest := Int.mul_nonneg ha1 h.r0
  refine ⟨leh_le (by have := h.b21; omega) hlo p1 e1, leh_le h.a20 hlo p2 e2, fun hr => ?_⟩
  have hb2 := h.b21
  have g1 : b2 * 1 ≤ b2 * lo := Int.mul_le_mul_of_nonneg_left hlo (by omega)
  have g2 : b1 * 1 ≤ b1 * rest := Int.mul_le_mul_of_nonneg_left (by omega) (by omega)
  have g3 : b2 * b2 ≤ b2 * lo := Int.mul_le_mul_of_nonneg_left (by have := h.r1; omega) (by omega)
  constructor <;> omega

theorem sq_lt {x A : Int} (h : x * x ≤ A) (hA : A < 18446744073709551616) : x < 4294967296 := by
  by_cases h1 : x < 4294967296
  · exact h1
  · have : (4294967296 : Int) * 4294967296 ≤ x * x := Int.mul_le_mul (by omega) (by omega) (by decide) (by omega)
    omega

theorem LehN.next {a b A B S x y cnt a0 b0 a1 b1 hi lo q rest a2 b2 : Int} (H : LehN a b A B cnt a0 b0 a1 b1 hi lo) (h : LehB a0 b0 a1 b1 hi lo q rest a2 b2) (hr : rest = hi - q * lo) (h2 : a2 = a0 + q * a1) (h3 : b2 = b0 + q * b1)
    (ha : a = A * S + x) (hb : b = B * S + y) (x0 : 0 ≤ x) (x1 : x < S) (y0 : 0 ≤ y) (y1 : y < S) (hA : A < 18446744073709551616) (k1 : b2 ≤ rest) (k2 : b1 + b2 ≤ lo - rest) : LehN a b A B (cnt + 1) a1 b1 a2 b2 lo rest := by
  obtain ⟨g, R0, R1, hg, e0, e1, e2, e3, hp, hc, hgcd⟩ := H.sg
  have hg' : g = 1 ∨ g = -1 := by rcases hg with h | h; exact .inl h.1; exact .inr h.1
  have f := h.fits H.eA H.eB H.b11 H.a10
  have hsq := sq_lt (f.2.2 k1).2 hA
  have ab1 := H.ab1; have ab2 := h.ab2; have a10 := H.a10; have b11 := H.b11; have a20 := h.a20; have b21 := h.b21
  have w1 : R0 - q * R1 = rest * S + g * (a2 * x - b2 * y) := by
    rw [e0, e1, hr, e2, e3, ha, hb, h2, h3]; grind
  have w2 : R1 - (R0 - q * R1) = (lo - rest) * S + g * ((b1 + b2) * y - (a1 + a2) * x) := by
    rw [e0, e1, hr, e2, e3, ha, hb, h2, h3]; grind
  have p1 := leh_pos hg' a20 (by omega) (by omega) k1 x0 x1 y0 y1
  have p2 := leh_pos (D := lo - rest) hg' (by omega) k2 (show 0 ≤ a1 + a2 by omega) (by omega) y0 y1 x0 x1
  rw [← w1] at p1
  rw [← w2] at p2
  have r0 := h.r0; have r1 := h.r1
  refine ⟨by have := H.c0; omega, ?_, a10, by omega, a20, by omega, ab2, by omega, H.b1s, hsq, r0, by omega, by rw [h.bA]; exact H.eA, by rw [h.bB]; exact H.eB, -g, R1, R0 - q * R1, ?_, ?_, ?_, ?_, ?_, by omega, .inr ⟨by have := H.c0; omega, by omega, ?_⟩, ?_⟩
  · have h5 := H.cb; have h6 := h.qb; have h7 := h.q1
    have : 1 * b1 ≤ q * b1 := Int.mul_le_mul_of_nonneg_right h7 (by omega)
    omega
  · rcases hg with ⟨rfl, h⟩ | ⟨rfl, h⟩
    · right; exact ⟨rfl, by omega⟩
    · left; exact ⟨rfl, by omega⟩
  · rw [e1]; grind
  · rw [e0, e1, h2, h3]; grind
  · rw [e3]; grind
  · rw [hr, e2, e3, h2, h3]; grind
  · rcases hc with ⟨_, h⟩ | ⟨_, h, h'⟩ <;> omega
  · rw [← hgcd]; exact gcd_sub_mul R0 R1 q

end Go.Proofs.YtbapeilpkhbbeaaGreat

/- math/bits.LeadingZeros64, Len64: by the library's contracts. -/
namespace Go.Proofs.YtbapeilpkhbbeaaGreat
open Go.RowKit Go.Shelf

def lz_ren : Go.Shelf.Ren := ⟨fun | 134 => 141 | 129 => 140 | n => n, fun | 53 => 106 | 3 => 3 | 4 => 4 | 46 => 152 | 5 => 5 | 9 => 9 | n => n, fun | n => n⟩
theorem lz_lays : Go.Proofs.Lays.n134 Tryz.prog lz_ren := {
  mixed := by kernel_rfl
  f129 := Tryz.func140.trans (congrArg some (by kernel_rfl))
  f134 := Tryz.func141.trans (congrArg some (by kernel_rfl))
  t3 := Tryz.underlying3
  a3 := Tryz.isAgg3
  z3 := Tryz.sizeOf3
  v3 := Tryz.zeroValue3
  t4 := Tryz.underlying4
  a4 := Tryz.isAgg4
  z4 := Tryz.sizeOf4
  v4 := Tryz.zeroValue4
  t5 := Tryz.underlying5
  a5 := Tryz.isAgg5
  z5 := Tryz.sizeOf5
  v5 := Tryz.zeroValue5
  t9 := Tryz.underlying9
  a9 := Tryz.isAgg9
  z9 := Tryz.sizeOf9
  v9 := Tryz.zeroValue9
  t46 := Tryz.underlying152
  a46 := Tryz.isAgg152
  z46 := Tryz.sizeOf152
  v46 := Tryz.zeroValue152
  t53 := Tryz.underlying106
  a53 := Tryz.isAgg106
  z53 := Tryz.sizeOf106
  v53 := Tryz.zeroValue106 }

theorem bitLenAux_bd : ∀ (f x : Nat), x < 2 ^ f → 0 < x → 0 < Lib.bitLenAux f x ∧ 2 ^ (Lib.bitLenAux f x - 1) ≤ x ∧ x < 2 ^ Lib.bitLenAux f x ∧ Lib.bitLenAux f x ≤ f
  | 0, x, h, h0 => by simp at h; omega
  | f + 1, x, h, h0 => by
    rw [Lib.bitLenAux, if_neg (by omega)]
    by_cases h1 : x / 2 = 0
    · have : x = 1 := by omega
      subst this
      cases f <;> simp [Lib.bitLenAux]
    · have ih := bitLenAux_bd f (x / 2) (by rw [Nat.pow_succ] at h; omega) (by omega)
      obtain ⟨a, b, c, d⟩ := ih
      refine ⟨by omega, ?_, ?_, by omega⟩
      · rw [Nat.add_sub_cancel_left]
        have e : Lib.bitLenAux f (x / 2) = (Lib.bitLenAux f (x / 2) - 1) + 1 := by omega
        rw [e, Nat.pow_succ]; omega
      · rw [Nat.add_comm, Nat.pow_succ]; omega

theorem bitLen_bd (x : Nat) (h : x < 18446744073709551616) (h0 : 0 < x) : 0 < Lib.bitLen x ∧ 2 ^ (Lib.bitLen x - 1) ≤ x ∧ x < 2 ^ Lib.bitLen x ∧ Lib.bitLen x ≤ 64 := bitLenAux_bd 64 x h h0

/-- The shift by which the highest bit comes to stand first. -/
theorem lz64 (y : Int) (h0 : 0 < y) (h1 : y < B64) (w : World) : Calls Tryz.prog 141 #[.int .u64 y] w fun e w' => ∃ s : Nat, e = .returned (.int .i64 s) ∧ s ≤ 63 ∧ 9223372036854775808 ≤ y * 2 ^ s ∧ y * 2 ^ s < B64 ∧ w = w' := by
  unfold B64 at h1
  refine (Any.bits_LeadingZeros64 lz_lays y w (by omega) (by omega)).mono ?_
  rintro e w' ⟨rfl, rfl⟩
  have hb := bitLen_bd y.toNat (by omega) (by omega)
  obtain ⟨a, b, c, d⟩ := hb
  refine ⟨64 - Lib.bitLen y.toNat, by congr 2; omega, by omega, ?_, ?_, rfl⟩
  · have e : (64 - Lib.bitLen y.toNat) + (Lib.bitLen y.toNat - 1) = 63 := by omega
    have := Nat.mul_le_mul_right (2 ^ (64 - Lib.bitLen y.toNat)) b
    rw [← Nat.pow_add, Nat.add_comm, e] at this
    have h2 : ((2 ^ 63 : Nat) : Int) ≤ ((y.toNat * 2 ^ (64 - Lib.bitLen y.toNat) : Nat) : Int) := by exact_mod_cast this
    rw [Int.natCast_mul, Int.natCast_pow, Int.toNat_of_nonneg (by omega)] at h2
    simpa using h2
  · have e : Lib.bitLen y.toNat + (64 - Lib.bitLen y.toNat) = 64 := by omega
    have := Nat.mul_lt_mul_of_pos_right c (Nat.two_pow_pos (64 - Lib.bitLen y.toNat))
    rw [← Nat.pow_add, e] at this
    have h2 : ((y.toNat * 2 ^ (64 - Lib.bitLen y.toNat) : Nat) : Int) < ((2 ^ 64 : Nat) : Int) := by exact_mod_cast this
    rw [Int.natCast_mul, Int.natCast_pow, Int.toNat_of_nonneg (by omega)] at h2
    simpa [B64] using h2

end Go.Proofs.YtbapeilpkhbbeaaGreat
