/- exact.addProduct: it adds a product to a row. exact.multiplyLimbs. exact.multiplyLimbs: the product lies in new memory. math/bits.LeadingZeros64, Len64: by the library's contracts. exact.fromWords, (exact.natural).words: two words are a limb. -/
import Derived.Test.YtbmdjimfncgomaaDa02
import Derived.Test.YtbmdjimfncgomaaDa01
import Derived.Shelf.Small.Bits
import Derived.Shelf.Strconv.Itoa0
/- exact.addProduct: it adds a product to a row. -/
namespace Go.Proofs.Ytbmdjimfncgomaa
open Go.RowKit

theorem mul_le (x y : Int) (h0 : 0 ≤ x) (h1 : x < B64) (k0 : 0 ≤ y) (k1 : y < B64) : 0 ≤ x * y ∧ x * y ≤ 340282366920938463426481119284349108225 := by
  refine ⟨Int.mul_nonneg h0 k0, ?_⟩
  have a : x * y ≤ 18446744073709551615 * y := Int.mul_le_mul_of_nonneg_right (by unfold B64 at h1; omega) k0
  unfold B64 at k1; omega

/-- bits.Mul64, its two results under names. -/
theorem mul64_ex (x y : Int) (hx : 0 ≤ x) (hx' : x < B64) (hy : 0 ≤ y) (hy' : y < B64) (w : World) :
    Calls Try.prog 116 #[.int .u64 x, .int .u64 y] w fun e w' => ∃ hi lo, e = .returned (.tuple #[.int .u64 hi, .int .u64 lo]) ∧ (0 ≤ hi ∧ 0 ≤ lo ∧ lo < B64 ∧ hi ≤ 18446744073709551614 ∧ Hid (lo + B64 * hi = x * y)) ∧ w = w' := by
  refine (mul64 x y hx hx' hy hy' w).mono ?_
  rintro e w' ⟨rfl, rfl⟩
  have h := mul_le x y hx hx' hy hy'
  refine ⟨_, _, rfl, ⟨Int.ediv_nonneg h.1 (by decide), Int.emod_nonneg _ (by decide), Int.emod_lt_of_pos _ B64_pos, ?_, hid (Int.emod_add_mul_ediv _ _)⟩, rfl⟩
  have h2 := h.2
  unfold B64; omega

theorem add64_ex (x y c : Int) (hx : 0 ≤ x) (hx' : x < B64) (hy : 0 ≤ y) (hy' : y < B64) (hc0 : 0 ≤ c) (hc : c ≤ 1) :
    ∃ s d, (∀ w, (callFunc 113 #[.int .u64 x, .int .u64 y, .int .u64 c]).run Try.prog w = .ok (.value (.tuple #[.int .u64 s, .int .u64 d])) w) ∧ (0 ≤ s ∧ s < B64 ∧ 0 ≤ d ∧ d ≤ 1) ∧ s + B64 * d = x + y + c := by
  refine ⟨_, _, fun w => add64 x y c hx hy hc0 hc w, ⟨Int.emod_nonneg _ (by decide), Int.emod_lt_of_pos _ B64_pos, ?_, ?_⟩, Int.emod_add_mul_ediv _ _⟩
  · exact Int.ediv_nonneg (by omega) (by decide)
  · unfold B64 at *; omega

theorem mul_step {s x y cc hi lo l1 c1 o c2 : Int} (hs : 0 ≤ s ∧ s < B64) (hx : 0 ≤ x ∧ x < B64) (hy : 0 ≤ y ∧ y < B64) (hc : 0 ≤ cc ∧ cc < B64) (h1 : lo + B64 * hi = x * y) (h2 : l1 + B64 * c1 = lo + cc) (h3 : o + B64 * c2 = s + l1) (ho : 0 ≤ o) :
    hi + c1 + c2 ≤ 18446744073709551615 ∧ o + B64 * (hi + c1 + c2) = s + x * y + cc := by
  have h := (mul_le x y hx.1 hx.2 hy.1 hy.2).2
  generalize x * y = p at *
  unfold B64 at *
  constructor <;> omega

/-- What holds after k limbs. -/
structure MulI (w wr : World) (g : Nat) (P A S : List Int) (k : Nat) (m : Int) (A1 : List Int) (cc : Int) : Prop where
  len : A1.length = A.length
  dig : Dig B64 A1
  c0 : 0 ≤ cc
  c1 : cc < B64
  row : Row .u64 105 wr g (P ++ A1 ++ S)
  gr : w.grownBy wr (some g)
  eq : val B64 A1 + B64 ^ k * cc = val B64 A + m

theorem MulI.step {w wr : World} {g : Nat} {P A S : List Int} {k : Nat} {m : Int} {A1 : List Int} {cc : Int} (h : MulI w wr g P A S k m A1 cc) (p o d : Int) (h0 : 0 ≤ o) (h1 : o < B64) (d0 : 0 ≤ d) (d1 : d < B64) (he : o + B64 * d = A1[k]?.getD 0 + p + cc) (hk : k < A.length) :
    MulI w (wr.setCell ⟨g, P.length + k, none⟩ (.int .u64 o)) g P A S (k + 1) (m + B64 ^ k * p) (A1.set k o) d := by
  have hl : k < A1.length := by rw [h.len]; exact hk
  have hr := h.row.set (P.length + k) o
  rw [mid_set P A1 S k _ hl] at hr
  refine ⟨by simpa using h.len, h.dig.set k h0 h1, d0, d1, hr, grown_trans h.gr (grown_set _ _ _ _), ?_⟩
  rw [val_set _ _ _ _ hl, Int.pow_succ]
  have e := h.eq
  grind

set_option maxRecDepth 100000 in
set_option maxHeartbeats 2000000 in
theorem addProduct_any (g : Nat) (P A S M : List Int) (c bc : Nat) (bo : Option Addr) (x : Int) (w : World) (hrow : Row .u64 105 w g (P ++ A ++ S)) (hdA : Dig B64 A) (hdM : Dig B64 M) (hx0 : 0 ≤ x) (hx1 : x < B64)
    (hcA : A.length ≤ c) (_hcm : c ≤ 9223372036854775807) (hM : Rd w .u64 bo bc M) (hMA : M.length = A.length) (hne : 0 < M.length → ∀ b off, bo = some ⟨b, off, none⟩ → b ≠ g) :
    Calls Try.prog 115 #[.slice (some ⟨g, P.length, none⟩) A.length c, .slice bo M.length bc, .int .u64 x] w fun e w' => ∃ A1 cc, e = .returned (.int .u64 cc) ∧ MulI w w' g P A S A.length (val B64 M * x) A1 cc := by
  obtain ⟨off, hoff⟩ : ∃ off, off = P.length := ⟨_, rfl⟩
  obtain ⟨n, hn⟩ : ∃ n, n = A.length := ⟨_, rfl⟩
  have hnM : M.length = n := by omega
  have hmc := hM.cap; have hmm := hM.most
  rw [← hn] at hcA
  rw [hnM] at hmc
  have H0 : MulI w w g P A S 0 (val B64 (M.take 0) * x) A 0 := ⟨rfl, hdA, Int.le_refl 0, by decide, hrow, grown_refl _ _, by simp [val]⟩
  rw [hnM, ← hn, ← hoff]
  have Hoff := hid hoff; have Hn := hid hn; have Hm := hid hnM; have HdM := hid hdM; have Hne := hid hne; have HM := hid hM
  have Hx := hid (show 0 ≤ x ∧ x < B64 from ⟨hx0, hx1⟩)
  clear hoff hn hnM hdA hdM hne hrow hM hMA hx1
  go_enter Try.func115, Try.ntmps115
  go_wp2
  go_loopw [6, 18] (fun cv iv wr => ∃ k : Nat, ∃ A1 cc, k ≤ n ∧ iv = .int .i64 k ∧ cv = .int .u64 cc ∧ MulI w wr g P A S k (val B64 (M.take k) * x) A1 cc) (fun _ iv _ => n - (intOf iv).toNat)
  case atStart => exact ⟨0, A, 0, Nat.zero_le _, rfl, rfl, H0⟩
  case round =>
    obtain ⟨k, A1, cc, hk, rfl, rfl, H⟩ := hrel
    by_cases hlt : k < n
    · have hAk := H.row.cell (off + k) (by have := Hoff.out; have := Hn.out; have := H.len; simp; omega)
      have hfr := H.row.frozen (off + k)
      rw [Hoff.out, mid_get P A1 S k (by have := Hn.out; have := H.len; omega), ← Hoff.out] at hAk
      obtain ⟨b, o, rfl⟩ := HM.out.adr (by have := Hm.out; omega)
      have hMk := (HM.out.keptNew H.gr Hne.out).cell b o rfl k (by have := Hm.out; omega)
      have h0 := HdM.out.at B64_pos k
      have h1 := H.dig.at B64_pos k
      have c0 := H.c0; have c1 := H.c1
      have hv := val_take_succ B64 M k (by have := Hm.out; omega)
      have HST := hid (fun (o d : Int) => H.step (x * M[k]?.getD 0) o d)
      obtain ⟨s, hs⟩ : ∃ s, s = A1[k]?.getD 0 := ⟨_, rfl⟩
      obtain ⟨y, hy⟩ : ∃ y, y = M[k]?.getD 0 := ⟨_, rfl⟩
      rw [← hs] at hAk h1 HST; rw [← hy] at hMk h0 HST hv
      have Hs := hid hs; have Hy := hid hy; have Hh1 := hid h1; have Hh0 := hid h0; have Hc := hid (show 0 ≤ cc ∧ cc < B64 from ⟨c0, c1⟩); have Hv := hid hv
      clear H hs hy H0 h0 h1 c1 hv
      go_wp2_with fail
      refine (mul64_ex x y Hx.out.1 Hx.out.2 Hh0.out.1 Hh0.out.2 _).mono ?_
      rintro e w' ⟨hi, lo, rfl, ⟨hi0, lo0, lo1, hi1, HP⟩, rfl⟩
      obtain ⟨l1, d1, ha1, ⟨l10, l11, d10, d11⟩, hl1⟩ := add64_ex lo cc 0 lo0 lo1 Hc.out.1 Hc.out.2 (Int.le_refl 0) (by decide)
      obtain ⟨o2, d2, ha2, ⟨o20, o21, d20, d21⟩, ho2⟩ := add64_ex s l1 0 Hh1.out.1 Hh1.out.2 l10 l11 (Int.le_refl 0) (by decide)
      have hms := mul_step Hh1.out Hx.out Hh0.out Hc.out HP.out (by simpa using hl1) (by simpa using ho2) o20
      have hle := hms.1
      have HS := HST.out o2 (hi + d1 + d2) o20 o21 (by omega) (by unfold B64; omega) hms.2 (by have := Hn.out; omega)
      have hval : val B64 (M.take k) * x + B64 ^ k * (x * y) = val B64 (M.take (k + 1)) * x := by rw [Hv.out]; grind
      rw [hval, ← Hoff.out] at HS
      have HS' := hid HS
      clear HS hval hms hl1 ho2 HST lo1 l11 o21
      go_wp2
      go_roundw
      case rel => exact ⟨k + 1, _, _, by omega, by go_num, rfl, HS'.out⟩
      case measure => simp [intOf]; omega
    · obtain rfl : k = n := by omega
      have HT : MulI w wr g P A S k (val B64 M * x) A1 cc := by have := H; rwa [← Hm.out, List.take_length, Hm.out] at this
      clear H H0
      go_wp2
      go_ret
      exact ⟨A1, cc, rfl, HT⟩

end Go.Proofs.Ytbmdjimfncgomaa

/- exact.multiplyLimbs. -/
namespace Go.Proofs.Ytbmdjimfncgomaa
open Go.RowKit

/-- After k limbs of the second factor: Q is the product so far. -/
structure LimbI (w wr : World) (g : Nat) (LA LB : List Int) (k : Nat) (Q : List Int) : Prop where
  row : Row .u64 105 wr g (Q ++ List.replicate (LB.length - k) 0)
  gr : w.grownBy wr (some g)
  len : Q.length = LA.length + k
  dig : Dig B64 Q
  eq : val B64 Q = val B64 LA * val B64 (LB.take k)

theorem LimbI.step {w wr w1 : World} {g : Nat} {LA LB Q A1 : List Int} {k : Nat} {cc y : Int} (h : LimbI w wr g LA LB k Q) (hk : k < LB.length) (hy : y = LB[k]?.getD 0)
    (hm : MulI wr w1 g (Q.take k) (Q.drop k) (List.replicate (LB.length - k) 0) (Q.drop k).length (val B64 LA * y) A1 cc) :
    LimbI w (w1.setCell ⟨g, k + LA.length, none⟩ (.int .u64 cc)) g LA LB (k + 1) (Q.take k ++ A1 ++ [cc]) := by
  have hl1 : A1.length = LA.length := by rw [hm.len, List.length_drop, h.len]; omega
  have hlP : (Q.take k).length = k := by rw [List.length_take, h.len]; omega
  have hr := hm.row.set (k + LA.length) cc
  have hz : LB.length - k = (LB.length - (k + 1)) + 1 := by omega
  rw [hz, List.replicate_succ, List.set_append_right _ _ (by simp [hlP, hl1]), show k + LA.length - (Q.take k ++ A1).length = 0 by simp [hlP, hl1], List.set_cons_zero] at hr
  refine ⟨by simpa [List.append_assoc] using hr, grown_trans (grown_trans h.gr hm.gr) (grown_set _ _ _ _), by simp [hlP, hl1]; omega, ((h.dig.take k).append hm.dig).append (Dig.cons hm.c0 hm.c1 (Dig.nil _)), ?_⟩
  have e := hm.eq
  have ld : (Q.drop k).length = LA.length := by rw [List.length_drop, h.len]; omega
  rw [ld] at e
  rw [List.append_assoc, val_append, val_snoc, hlP, hl1, e, val_take_succ B64 LB k hk, ← hy]
  have e2 := val_append B64 (Q.take k) (Q.drop k)
  rw [List.take_append_drop, hlP, h.eq] at e2
  grind

set_option maxRecDepth 100000 in
set_option maxHeartbeats 2000000 in
theorem multiplyLimbs_any (va vb : Value) (a b : Int) (Ka Kb : Nat) (w : World) (hA : Nt w va a Ka) (hB : Nt w vb b Kb) (h1 : Ka ≤ 1073741824) (h2 : Kb ≤ 1073741824) :
    Calls Try.prog 103 #[va, vb] w (RetN w (a * b) (Ka + Kb)) := by
  obtain ⟨ao, ca, LA, rfl, hA⟩ := hA
  obtain ⟨bo, cb, LB, rfl, hB⟩ := hB
  obtain ⟨n, hn⟩ : ∃ n, n = LA.length := ⟨_, rfl⟩
  obtain ⟨m, hm⟩ : ∃ m, m = LB.length := ⟨_, rfl⟩
  have hn30 : n ≤ 1073741824 := by have := hA.le; omega
  have hm30 : m ≤ 1073741824 := by have := hB.le; omega
  rw [← hn, ← hm]
  have HA := hid hA; have HB := hid hB; have Hn := hid hn; have Hm := hid hm
  clear hA hB hn hm
  obtain ⟨i0, hi, hz0, hz1, hz2⟩ := info_parts Try.info105
  go_enter Try.func103, Try.ntmps103
  go_wp2_with (at_make; refine wpList_make_row w rfl _ _ 77 rfl 105 i0 .u64 Try.underlying77 hi hz0 hz1 .i64 .i64 _ _ (n + m) rfl rfl (by omega) (by omega) (by rw [hz2]; omega) (by unfold maxLen; omega) ?_)
  intro w1 hrow hg1
  have hb1 := grown_below hg1
  have H0 : LimbI w w1 w.heap.size LA LB 0 (List.replicate n 0) := by
    refine ⟨?_, grown_any hg1, by simp [Hn.out], Dig.replicate B64_pos _, by simp [val_replicate, val]⟩
    have e : List.replicate n (0 : Int) ++ List.replicate (LB.length - 0) 0 = List.replicate (n + m) 0 := by rw [List.replicate_append_replicate, Nat.sub_zero, ← Hm.out]
    rw [e]; exact hrow
  have HG1 := hid (HA.out.rd.ne (Nat.le_refl w.heap.size)); have HG2 := hid (HB.out.rd.ne (Nat.le_refl w.heap.size))
  clear hrow hg1
  go_wp2
  go_loopw [16] (fun iv wr => ∃ k : Nat, ∃ Q, k ≤ m ∧ iv = .int .i64 k ∧ LimbI w wr w.heap.size LA LB k Q ∧ Below w.heap.size w wr) (fun iv _ => m - (intOf iv).toNat)
  case atStart => exact ⟨0, _, Nat.zero_le _, rfl, H0, hb1⟩
  case round =>
    obtain ⟨k, Q, hk, rfl, H, hbr⟩ := hrel
    by_cases hlt : k < m
    · obtain ⟨b1, o1, rfl⟩ := HB.out.rd.adr (by have := Hm.out; omega)
      have hBk := (HB.out.rd.keptNew H.gr HG2.out).cell b1 o1 rfl k (by have := Hm.out; omega)
      have hAr := HA.out.rd.keptNew H.gr HG1.out
      have hy := HB.out.dig.at B64_pos k
      obtain ⟨y, hye⟩ : ∃ y, y = LB[k]?.getD 0 := ⟨_, rfl⟩
      rw [← hye] at hBk hy
      have hlP : (Q.take k).length = k := by rw [List.length_take, H.len]; omega
      have hlA : (Q.drop k).length = n := by rw [List.length_drop, H.len, Hn.out]; omega
      have hc := addProduct_any w.heap.size (Q.take k) (Q.drop k) (List.replicate (LB.length - k) 0) LA (n + m - k) ca ao y wr (by rw [List.take_append_drop]; exact H.row) (H.dig.drop k) HA.out.dig hy.1 hy.2 (by omega) (by omega) hAr (by rw [hlA, Hn.out]) HG1.out
      rw [hlP, hlA, ← Hn.out] at hc
      have hstep := fun (w1 : World) (A1 : List Int) (cc : Int) (hm : MulI wr w1 w.heap.size (Q.take k) (Q.drop k) (List.replicate (LB.length - k) 0) n (val B64 LA * y) A1 cc) => H.step (by have := Hm.out; omega) hye (by rw [hlA]; exact hm)
      rw [← Hn.out] at hstep
      have hcell := fun (w1 : World) (A1 : List Int) (cc : Int) (hm : MulI wr w1 w.heap.size (Q.take k) (Q.drop k) (List.replicate (LB.length - k) 0) n (val B64 LA * y) A1 cc) => (show (∃ u, w1.cell? ⟨w.heap.size, k + n, none⟩ = some (.int .u64 u)) ∧ w1.frozen? ⟨w.heap.size, k + n, none⟩ = false from
        ⟨⟨_, hm.row.cell (k + n) (by have e1 := hm.len; rw [hlA] at e1; have := Hm.out; simp only [List.length_append, List.length_replicate]; omega)⟩, hm.row.frozen _⟩)
      have HC := hid hc; have HSt := hid hstep; have HCe := hid hcell; have Hye := hid hye; have HH := hid H
      clear hc hstep hcell hye H hAr hlP hlA H0 hb1
      go_wp2_with (go_at_call 115; refine HC.out.mono ?_; rintro e w2 ⟨A1, cc, rfl, HI⟩; obtain ⟨⟨u, hu⟩, hf⟩ := HCe.out w2 A1 cc HI)
      go_roundw
      case rel => exact ⟨k + 1, _, by omega, by go_num, HSt.out w2 A1 cc HI, (hbr.grown HI.gr hbr.size (fun i e => by cases e; exact Nat.le_refl _)).setCell (Nat.le_refl _) _⟩
      case measure => simp [intOf]; omega
    · obtain rfl : k = m := by omega
      have hr := H.row
      have hv := H.eq
      have hl := H.len
      rw [← Hm.out, Nat.sub_self, List.replicate_zero, List.append_nil] at hr
      rw [Hm.out, List.take_length, HA.out.eq, HB.out.eq] at hv
      rw [← Hn.out] at hl
      have ht := trim64_any (some ⟨w.heap.size, 0, none⟩) (n + k) Q wr (row_rd hr (by omega) (by omega))
      rw [hl] at ht
      have hres := nt_row (c := n + k) (K := Ka + Kb) hr H.dig hv (by omega) (by omega) (by have := HA.out.le; have := HB.out.le; have := Hn.out; have := Hm.out; omega)
      have HT := hid ht; have Hres := hid hres
      clear ht hres hr hv hl H H0 hb1
      go_wp2_with (go_at_call 99; refine HT.out.mono ?_; rintro e w2 ⟨rfl, rfl⟩)
      go_ret
      exact ⟨_, rfl, Hres.out, hbr⟩

end Go.Proofs.Ytbmdjimfncgomaa

/- exact.multiplyLimbs: the product lies in new memory. -/
namespace Go.Proofs.Ytbmdjimfncgomaa
open Go.RowKit

set_option maxRecDepth 100000 in
set_option maxHeartbeats 2000000 in
theorem multiplyLimbs_own (va vb : Value) (a b : Int) (Ka Kb : Nat) (w : World) (hA : Nt w va a Ka) (hB : Nt w vb b Kb) (h1 : Ka ≤ 1073741824) (h2 : Kb ≤ 1073741824) :
    Calls Try.prog 103 #[va, vb] w (RetOwn w (a * b) (Ka + Kb)) := by
  obtain ⟨ao, ca, LA, rfl, hA⟩ := hA
  obtain ⟨bo, cb, LB, rfl, hB⟩ := hB
  obtain ⟨n, hn⟩ : ∃ n, n = LA.length := ⟨_, rfl⟩
  obtain ⟨m, hm⟩ : ∃ m, m = LB.length := ⟨_, rfl⟩
  have hn30 : n ≤ 1073741824 := by have := hA.le; omega
  have hm30 : m ≤ 1073741824 := by have := hB.le; omega
  rw [← hn, ← hm]
  have HA := hid hA; have HB := hid hB; have Hn := hid hn; have Hm := hid hm
  clear hA hB hn hm
  obtain ⟨i0, hi, hz0, hz1, hz2⟩ := info_parts Try.info105
  go_enter Try.func103, Try.ntmps103
  go_wp2_with (at_make; refine wpList_make_row w rfl _ _ 77 rfl 105 i0 .u64 Try.underlying77 hi hz0 hz1 .i64 .i64 _ _ (n + m) rfl rfl (by omega) (by omega) (by rw [hz2]; omega) (by unfold maxLen; omega) ?_)
  intro w1 hrow hg1
  have hb1 := grown_below hg1
  have H0 : LimbI w w1 w.heap.size LA LB 0 (List.replicate n 0) := by
    refine ⟨?_, grown_any hg1, by simp [Hn.out], Dig.replicate B64_pos _, by simp [val_replicate, val]⟩
    have e : List.replicate n (0 : Int) ++ List.replicate (LB.length - 0) 0 = List.replicate (n + m) 0 := by rw [List.replicate_append_replicate, Nat.sub_zero, ← Hm.out]
    rw [e]; exact hrow
  have HG1 := hid (HA.out.rd.ne (Nat.le_refl w.heap.size)); have HG2 := hid (HB.out.rd.ne (Nat.le_refl w.heap.size))
  clear hrow hg1
  go_wp2
  go_loopw [16] (fun iv wr => ∃ k : Nat, ∃ Q, k ≤ m ∧ iv = .int .i64 k ∧ LimbI w wr w.heap.size LA LB k Q ∧ Below w.heap.size w wr) (fun iv _ => m - (intOf iv).toNat)
  case atStart => exact ⟨0, _, Nat.zero_le _, rfl, H0, hb1⟩
  case round =>
    obtain ⟨k, Q, hk, rfl, H, hbr⟩ := hrel
    by_cases hlt : k < m
    · obtain ⟨b1, o1, rfl⟩ := HB.out.rd.adr (by have := Hm.out; omega)
      have hBk := (HB.out.rd.keptNew H.gr HG2.out).cell b1 o1 rfl k (by have := Hm.out; omega)
      have hAr := HA.out.rd.keptNew H.gr HG1.out
      have hy := HB.out.dig.at B64_pos k
      obtain ⟨y, hye⟩ : ∃ y, y = LB[k]?.getD 0 := ⟨_, rfl⟩
      rw [← hye] at hBk hy
      have hlP : (Q.take k).length = k := by rw [List.length_take, H.len]; omega
      have hlA : (Q.drop k).length = n := by rw [List.length_drop, H.len, Hn.out]; omega
      have hc := addProduct_any w.heap.size (Q.take k) (Q.drop k) (List.replicate (LB.length - k) 0) LA (n + m - k) ca ao y wr (by rw [List.take_append_drop]; exact H.row) (H.dig.drop k) HA.out.dig hy.1 hy.2 (by omega) (by omega) hAr (by rw [hlA, Hn.out]) HG1.out
      rw [hlP, hlA, ← Hn.out] at hc
      have hstep := fun (w1 : World) (A1 : List Int) (cc : Int) (hm : MulI wr w1 w.heap.size (Q.take k) (Q.drop k) (List.replicate (LB.length - k) 0) n (val B64 LA * y) A1 cc) => H.step (by have := Hm.out; omega) hye (by rw [hlA]; exact hm)
      rw [← Hn.out] at hstep
      have hcell := fun (w1 : World) (A1 : List Int) (cc : Int) (hm : MulI wr w1 w.heap.size (Q.take k) (Q.drop k) (List.replicate (LB.length - k) 0) n (val B64 LA * y) A1 cc) => (show (∃ u, w1.cell? ⟨w.heap.size, k + n, none⟩ = some (.int .u64 u)) ∧ w1.frozen? ⟨w.heap.size, k + n, none⟩ = false from
        ⟨⟨_, hm.row.cell (k + n) (by have e1 := hm.len; rw [hlA] at e1; have := Hm.out; simp only [List.length_append, List.length_replicate]; omega)⟩, hm.row.frozen _⟩)
      have HC := hid hc; have HSt := hid hstep; have HCe := hid hcell; have Hye := hid hye; have HH := hid H
      clear hc hstep hcell hye H hAr hlP hlA H0 hb1
      go_wp2_with (go_at_call 115; refine HC.out.mono ?_; rintro e w2 ⟨A1, cc, rfl, HI⟩; obtain ⟨⟨u, hu⟩, hf⟩ := HCe.out w2 A1 cc HI)
      go_roundw
      case rel => exact ⟨k + 1, _, by omega, by go_num, HSt.out w2 A1 cc HI, (hbr.grown HI.gr hbr.size (fun i e => by cases e; exact Nat.le_refl _)).setCell (Nat.le_refl _) _⟩
      case measure => simp [intOf]; omega
    · obtain rfl : k = m := by omega
      have hr := H.row
      have hv := H.eq
      have hl := H.len
      rw [← Hm.out, Nat.sub_self, List.replicate_zero, List.append_nil] at hr
      rw [Hm.out, List.take_length, HA.out.eq, HB.out.eq] at hv
      rw [← Hn.out] at hl
      have ht := trim64_any (some ⟨w.heap.size, 0, none⟩) (n + k) Q wr (row_rd hr (by omega) (by omega))
      rw [hl] at ht
      have hres := own_row (B := w.heap.size) (c := n + k) (K := Ka + Kb) hr H.dig hv (by omega) (by omega) (by have := HA.out.le; have := HB.out.le; have := Hn.out; have := Hm.out; omega) (Nat.le_refl _)
      have HT := hid ht; have Hres := hid hres
      clear ht hres hr hv hl H H0 hb1
      go_wp2_with (go_at_call 99; refine HT.out.mono ?_; rintro e w2 ⟨rfl, rfl⟩)
      go_ret
      exact ⟨_, rfl, Hres.out, hbr⟩

end Go.Proofs.Ytbmdjimfncgomaa

/- math/bits.LeadingZeros64, Len64: by the library's contracts. -/
namespace Go.Proofs.Ytbmdjimfncgomaa
open Go.RowKit Go.Shelf

def lz_ren : Go.Shelf.Ren := ⟨fun | 134 => 106 | 129 => 112 | n => n, fun | 53 => 105 | 3 => 3 | 4 => 4 | 46 => 130 | 5 => 5 | 9 => 9 | n => n, fun | n => n⟩
theorem lz_lays : Go.Proofs.Lays.n134 Try.prog lz_ren := {
  mixed := by kernel_rfl
  f129 := Try.func112.trans (congrArg some (by kernel_rfl))
  f134 := Try.func106.trans (congrArg some (by kernel_rfl))
  t3 := Try.underlying3
  a3 := Try.isAgg3
  z3 := Try.sizeOf3
  v3 := Try.zeroValue3
  t4 := Try.underlying4
  a4 := Try.isAgg4
  z4 := Try.sizeOf4
  v4 := Try.zeroValue4
  t5 := Try.underlying5
  a5 := Try.isAgg5
  z5 := Try.sizeOf5
  v5 := Try.zeroValue5
  t9 := Try.underlying9
  a9 := Try.isAgg9
  z9 := Try.sizeOf9
  v9 := Try.zeroValue9
  t46 := Try.underlying130
  a46 := Try.isAgg130
  z46 := Try.sizeOf130
  v46 := Try.zeroValue130
  t53 := Try.underlying105
  a53 := Try.isAgg105
  z53 := Try.sizeOf105
  v53 := Try.zeroValue105 }

theorem bitLenAux_bd : ∀ (f x : Nat), x < 2 ^ f → 0 < x → 0 < Lib.bitLenAux f x ∧ 2 ^ (Lib.bitLenAux f x - 1) ≤ x ∧ x < 2 ^ Lib.bitLenAux f x ∧ Lib.bitLenAux f x ≤ f
  | 0, x, h, h0 => by simp at h; omega
  | f + 1, x, h, h0 => by
    rw [Lib.bitLenAux, if_neg (by omega)]
    by_cases h1 : x / 2 = 0
    · have : x = 1 := by omega
      subst this
      cases f <;> simp [Lib.bitLenAux]
    · have ih := bitLenAux_bd f (x / 2) (by rw [Nat.pow_succ] at h; omega) (by omega)
      obtain ⟨a, b, c, d⟩ := ih
      refine ⟨by omega, ?_, ?_, by omega⟩
      · rw [Nat.add_sub_cancel_left]
        have e : Lib.bitLenAux f (x / 2) = (Lib.bitLenAux f (x / 2) - 1) + 1 := by omega
        rw [e, Nat.pow_succ]; omega
      · rw [Nat.add_comm, Nat.pow_succ]; omega

theorem bitLen_bd (x : Nat) (h : x < 18446744073709551616) (h0 : 0 < x) : 0 < Lib.bitLen x ∧ 2 ^ (Lib.bitLen x - 1) ≤ x ∧ x < 2 ^ Lib.bitLen x ∧ Lib.bitLen x ≤ 64 := bitLenAux_bd 64 x h h0

/-- The shift by which the highest bit comes to stand first. -/
theorem lz64 (y : Int) (h0 : 0 < y) (h1 : y < B64) (w : World) : Calls Try.prog 106 #[.int .u64 y] w fun e w' => ∃ s : Nat, e = .returned (.int .i64 s) ∧ s ≤ 63 ∧ 9223372036854775808 ≤ y * 2 ^ s ∧ y * 2 ^ s < B64 ∧ w = w' := by
  unfold B64 at h1
  refine (Any.bits_LeadingZeros64 lz_lays y w (by omega) (by omega)).mono ?_
  rintro e w' ⟨rfl, rfl⟩
  have hb := bitLen_bd y.toNat (by omega) (by omega)
  obtain ⟨a, b, c, d⟩ := hb
  refine ⟨64 - Lib.bitLen y.toNat, by congr 2; omega, by omega, ?_, ?_, rfl⟩
  · have e : (64 - Lib.bitLen y.toNat) + (Lib.bitLen y.toNat - 1) = 63 := by omega
    have := Nat.mul_le_mul_right (2 ^ (64 - Lib.bitLen y.toNat)) b
    rw [← Nat.pow_add, Nat.add_comm, e] at this
    have h2 : ((2 ^ 63 : Nat) : Int) ≤ ((y.toNat * 2 ^ (64 - Lib.bitLen y.toNat) : Nat) : Int) := by exact_mod_cast this
    rw [Int.natCast_mul, Int.natCast_pow, Int.toNat_of_nonneg (by omega)] at h2
    simpa using h2
  · have e : Lib.bitLen y.toNat + (64 - Lib.bitLen y.toNat) = 64 := by omega
    have := Nat.mul_lt_mul_of_pos_right c (Nat.two_pow_pos (64 - Lib.bitLen y.toNat))
    rw [← Nat.pow_add, e] at this
    have h2 : ((y.toNat * 2 ^ (64 - Lib.bitLen y.toNat) : Nat) : Int) < ((2 ^ 64 : Nat) : Int) := by exact_mod_cast this
    rw [Int.natCast_mul, Int.natCast_pow, Int.toNat_of_nonneg (by omega)] at h2
    simpa [B64] using h2

end Go.Proofs.Ytbmdjimfncgomaa

/- exact.fromWords, (exact.natural).words: two words are a limb. -/
namespace Go.Proofs.Ytbmdjimfncgomaa
open Go.RowKit

/-- 2^32, behind a name. -/
def B32 : Int := 4294967296
theorem B32_pos : 0 < B32 := by decide

/-- Two words are a limb. -/
def pack : List Int → List Int
  | [] => []
  | [x] => [x]
  | x :: y :: l => (x + B32 * y) :: pack l

theorem pack_val : ∀ l : List Int, val B64 (pack l) = val B32 l
  | [] => rfl
  | [x] => by simp [pack, val]
  | x :: y :: l => by
    have h := pack_val l
    simp only [pack, val, h]
    have e : B64 = B32 * B32 := by decide
    rw [e]; grind
theorem pack_len : ∀ l : List Int, (pack l).length = (l.length + 1) / 2
  | [] => rfl
  | [x] => by simp [pack]
  | x :: y :: l => by have h := pack_len l; simp only [pack, List.length_cons, h]; omega
theorem pack_dig : ∀ {l : List Int}, Dig B32 l → Dig B64 (pack l)
  | [], _ => Dig.nil _
  | [x], h => by
    have := h.head
    exact Dig.cons this.1 (Int.lt_trans this.2 (by decide)) (Dig.nil _)
  | x :: y :: l, h => by
    have h1 := h.head; have h2 := h.tail.head
    refine Dig.cons ?_ ?_ (pack_dig h.tail.tail)
    · unfold B32 at *; omega
    · unfold B32 B64 at *; omega
theorem pack_nrm : ∀ {l : List Int}, Dig B32 l → Nrm l → Nrm (pack l)
  | [], _, _ => rfl
  | [x], _, h => h
  | x :: y :: l, hd, h => by
    have ih := pack_nrm hd.tail.tail h.tail.tail
    unfold Nrm at ih ⊢
    simp only [pack, trimL, ih]
    split
    · next hc =>
      exfalso
      obtain ⟨h1, h2⟩ := hc
      have hl : l = [] := by
        have := pack_len l; rw [h1] at this; simp at this
        exact List.eq_nil_of_length_eq_zero (by omega)
      subst hl
      have hx := hd.head; have hy := hd.tail.head
      have : x = 0 ∧ y = 0 := by unfold B32 at *; constructor <;> omega
      obtain ⟨rfl, rfl⟩ := this
      simp [Nrm, trimL] at h
    · rfl
theorem pack_append : ∀ (j : Nat) (l m : List Int), l.length = 2 * j → pack (l ++ m) = pack l ++ pack m
  | 0, [], m, _ => rfl
  | 0, _ :: _, _, h => by simp at h
  | j + 1, [], _, h => by simp at h
  | j + 1, [x], _, h => by simp at h; omega
  | j + 1, x :: y :: l, m, h => by
    have := pack_append j l m (by simp at h; omega)
    simp [pack, this]

theorem or_high (lo h : Int) (h0 : 0 ≤ lo) (h1 : lo < B32) (k0 : 0 ≤ h) (k1 : h < B32) : bits .or .u64 lo (h * 4294967296) = lo + B32 * h := by
  obtain ⟨a, rfl⟩ := Int.eq_ofNat_of_zero_le h0
  obtain ⟨b, rfl⟩ := Int.eq_ofNat_of_zero_le k0
  unfold B32 at *
  have e : ((b : Int) * 4294967296) = ((b * 4294967296 : Nat) : Int) := by omega
  rw [e, bits_or_u64_nat a (b * 4294967296) (by omega) (by omega)]
  have := Nat.two_pow_add_eq_or_of_lt (i := 32) (show a < 2 ^ 32 by omega) b
  rw [show (2 : Nat) ^ 32 = 4294967296 from rfl] at this
  rw [Nat.or_comm, Nat.mul_comm b, ← this]; omega
theorem or_zero (x : Int) (h0 : 0 ≤ x) (h1 : x < B32) : bits .or .u64 0 x = x := by
  obtain ⟨a, rfl⟩ := Int.eq_ofNat_of_zero_le h0
  unfold B32 at *
  have := bits_or_u64_nat 0 a (by omega) (by omega)
  simpa using this

/-- After k words. -/
structure PackI (w wr : World) (g : Nat) (W : List Int) (N k : Nat) : Prop where
  row : Row .u64 105 wr g (pack (W.take k) ++ List.replicate (N - (k + 1) / 2) 0)
  gr : w.grownBy wr (some g)

theorem PackI.drew {w wr : World} {g : Nat} {W : List Int} {N k : Nat} (h : PackI w wr g W N k) : PackI w wr.drew g W N k := ⟨h.row, grown_drew h.gr⟩
theorem pack_take_len (W : List Int) (k : Nat) (h : k ≤ W.length) : (pack (W.take k)).length = (k + 1) / 2 := by rw [pack_len, List.length_take, Nat.min_eq_left h]

theorem PackI.even {w wr : World} {g : Nat} {W : List Int} {N j : Nat} (h : PackI w wr g W N (2 * j)) (hk : 2 * j < W.length) (hN : N = (W.length + 1) / 2) :
    wr.cell? ⟨g, j, none⟩ = some (.int .u64 0) ∧ PackI w (wr.setCell ⟨g, j, none⟩ (.int .u64 (W[2 * j]?.getD 0))) g W N (2 * j + 1) := by
  have hl := pack_take_len W (2 * j) (by omega)
  have hz : N - (2 * j + 1) / 2 = (N - (2 * j + 1 + 1) / 2) + 1 := by omega
  constructor
  · have := h.row.cell j (by simp [hl]; omega)
    rw [this, hz, List.replicate_succ, List.getElem?_append_right (by omega), show j - (pack (W.take (2 * j))).length = 0 by omega]
    rfl
  · refine ⟨?_, grown_trans h.gr (grown_set _ _ _ _)⟩
    have hr := h.row.set j (W[2 * j]?.getD 0)
    rw [hz, List.replicate_succ, List.set_append_right _ _ (by omega), show j - (pack (W.take (2 * j))).length = 0 by omega, List.set_cons_zero] at hr
    rw [take_succ_getD W (2 * j) hk, pack_append j _ _ (by simp; omega)]
    simpa [pack] using hr

theorem PackI.odd {w wr : World} {g : Nat} {W : List Int} {N j : Nat} (h : PackI w wr g W N (2 * j + 1)) (hk : 2 * j + 1 < W.length) :
    wr.cell? ⟨g, j, none⟩ = some (.int .u64 (W[2 * j]?.getD 0)) ∧ PackI w (wr.setCell ⟨g, j, none⟩ (.int .u64 (W[2 * j]?.getD 0 + B32 * W[2 * j + 1]?.getD 0))) g W N (2 * j + 2) := by
  have hl := pack_take_len W (2 * j) (by omega)
  have e1 : pack (W.take (2 * j + 1)) = pack (W.take (2 * j)) ++ [W[2 * j]?.getD 0] := by
    rw [take_succ_getD W (2 * j) (by omega), pack_append j _ _ (by simp; omega)]; rfl
  have e2 : pack (W.take (2 * j + 2)) = pack (W.take (2 * j)) ++ [W[2 * j]?.getD 0 + B32 * W[2 * j + 1]?.getD 0] := by
    rw [take_succ_getD W (2 * j + 1) hk, take_succ_getD W (2 * j) (by omega), List.append_assoc, pack_append j _ _ (by simp; omega)]; rfl
  have hz : (2 * j + 1 + 1) / 2 = (2 * j + 2 + 1) / 2 := by omega
  constructor
  · have := h.row.cell j (by simp [e1, hl]; omega)
    rw [this, e1, List.append_assoc, List.getElem?_append_right (by omega), show j - (pack (W.take (2 * j))).length = 0 by omega]
    rfl
  · refine ⟨?_, grown_trans h.gr (grown_set _ _ _ _)⟩
    have hr := h.row.set j (W[2 * j]?.getD 0 + B32 * W[2 * j + 1]?.getD 0)
    rw [e1, List.append_assoc, List.set_append_right _ _ (by omega), show j - (pack (W.take (2 * j))).length = 0 by omega] at hr
    rw [e2, List.append_assoc, ← hz]
    exact hr

set_option maxRecDepth 100000 in
set_option maxHeartbeats 1000000 in
theorem fromWords_any (ao : Option Addr) (ca : Nat) (W0 : List Int) (w : World) (hA : Rd w .u32 ao ca W0) (hd : Dig B32 W0) (hk : W0.length ≤ 1073741824) :
    Calls Try.prog 79 #[.slice ao W0.length ca] w (RetN w (val B32 W0) ((W0.length + 1) / 2)) := by
  obtain ⟨W, hW⟩ : ∃ W, W = trimL W0 := ⟨_, rfl⟩
  have htl := trimL_len W0
  rw [← hW] at htl
  have hAW : Rd w .u32 ao ca W := by rw [hW, trimL_take]; exact hA.take _
  have ht := trim32_any ao ca W0 w hA
  rw [← hW] at ht
  obtain ⟨n, hn⟩ : ∃ n, n = W.length := ⟨_, rfl⟩
  obtain ⟨n0, hn0⟩ : ∃ n0, n0 = W0.length := ⟨_, rfl⟩
  rw [← hn, ← hn0] at ht htl
  rw [← hn0] at hk ⊢
  have hdW : Dig B32 W := by rw [hW]; exact hd.trim
  have hv : val B64 (pack W) = val B32 W0 := by rw [pack_val, hW, val_trim]
  have hnr : Nrm (pack W) := pack_nrm hdW (by rw [hW]; exact Nrm.trim _)
  have HT := hid ht; have Hn := hid hn; have HA := hid hAW; have Hd := hid hdW; have Hv := hid hv; have Hnr := hid hnr
  clear ht hn hn0 hAW hdW hv hnr hA hd hW
  obtain ⟨i0, hi, hz0, hz1, hz2⟩ := info_parts Try.info105
  go_enter Try.func79, Try.ntmps79
  go_wp2_with (first | (go_at_call 100; refine HT.out.mono ?_; rintro e w1 ⟨rfl, rfl⟩) | (at_make; refine wpList_make_row w rfl _ _ 77 rfl 105 i0 .u64 Try.underlying77 hi hz0 hz1 .i64 .i64 _ _ ((n + 1) / 2) rfl rfl (by omega) (by omega) (by rw [hz2]; omega) (by unfold maxLen; omega) ?_))
  intro w1 hrow hg1
  have hg1b := grown_below hg1
  have H0 : PackI w w1 w.heap.size W ((n + 1) / 2) 0 := ⟨by simpa [pack] using hrow, grown_any hg1⟩
  have HR := hid (HA.out.below hg1b (Nat.le_refl _))
  have HG := hid (HA.out.ne (Nat.le_refl w.heap.size))
  clear hrow hg1 hg1b
  go_wp2
  go_loopw [15] (fun iv wr => ∃ k : Nat, k ≤ n ∧ iv = .int .i64 k ∧ PackI w wr w.heap.size W ((n + 1) / 2) k) (fun iv _ => n - (intOf iv).toNat)
  case atStart => exact ⟨0, Nat.zero_le _, rfl, H0⟩
  case round =>
    obtain ⟨k, hk, rfl, H⟩ := hrel
    by_cases hlt : k < n
    · obtain ⟨b, o, rfl⟩ := HA.out.adr (by have := Hn.out; omega)
      have hx : wr.cell? ⟨b, o + k, none⟩ = some (.int .u32 (W[k]?.getD 0)) := (HA.out.keptNew H.gr HG.out).cell b o rfl k (by have := Hn.out; omega)
      have hd := Hd.out.at B32_pos k
      rcases (show ∃ j, k = 2 * j ∨ k = 2 * j + 1 from ⟨k / 2, by omega⟩) with ⟨j, rfl | rfl⟩
      · obtain ⟨hc, HS⟩ := H.even (by have := Hn.out; omega) (by rw [Hn.out])
        have hf := H.row.frozen j
        obtain ⟨x, hxe⟩ : ∃ x, x = W[2 * j]?.getD 0 := ⟨_, rfl⟩
        rw [← hxe] at hx hd HS
        have e1 : (((2 * j : Nat) : Int)) / 2 = (j : Int) := by omega
        have e2 : (((2 * j : Nat) : Int)) % 2 = 0 := by omega
        have e3 := or_zero x hd.1 hd.2
        have d0 := hd.1; have d1 := hd.2; unfold B32 at d1
        have HS' := hid HS; have HX := hid hxe
        clear H HS hxe H0
        go_wp2
        go_region
        all_goals go_wp2
        go_roundw
        case rel => exact ⟨2 * j + 1, by omega, by go_num, HS'.out.drew⟩
        case measure => simp [intOf]; omega
      · obtain ⟨hc, HS⟩ := H.odd (by have := Hn.out; omega)
        have hf := H.row.frozen j
        obtain ⟨x, hxe⟩ : ∃ x, x = W[2 * j + 1]?.getD 0 := ⟨_, rfl⟩
        obtain ⟨y, hye⟩ : ∃ y, y = W[2 * j]?.getD 0 := ⟨_, rfl⟩
        have hy := Hd.out.at B32_pos (2 * j)
        rw [← hxe] at hx hd HS; rw [← hye] at hc HS hy
        have ej : (2 * j + 1) / 2 = j := by omega
        have hc' : wr.cell? ⟨w.heap.size, (2 * j + 1) / 2, none⟩ = some (.int .u64 y) := by rw [ej]; exact hc
        have hf' : wr.frozen? ⟨w.heap.size, (2 * j + 1) / 2, none⟩ = false := by rw [ej]; exact hf
        have HS2 : PackI w (wr.setCell ⟨w.heap.size, (2 * j + 1) / 2, none⟩ (.int .u64 (y + B32 * x))) w.heap.size W ((n + 1) / 2) (2 * j + 2) := by rw [ej]; exact HS
        have e2 : (2 * (j : Int) + 1) % 2 = 1 := by omega
        have e3 := or_high y x hy.1 hy.2 hd.1 hd.2
        have d0 := hd.1; have d1 := hd.2; unfold B32 at d1
        have HS' := hid HS2; have HX := hid hxe; have HY := hid hye
        clear H HS HS2 hxe hye H0 hc hf ej
        go_wp2
        go_region
        all_goals go_wp2
        go_roundw
        case rel => exact ⟨2 * j + 2, by omega, by go_num, HS'.out.drew⟩
        case measure => simp [intOf]; omega
    · obtain rfl : k = n := by omega
      clear H0
      go_wp2
      go_ret
      have hr := H.row
      rw [Hn.out, List.take_length, Nat.sub_self, List.replicate_zero, List.append_nil] at hr
      refine ⟨_, rfl, ?_, ⟨H.gr.os, H.gr.tape, H.gr.output, H.gr.size, fun i hi => H.gr.block i hi (fun e => by cases e; omega)⟩⟩
      have hN := nt_row (c := (k + 1) / 2) (K := (n0 + 1) / 2) hr (pack_dig Hd.out) Hv.out (by rw [pack_len, ← Hn.out]; omega) (by omega) (by rw [pack_len, ← Hn.out]; omega)
      rw [Hnr.out, pack_len, ← Hn.out] at hN
      exact hN

end Go.Proofs.Ytbmdjimfncgomaa
