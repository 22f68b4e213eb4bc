/- exact.divideLimb. exact.addProduct: it adds a product to a row. exact.subtractProduct: it subtracts a product from a row. -/
import Derived.Test.YtilpkocmdpofpaaGreatDoorNr06
import Derived.Test.YtilpkocmdpofpaaGreatDoorNr03
import Derived.Test.YtilpkocmdpofpaaGreatDoorNr02
/- exact.divideLimb. -/
namespace Go.Proofs.YtilpkocmdpofpaaGreatDoor
open Go.RowKit

/-- Behind the limbs from j on. -/
structure DivI (w wr : World) (g : Nat) (LA : List Int) (x : Int) (j : Nat) (QT : List Int) (r : Int) : Prop where
  row : Row .u64 91 wr g (List.replicate j 0 ++ QT)
  gr : w.grownBy wr (some g)
  len : j + QT.length = LA.length
  dig : Dig B64 QT
  r0 : 0 ≤ r
  r1 : r < x
  eq : val B64 (LA.drop j) = val B64 QT * x + r

theorem DivI.step {w wr : World} {g : Nat} {LA QT : List Int} {x r : Int} {j : Nat} (h : DivI w wr g LA x (j + 1) QT r) (hx : 0 < x) (a : Int) (ha : a = LA[j]?.getD 0) (a0 : 0 ≤ a) (a1 : a < B64) (nq : Nat) :
    DivI w ((wr.drewN nq).setCell ⟨g, j, none⟩ (.int .u64 ((r * B64 + a) / x))) g LA x j ((r * B64 + a) / x :: QT) ((r * B64 + a) % x) := by
  have hj : j < LA.length := by have := h.len; omega
  have r0 := h.r0; have r1 := h.r1
  have hn0 : 0 ≤ r * B64 + a := by have := Int.mul_nonneg r0 (Int.le_of_lt B64_pos); omega
  have hn1 : r * B64 + a < B64 * x := by
    have := Int.mul_le_mul_of_nonneg_right (show r + 1 ≤ x by omega) (Int.le_of_lt B64_pos)
    rw [Int.add_mul] at this
    rw [Int.mul_comm B64 x]; omega
  have q0 : 0 ≤ (r * B64 + a) / x := Int.ediv_nonneg hn0 (Int.le_of_lt hx)
  have q1 : (r * B64 + a) / x < B64 := Int.ediv_lt_of_lt_mul hx hn1
  have hr : Row .u64 91 (wr.drewN nq) g (List.replicate (j + 1) 0 ++ QT) := h.row
  have hs := hr.set j ((r * B64 + a) / x)
  rw [List.replicate_succ', List.append_assoc, List.set_append_right _ _ (by simp), List.length_replicate, Nat.sub_self] at hs
  refine ⟨hs, grown_trans (grown_drewN h.gr nq) (grown_set _ _ _ _), by have := h.len; simp; omega, Dig.cons q0 q1 h.dig, Int.emod_nonneg _ (by omega), Int.emod_lt_of_pos _ hx, ?_⟩
  have e := Int.emod_add_mul_ediv (r * B64 + a) x
  have hd : LA.drop j = a :: LA.drop (j + 1) := by
    rw [List.drop_eq_getElem_cons hj, ha]; simp [hj]
  rw [hd]
  simp only [val, h.eq]
  generalize (r * B64 + a) / x = q at *
  generalize (r * B64 + a) % x = m at *
  generalize val B64 QT = t at *
  grind

def RetD (w : World) (n m : Int) (K : Nat) (e : Ending) (w' : World) : Prop := ∃ v, e = .returned (.tuple #[v, .int .u64 m]) ∧ Nt w' v n K ∧ Below w.heap.size w w'

set_option maxRecDepth 100000 in
set_option maxHeartbeats 2000000 in
theorem divideLimb_any (va : Value) (a x : Int) (K : Nat) (w : World) (hA : Nt w va a K) (hK : K ≤ 1073741824) (x0 : 0 < x) (x1 : x < B64) :
    Calls Tryz.prog 164 #[va, .int .u64 x] w (RetD w (a / x) (a % x) K) := by
  obtain ⟨ao, ca, LA, rfl, hA⟩ := hA
  obtain ⟨n, hn⟩ : ∃ n, n = LA.length := ⟨_, rfl⟩
  have hn30 : n ≤ 1073741824 := by have := hA.le; omega
  rw [← hn]
  have HA := hid hA; have Hn := hid hn; have X1 := hid x1
  clear hA hn x1
  obtain ⟨i0, hi, hz0, hz1, hz2⟩ := info_parts Tryz.info91
  go_enter Tryz.func164, Tryz.ntmps164
  go_wp2_with (at_make; refine wpList_make_row w rfl _ _ 82 rfl 91 i0 .u64 Tryz.underlying82 hi hz0 hz1 .i64 .i64 _ _ n rfl rfl rfl rfl (by rw [hz2]; omega) (by unfold maxLen; omega) ?_)
  intro w1 hrow hg1
  have hb1 := grown_below hg1
  have H0 : DivI w w1 w.heap.size LA x n [] 0 := ⟨by simpa using hrow, grown_any hg1, by simpa using Hn.out, Dig.nil _, Int.le_refl 0, x0, by rw [List.drop_of_length_le (by have := Hn.out; omega)]; simp [val]⟩
  have HG1 := hid (HA.out.rd.ne (Nat.le_refl w.heap.size))
  clear hrow hg1
  go_wp2
  go_loopw [7, 8] (fun rv iv wr => ∃ j : Nat, ∃ QT r, j ≤ n ∧ iv = .int .i64 ((j : Int) - 1) ∧ rv = .int .u64 r ∧ DivI w wr w.heap.size LA x j QT r ∧ Below w.heap.size w wr) (fun _ iv _ => (intOf iv + 1).toNat)
  case atStart => exact ⟨n, [], 0, Nat.le_refl _, rfl, rfl, H0, hb1⟩
  case round =>
    obtain ⟨j, QT, r, hj, rfl, rfl, H, hb⟩ := hrel
    cases j with
    | zero =>
      have hr : Row .u64 91 wr w.heap.size QT := by have := H.row; simpa using this
      have hl : QT.length = n := by have := H.len; have := Hn.out; omega
      have he := H.eq
      rw [List.drop_zero, HA.out.eq] at he
      have hqr := (Int.ediv_emod_unique x0 (a := a) (r := r) (q := val B64 QT)).2 ⟨by rw [he, Int.mul_comm]; omega, H.r0, H.r1⟩
      have ht := trim64_any (some ⟨w.heap.size, 0, none⟩) n QT wr (row_rd hr (by omega) (by omega))
      have hres := nt_row (c := n) (K := K) hr H.dig hqr.1.symm (by omega) (by omega) (by have := HA.out.le; have := Hn.out; omega)
      rw [hl] at ht
      have HT := hid ht; have Hres := hid hres; have HQ := hid hqr.2
      clear ht hres hr hl he hqr H H0 hb1
      go_wp2_with (go_at_call 136; refine HT.out.mono ?_; rintro e w2 ⟨rfl, rfl⟩)
      go_ret2
      exact ⟨_, by rw [HQ.out]; rfl, Hres.out, hb⟩
    | succ j =>
      have hjn : j < n := by omega
      obtain ⟨b, o, rfl⟩ := HA.out.rd.adr (by have := Hn.out; omega)
      have hc := (HA.out.rd.keptNew H.gr HG1.out).cell b o rfl j (by have := Hn.out; omega)
      have hd := HA.out.dig.at B64_pos j
      obtain ⟨y, hy⟩ : ∃ y, y = LA[j]?.getD 0 := ⟨_, rfl⟩
      rw [← hy] at hc hd
      have HS := hid (fun nq => H.step x0 y hy hd.1 hd.2 nq)
      have hq := H.row.cell j (by have := H.len; simp; omega)
      have hf := H.row.frozen j
      obtain ⟨u, hu⟩ : ∃ u, u = ((List.replicate (j + 1) 0 ++ QT)[j]?.getD 0 : Int) := ⟨_, rfl⟩
      rw [← hu] at hq
      have HC := hid (div64_any r y x H.r0 H.r1 hd.1 hd.2 X1.out wr)
      have HH := hid H
      have hk0 : (0 : Int) ≤ (j : Int) := by omega
      clear H H0 hb1 hd hy hu
      go_wp2_with (go_at_call 192; refine HC.out.mono ?_; rintro e w2 ⟨rfl, nq, rfl⟩)
      go_roundw
      case rel => exact ⟨j, _, _, by omega, by go_num, rfl, HS.out nq, ((below_drewN hb nq).setCell (Nat.le_refl _) _)⟩
      case measure => simp [intOf]

end Go.Proofs.YtilpkocmdpofpaaGreatDoor

/- exact.addProduct: it adds a product to a row. -/
namespace Go.Proofs.YtilpkocmdpofpaaGreatDoor
open Go.RowKit

theorem mul_le (x y : Int) (h0 : 0 ≤ x) (h1 : x < B64) (k0 : 0 ≤ y) (k1 : y < B64) : 0 ≤ x * y ∧ x * y ≤ 340282366920938463426481119284349108225 := by
  refine ⟨Int.mul_nonneg h0 k0, ?_⟩
  have a : x * y ≤ 18446744073709551615 * y := Int.mul_le_mul_of_nonneg_right (by unfold B64 at h1; omega) k0
  unfold B64 at k1; omega

/-- bits.Mul64, its two results under names. -/
theorem mul64_ex (x y : Int) (hx : 0 ≤ x) (hx' : x < B64) (hy : 0 ≤ y) (hy' : y < B64) (w : World) :
    Calls Tryz.prog 189 #[.int .u64 x, .int .u64 y] w fun e w' => ∃ hi lo, e = .returned (.tuple #[.int .u64 hi, .int .u64 lo]) ∧ (0 ≤ hi ∧ 0 ≤ lo ∧ lo < B64 ∧ hi ≤ 18446744073709551614 ∧ Hid (lo + B64 * hi = x * y)) ∧ w = w' := by
  refine (mul64 x y hx hx' hy hy' w).mono ?_
  rintro e w' ⟨rfl, rfl⟩
  have h := mul_le x y hx hx' hy hy'
  refine ⟨_, _, rfl, ⟨Int.ediv_nonneg h.1 (by decide), Int.emod_nonneg _ (by decide), Int.emod_lt_of_pos _ B64_pos, ?_, hid (Int.emod_add_mul_ediv _ _)⟩, rfl⟩
  have h2 := h.2
  unfold B64; omega

theorem add64_ex (x y c : Int) (hx : 0 ≤ x) (hx' : x < B64) (hy : 0 ≤ y) (hy' : y < B64) (hc0 : 0 ≤ c) (hc : c ≤ 1) :
    ∃ s d, (∀ w, (callFunc 202 #[.int .u64 x, .int .u64 y, .int .u64 c]).run Tryz.prog w = .ok (.value (.tuple #[.int .u64 s, .int .u64 d])) w) ∧ (0 ≤ s ∧ s < B64 ∧ 0 ≤ d ∧ d ≤ 1) ∧ s + B64 * d = x + y + c := by
  refine ⟨_, _, fun w => add64 x y c hx hy hc0 hc w, ⟨Int.emod_nonneg _ (by decide), Int.emod_lt_of_pos _ B64_pos, ?_, ?_⟩, Int.emod_add_mul_ediv _ _⟩
  · exact Int.ediv_nonneg (by omega) (by decide)
  · unfold B64 at *; omega

theorem mul_step {s x y cc hi lo l1 c1 o c2 : Int} (hs : 0 ≤ s ∧ s < B64) (hx : 0 ≤ x ∧ x < B64) (hy : 0 ≤ y ∧ y < B64) (hc : 0 ≤ cc ∧ cc < B64) (h1 : lo + B64 * hi = x * y) (h2 : l1 + B64 * c1 = lo + cc) (h3 : o + B64 * c2 = s + l1) (ho : 0 ≤ o) :
    hi + c1 + c2 ≤ 18446744073709551615 ∧ o + B64 * (hi + c1 + c2) = s + x * y + cc := by
  have h := (mul_le x y hx.1 hx.2 hy.1 hy.2).2
  generalize x * y = p at *
  unfold B64 at *
  constructor <;> omega

/-- What holds after k limbs. -/
structure MulI (w wr : World) (g : Nat) (P A S : List Int) (k : Nat) (m : Int) (A1 : List Int) (cc : Int) : Prop where
  len : A1.length = A.length
  dig : Dig B64 A1
  c0 : 0 ≤ cc
  c1 : cc < B64
  row : Row .u64 91 wr g (P ++ A1 ++ S)
  gr : w.grownBy wr (some g)
  eq : val B64 A1 + B64 ^ k * cc = val B64 A + m

theorem MulI.step {w wr : World} {g : Nat} {P A S : List Int} {k : Nat} {m : Int} {A1 : List Int} {cc : Int} (h : MulI w wr g P A S k m A1 cc) (p o d : Int) (h0 : 0 ≤ o) (h1 : o < B64) (d0 : 0 ≤ d) (d1 : d < B64) (he : o + B64 * d = A1[k]?.getD 0 + p + cc) (hk : k < A.length) :
    MulI w (wr.setCell ⟨g, P.length + k, none⟩ (.int .u64 o)) g P A S (k + 1) (m + B64 ^ k * p) (A1.set k o) d := by
  have hl : k < A1.length := by rw [h.len]; exact hk
  have hr := h.row.set (P.length + k) o
  rw [mid_set P A1 S k _ hl] at hr
  refine ⟨by simpa using h.len, h.dig.set k h0 h1, d0, d1, hr, grown_trans h.gr (grown_set _ _ _ _), ?_⟩
  rw [val_set _ _ _ _ hl, Int.pow_succ]
  have e := h.eq
  grind

set_option maxRecDepth 100000 in
set_option maxHeartbeats 2000000 in
theorem addProduct_any (g : Nat) (P A S M : List Int) (c bc : Nat) (bo : Option Addr) (x : Int) (w : World) (hrow : Row .u64 91 w g (P ++ A ++ S)) (hdA : Dig B64 A) (hdM : Dig B64 M) (hx0 : 0 ≤ x) (hx1 : x < B64)
    (hcA : A.length ≤ c) (_hcm : c ≤ 9223372036854775807) (hM : Rd w .u64 bo bc M) (hMA : M.length = A.length) (hne : 0 < M.length → ∀ b off, bo = some ⟨b, off, none⟩ → b ≠ g) :
    Calls Tryz.prog 182 #[.slice (some ⟨g, P.length, none⟩) A.length c, .slice bo M.length bc, .int .u64 x] w fun e w' => ∃ A1 cc, e = .returned (.int .u64 cc) ∧ MulI w w' g P A S A.length (val B64 M * x) A1 cc := by
  obtain ⟨off, hoff⟩ : ∃ off, off = P.length := ⟨_, rfl⟩
  obtain ⟨n, hn⟩ : ∃ n, n = A.length := ⟨_, rfl⟩
  have hnM : M.length = n := by omega
  have hmc := hM.cap; have hmm := hM.most
  rw [← hn] at hcA
  rw [hnM] at hmc
  have H0 : MulI w w g P A S 0 (val B64 (M.take 0) * x) A 0 := ⟨rfl, hdA, Int.le_refl 0, by decide, hrow, grown_refl _ _, by simp [val]⟩
  rw [hnM, ← hn, ← hoff]
  have Hoff := hid hoff; have Hn := hid hn; have Hm := hid hnM; have HdM := hid hdM; have Hne := hid hne; have HM := hid hM
  have Hx := hid (show 0 ≤ x ∧ x < B64 from ⟨hx0, hx1⟩)
  clear hoff hn hnM hdA hdM hne hrow hM hMA hx1
  go_enter Tryz.func182, Tryz.ntmps182
  go_wp2
  go_loopw [6, 18] (fun cv iv wr => ∃ k : Nat, ∃ A1 cc, k ≤ n ∧ iv = .int .i64 k ∧ cv = .int .u64 cc ∧ MulI w wr g P A S k (val B64 (M.take k) * x) A1 cc) (fun _ iv _ => n - (intOf iv).toNat)
  case atStart => exact ⟨0, A, 0, Nat.zero_le _, rfl, rfl, H0⟩
  case round =>
    obtain ⟨k, A1, cc, hk, rfl, rfl, H⟩ := hrel
    by_cases hlt : k < n
    · have hAk := H.row.cell (off + k) (by have := Hoff.out; have := Hn.out; have := H.len; simp; omega)
      have hfr := H.row.frozen (off + k)
      rw [Hoff.out, mid_get P A1 S k (by have := Hn.out; have := H.len; omega), ← Hoff.out] at hAk
      obtain ⟨b, o, rfl⟩ := HM.out.adr (by have := Hm.out; omega)
      have hMk := (HM.out.keptNew H.gr Hne.out).cell b o rfl k (by have := Hm.out; omega)
      have h0 := HdM.out.at B64_pos k
      have h1 := H.dig.at B64_pos k
      have c0 := H.c0; have c1 := H.c1
      have hv := val_take_succ B64 M k (by have := Hm.out; omega)
      have HST := hid (fun (o d : Int) => H.step (x * M[k]?.getD 0) o d)
      obtain ⟨s, hs⟩ : ∃ s, s = A1[k]?.getD 0 := ⟨_, rfl⟩
      obtain ⟨y, hy⟩ : ∃ y, y = M[k]?.getD 0 := ⟨_, rfl⟩
      rw [← hs] at hAk h1 HST; rw [← hy] at hMk h0 HST hv
      have Hs := hid hs; have Hy := hid hy; have Hh1 := hid h1; have Hh0 := hid h0; have Hc := hid (show 0 ≤ cc ∧ cc < B64 from ⟨c0, c1⟩); have Hv := hid hv
      clear H hs hy H0 h0 h1 c1 hv
      go_wp2_with fail
      refine (mul64_ex x y Hx.out.1 Hx.out.2 Hh0.out.1 Hh0.out.2 _).mono ?_
      rintro e w' ⟨hi, lo, rfl, ⟨hi0, lo0, lo1, hi1, HP⟩, rfl⟩
      obtain ⟨l1, d1, ha1, ⟨l10, l11, d10, d11⟩, hl1⟩ := add64_ex lo cc 0 lo0 lo1 Hc.out.1 Hc.out.2 (Int.le_refl 0) (by decide)
      obtain ⟨o2, d2, ha2, ⟨o20, o21, d20, d21⟩, ho2⟩ := add64_ex s l1 0 Hh1.out.1 Hh1.out.2 l10 l11 (Int.le_refl 0) (by decide)
      have hms := mul_step Hh1.out Hx.out Hh0.out Hc.out HP.out (by simpa using hl1) (by simpa using ho2) o20
      have hle := hms.1
      have HS := HST.out o2 (hi + d1 + d2) o20 o21 (by omega) (by unfold B64; omega) hms.2 (by have := Hn.out; omega)
      have hval : val B64 (M.take k) * x + B64 ^ k * (x * y) = val B64 (M.take (k + 1)) * x := by rw [Hv.out]; grind
      rw [hval, ← Hoff.out] at HS
      have HS' := hid HS
      clear HS hval hms hl1 ho2 HST lo1 l11 o21
      go_wp2
      go_roundw
      case rel => exact ⟨k + 1, _, _, by omega, by go_num, rfl, HS'.out⟩
      case measure => simp [intOf]; omega
    · obtain rfl : k = n := by omega
      have HT : MulI w wr g P A S k (val B64 M * x) A1 cc := by have := H; rwa [← Hm.out, List.take_length, Hm.out] at this
      clear H H0
      go_wp2
      go_ret
      exact ⟨A1, cc, rfl, HT⟩

end Go.Proofs.YtilpkocmdpofpaaGreatDoor

/- exact.subtractProduct: it subtracts a product from a row. -/
namespace Go.Proofs.YtilpkocmdpofpaaGreatDoor
open Go.RowKit

theorem sub64_ex (x y c : Int) (hx : 0 ≤ x) (hx' : x < B64) (hy : 0 ≤ y) (hy' : y < B64) (hc0 : 0 ≤ c) (hc : c ≤ 1) :
    ∃ s d, (∀ w, (callFunc 203 #[.int .u64 x, .int .u64 y, .int .u64 c]).run Tryz.prog w = .ok (.value (.tuple #[.int .u64 s, .int .u64 d])) w) ∧ (0 ≤ s ∧ s < B64 ∧ 0 ≤ d ∧ d ≤ 1) ∧ s - B64 * d = x - y - c ∧ (y + c = 0 → d = 0) := by
  refine ⟨_, _, fun w => sub64 x y c hx hy hy' hc0 hc w, ⟨Int.emod_nonneg _ (by decide), Int.emod_lt_of_pos _ B64_pos, (bor_01 _ _ _).1, (bor_01 _ _ _).2⟩, ?_, ?_⟩
  · rw [sub_wrap x y c hx hx' hy hy' hc0 hc]; omega
  · intro h; unfold bor; rw [if_neg (by omega)]

theorem msub_step {s x y cc hi lo l1 c1 o c2 : Int} (_hs : 0 ≤ s ∧ s < B64) (hx : 0 ≤ x ∧ x < B64) (hy : 0 ≤ y ∧ y < B64) (hc : 0 ≤ cc ∧ cc < B64) (h1 : lo + B64 * hi = x * y) (h2 : l1 + B64 * c1 = lo + cc) (h3 : o - B64 * c2 = s - l1) (hl : 0 ≤ l1) (h5 : l1 = 0 → c2 = 0) (h6 : c2 ≤ 1) :
    hi + c1 + c2 ≤ 18446744073709551615 ∧ o - B64 * (hi + c1 + c2) = s - x * y - cc ∧ hi + c1 ≤ 18446744073709551615 := by
  have h := (mul_le x y hx.1 hx.2 hy.1 hy.2).2
  generalize x * y = p at *
  unfold B64 at *
  refine ⟨?_, by omega, by omega⟩
  by_cases e : l1 = 0
  · have := h5 e; omega
  · omega

/-- What holds after k limbs. -/
structure MSubI (w wr : World) (g : Nat) (P A S : List Int) (k : Nat) (m : Int) (A1 : List Int) (cc : Int) : Prop where
  len : A1.length = A.length
  dig : Dig B64 A1
  c0 : 0 ≤ cc
  c1 : cc < B64
  row : Row .u64 91 wr g (P ++ A1 ++ S)
  gr : w.grownBy wr (some g)
  eq : val B64 A1 - B64 ^ k * cc = val B64 A - m

theorem MSubI.step {w wr : World} {g : Nat} {P A S : List Int} {k : Nat} {m : Int} {A1 : List Int} {cc : Int} (h : MSubI w wr g P A S k m A1 cc) (p o d : Int) (h0 : 0 ≤ o) (h1 : o < B64) (d0 : 0 ≤ d) (d1 : d < B64) (he : o - B64 * d = A1[k]?.getD 0 - p - cc) (hk : k < A.length) :
    MSubI w (wr.setCell ⟨g, P.length + k, none⟩ (.int .u64 o)) g P A S (k + 1) (m + B64 ^ k * p) (A1.set k o) d := by
  have hl : k < A1.length := by rw [h.len]; exact hk
  have hr := h.row.set (P.length + k) o
  rw [mid_set P A1 S k _ hl] at hr
  refine ⟨by simpa using h.len, h.dig.set k h0 h1, d0, d1, hr, grown_trans h.gr (grown_set _ _ _ _), ?_⟩
  rw [val_set _ _ _ _ hl, Int.pow_succ]
  have e := h.eq
  grind

set_option maxRecDepth 100000 in
set_option maxHeartbeats 2000000 in
theorem subtractProduct_any (g : Nat) (P A S M : List Int) (c bc : Nat) (bo : Option Addr) (x : Int) (w : World) (hrow : Row .u64 91 w g (P ++ A ++ S)) (hdA : Dig B64 A) (hdM : Dig B64 M) (hx0 : 0 ≤ x) (hx1 : x < B64)
    (hcA : A.length ≤ c) (_hcm : c ≤ 9223372036854775807) (hM : Rd w .u64 bo bc M) (hMA : M.length = A.length) (hne : 0 < M.length → ∀ b off, bo = some ⟨b, off, none⟩ → b ≠ g) :
    Calls Tryz.prog 201 #[.slice (some ⟨g, P.length, none⟩) A.length c, .slice bo M.length bc, .int .u64 x] w fun e w' => ∃ A1 cc, e = .returned (.int .u64 cc) ∧ MSubI w w' g P A S A.length (val B64 M * x) A1 cc := by
  obtain ⟨off, hoff⟩ : ∃ off, off = P.length := ⟨_, rfl⟩
  obtain ⟨n, hn⟩ : ∃ n, n = A.length := ⟨_, rfl⟩
  have hnM : M.length = n := by omega
  have hmc := hM.cap; have hmm := hM.most
  rw [← hn] at hcA
  rw [hnM] at hmc
  have H0 : MSubI w w g P A S 0 (val B64 (M.take 0) * x) A 0 := ⟨rfl, hdA, Int.le_refl 0, by decide, hrow, grown_refl _ _, by simp [val]⟩
  rw [hnM, ← hn, ← hoff]
  have Hoff := hid hoff; have Hn := hid hn; have Hm := hid hnM; have HdM := hid hdM; have Hne := hid hne; have HM := hid hM
  have Hx := hid (show 0 ≤ x ∧ x < B64 from ⟨hx0, hx1⟩)
  clear hoff hn hnM hdA hdM hne hrow hM hMA hx1
  go_enter Tryz.func201, Tryz.ntmps201
  go_wp2
  go_loopw [6, 18] (fun cv iv wr => ∃ k : Nat, ∃ A1 cc, k ≤ n ∧ iv = .int .i64 k ∧ cv = .int .u64 cc ∧ MSubI w wr g P A S k (val B64 (M.take k) * x) A1 cc) (fun _ iv _ => n - (intOf iv).toNat)
  case atStart => exact ⟨0, A, 0, Nat.zero_le _, rfl, rfl, H0⟩
  case round =>
    obtain ⟨k, A1, cc, hk, rfl, rfl, H⟩ := hrel
    by_cases hlt : k < n
    · have hAk := H.row.cell (off + k) (by have := Hoff.out; have := Hn.out; have := H.len; simp; omega)
      have hfr := H.row.frozen (off + k)
      rw [Hoff.out, mid_get P A1 S k (by have := Hn.out; have := H.len; omega), ← Hoff.out] at hAk
      obtain ⟨b, o, rfl⟩ := HM.out.adr (by have := Hm.out; omega)
      have hMk := (HM.out.keptNew H.gr Hne.out).cell b o rfl k (by have := Hm.out; omega)
      have h0 := HdM.out.at B64_pos k
      have h1 := H.dig.at B64_pos k
      have c0 := H.c0; have c1 := H.c1
      have hv := val_take_succ B64 M k (by have := Hm.out; omega)
      have HST := hid (fun (o d : Int) => H.step (x * M[k]?.getD 0) o d)
      obtain ⟨s, hs⟩ : ∃ s, s = A1[k]?.getD 0 := ⟨_, rfl⟩
      obtain ⟨y, hy⟩ : ∃ y, y = M[k]?.getD 0 := ⟨_, rfl⟩
      rw [← hs] at hAk h1 HST; rw [← hy] at hMk h0 HST hv
      have Hs := hid hs; have Hy := hid hy; have Hh1 := hid h1; have Hh0 := hid h0; have Hc := hid (show 0 ≤ cc ∧ cc < B64 from ⟨c0, c1⟩); have Hv := hid hv
      clear H hs hy H0 h0 h1 c1 hv
      go_wp2_with fail
      refine (mul64_ex x y Hx.out.1 Hx.out.2 Hh0.out.1 Hh0.out.2 _).mono ?_
      rintro e w' ⟨hi, lo, rfl, ⟨hi0, lo0, lo1, hi1, HP⟩, rfl⟩
      obtain ⟨l1, d1, ha1, ⟨l10, l11, d10, d11⟩, hl1⟩ := add64_ex lo cc 0 lo0 lo1 Hc.out.1 Hc.out.2 (Int.le_refl 0) (by decide)
      obtain ⟨o2, d2, ha2, ⟨o20, o21, d20, d21⟩, ho2, hz2⟩ := sub64_ex s l1 0 Hh1.out.1 Hh1.out.2 l10 l11 (Int.le_refl 0) (by decide)
      have hms := msub_step Hh1.out Hx.out Hh0.out Hc.out HP.out (by simpa using hl1) (by simpa using ho2) l10 (by simpa using hz2) d21
      have hle := hms.1
      have hle2 := hms.2.2
      have HS := HST.out o2 (hi + d1 + d2) o20 o21 (by omega) (by unfold B64; omega) hms.2.1 (by have := Hn.out; omega)
      have hval : val B64 (M.take k) * x + B64 ^ k * (x * y) = val B64 (M.take (k + 1)) * x := by rw [Hv.out]; grind
      rw [hval, ← Hoff.out] at HS
      have HS' := hid HS
      clear HS hval hms hl1 ho2 hz2 HST lo1 l11 o21
      go_wp2
      go_roundw
      case rel => exact ⟨k + 1, _, _, by omega, by go_num, rfl, HS'.out⟩
      case measure => simp [intOf]; omega
    · obtain rfl : k = n := by omega
      have HT : MSubI w wr g P A S k (val B64 M * x) A1 cc := by have := H; rwa [← Hm.out, List.take_length, Hm.out] at this
      clear H H0
      go_wp2
      go_ret
      exact ⟨A1, cc, rfl, HT⟩

end Go.Proofs.YtilpkocmdpofpaaGreatDoor
