/- exact.Show of ratios whose lowest form has numbers closer to 0 than 100; over and shows of the laws. The simplest fraction between two: plain mathematics, nothing of the program. -/
import Derived.Test.YtilpkocmdpofpaaGreatDoorZg22
import Derived.Test.YtilpkocmdpofpaaGreatDoorZg29
import Derived.Test.YtilpkocmdpofpaaGreatDoorZg02
/- exact.Show of ratios whose lowest form has numbers closer to 0 than 100; over and shows of the laws. -/
namespace Go.Proofs.YtilpkocmdpofpaaGreatDoor
open Go.RowKit

theorem tx_len (z : Int) (h : z.natAbs < 100) : (tx z).size ≤ 3 := by
  have := dec_len z.natAbs h
  unfold tx
  split
  · simp [ByteArray.size_append]; show 1 + (Lib.decDigits z.natAbs).length ≤ 3; omega
  · show (Lib.decDigits z.natAbs).length ≤ 3; omega

set_option maxRecDepth 100000 in
set_option maxHeartbeats 1000000 in
theorem Show_whole (v : Value) (x y N : Int) (K : Nat) (w : World) (hv : Ra w v x y K) (hy : y ≠ 0) (hK : K ≤ 1073741820)
    (hN : lowN (sgn (decide (x < 0) != decide (y < 0)) (x.natAbs : Int)) (y.natAbs : Int) = N) (hD : lowD (sgn (decide (x < 0) != decide (y < 0)) (x.natAbs : Int)) (y.natAbs : Int) = 1) (h0 : N ≠ 0) (h1 : N.natAbs < 100) :
    Calls Tryz.prog 17 #[v] w fun e w' => e = .returned (.string (tx N)) ∧ Below w.heap.size w w' := by
  have hRR := fun (w' : World) (hb : Below w.heap.size w w') => readRatio_ne v x y K w' (hv.below hb (Nat.le_refl _)) hy (by omega)
  obtain ⟨xb, xo, xm, xc, yb, yo, ym, yc, rfl, _, _⟩ := Ra.opened hv
  have HRR := hid hRR
  obtain ⟨s1, hs1⟩ : ∃ s1, s1 = tx N := ⟨_, rfl⟩
  have hz1 : s1.size ≤ 3 := by rw [hs1]; exact tx_len N h1
  have HT := hid (fun (v' : Value) (w' : World) (h : Ai w' v' N (2 * ((K + 1) / 2))) => by have := Text_any N _ v' w' h (by omega) h0 h1; rw [← hs1] at this; exact this)
  have H1 := hid (fun (z d : Int) (Kz : Nat) (f : Value) (w' : World) (h : Ft w' f z d Kz) (hd : 0 < d) (hk : Kz ≤ 1073741823) => fracValue_any f z d Kz w' h hd hk)
  rw [← hs1]
  have HO1 := hid (show decide (((1 : Int).natAbs : Int) = 1) = true from rfl)
  have HN := hid hN; have HD := hid hD; have Hy := hid hy
  clear hs1 hRR hv hN hD hy h0
  have hB0 : Below w.heap.size w (w.alloc (.cells #[.bool xb, .slice xo xm xc, .bool yb, .slice yo ym yc] 26)) := (Below.refl _ _).alloc (Nat.le_refl _) _
  have HB0 := hid hB0
  clear hB0
  go_enter Tryz.func17, Tryz.ntmps17
  go_wp2_with fail
  refine (HRR.out _ HB0.out).mono ?_
  rintro e w1 ⟨f, rfl, hf, hb1⟩
  have HB1 := hid (show Below w.heap.size w w1 from HB0.out.trans (hb1.mono (by simp)))
  clear hb1
  go_wp2_with fail
  refine (H1.out _ _ _ _ _ hf (by have := Hy.out; omega) (by omega)).mono ?_
  rintro e w2 ⟨_, rfl, hr, hb2⟩
  rw [HN.out, HD.out] at hr
  obtain ⟨b1, o1, m1, c1, b2, o2, m2, c2, rfl, HR1, HR2⟩ := FrR.opened hr
  have HB2 := hid (show Below w.heap.size w w2 from HB1.out.trans (hb2.mono HB1.out.size))
  clear hr hf hb2
  obtain ⟨W3, hW3⟩ : ∃ W3, W3 = w2.alloc (.cells #[.bool b1, .slice o1 m1 c1, .bool b2, .slice o2 m2 c2] 26) := ⟨_, rfl⟩
  have hal : Below w2.heap.size w2 W3 := by rw [hW3]; exact (Below.refl _ _).alloc (Nat.le_refl _) _
  have HS : Hid (∀ w', Below W3.heap.size W3 w' → w'.cell? ⟨w2.heap.size, 0, none⟩ = some (.bool b1) ∧ w'.cell? ⟨w2.heap.size, 1, none⟩ = some (.slice o1 m1 c1) ∧ w'.cell? ⟨w2.heap.size, 2, none⟩ = some (.bool b2) ∧ w'.cell? ⟨w2.heap.size, 3, none⟩ = some (.slice o2 m2 c2)) := hid (fun w' hb => by
    refine ⟨?_, ?_, ?_, ?_⟩ <;> (rw [hb.cell (by rw [hW3]; simp), hW3]; simp [go_sem]))
  have HAL := hid hal; have HW3 := hid hW3
  clear hal hW3
  go_wp2_with fail
  rw [← HW3.out]
  refine (HT.out _ _ (HR1.out.ai.below HAL.out (Nat.le_refl _))).mono ?_
  rintro e w4 ⟨rfl, hb4⟩
  obtain ⟨k0, k1, k2, k3⟩ := HS.out _ hb4
  have HB4 := hid (show Below w2.heap.size w2 w4 from HAL.out.trans (hb4.mono HAL.out.size))
  clear hb4
  go_wp2_with fail
  refine (read_any _ 1 _ _ (HR2.out.ai.below HB4.out (Nat.le_refl _)) (by omega)).mono ?_
  rintro e w5 ⟨_, rfl, hv5, hb5⟩
  obtain ⟨b5, o5, m5, c5, rfl, H5, H5s, H5b⟩ := It.opened hv5
  have HI := hid (fun w' hb => isOne_any _ _ _ w' (H5s.out w' hb))
  have HB5 := hid (show Below w2.heap.size w2 w5 from HB4.out.trans (hb5.mono HB4.out.size))
  clear hb5 hv5
  have hfld : ∀ w : World, (Instr.field 84 (.agg #[.bool b5, .slice o5 m5 c5]) 1).run Tryz.prog w = .ok (.slice o5 m5 c5) w := fun w => by kernel_rfl
  go_wp2_with fail
  refine (HI.out _ (Below.refl _ _)).mono ?_
  rintro e w6 ⟨rfl, h6⟩
  obtain rfl : w5 = w6 := h6.symm
  rw [HO1.out]
  go_wp2
  go_ret
  exact ⟨rfl, HB2.out.trans (HB5.out.mono HB2.out.size)⟩

set_option maxRecDepth 100000 in
set_option maxHeartbeats 1000000 in
theorem Show_quot (v : Value) (x y N D : Int) (K : Nat) (w : World) (hv : Ra w v x y K) (hy : y ≠ 0) (hK : K ≤ 1073741820)
    (hN : lowN (sgn (decide (x < 0) != decide (y < 0)) (x.natAbs : Int)) (y.natAbs : Int) = N) (hD : lowD (sgn (decide (x < 0) != decide (y < 0)) (x.natAbs : Int)) (y.natAbs : Int) = D) (h0 : N ≠ 0) (h1 : N.natAbs < 100) (d0 : 1 < D) (d1 : D < 100) :
    Calls Tryz.prog 17 #[v] w fun e w' => e = .returned (.string (tx N ++ ⟨#[47]⟩ ++ ⟨(Lib.decDigits D.natAbs).toArray⟩)) ∧ Below w.heap.size w w' := by
  have hRR := fun (w' : World) (hb : Below w.heap.size w w') => readRatio_ne v x y K w' (hv.below hb (Nat.le_refl _)) hy (by omega)
  obtain ⟨xb, xo, xm, xc, yb, yo, ym, yc, rfl, _, _⟩ := Ra.opened hv
  have HRR := hid hRR
  obtain ⟨s1, hs1⟩ : ∃ s1, s1 = tx N := ⟨_, rfl⟩
  have hz1 : s1.size ≤ 3 := by rw [hs1]; exact tx_len N h1
  have HT := hid (fun (v' : Value) (w' : World) (h : Ai w' v' N (2 * ((K + 1) / 2))) => by have := Text_any N _ v' w' h (by omega) h0 h1; rw [← hs1] at this; exact this)
  have H1 := hid (fun (z d : Int) (Kz : Nat) (f : Value) (w' : World) (h : Ft w' f z d Kz) (hd : 0 < d) (hk : Kz ≤ 1073741823) => fracValue_any f z d Kz w' h hd hk)
  rw [← hs1]
  obtain ⟨s2, hs2⟩ : ∃ s2 : ByteArray, s2 = ⟨(Lib.decDigits D.natAbs).toArray⟩ := ⟨_, rfl⟩
  have hz2 : s2.size ≤ 2 := by rw [hs2]; exact dec_len D.natAbs (by omega)
  have hq1 : ¬ 9223372036854775807 < s1.size + 1 := by omega
  have hq2 : ¬ 9223372036854775807 < s1.size + 1 + s2.size := by omega
  have HDD := hid (fun (v' : Value) (w' : World) (Kd : Nat) (h : Nt w' v' (D.natAbs : Int) Kd) => by have := decimals_one D.natAbs Kd v' w' h (by omega) (by omega); rw [← hs2] at this; exact this)
  rw [← hs2]
  have HO1 := hid (show decide ((D.natAbs : Int) = 1) = false from decide_eq_false (by omega))
  have HN := hid hN; have HD := hid hD; have Hy := hid hy
  clear hs1 hs2 hRR hv hN hD hy h0
  have hB0 : Below w.heap.size w (w.alloc (.cells #[.bool xb, .slice xo xm xc, .bool yb, .slice yo ym yc] 26)) := (Below.refl _ _).alloc (Nat.le_refl _) _
  have HB0 := hid hB0
  clear hB0
  go_enter Tryz.func17, Tryz.ntmps17
  go_wp2_with fail
  refine (HRR.out _ HB0.out).mono ?_
  rintro e w1 ⟨f, rfl, hf, hb1⟩
  have HB1 := hid (show Below w.heap.size w w1 from HB0.out.trans (hb1.mono (by simp)))
  clear hb1
  go_wp2_with fail
  refine (H1.out _ _ _ _ _ hf (by have := Hy.out; omega) (by omega)).mono ?_
  rintro e w2 ⟨_, rfl, hr, hb2⟩
  rw [HN.out, HD.out] at hr
  obtain ⟨b1, o1, m1, c1, b2, o2, m2, c2, rfl, HR1, HR2⟩ := FrR.opened hr
  have HB2 := hid (show Below w.heap.size w w2 from HB1.out.trans (hb2.mono HB1.out.size))
  clear hr hf hb2
  obtain ⟨W3, hW3⟩ : ∃ W3, W3 = w2.alloc (.cells #[.bool b1, .slice o1 m1 c1, .bool b2, .slice o2 m2 c2] 26) := ⟨_, rfl⟩
  have hal : Below w2.heap.size w2 W3 := by rw [hW3]; exact (Below.refl _ _).alloc (Nat.le_refl _) _
  have HS : Hid (∀ w', Below W3.heap.size W3 w' → w'.cell? ⟨w2.heap.size, 0, none⟩ = some (.bool b1) ∧ w'.cell? ⟨w2.heap.size, 1, none⟩ = some (.slice o1 m1 c1) ∧ w'.cell? ⟨w2.heap.size, 2, none⟩ = some (.bool b2) ∧ w'.cell? ⟨w2.heap.size, 3, none⟩ = some (.slice o2 m2 c2)) := hid (fun w' hb => by
    refine ⟨?_, ?_, ?_, ?_⟩ <;> (rw [hb.cell (by rw [hW3]; simp), hW3]; simp [go_sem]))
  have HAL := hid hal; have HW3 := hid hW3
  clear hal hW3
  go_wp2_with fail
  rw [← HW3.out]
  refine (HT.out _ _ (HR1.out.ai.below HAL.out (Nat.le_refl _))).mono ?_
  rintro e w4 ⟨rfl, hb4⟩
  obtain ⟨k0, k1, k2, k3⟩ := HS.out _ hb4
  have HB4 := hid (show Below w2.heap.size w2 w4 from HAL.out.trans (hb4.mono HAL.out.size))
  clear hb4
  go_wp2_with fail
  refine (read_any _ D _ _ (HR2.out.ai.below HB4.out (Nat.le_refl _)) (by omega)).mono ?_
  rintro e w5 ⟨_, rfl, hv5, hb5⟩
  obtain ⟨b5, o5, m5, c5, rfl, H5, H5s, H5b⟩ := It.opened hv5
  have HI := hid (fun w' hb => isOne_any _ _ _ w' (H5s.out w' hb))
  have HB5 := hid (show Below w2.heap.size w2 w5 from HB4.out.trans (hb5.mono HB4.out.size))
  clear hb5 hv5
  have hfld : ∀ w : World, (Instr.field 84 (.agg #[.bool b5, .slice o5 m5 c5]) 1).run Tryz.prog w = .ok (.slice o5 m5 c5) w := fun w => by kernel_rfl
  go_wp2_with fail
  refine (HI.out _ (Below.refl _ _)).mono ?_
  rintro e w6 ⟨rfl, h6⟩
  obtain rfl : w5 = w6 := h6.symm
  rw [HO1.out]
  go_wp2_with fail
  refine (HDD.out _ _ _ (H5s.out _ (Below.refl _ _))).mono ?_
  rintro e w7 ⟨rfl, hb7⟩
  go_wp2
  go_ret
  exact ⟨rfl, (HB2.out.trans (HB5.out.mono HB2.out.size)).trans (hb7.mono (HB2.out.trans (HB5.out.mono HB2.out.size)).size)⟩
end Go.Proofs.YtilpkocmdpofpaaGreatDoor

/- The simplest fraction between two: plain mathematics, nothing of the program. -/
namespace Go.Proofs.YtilpkocmdpofpaaGreatDoor

/-- Of the fractions from a / b to c / d (all above 0) n / m is the simplest one: each has a denominator and a numerator at least as great. -/
structure Smp (a b c d n m : Int) : Prop where
  n0 : 0 < n
  m0 : 0 < m
  lo : a * m ≤ n * b
  hi : n * d ≤ c * m
  least : ∀ p q, 0 < q → a * q ≤ p * b → p * d ≤ c * q → m ≤ q ∧ n ≤ p

theorem smp_whole {a b c d q : Int} (ha : 0 < a) (hb : 0 < b) (hle : a * d ≤ c * b) (e : a = q * b) : Smp a b c d q 1 := by
  have hq : 0 < q := by
    rcases Int.lt_or_le 0 q with h | h
    · exact h
    · have := Int.mul_nonneg (show 0 ≤ -q by omega) (Int.le_of_lt hb)
      rw [Int.neg_mul] at this
      omega
  refine ⟨hq, by decide, by omega, ?_, fun p s hs h1 h2 => ⟨by omega, ?_⟩⟩
  · rw [Int.mul_one]
    refine Int.le_of_mul_le_mul_right (a := b) ?_ hb
    rw [e] at hle
    grind
  · have h3 : q * s * b ≤ p * b := by rw [e] at h1; grind
    have h4 : q * s ≤ p := Int.le_of_mul_le_mul_right h3 hb
    have h5 : q * 1 ≤ q * s := Int.mul_le_mul_of_nonneg_left (by omega) (Int.le_of_lt hq)
    omega
theorem smp_next {a b c d q r : Int} (hb : 0 < b) (e : a = q * b + r) (hq : 0 ≤ q) (hr : 0 < r) (hrb : r < b) (hc : (q + 1) * d ≤ c) : Smp a b c d (q + 1) 1 := by
  refine ⟨by omega, by decide, ?_, by omega, fun p s hs h1 h2 => ⟨by omega, ?_⟩⟩
  · rw [Int.add_mul]; omega
  · rcases Int.lt_or_le q p with h | h
    · omega
    · exfalso
      have ha : 0 < a := by have := Int.mul_nonneg hq (Int.le_of_lt hb); omega
      have h3 : p * b ≤ q * b := Int.mul_le_mul_of_nonneg_right h (Int.le_of_lt hb)
      have h4 : a * 1 ≤ a * s := Int.mul_le_mul_of_nonneg_left (by omega) (Int.le_of_lt ha)
      omega
theorem smp_rest {a b c d q r : Int} (hb : 0 < b) (hd : 0 < d) (e : a = q * b + r) (hr : 0 < r) (hle : a * d ≤ c * b) : 0 < c - q * d ∧ d * r ≤ b * (c - q * d) := by
  have h1 : r * d ≤ (c - q * d) * b := by rw [e] at hle; grind
  refine ⟨?_, by grind⟩
  rcases Int.lt_or_le 0 (c - q * d) with h | h
  · exact h
  · have h2 := Int.mul_pos hr hd
    have h3 := Int.mul_nonneg (show 0 ≤ -(c - q * d) by omega) (Int.le_of_lt hb)
    rw [Int.neg_mul] at h3
    omega
theorem smp_step {a b c d q r n m : Int} (hb : 0 < b) (e : a = q * b + r) (hq : 0 ≤ q) (hr : 0 < r) (h : Smp d (c - q * d) b r n m) : Smp a b c d (q * n + m) n := by
  have hm := h.m0
  have hn := h.n0
  refine ⟨?_, h.n0, ?_, ?_, fun p s hs h1 h2 => ?_⟩
  · have := Int.mul_nonneg hq (Int.le_of_lt hn); omega
  · have := h.hi; rw [e]; grind
  · have := h.lo; grind
  · have h3 : r * s ≤ (p - q * s) * b := by rw [e] at h1; grind
    have h4 : 0 < p - q * s := by
      rcases Int.lt_or_le 0 (p - q * s) with h5 | h5
      · exact h5
      · have h6 := Int.mul_pos hr hs
        have h7 := Int.mul_nonneg (show 0 ≤ -(p - q * s) by omega) (Int.le_of_lt hb)
        rw [Int.neg_mul] at h7
        omega
    obtain ⟨h8, h9⟩ := h.least s (p - q * s) h4 (by grind) (by grind)
    refine ⟨h9, ?_⟩
    have h10 : q * n ≤ q * s := Int.mul_le_mul_of_nonneg_left h9 hq
    omega
theorem smp_ex : ∀ (k : Nat) (a b c d : Int), 0 < a → 0 < b → 0 < c → 0 < d → a * d ≤ c * b → (b + d).toNat ≤ k → ∃ n m, Smp a b c d n m
  | 0, _, b, _, d, _, hb, _, hd, _, hk => by omega
  | k + 1, a, b, c, d, ha, hb, hc, hd, hle, hk => by
    have e : a = a / b * b + a % b := (Int.ediv_mul_add_emod a b).symm
    have hr0 := Int.emod_nonneg a (show b ≠ 0 by omega)
    have hrb := Int.emod_lt_of_pos a hb
    have hq : 0 ≤ a / b := Int.ediv_nonneg (Int.le_of_lt ha) (Int.le_of_lt hb)
    rcases Int.lt_or_le 0 (a % b) with hr | hr
    · rcases Int.lt_or_le c ((a / b + 1) * d) with hcc | hcc
      · obtain ⟨h1, h2⟩ := smp_rest hb hd e hr hle
        have h3 : c - a / b * d < d := by rw [Int.add_mul] at hcc; omega
        obtain ⟨n, m, h⟩ := smp_ex k d (c - a / b * d) b (a % b) hd h1 hb hr h2 (by omega)
        exact ⟨_, _, smp_step hb e hq hr h⟩
      · exact ⟨_, _, smp_next hb e hq hr hrb hcc⟩
    · exact ⟨_, _, smp_whole (q := a / b) ha hb hle (by omega)⟩
/-- What a round keeps: what is simplest for what is left makes what is simplest for all. -/
def SmpC (A B C D a b c d n l e m : Int) : Prop := ∀ x y, Smp a b c d x y → Smp A B C D (n * x + l * y) (e * x + m * y)
theorem smpC_begin (A B C D : Int) : SmpC A B C D A B C D 1 0 0 1 := fun x y h => by
  rw [Int.one_mul, Int.zero_mul, Int.zero_mul, Int.one_mul, Int.add_zero, Int.zero_add]; exact h
theorem smpC_step {A B C D a b c d n l e m q r : Int} (hb : 0 < b) (eq : a = q * b + r) (hq : 0 ≤ q) (hr : 0 < r) (h : SmpC A B C D a b c d n l e m) : SmpC A B C D d (c - q * d) b r (q * n + l) n (q * e + m) e := fun x y hs => by
  have := h _ _ (smp_step hb eq hq hr hs)
  rw [show (q * n + l) * x + n * y = n * (q * x + y) + l * x by grind, show (q * e + m) * x + e * y = e * (q * x + y) + m * x by grind]
  exact this
theorem smpC_stop {A B C D a b c d n l e m t : Int} (h : SmpC A B C D a b c d n l e m) (hs : Smp a b c d t 1) : Smp A B C D (t * n + l) (t * e + m) := by
  have := h _ _ hs
  rw [show t * n + l = n * t + l * 1 by grind, show t * e + m = e * t + m * 1 by grind]
  exact this
/-- The answer is no greater than the lower end's parts. -/
theorem Smp.small {A B C D n m : Int} (h : Smp A B C D n m) (hB : 0 < B) (hle : A * D ≤ C * B) : n ≤ A ∧ m ≤ B := by
  obtain ⟨h1, h2⟩ := h.least A B hB (Int.le_refl _) hle
  exact ⟨h2, h1⟩
/-- Nor are the parts of a round's four numbers. -/
theorem smpC_small {A B C D a b c d n l e m : Int} (hB : 0 < B) (hle : A * D ≤ C * B) (n0 : 0 ≤ n) (l0 : 0 ≤ l) (e0 : 0 ≤ e) (m0 : 0 ≤ m) (ha : 0 < a) (hb : 0 < b) (hc : 0 < c) (hd : 0 < d) (hl : a * d ≤ c * b) (h : SmpC A B C D a b c d n l e m) : n ≤ A ∧ l ≤ A ∧ e ≤ B ∧ m ≤ B := by
  obtain ⟨x, y, hs⟩ := smp_ex _ a b c d ha hb hc hd hl (Nat.le_refl _)
  obtain ⟨h1, h2⟩ := (h _ _ hs).small hB hle
  have hx := hs.n0
  have hy := hs.m0
  have a1 : n * 1 ≤ n * x := Int.mul_le_mul_of_nonneg_left (by omega) n0
  have a2 : l * 1 ≤ l * y := Int.mul_le_mul_of_nonneg_left (by omega) l0
  have a3 : e * 1 ≤ e * x := Int.mul_le_mul_of_nonneg_left (by omega) e0
  have a4 : m * 1 ≤ m * y := Int.mul_le_mul_of_nonneg_left (by omega) m0
  omega
end Go.Proofs.YtilpkocmdpofpaaGreatDoor
