/- exact.Plus, exact.Minus at any two ratios: a ratio of the right value. The contracts of the ratios' operations by values: Plus, Minus, Times, Signum. (exact.integer).text and exact.Text of any number. exact.Show of ratios whose lowest form has numbers closer to 0 than 100; over and shows of the laws. exact.Cmp. Written by gen_cmp.py. The contracts of the integers' operations in one form, for the outright laws; equal of the laws. Small lemmas of ratios in lowest terms. -/
import Derived.Test.YtilpkocmdpofpaaGreatDoorNb26
import Derived.Test.YtilpkocmdpofpaaGreatDoorNb21
import Derived.Test.YtilpkocmdpofpaaGreatDoorNb24
import Derived.Test.YtilpkocmdpofpaaGreatDoorNb17
import Derived.Test.YtilpkocmdpofpaaGreatDoorNb13
import Derived.Test.YtilpkocmdpofpaaGreatDoorNb12
import Derived.Test.YtilpkocmdpofpaaGreatDoorNb23
/- exact.Plus, exact.Minus at any two ratios: a ratio of the right value. -/
namespace Go.Proofs.YtilpkocmdpofpaaGreatDoor
open Go.RowKit

theorem rn_pos {y : Int} (x : Int) (hy : 0 < y) : rn x y = x ∧ rd y = y := by
  unfold rn rd
  rw [if_neg (by omega), if_neg (by omega), decide_eq_false (show ¬ y < 0 by omega)]
  refine ⟨?_, by omega⟩
  by_cases hx : x < 0
  · rw [decide_eq_true hx]
    show sgn true _ = x
    unfold sgn
    simp
    omega
  · rw [decide_eq_false hx]
    show sgn false _ = x
    unfold sgn
    simp
    omega
theorem low_val (z : Int) {d : Int} (hd : 0 < d) : lowN z d * d = z * lowD z d ∧ 0 < lowD z d := by
  have hg : (0 : Int) < (Int.gcd (z.natAbs : Int) d : Int) := by
    have : Int.gcd (z.natAbs : Int) d ≠ 0 := fun h => by have := (Int.gcd_eq_zero_iff.1 h).2; omega
    omega
  unfold lowN lowD
  obtain ⟨g, eg⟩ : ∃ g, g = (Int.gcd (z.natAbs : Int) d : Int) := ⟨_, rfl⟩
  have e1 : (z.natAbs : Int) / g * g = (z.natAbs : Int) := Int.ediv_mul_cancel (by rw [eg]; exact Int.gcd_dvd_left _ _)
  have e2 : d / g * g = d := Int.ediv_mul_cancel (by rw [eg]; exact Int.gcd_dvd_right _ _)
  rw [← eg] at hg ⊢
  obtain ⟨a, ea⟩ : ∃ a, a = (z.natAbs : Int) / g := ⟨_, rfl⟩
  obtain ⟨b, eb⟩ : ∃ b, b = d / g := ⟨_, rfl⟩
  rw [← ea] at e1 ⊢
  rw [← eb] at e2 ⊢
  have hb : 0 < b := by
    rcases Int.lt_or_le 0 b with h | h
    · exact h
    · exfalso
      have := Int.mul_nonneg (show 0 ≤ -b by omega) (Int.le_of_lt hg)
      rw [Int.neg_mul, e2] at this
      omega
  refine ⟨?_, hb⟩
  by_cases hz : z < 0
  · rw [decide_eq_true hz]
    have ez : z = -(a * g) := by omega
    have es : sgn true a = -a := rfl
    rw [es, ez, ← e2, Int.neg_mul, Int.neg_mul, Int.mul_comm b g, Int.mul_assoc]
  · rw [decide_eq_false hz]
    have ez : z = a * g := by omega
    have es : sgn false a = a := rfl
    rw [es, ez, ← e2, Int.mul_comm b g, Int.mul_assoc]

/-- The value v is a ratio of the value n over d. -/
def Rv (w : World) (v : Value) (n d : Int) (K : Nat) : Prop := 0 < d ∧ ∃ x y, Ra w v x y K ∧ rn x y * d = n * rd y
theorem Rv.below {w w' : World} {v : Value} {n d : Int} {K B : Nat} (h : Rv w v n d K) (hb : Below B w w') (hB : w.heap.size ≤ B) : Rv w' v n d K := by
  obtain ⟨h0, x, y, h1, h2⟩ := h
  exact ⟨h0, x, y, h1.below hb hB, h2⟩
theorem val_cut {N L z d n e : Int} (hd : 0 < d) (h1 : N * d = z * L) (h2 : z * e = n * d) : N * e = n * L := by
  have h : (N * e) * d = (n * L) * d := by
    calc (N * e) * d = (N * d) * e := by rw [Int.mul_assoc, Int.mul_comm e d, ← Int.mul_assoc]
      _ = z * L * e := by rw [h1]
      _ = (z * e) * L := by rw [Int.mul_assoc, Int.mul_comm L e, ← Int.mul_assoc]
      _ = n * d * L := by rw [h2]
      _ = (n * L) * d := by rw [Int.mul_assoc, Int.mul_comm d L, ← Int.mul_assoc]
  exact Int.eq_of_mul_eq_mul_right (by omega) h
theorem FrR.rv {w0 w : World} {f : Value} {z d n e : Int} {K : Nat} (h : FrR w0 w f (lowN z d) (lowD z d) K) (hd : 0 < d) (he : 0 < e) (hv : z * e = n * d) : Rv w f n e K := by
  have hl := low_val z hd
  have hp := rn_pos (lowN z d) hl.2
  refine ⟨he, _, _, FrR.ra h, ?_⟩
  rw [hp.1, hp.2]
  exact val_cut hd hl.1 hv
end Go.Proofs.YtilpkocmdpofpaaGreatDoor

/- The contracts of the ratios' operations by values: Plus, Minus, Times, Signum. -/
namespace Go.Proofs.YtilpkocmdpofpaaGreatDoor
open Go.RowKit

theorem Rv.mono {w : World} {v : Value} {n d : Int} {K K' : Nat} (h : Rv w v n d K) (hK : K ≤ K') : Rv w v n d K' := by
  obtain ⟨h0, x, y, ⟨b1, o1, m1, c1, b2, o2, m2, c2, e, ⟨na, ao, ac, WA, ea, ha⟩, ⟨nb, bo, bc, WB, eb, hb⟩⟩, h2⟩ := h
  exact ⟨h0, x, y, ⟨b1, o1, m1, c1, b2, o2, m2, c2, e, ⟨na, ao, ac, WA, ea, ha.rd, ha.dig, Nat.le_trans ha.le hK, ha.eq⟩, ⟨nb, bo, bc, WB, eb, hb.rd, hb.dig, Nat.le_trans hb.le hK, hb.eq⟩⟩, h2⟩
/-- The call hands back a ratio of the value n over d, open. -/
def RetV (w : World) (n d : Int) (R : Nat) (e : Ending) (w' : World) : Prop := ∃ b1 o1 m1 c1 b2 o2 m2 c2, e = .returned (.agg #[.bool b1, .slice o1 m1 c1, .bool b2, .slice o2 m2 c2]) ∧ Hid (Rv w' (.agg #[.bool b1, .slice o1 m1 c1, .bool b2, .slice o2 m2 c2]) n d R) ∧ Below w.heap.size w w'
theorem retV {w w' : World} {f : Value} {z d n e : Int} {K R : Nat} (h : FrR w w' f (lowN z d) (lowD z d) K) (hd : 0 < d) (he : 0 < e) (hv : z * e = n * d) (hK : K ≤ R) (hb : Below w.heap.size w w') : RetV w n e R (.returned f) w' := by
  have hr := (h.rv hd he hv).mono hK
  obtain ⟨b1, o1, m1, c1, b2, o2, m2, c2, rfl, _, _⟩ := FrR.opened h
  exact ⟨b1, o1, m1, c1, b2, o2, m2, c2, rfl, hid hr, hb⟩

theorem cmp_lt'' {x y : Int} (h : x < y) : cmpI x y = -1 := by unfold cmpI; (repeat' split) <;> omega
theorem cmp_gt'' {x y : Int} (h : y < x) : cmpI x y = 1 := by unfold cmpI; (repeat' split) <;> omega
theorem cmp_scale {r d n e : Int} (hd : 0 < d) (he : 0 < e) (h : r * d = n * e) : cmpI r 0 = cmpI n 0 := by
  rcases Int.lt_trichotomy r 0 with hr | hr | hr
  · have h1 : r * d < 0 := Int.mul_neg_of_neg_of_pos hr hd
    have h2 : n < 0 := by
      rcases Int.lt_or_le n 0 with h' | h'
      · exact h'
      · exfalso; have := Int.mul_nonneg h' (Int.le_of_lt he); omega
    rw [cmp_lt'' hr, cmp_lt'' h2]
  · subst hr
    rw [Int.zero_mul] at h
    rcases Int.mul_eq_zero.1 h.symm with h' | h'
    · rw [h']
    · omega
  · have h1 : 0 < r * d := Int.mul_pos hr hd
    have h2 : 0 < n := by
      rcases Int.lt_or_le 0 n with h' | h'
      · exact h'
      · exfalso
        have := Int.mul_nonneg (show 0 ≤ -n by omega) (Int.le_of_lt he)
        rw [Int.neg_mul] at this
        omega
    rw [cmp_gt'' hr, cmp_gt'' h2]
end Go.Proofs.YtilpkocmdpofpaaGreatDoor

/- (exact.integer).text and exact.Text of any number. -/
namespace Go.Proofs.YtilpkocmdpofpaaGreatDoor
open Go.RowKit

theorem gls_len : ∀ (m n : Nat), n < 10000000000000000000 ^ m → (gls n).length ≤ m
  | 0, n, h => by
    obtain rfl : n = 0 := by simpa using h
    simp [gls_zero]
  | m + 1, n, h => by
    by_cases hn : n = 0
    · subst hn; simp [gls_zero]
    · rw [gls_pos hn, List.length_cons]
      have := gls_len m (n / 10000000000000000000) (by
        rw [Nat.pow_succ] at h
        exact Nat.div_lt_of_lt_mul (by rw [Nat.mul_comm]; exact h))
      omega
theorem decs_len : ∀ (m n : Nat), n < 10 ^ m → (Lib.decDigits n).length ≤ m + 1
  | 0, n, h => by
    obtain rfl : n = 0 := by simpa using h
    simp [dec_small]
  | m + 1, n, h => by
    by_cases hn : n < 10
    · simp [dec_small hn]
    · rw [dec_big hn, List.length_append]
      have := decs_len m (n / 10) (by rw [Nat.pow_succ] at h; omega)
      simp
      omega
theorem b64_pow (K : Nat) : B64 ^ K ≤ ((10000000000000000000 ^ (2 * K) : Nat) : Int) := by
  induction K with
  | zero => simp
  | succ K ih =>
    rw [Int.pow_succ, show 2 * (K + 1) = 2 * K + 1 + 1 by omega, Nat.pow_succ, Nat.pow_succ, Int.natCast_mul, Int.natCast_mul, Int.mul_assoc]
    refine Int.mul_le_mul ih (by unfold B64; decide) (Int.le_of_lt B64_pos) (Int.natCast_nonneg _)
theorem b32_pow (K : Nat) : B32 ^ K ≤ ((10 ^ (10 * K) : Nat) : Int) := by
  induction K with
  | zero => simp
  | succ K ih =>
    rw [Int.pow_succ, show 10 * (K + 1) = 10 * K + 10 by omega, Nat.pow_add, Int.natCast_mul]
    refine Int.mul_le_mul ih (by unfold B32; decide) (by unfold B32; decide) (Int.natCast_nonneg _)
theorem pow_le {B : Int} (hB : 1 ≤ B) : ∀ {a b : Nat}, a ≤ b → B ^ a ≤ B ^ b := by
  intro a b h
  obtain ⟨c, rfl⟩ := Nat.exists_eq_add_of_le h
  clear h
  induction c with
  | zero => exact Int.le_refl _
  | succ c ih =>
    rw [← Nat.add_assoc, Int.pow_succ]
    have h0 : 0 ≤ B ^ (a + c) := Int.le_of_lt (Int.pow_pos (by omega))
    have := Int.mul_le_mul_of_nonneg_left hB h0
    omega
theorem nt_gls {w : World} {v : Value} {y K : Nat} (h : Nt w v (y : Int) K) : (gls y).length ≤ 2 * K := by
  obtain ⟨ao, c, L, rfl, h⟩ := h
  have h1 := val_lt B64_pos h.dig
  have h2 := pow_le (B := B64) (by unfold B64; decide) h.le
  have h3 := b64_pow K
  rw [h.eq] at h1
  exact gls_len _ _ (by omega)
theorem ai_lt {w : World} {v : Value} {z : Int} {K : Nat} (h : Ai w v z K) : z.natAbs < 10 ^ (10 * K) := by
  obtain ⟨neg, ao, c, W, rfl, h⟩ := h
  have h1 := val_lt (by unfold B32; decide) h.dig
  have h0 := val_nonneg (by unfold B32; decide) h.dig
  have h2 := pow_le (B := B32) (by unfold B32; decide) h.le
  have h3 := b32_pow K
  have h4 : (z.natAbs : Int) = val B32 W := by
    rw [h.eq]
    unfold sgn
    split <;> omega
  omega
theorem tx_size {z : Int} {m : Nat} (h : z.natAbs < 10 ^ m) : (tx z).size ≤ m + 2 := by
  have := decs_len m z.natAbs h
  unfold tx
  split
  · simp [ByteArray.size_append]; show 1 + (Lib.decDigits z.natAbs).length ≤ m + 2; omega
  · show (Lib.decDigits z.natAbs).length ≤ m + 2; omega

theorem decimals_nt (y K : Nat) (v : Value) (w : World) (hA : Nt w v (y : Int) K) (hK : K ≤ 40000) (hT : Tab w) :
    Calls Tryz.prog 59 #[v] w fun e w' => e = .returned (.string ⟨(Lib.decDigits y).toArray⟩) ∧ Below w.heap.size w w' :=
  decimals_any y K v w hA (by omega) (by have := nt_gls hA; omega) hT

set_option maxRecDepth 100000 in
set_option maxHeartbeats 1000000 in
theorem text_all (z : Int) (K : Nat) (v : Value) (w : World) (h : It w v z K) (hK : K ≤ 40000) (hs : (tx z).size ≤ 1000000) (hT : Tab w) :
    Calls Tryz.prog 83 #[v] w fun e w' => e = .returned (.string (tx z)) ∧ Below w.heap.size w w' := by
  obtain ⟨xb, xo, xm, xc, rfl, Hx, Hxs, Hxb⟩ := It.opened h
  clear h
  obtain ⟨s, hs0⟩ : ∃ s : ByteArray, s = ⟨(Lib.decDigits z.natAbs).toArray⟩ := ⟨_, rfl⟩
  have HD := hid (fun (w' : World) (hb : Below w.heap.size w w') => by have := decimals_nt z.natAbs K _ w' (by simpa using Hxs.out w' hb) hK (hT.below hb); rw [← hs0] at this; exact this)
  by_cases hz : z < 0
  · obtain rfl : xb = true := by rw [Hxb.out]; exact decide_eq_true hz
    have e : tx z = ⟨#[45]⟩ ++ s := by unfold tx; rw [if_pos hz, hs0]
    rw [e] at hs ⊢
    have hsz : ¬ 9223372036854775807 < 1 + s.size := by
      rw [ByteArray.size_append] at hs
      have : (⟨#[45]⟩ : ByteArray).size = 1 := rfl
      omega
    clear hs0 e hs hT
    have hB0 : Below w.heap.size w (w.alloc (.cells #[.bool true, .slice xo xm xc] 84)) := (Below.refl _ _).alloc (Nat.le_refl _) _
    have HB0 := hid hB0
    clear hB0 hz
    go_enter Tryz.func83, Tryz.ntmps83
    go_wp2_with fail
    refine (HD.out _ HB0.out).mono ?_
    rintro e w1 ⟨rfl, hb1⟩
    go_wp2
    go_ret
    exact ⟨rfl, HB0.out.trans (hb1.mono (by simp))⟩
  · obtain rfl : xb = false := by rw [Hxb.out]; exact decide_eq_false hz
    have e : tx z = s := by unfold tx; rw [if_neg hz, hs0]
    rw [e]
    clear hs0 e hs hT
    have hB0 : Below w.heap.size w (w.alloc (.cells #[.bool false, .slice xo xm xc] 84)) := (Below.refl _ _).alloc (Nat.le_refl _) _
    have HB0 := hid hB0
    clear hB0 hz
    go_enter Tryz.func83, Tryz.ntmps83
    go_wp2_with fail
    refine (HD.out _ HB0.out).mono ?_
    rintro e w1 ⟨rfl, hb1⟩
    go_wp2
    go_ret
    exact ⟨rfl, HB0.out.trans (hb1.mono (by simp))⟩

set_option maxRecDepth 100000 in
set_option maxHeartbeats 1000000 in
theorem Text_all (z : Int) (K : Nat) (v : Value) (w : World) (h : Ai w v z K) (hK : K ≤ 40000) (hT : Tab w) :
    Calls Tryz.prog 23 #[v] w fun e w' => e = .returned (.string (tx z)) ∧ Below w.heap.size w w' := by
  have hs : (tx z).size ≤ 1000000 := by have := tx_size (ai_lt h); omega
  obtain ⟨xb, xo, xm, xc, rfl, Hx⟩ := Ai.opened h
  clear h
  have H0 := hid hs; have HT := hid hT
  obtain ⟨s, hs0⟩ : ∃ s, s = tx z := ⟨_, rfl⟩
  have HX := hid (fun (v' : Value) (w' : World) (hv : It w' v' z ((K + 1) / 2)) (hb : Below w.heap.size w w') => by have := text_all z _ v' w' hv (by omega) H0.out (HT.out.below hb); rw [← hs0] at this; exact this)
  rw [← hs0]
  clear hs hT hs0
  go_enter Tryz.func23, Tryz.ntmps23
  go_wp2_with fail
  refine (read_any _ z K _ (Hx.out _ ((Below.refl _ _).alloc (Nat.le_refl _) _)) (by omega)).mono ?_
  rintro e w1 ⟨v1, rfl, hv1, hb1⟩
  have HB1 := hid (show Below w.heap.size w w1 from ((Below.refl w.heap.size w).alloc (Nat.le_refl _) _).trans (hb1.mono (by simp)))
  clear hb1
  go_wp2_with fail
  refine (HX.out _ _ hv1 HB1.out).mono ?_
  rintro e w2 ⟨rfl, hb2⟩
  go_wp2
  go_ret
  exact ⟨rfl, HB1.out.trans (hb2.mono HB1.out.size)⟩

/-- A value has one fraction in lowest terms. -/
theorem low_uniq {z d n e : Int} (hd : 0 < d) (he : 0 < e) (h : z * e = n * d) : lowN z d = lowN n e ∧ lowD z d = lowD n e := by
  have hD : lowD z d = lowD n e := by
    obtain ⟨D, rfl⟩ : ∃ D : Nat, d = D := ⟨d.toNat, by omega⟩
    obtain ⟨E, rfl⟩ : ∃ E : Nat, e = E := ⟨e.toNat, by omega⟩
    have hn : z.natAbs * E = n.natAbs * D := by
      have := congrArg Int.natAbs h
      simpa [Int.natAbs_mul] using this
    have hg : Nat.gcd z.natAbs D * E = Nat.gcd n.natAbs E * D := by
      rw [← Nat.gcd_mul_right, ← Nat.gcd_mul_right, hn, Nat.mul_comm D E]
    have e1 : Int.gcd (z.natAbs : Int) (D : Int) = Nat.gcd z.natAbs D := rfl
    have e2 : Int.gcd (n.natAbs : Int) (E : Int) = Nat.gcd n.natAbs E := rfl
    unfold lowD
    rw [e1, e2]
    obtain ⟨a, ha⟩ := Nat.gcd_dvd_right z.natAbs D
    obtain ⟨b, hb⟩ := Nat.gcd_dvd_right n.natAbs E
    have g1 : 0 < Nat.gcd z.natAbs D := Nat.gcd_pos_of_pos_right _ (by omega)
    have g2 : 0 < Nat.gcd n.natAbs E := Nat.gcd_pos_of_pos_right _ (by omega)
    have hab : a = b := by
      generalize Nat.gcd z.natAbs D = p at *
      generalize Nat.gcd n.natAbs E = q at *
      have h1 : p * (q * b) = q * (p * a) := by rw [← hb, ← ha]; exact hg
      have h2 : (p * q) * b = (p * q) * a := by rw [Nat.mul_assoc, h1, ← Nat.mul_assoc, Nat.mul_comm q p]
      exact (Nat.eq_of_mul_eq_mul_left (Nat.mul_pos g1 g2) h2).symm
    have q1 : (D : Int) / (Nat.gcd z.natAbs D : Int) = (a : Int) := by
      rw [← Int.natCast_ediv]
      exact congrArg _ (Nat.div_eq_of_eq_mul_right g1 ha)
    have q2 : (E : Int) / (Nat.gcd n.natAbs E : Int) = (b : Int) := by
      rw [← Int.natCast_ediv]
      exact congrArg _ (Nat.div_eq_of_eq_mul_right g2 hb)
    rw [q1, q2, hab]
  refine ⟨?_, hD⟩
  have h1 := (low_val z hd).1
  have h2 := (low_val n he).1
  rw [← hD] at h2
  have h3 : lowN z d * (d * e) = lowN n e * (d * e) := by
    calc lowN z d * (d * e) = (lowN z d * d) * e := by rw [Int.mul_assoc]
      _ = z * e * lowD z d := by rw [h1, Int.mul_assoc, Int.mul_comm (lowD z d) e, ← Int.mul_assoc]
      _ = n * lowD z d * d := by rw [h, Int.mul_assoc, Int.mul_comm d, ← Int.mul_assoc]
      _ = lowN n e * (d * e) := by rw [← h2, Int.mul_assoc, Int.mul_comm e d]
  exact Int.eq_of_mul_eq_mul_right (by have := Int.mul_pos hd he; omega) h3
end Go.Proofs.YtilpkocmdpofpaaGreatDoor

/- exact.Show of ratios whose lowest form has numbers closer to 0 than 100; over and shows of the laws. -/
namespace Go.Proofs.YtilpkocmdpofpaaGreatDoor
open Go.RowKit

theorem tx_len (z : Int) (h : z.natAbs < 100) : (tx z).size ≤ 3 := by
  have := dec_len z.natAbs h
  unfold tx
  split
  · simp [ByteArray.size_append]; show 1 + (Lib.decDigits z.natAbs).length ≤ 3; omega
  · show (Lib.decDigits z.natAbs).length ≤ 3; omega

set_option maxRecDepth 100000 in
set_option maxHeartbeats 1000000 in
theorem Show_whole (v : Value) (x y N : Int) (K : Nat) (w : World) (hv : Ra w v x y K) (hy : y ≠ 0) (hK : K ≤ 1073741820)
    (hN : lowN (sgn (decide (x < 0) != decide (y < 0)) (x.natAbs : Int)) (y.natAbs : Int) = N) (hD : lowD (sgn (decide (x < 0) != decide (y < 0)) (x.natAbs : Int)) (y.natAbs : Int) = 1) (h0 : N ≠ 0) (h1 : N.natAbs < 100) :
    Calls Tryz.prog 17 #[v] w fun e w' => e = .returned (.string (tx N)) ∧ Below w.heap.size w w' := by
  have hRR := fun (w' : World) (hb : Below w.heap.size w w') => readRatio_ne v x y K w' (hv.below hb (Nat.le_refl _)) hy (by omega)
  obtain ⟨xb, xo, xm, xc, yb, yo, ym, yc, rfl, _, _⟩ := Ra.opened hv
  have HRR := hid hRR
  obtain ⟨s1, hs1⟩ : ∃ s1, s1 = tx N := ⟨_, rfl⟩
  have hz1 : s1.size ≤ 3 := by rw [hs1]; exact tx_len N h1
  have HT := hid (fun (v' : Value) (w' : World) (h : Ai w' v' N (2 * ((K + 1) / 2))) => by have := Text_any N _ v' w' h (by omega) h0 h1; rw [← hs1] at this; exact this)
  have H1 := hid (fun (z d : Int) (Kz : Nat) (f : Value) (w' : World) (h : Ft w' f z d Kz) (hd : 0 < d) (hk : Kz ≤ 1073741823) => fracValue_any f z d Kz w' h hd hk)
  rw [← hs1]
  have HO1 := hid (show decide (((1 : Int).natAbs : Int) = 1) = true from rfl)
  have HN := hid hN; have HD := hid hD; have Hy := hid hy
  clear hs1 hRR hv hN hD hy h0
  have hB0 : Below w.heap.size w (w.alloc (.cells #[.bool xb, .slice xo xm xc, .bool yb, .slice yo ym yc] 26)) := (Below.refl _ _).alloc (Nat.le_refl _) _
  have HB0 := hid hB0
  clear hB0
  go_enter Tryz.func17, Tryz.ntmps17
  go_wp2_with fail
  refine (HRR.out _ HB0.out).mono ?_
  rintro e w1 ⟨f, rfl, hf, hb1⟩
  have HB1 := hid (show Below w.heap.size w w1 from HB0.out.trans (hb1.mono (by simp)))
  clear hb1
  go_wp2_with fail
  refine (H1.out _ _ _ _ _ hf (by have := Hy.out; omega) (by omega)).mono ?_
  rintro e w2 ⟨_, rfl, hr, hb2⟩
  rw [HN.out, HD.out] at hr
  obtain ⟨b1, o1, m1, c1, b2, o2, m2, c2, rfl, HR1, HR2⟩ := FrR.opened hr
  have HB2 := hid (show Below w.heap.size w w2 from HB1.out.trans (hb2.mono HB1.out.size))
  clear hr hf hb2
  obtain ⟨W3, hW3⟩ : ∃ W3, W3 = w2.alloc (.cells #[.bool b1, .slice o1 m1 c1, .bool b2, .slice o2 m2 c2] 26) := ⟨_, rfl⟩
  have hal : Below w2.heap.size w2 W3 := by rw [hW3]; exact (Below.refl _ _).alloc (Nat.le_refl _) _
  have HS : Hid (∀ w', Below W3.heap.size W3 w' → w'.cell? ⟨w2.heap.size, 0, none⟩ = some (.bool b1) ∧ w'.cell? ⟨w2.heap.size, 1, none⟩ = some (.slice o1 m1 c1) ∧ w'.cell? ⟨w2.heap.size, 2, none⟩ = some (.bool b2) ∧ w'.cell? ⟨w2.heap.size, 3, none⟩ = some (.slice o2 m2 c2)) := hid (fun w' hb => by
    refine ⟨?_, ?_, ?_, ?_⟩ <;> (rw [hb.cell (by rw [hW3]; simp), hW3]; simp [go_sem]))
  have HAL := hid hal; have HW3 := hid hW3
  clear hal hW3
  go_wp2_with fail
  rw [← HW3.out]
  refine (HT.out _ _ (HR1.out.ai.below HAL.out (Nat.le_refl _))).mono ?_
  rintro e w4 ⟨rfl, hb4⟩
  obtain ⟨k0, k1, k2, k3⟩ := HS.out _ hb4
  have HB4 := hid (show Below w2.heap.size w2 w4 from HAL.out.trans (hb4.mono HAL.out.size))
  clear hb4
  go_wp2_with fail
  refine (read_any _ 1 _ _ (HR2.out.ai.below HB4.out (Nat.le_refl _)) (by omega)).mono ?_
  rintro e w5 ⟨_, rfl, hv5, hb5⟩
  obtain ⟨b5, o5, m5, c5, rfl, H5, H5s, H5b⟩ := It.opened hv5
  have HI := hid (fun w' hb => isOne_any _ _ _ w' (H5s.out w' hb))
  have HB5 := hid (show Below w2.heap.size w2 w5 from HB4.out.trans (hb5.mono HB4.out.size))
  clear hb5 hv5
  have hfld : ∀ w : World, (Instr.field 84 (.agg #[.bool b5, .slice o5 m5 c5]) 1).run Tryz.prog w = .ok (.slice o5 m5 c5) w := fun w => by kernel_rfl
  go_wp2_with fail
  refine (HI.out _ (Below.refl _ _)).mono ?_
  rintro e w6 ⟨rfl, h6⟩
  obtain rfl : w5 = w6 := h6.symm
  rw [HO1.out]
  go_wp2
  go_ret
  exact ⟨rfl, HB2.out.trans (HB5.out.mono HB2.out.size)⟩

set_option maxRecDepth 100000 in
set_option maxHeartbeats 1000000 in
theorem Show_quot (v : Value) (x y N D : Int) (K : Nat) (w : World) (hv : Ra w v x y K) (hy : y ≠ 0) (hK : K ≤ 1073741820)
    (hN : lowN (sgn (decide (x < 0) != decide (y < 0)) (x.natAbs : Int)) (y.natAbs : Int) = N) (hD : lowD (sgn (decide (x < 0) != decide (y < 0)) (x.natAbs : Int)) (y.natAbs : Int) = D) (h0 : N ≠ 0) (h1 : N.natAbs < 100) (d0 : 1 < D) (d1 : D < 100) :
    Calls Tryz.prog 17 #[v] w fun e w' => e = .returned (.string (tx N ++ ⟨#[47]⟩ ++ ⟨(Lib.decDigits D.natAbs).toArray⟩)) ∧ Below w.heap.size w w' := by
  have hRR := fun (w' : World) (hb : Below w.heap.size w w') => readRatio_ne v x y K w' (hv.below hb (Nat.le_refl _)) hy (by omega)
  obtain ⟨xb, xo, xm, xc, yb, yo, ym, yc, rfl, _, _⟩ := Ra.opened hv
  have HRR := hid hRR
  obtain ⟨s1, hs1⟩ : ∃ s1, s1 = tx N := ⟨_, rfl⟩
  have hz1 : s1.size ≤ 3 := by rw [hs1]; exact tx_len N h1
  have HT := hid (fun (v' : Value) (w' : World) (h : Ai w' v' N (2 * ((K + 1) / 2))) => by have := Text_any N _ v' w' h (by omega) h0 h1; rw [← hs1] at this; exact this)
  have H1 := hid (fun (z d : Int) (Kz : Nat) (f : Value) (w' : World) (h : Ft w' f z d Kz) (hd : 0 < d) (hk : Kz ≤ 1073741823) => fracValue_any f z d Kz w' h hd hk)
  rw [← hs1]
  obtain ⟨s2, hs2⟩ : ∃ s2 : ByteArray, s2 = ⟨(Lib.decDigits D.natAbs).toArray⟩ := ⟨_, rfl⟩
  have hz2 : s2.size ≤ 2 := by rw [hs2]; exact dec_len D.natAbs (by omega)
  have hq1 : ¬ 9223372036854775807 < s1.size + 1 := by omega
  have hq2 : ¬ 9223372036854775807 < s1.size + 1 + s2.size := by omega
  have HDD := hid (fun (v' : Value) (w' : World) (Kd : Nat) (h : Nt w' v' (D.natAbs : Int) Kd) => by have := decimals_one D.natAbs Kd v' w' h (by omega) (by omega); rw [← hs2] at this; exact this)
  rw [← hs2]
  have HO1 := hid (show decide ((D.natAbs : Int) = 1) = false from decide_eq_false (by omega))
  have HN := hid hN; have HD := hid hD; have Hy := hid hy
  clear hs1 hs2 hRR hv hN hD hy h0
  have hB0 : Below w.heap.size w (w.alloc (.cells #[.bool xb, .slice xo xm xc, .bool yb, .slice yo ym yc] 26)) := (Below.refl _ _).alloc (Nat.le_refl _) _
  have HB0 := hid hB0
  clear hB0
  go_enter Tryz.func17, Tryz.ntmps17
  go_wp2_with fail
  refine (HRR.out _ HB0.out).mono ?_
  rintro e w1 ⟨f, rfl, hf, hb1⟩
  have HB1 := hid (show Below w.heap.size w w1 from HB0.out.trans (hb1.mono (by simp)))
  clear hb1
  go_wp2_with fail
  refine (H1.out _ _ _ _ _ hf (by have := Hy.out; omega) (by omega)).mono ?_
  rintro e w2 ⟨_, rfl, hr, hb2⟩
  rw [HN.out, HD.out] at hr
  obtain ⟨b1, o1, m1, c1, b2, o2, m2, c2, rfl, HR1, HR2⟩ := FrR.opened hr
  have HB2 := hid (show Below w.heap.size w w2 from HB1.out.trans (hb2.mono HB1.out.size))
  clear hr hf hb2
  obtain ⟨W3, hW3⟩ : ∃ W3, W3 = w2.alloc (.cells #[.bool b1, .slice o1 m1 c1, .bool b2, .slice o2 m2 c2] 26) := ⟨_, rfl⟩
  have hal : Below w2.heap.size w2 W3 := by rw [hW3]; exact (Below.refl _ _).alloc (Nat.le_refl _) _
  have HS : Hid (∀ w', Below W3.heap.size W3 w' → w'.cell? ⟨w2.heap.size, 0, none⟩ = some (.bool b1) ∧ w'.cell? ⟨w2.heap.size, 1, none⟩ = some (.slice o1 m1 c1) ∧ w'.cell? ⟨w2.heap.size, 2, none⟩ = some (.bool b2) ∧ w'.cell? ⟨w2.heap.size, 3, none⟩ = some (.slice o2 m2 c2)) := hid (fun w' hb => by
    refine ⟨?_, ?_, ?_, ?_⟩ <;> (rw [hb.cell (by rw [hW3]; simp), hW3]; simp [go_sem]))
  have HAL := hid hal; have HW3 := hid hW3
  clear hal hW3
  go_wp2_with fail
  rw [← HW3.out]
  refine (HT.out _ _ (HR1.out.ai.below HAL.out (Nat.le_refl _))).mono ?_
  rintro e w4 ⟨rfl, hb4⟩
  obtain ⟨k0, k1, k2, k3⟩ := HS.out _ hb4
  have HB4 := hid (show Below w2.heap.size w2 w4 from HAL.out.trans (hb4.mono HAL.out.size))
  clear hb4
  go_wp2_with fail
  refine (read_any _ D _ _ (HR2.out.ai.below HB4.out (Nat.le_refl _)) (by omega)).mono ?_
  rintro e w5 ⟨_, rfl, hv5, hb5⟩
  obtain ⟨b5, o5, m5, c5, rfl, H5, H5s, H5b⟩ := It.opened hv5
  have HI := hid (fun w' hb => isOne_any _ _ _ w' (H5s.out w' hb))
  have HB5 := hid (show Below w2.heap.size w2 w5 from HB4.out.trans (hb5.mono HB4.out.size))
  clear hb5 hv5
  have hfld : ∀ w : World, (Instr.field 84 (.agg #[.bool b5, .slice o5 m5 c5]) 1).run Tryz.prog w = .ok (.slice o5 m5 c5) w := fun w => by kernel_rfl
  go_wp2_with fail
  refine (HI.out _ (Below.refl _ _)).mono ?_
  rintro e w6 ⟨rfl, h6⟩
  obtain rfl : w5 = w6 := h6.symm
  rw [HO1.out]
  go_wp2_with fail
  refine (HDD.out _ _ _ (H5s.out _ (Below.refl _ _))).mono ?_
  rintro e w7 ⟨rfl, hb7⟩
  go_wp2
  go_ret
  exact ⟨rfl, (HB2.out.trans (HB5.out.mono HB2.out.size)).trans (hb7.mono (HB2.out.trans (HB5.out.mono HB2.out.size)).size)⟩
end Go.Proofs.YtilpkocmdpofpaaGreatDoor

/- exact.Cmp. Written by gen_cmp.py. -/
namespace Go.Proofs.YtilpkocmdpofpaaGreatDoor
open Go.RowKit

theorem It.keeps {z : Int} {K : Nat} (w w' : World) (v : Value) (hk : Keeps .u64 w w') (h : It w v z K) : It w' v z K := by
  obtain ⟨s, rfl, ao, c, L, rfl, h⟩ := h
  exact ⟨_, rfl, ao, c, L, rfl, h.rd.keeps hk, h.dig, h.nrm, h.eq, h.le⟩
theorem cmp_same (x y : Int) (h : cmpI x 0 = cmpI y 0) : cmpI x y = cmpI x 0 * cmpI (x.natAbs : Int) (y.natAbs : Int) := by
  rcases Int.lt_trichotomy x 0 with h1 | h1 | h1 <;> rcases Int.lt_trichotomy y 0 with h2 | h2 | h2
  all_goals first | (exfalso; revert h; simp [cmpI_lt, cmpI_gt, cmpI_self, *]; done) | skip
  · rw [cmpI_lt h1]; unfold cmpI; split <;> split <;> (try split) <;> (try split) <;> omega
  · subst h1 h2; rfl
  · rw [cmpI_gt h1]; unfold cmpI; split <;> split <;> (try split) <;> (try split) <;> omega
theorem cmp_other (x y : Int) (h : cmpI x 0 ≠ cmpI y 0) : cmpI x y = cmpI (cmpI x 0) (cmpI y 0) := by
  unfold cmpI at *
  split at h <;> split at h <;> (try split at h) <;> (try split at h) <;> (repeat split) <;> omega

end Go.Proofs.YtilpkocmdpofpaaGreatDoor

/- The contracts of the integers' operations in one form, for the outright laws; equal of the laws. -/
namespace Go.Proofs.YtilpkocmdpofpaaGreatDoor
open Go.RowKit

theorem Ai.mono {w : World} {v : Value} {z : Int} {K K' : Nat} (h : Ai w v z K) (hK : K ≤ K') : Ai w v z K' := by
  obtain ⟨neg, ao, c, W, rfl, h⟩ := h
  exact ⟨neg, ao, c, W, rfl, h.rd, h.dig, Nat.le_trans h.le hK, h.eq⟩

/-- The call hands back an integer, open. -/
def RetZI (w : World) (z : Int) (R : Nat) (e : Ending) (w' : World) : Prop := ∃ b o m c, e = .returned (.agg #[.bool b, .slice o m c]) ∧ Hid (Ai w' (.agg #[.bool b, .slice o m c]) z R) ∧ Below w.heap.size w w'
theorem RetA.zi {w : World} {z : Int} {K R : Nat} (hK : K ≤ R) {e : Ending} {w' : World} (h : RetA w z K e w') : RetZI w z R e w' := by
  obtain ⟨v, rfl, hv, hb⟩ := h
  obtain ⟨b, o, m, c, rfl, H⟩ := FrA.opened hv
  exact ⟨b, o, m, c, rfl, hid (H.out.ai.mono hK), hb⟩
end Go.Proofs.YtilpkocmdpofpaaGreatDoor

/- Small lemmas of ratios in lowest terms. -/
namespace Go.Proofs.YtilpkocmdpofpaaGreatDoor
open Go.RowKit

theorem low_small (z : Int) {d : Int} (hd : 0 < d) : lowD z d ≤ d ∧ lowN z d * lowN z d ≤ z * z := by
  unfold lowD lowN
  constructor
  · exact Int.ediv_le_self _ (Int.le_of_lt hd)
  · have h1 : (z.natAbs : Int) / (Int.gcd (z.natAbs : Int) d : Int) ≤ (z.natAbs : Int) := Int.ediv_le_self _ (by omega)
    have h0 : 0 ≤ (z.natAbs : Int) / (Int.gcd (z.natAbs : Int) d : Int) := Int.ediv_nonneg (by omega) (by omega)
    have h2 := Int.mul_le_mul h1 h1 h0 (by omega)
    have h3 : (z.natAbs : Int) * (z.natAbs : Int) = z * z := by rw [← Int.natCast_mul, Int.natAbs_mul_self]
    rw [h3] at h2
    have h4 : ∀ (b : Bool) (t : Int), sgn b t * sgn b t = t * t := by
      intro b t
      cases b
      · rfl
      · exact Int.neg_mul_neg t t
    rw [h4]
    exact h2
theorem Ra.mono {w : World} {v : Value} {x y : Int} {K K' : Nat} (h : Ra w v x y K) (hK : K ≤ K') : Ra w v x y K' := by
  obtain ⟨b1, o1, m1, c1, b2, o2, m2, c2, e, h1, h2⟩ := h
  exact ⟨b1, o1, m1, c1, b2, o2, m2, c2, e, h1.mono hK, h2.mono hK⟩
end Go.Proofs.YtilpkocmdpofpaaGreatDoor
