/- alive of the outright laws: true. The contracts of the integers' operations in one form, for the outright laws; equal of the laws. The law ExactRing, its walk. Written by gen_ring.py. Contracts of Div, Gcd and Of in one form; the numbers of the law ExactDivision. -/
import Derived.Test.YtilpkocmdpofpaaGreatDoorSq40
import Derived.Test.YtilpkocmdpofpaaGreatDoorSq30
import Derived.Test.YtilpkocmdpofpaaGreatDoorSq33
import Derived.Test.YtilpkocmdpofpaaGreatDoorSq12
import Derived.Test.YtilpkocmdpofpaaGreatDoorSq19
import Derived.Test.YtilpkocmdpofpaaGreatDoorSq26
import Derived.Test.YtilpkocmdpofpaaGreatDoorSq17
/- alive of the outright laws: true. -/
namespace Go.Proofs.YtilpkocmdpofpaaGreatDoor
open Go.RowKit

theorem tx4 : tx (-4) = ⟨#[45, 52]⟩ := by
  unfold tx
  rw [if_pos (by decide), show (-4 : Int).natAbs = 4 from rfl, Lib.decDigits, dif_pos (by decide)]
  rfl
theorem tx1 : tx (-1) = ⟨#[45, 49]⟩ := by
  unfold tx
  rw [if_pos (by decide), show (-1 : Int).natAbs = 1 from rfl, Lib.decDigits, dif_pos (by decide)]
  rfl
theorem tx32 : tx (-3) ++ ⟨#[47]⟩ ++ ⟨(Lib.decDigits (2 : Int).natAbs).toArray⟩ = ⟨#[45, 51, 47, 50]⟩ := by
  unfold tx
  rw [if_pos (by decide), show (-3 : Int).natAbs = 3 from rfl, show (2 : Int).natAbs = 2 from rfl, Lib.decDigits, dif_pos (by decide), Lib.decDigits, dif_pos (by decide)]
  rfl
theorem lw1 : lowN (sgn (decide ((6 : Int) < 0) != decide ((-4 : Int) < 0)) ((6 : Int).natAbs : Int)) ((-4 : Int).natAbs : Int) = -3 ∧ lowD (sgn (decide ((6 : Int) < 0) != decide ((-4 : Int) < 0)) ((6 : Int).natAbs : Int)) ((-4 : Int).natAbs : Int) = 2 := ⟨by kernel_rfl, by kernel_rfl⟩
theorem lw2 : lowN (sgn (decide ((-3 : Int) < 0) != decide ((2 : Int) < 0)) ((-3 : Int).natAbs : Int)) ((2 : Int).natAbs : Int) = -3 ∧ lowD (sgn (decide ((-3 : Int) < 0) != decide ((2 : Int) < 0)) ((-3 : Int).natAbs : Int)) ((2 : Int).natAbs : Int) = 2 := ⟨by kernel_rfl, by kernel_rfl⟩
theorem lw3 : lowN (sgn (decide ((1 : Int) < 0) != decide ((2 : Int) < 0)) ((1 : Int).natAbs : Int)) ((2 : Int).natAbs : Int) = 1 ∧ lowD (sgn (decide ((1 : Int) < 0) != decide ((2 : Int) < 0)) ((1 : Int).natAbs : Int)) ((2 : Int).natAbs : Int) = 2 := ⟨by kernel_rfl, by kernel_rfl⟩
theorem lw4 : lowN (sgn (decide ((-1 : Int) < 0) != decide ((1 : Int) < 0)) ((-1 : Int).natAbs : Int)) ((1 : Int).natAbs : Int) = -1 ∧ lowD (sgn (decide ((-1 : Int) < 0) != decide ((1 : Int) < 0)) ((-1 : Int).natAbs : Int)) ((1 : Int).natAbs : Int) = 1 := ⟨by kernel_rfl, by kernel_rfl⟩
theorem lw5 : lowN (sgn (decide ((-3 : Int) < 0) != decide ((2 : Int) < 0)) ((-3 : Int).natAbs : Int) + sgn (decide ((1 : Int) < 0) != decide ((2 : Int) < 0)) ((1 : Int).natAbs : Int)) ((2 : Int).natAbs : Int) = -1 ∧ lowD (sgn (decide ((-3 : Int) < 0) != decide ((2 : Int) < 0)) ((-3 : Int).natAbs : Int) + sgn (decide ((1 : Int) < 0) != decide ((2 : Int) < 0)) ((1 : Int).natAbs : Int)) ((2 : Int).natAbs : Int) = 1 := ⟨by kernel_rfl, by kernel_rfl⟩
theorem dv1 : Int.fdiv 7 (-2) = -4 ∧ Int.fmod 7 (-2) = -1 := ⟨by decide, by decide⟩

/-- The contracts that alive's walk uses, at its numbers. -/
theorem al_div (u v : Value) (w : World) (hu : Ai w u 7 2) (hv : Ai w v (-2) 2) : Calls Tryz.prog 21 #[u, v] w (RetAA w (-4) (-1) 6 2 0) := by
  have h := Div_any u v 7 (-2) 2 w hu hv (by decide) (by omega)
  rw [dv1.1, dv1.2] at h
  exact h
theorem al_over (w : World) : Calls Tryz.prog 27 #[.int .i64 6, .int .i64 (-4)] w (RetR w (-3) 2 2) := by
  have h := lover_any 6 (-4) w (by omega) (by omega) (by omega) (by omega) (by decide)
  rw [lw1.1, lw1.2] at h
  exact h
theorem al_over2 (w : World) : Calls Tryz.prog 27 #[.int .i64 1, .int .i64 2] w (RetR w 1 2 2) := by
  have h := lover_any 1 2 w (by omega) (by omega) (by omega) (by omega) (by decide)
  rw [lw3.1, lw3.2] at h
  exact h
theorem al_text4 (v : Value) (w : World) (h : Ai w v (-4) 6) : Calls Tryz.prog 23 #[v] w fun e w' => e = .returned (.string ⟨#[45, 52]⟩) ∧ Below w.heap.size w w' := by
  have h := Text_any (-4) 6 v w h (by omega) (by decide) (by decide)
  rw [tx4] at h
  exact h
theorem al_text1 (v : Value) (w : World) (h : Ai w v (-1) 2) : Calls Tryz.prog 23 #[v] w fun e w' => e = .returned (.string ⟨#[45, 49]⟩) ∧ Below w.heap.size w w' := by
  have h := Text_any (-1) 2 v w h (by omega) (by decide) (by decide)
  rw [tx1] at h
  exact h
theorem al_shows (v : Value) (w : World) (h : Ra w v (-3) 2 2) : Calls Tryz.prog 25 #[v, .string ⟨#[45, 51, 47, 50]⟩] w fun e w' => e = .returned (.bool true) ∧ Below w.heap.size w w' :=
  shows_quot v (-3) 2 (-3) 2 2 _ w h (by decide) (by omega) lw2.1 lw2.2 (by decide) (by decide) (by decide) (by decide) tx32
theorem al_plus (u v : Value) (w : World) (hu : Ra w u (-3) 2 2) (hv : Ra w v 1 2 2) : Calls Tryz.prog 35 #[u, v] w (RetR w (-1) 1 4) := by
  have h := Plus_same u v (-3) 2 1 2 2 w hu hv (by decide) (by decide) rfl (by omega)
  rw [lw5.1, lw5.2] at h
  exact h
theorem al_shows1 (v : Value) (w : World) (h : Ra w v (-1) 1 4) : Calls Tryz.prog 25 #[v, .string ⟨#[45, 49]⟩] w fun e w' => e = .returned (.bool true) ∧ Below w.heap.size w w' :=
  shows_whole v (-1) 1 (-1) 4 _ w h (by decide) (by omega) lw4.1 lw4.2 (by decide) (by decide) tx1

set_option maxRecDepth 100000 in
set_option maxHeartbeats 1000000 in
theorem alive_any (w : World) : Calls Tryz.prog 33 #[] w fun e w' => e = .returned (.bool true) ∧ Below w.heap.size w w' := by
  go_enter Tryz.func33, Tryz.ntmps33
  go_wp2_with fail
  refine (of_any 7 _ (by omega) (by omega)).mono ?_
  rintro e w1 ⟨_, rfl, hv1, hb1⟩
  obtain ⟨b1, o1, m1, c1, rfl, H1⟩ := FrA.opened hv1
  clear hv1
  go_wp2_with fail
  refine (of_any (-2) _ (by omega) (by omega)).mono ?_
  rintro e w2 ⟨_, rfl, hv2, hb2⟩
  obtain ⟨b2, o2, m2, c2, rfl, H2⟩ := FrA.opened hv2
  clear hv2
  have HB2 := hid (show Below w.heap.size w w2 from hb1.trans (hb2.mono hb1.size))
  have hA1 := hid (H1.out.ai.below hb2 (Nat.le_refl _))
  clear hb1 hb2
  go_wp2_with fail
  refine (al_div _ _ _ hA1.out H2.out.ai).mono ?_
  rintro e w3 ⟨_, _, rfl, hq, hr, hb3⟩
  obtain ⟨qb, qo, qm, qc, rfl, HQ⟩ := FrA.opened hq
  obtain ⟨rb, ro, rm, rc, rfl, HR⟩ := FrA.opened hr
  have HB3 := hid (show Below w.heap.size w w3 from HB2.out.trans (hb3.mono HB2.out.size))
  clear hq hr hb3
  go_upto_region 2 with (fail)
  obtain ⟨W4, hW4⟩ : ∃ W4, W4 = ((w3.alloc (.cells #[.bool qb, .slice qo qm qc] 24)).alloc (.cells #[.bool rb, .slice ro rm rc] 24)) := ⟨_, rfl⟩
  have hb4 : Below w3.heap.size w3 W4 := by rw [hW4]; exact ((Below.refl _ _).alloc (Nat.le_refl _) _).alloc (by simp) _
  have hz4 : W4.heap.size = w3.heap.size + 2 := by rw [hW4]; simp
  have HS : Hid (∀ w', Below W4.heap.size W4 w' → w'.cell? ⟨w3.heap.size, 0, none⟩ = some (.bool qb) ∧ w'.cell? ⟨w3.heap.size, 1, none⟩ = some (.slice qo qm qc) ∧ w'.cell? ⟨w3.heap.size + 1, 0, none⟩ = some (.bool rb) ∧ w'.cell? ⟨w3.heap.size + 1, 1, none⟩ = some (.slice ro rm rc)) := hid (fun w' hb => by
    refine ⟨?_, ?_, ?_, ?_⟩ <;> (rw [hb.cell (by rw [hz4]; simp), hW4]; simp [go_sem]))
  have HB4 := hid (show Below w.heap.size w W4 from HB3.out.trans (hb4.mono HB3.out.size))
  have hQ4 := hid (HQ.out.ai.below hb4 (Nat.le_refl _)); have hR4 := hid (HR.out.ai.below hb4 (Nat.le_refl _))
  have HW4 := hid hW4; have Hz4 := hid hz4
  clear hW4 hb4 hz4
  rw [← HW4.out]
  go_wp2_with fail
  refine (al_over _).mono ?_
  rintro e w5 ⟨_, rfl, hl, hb5⟩
  obtain ⟨lb, lo, lm, lc, kb, ko, km, kc, rfl, HL, HK⟩ := FrR.opened hl
  have hl5 := FrR.ra hl
  obtain ⟨W6, hW6⟩ : ∃ W6, W6 = w5.alloc (.cells #[.bool lb, .slice lo lm lc, .bool kb, .slice ko km kc] 26) := ⟨_, rfl⟩
  have hb6 : Below w5.heap.size w5 W6 := by rw [hW6]; exact (Below.refl _ _).alloc (Nat.le_refl _) _
  have hz6 : W6.heap.size = w5.heap.size + 1 := by rw [hW6]; simp
  have hX6 : Below W4.heap.size W4 W6 := hb5.trans (hb6.mono hb5.size)
  have HS6 : Hid (∀ w', Below W6.heap.size W6 w' → w'.cell? ⟨w3.heap.size, 0, none⟩ = some (.bool qb) ∧ w'.cell? ⟨w3.heap.size, 1, none⟩ = some (.slice qo qm qc) ∧ w'.cell? ⟨w3.heap.size + 1, 0, none⟩ = some (.bool rb) ∧ w'.cell? ⟨w3.heap.size + 1, 1, none⟩ = some (.slice ro rm rc) ∧ w'.cell? ⟨w5.heap.size, 0, none⟩ = some (.bool lb) ∧ w'.cell? ⟨w5.heap.size, 1, none⟩ = some (.slice lo lm lc) ∧ w'.cell? ⟨w5.heap.size, 2, none⟩ = some (.bool kb) ∧ w'.cell? ⟨w5.heap.size, 3, none⟩ = some (.slice ko km kc)) := hid (fun w' hb => by
    obtain ⟨s0, s1, s2, s3⟩ := HS.out _ (hX6.trans (hb.mono hX6.size))
    refine ⟨s0, s1, s2, s3, ?_, ?_, ?_, ?_⟩ <;> (rw [hb.cell (by rw [hz6]; simp), hW6]; simp [go_sem]))
  have HB6 := hid (show Below w.heap.size w W6 from HB4.out.trans (hX6.mono HB4.out.size))
  have HQ6 := hid (fun (w' : World) (hb : Below W6.heap.size W6 w') => al_text4 _ w' ((hQ4.out.below hX6 (Nat.le_refl _)).below hb (Nat.le_refl _)))
  have HR6 := hid (fun (w' : World) (hb : Below W6.heap.size W6 w') => al_text1 _ w' ((hR4.out.below hX6 (Nat.le_refl _)).below hb (Nat.le_refl _)))
  have HL6 := hid (fun (w' : World) (hb : Below W6.heap.size W6 w') => (hl5.below hb6 (Nat.le_refl _)).below hb (Nat.le_refl _))
  have HW6 := hid hW6
  clear hW6 hb6 hz6 hX6 hl hl5 hb5
  go_upto_region 3 with (fail)
  rw [← HW6.out]
  go_region_held3 (fun w' => w'.cell? ⟨w3.heap.size, 0, none⟩ = some (.bool qb) ∧ w'.cell? ⟨w3.heap.size, 1, none⟩ = some (.slice qo qm qc) ∧ w'.cell? ⟨w3.heap.size + 1, 0, none⟩ = some (.bool rb) ∧ w'.cell? ⟨w3.heap.size + 1, 1, none⟩ = some (.slice ro rm rc) ∧ w'.cell? ⟨w5.heap.size, 0, none⟩ = some (.bool lb) ∧ w'.cell? ⟨w5.heap.size, 1, none⟩ = some (.slice lo lm lc) ∧ w'.cell? ⟨w5.heap.size, 2, none⟩ = some (.bool kb) ∧ w'.cell? ⟨w5.heap.size, 3, none⟩ = some (.slice ko km kc)) ((refine HS6.out _ ?_; repeat (first | assumption | exact Below.refl _ _ | exact (Below.refl _ _).drew | exact Below.drew (by assumption)))) (first
    | (go_at_call_of 23 (qo); refine (HQ6.out _ (Below.refl _ _).drew).mono ?_; rintro e w7 ⟨rfl, hb7⟩; have hX7 : Below W6.heap.size W6 w7 := (Below.refl _ _).drew.trans hb7)
    | (go_at_call_of 23 (ro); refine (HR6.out _ hX7).mono ?_; rintro e w8 ⟨rfl, hb8⟩; have hX8 : Below W6.heap.size W6 w8 := hX7.trans (hb8.mono hX7.size))
    | (go_at_call_of 25 (lo); refine (al_shows _ _ (HL6.out _ hX8)).mono ?_; rintro e w9 ⟨rfl, hb9⟩; have hX9 : Below W6.heap.size W6 w9 := hX8.trans (hb9.mono hX8.size))
    | (go_at_call 27; refine (al_over2 _).mono ?_; rintro e w10 ⟨_, rfl, hl10, hb10⟩; obtain ⟨tb, t_o, tm, tc, ub, uo, um, uc, rfl, _, _⟩ := FrR.opened hl10; have hX10 : Below W6.heap.size W6 w10 := hX9.trans (hb10.mono hX9.size))
    | (go_at_call 35; refine (al_plus _ _ _ (HL6.out _ hX10) (FrR.ra hl10)).mono ?_; rintro e w11 ⟨_, rfl, hl11, hb11⟩; obtain ⟨sb, so, sm, sc, vb, vo, vm, vc, rfl, _, _⟩ := FrR.opened hl11; have hX11 : Below W6.heap.size W6 w11 := hX10.trans (hb11.mono hX10.size))
    | (go_at_call_of 25 (so); refine (al_shows1 _ _ (FrR.ra hl11)).mono ?_; rintro e w12 ⟨rfl, hb12⟩; have hX12 : Below W6.heap.size W6 w12 := hX11.trans (hb12.mono hX11.size)))
  go_wp2
  go_ret
  exact ⟨rfl, HB6.out.trans (hX12.mono HB6.out.size)⟩
end Go.Proofs.YtilpkocmdpofpaaGreatDoor

/- The contracts of the integers' operations in one form, for the outright laws; equal of the laws. -/
namespace Go.Proofs.YtilpkocmdpofpaaGreatDoor
open Go.RowKit

theorem Ai.mono {w : World} {v : Value} {z : Int} {K K' : Nat} (h : Ai w v z K) (hK : K ≤ K') : Ai w v z K' := by
  obtain ⟨neg, ao, c, W, rfl, h⟩ := h
  exact ⟨neg, ao, c, W, rfl, h.rd, h.dig, Nat.le_trans h.le hK, h.eq⟩

/-- The call hands back an integer, open. -/
def RetZI (w : World) (z : Int) (R : Nat) (e : Ending) (w' : World) : Prop := ∃ b o m c, e = .returned (.agg #[.bool b, .slice o m c]) ∧ Hid (Ai w' (.agg #[.bool b, .slice o m c]) z R) ∧ Below w.heap.size w w'
theorem RetA.zi {w : World} {z : Int} {K R : Nat} (hK : K ≤ R) {e : Ending} {w' : World} (h : RetA w z K e w') : RetZI w z R e w' := by
  obtain ⟨v, rfl, hv, hb⟩ := h
  obtain ⟨b, o, m, c, rfl, H⟩ := FrA.opened hv
  exact ⟨b, o, m, c, rfl, hid (H.out.ai.mono hK), hb⟩
theorem mul_z (u v : Value) (x y z : Int) (Ka Kb R : Nat) (w : World) (hu : Ai w u x Ka) (hv : Ai w v y Kb) (hz : x * y = z) (hA : Ka ≤ 157) (hB : Kb ≤ 157) (hR : Ka + Kb + 2 ≤ R) : Calls Tryz.prog 43 #[u, v] w (RetZI w z R) := by
  subst hz
  exact (Mul_short u v x y Ka Kb 158 w hu hv (by omega) (by omega) (by omega)).mono fun e w' h => h.zi (by omega)
theorem cmp_z (u v : Value) (x y t : Int) (K : Nat) (w : World) (hu : Ai w u x K) (hv : Ai w v y K) (ht : cmpI x y = t) (hK : K ≤ 1000) : Calls Tryz.prog 48 #[u, v] w fun e w' => e = .returned (.int .i64 t) ∧ Below w.heap.size w w' := by
  subst ht
  exact Cmp_any u v x y K K w hu hv (by omega) (by omega)
theorem sign_z (u : Value) (x t : Int) (K : Nat) (w : World) (hu : Ai w u x K) (ht : cmpI x 0 = t) (hK : K ≤ 1000) : Calls Tryz.prog 42 #[u] w fun e w' => e = .returned (.int .i64 t) ∧ Below w.heap.size w w' := by
  subst ht
  exact Sign_any u x K w hu (by omega)

set_option maxRecDepth 100000 in
set_option maxHeartbeats 1000000 in
theorem equal_z (u v : Value) (x y : Int) (K : Nat) (w : World) (hu : Ai w u x K) (hv : Ai w v y K) (hxy : x = y) (hK : K ≤ 1000) : Calls Tryz.prog 44 #[u, v] w fun e w' => e = .returned (.bool true) ∧ Below w.heap.size w w' := by
  have HC := hid (fun (w' : World) (hb : Below w.heap.size w w') => cmp_z u v x y 0 K w' (hu.below hb (Nat.le_refl _)) (hv.below hb (Nat.le_refl _)) (by rw [hxy]; unfold cmpI; simp) hK)
  obtain ⟨ab, ao, am, ac, rfl, _⟩ := Ai.opened hu
  obtain ⟨bb, bo, bm, bc, rfl, _⟩ := Ai.opened hv
  clear hu hv hxy
  have HB0 := hid (show Below w.heap.size w ((w.alloc (.cells #[.bool ab, .slice ao am ac] 24)).alloc (.cells #[.bool bb, .slice bo bm bc] 24)) from ((Below.refl _ _).alloc (Nat.le_refl _) _).alloc (by simp) _)
  go_enter Tryz.func44, Tryz.ntmps44
  go_wp2_with fail
  refine (HC.out _ HB0.out).mono ?_
  rintro e w1 ⟨rfl, hb1⟩
  go_wp2
  go_ret
  exact ⟨rfl, HB0.out.trans (hb1.mono HB0.out.size)⟩
end Go.Proofs.YtilpkocmdpofpaaGreatDoor

/- The law ExactRing, its walk. Written by gen_ring.py. -/
namespace Go.Proofs.YtilpkocmdpofpaaGreatDoor
open Go.RowKit

theorem cmp_lt' {x y : Int} (h : x < y) : cmpI x y = -1 := by unfold cmpI; (repeat' split) <;> omega
theorem cmp_gt' {x y : Int} (h : y < x) : cmpI x y = 1 := by unfold cmpI; (repeat' split) <;> omega
theorem cmp_eq' (x : Int) : cmpI x x = 0 := by unfold cmpI; simp
theorem cmp_shift (x y z : Int) : cmpI (x + z) (y + z) = cmpI x y := by
  rcases Int.lt_trichotomy x y with h | h | h
  · rw [cmp_lt' h, cmp_lt' (by omega)]
  · subst h; rw [cmp_eq', cmp_eq']
  · rw [cmp_gt' h, cmp_gt' (by omega)]
theorem cmp_turn (x y : Int) : cmpI y x = -cmpI x y := by
  rcases Int.lt_trichotomy x y with h | h | h
  · rw [cmp_lt' h, cmp_gt' h]; rfl
  · subst h; rw [cmp_eq']; rfl
  · rw [cmp_gt' h, cmp_lt' h]
theorem cmp_times (x y z : Int) : cmpI (x * z) (y * z) = cmpI x y * cmpI z 0 := by
  rcases Int.lt_trichotomy z 0 with hz | hz | hz
  · rw [cmp_lt' hz]
    rcases Int.lt_trichotomy x y with h | h | h
    · rw [cmp_lt' h, cmp_gt' (Int.mul_lt_mul_of_neg_right h hz)]; rfl
    · subst h; rw [cmp_eq', cmp_eq']; rfl
    · rw [cmp_gt' h, cmp_lt' (Int.mul_lt_mul_of_neg_right h hz)]; rfl
  · subst hz
    rw [Int.mul_zero, Int.mul_zero, cmp_eq', Int.mul_zero]
  · rw [cmp_gt' hz]
    rcases Int.lt_trichotomy x y with h | h | h
    · rw [cmp_lt' h, cmp_lt' (Int.mul_lt_mul_of_pos_right h hz)]; rfl
    · subst h; rw [cmp_eq', cmp_eq']; rfl
    · rw [cmp_gt' h, cmp_gt' (Int.mul_lt_mul_of_pos_right h hz)]; rfl
theorem cmp_range (x y : Int) : cmpI x y = -1 ∨ cmpI x y = 0 ∨ cmpI x y = 1 := by
  rcases Int.lt_trichotomy x y with h | h | h
  · exact Or.inl (cmp_lt' h)
  · subst h; exact Or.inr (Or.inl (cmp_eq' x))
  · exact Or.inr (Or.inr (cmp_gt' h))

end Go.Proofs.YtilpkocmdpofpaaGreatDoor

/- Contracts of Div, Gcd and Of in one form; the numbers of the law ExactDivision. -/
namespace Go.Proofs.YtilpkocmdpofpaaGreatDoor
open Go.RowKit

theorem bl_alloc {a w : World} (h : Below a.heap.size a w) (o : Obj) : Below a.heap.size a (w.alloc o) := h.alloc h.size o
theorem bl_drew {a w : World} (h : Below a.heap.size a w) : Below a.heap.size a w.drew := h.drew
theorem bl_trans {a b c : World} (h : Below a.heap.size a b) (k : Below b.heap.size b c) : Below a.heap.size a c := h.trans (k.mono h.size)

/-- The call hands back two integers, open, and an error. -/
def RetZZI (w : World) (q r err : Int) (Rq Rr : Nat) (e : Ending) (w' : World) : Prop := ∃ b o m c b2 o2 m2 c2, e = .returned (.tuple #[.agg #[.bool b, .slice o m c], .agg #[.bool b2, .slice o2 m2 c2], .int .i64 err]) ∧ Hid (Ai w' (.agg #[.bool b, .slice o m c]) q Rq) ∧ Hid (Ai w' (.agg #[.bool b2, .slice o2 m2 c2]) r Rr) ∧ Below w.heap.size w w'
theorem div_z (u v : Value) (x y q r : Int) (K R : Nat) (w : World) (hu : Ai w u x K) (hv : Ai w v y K) (hy : y ≠ 0) (hq : x.fdiv y = q) (hr : x.fmod y = r) (hK : K ≤ 1000) (hR : K + 5 ≤ R) : Calls Tryz.prog 21 #[u, v] w (RetZZI w q r 0 R R) := by
  subst hq; subst hr
  refine (Div_any u v x y K w hu hv hy (by omega)).mono ?_
  rintro e w' ⟨v1, v2, rfl, h1, h2, hb⟩
  obtain ⟨b, o, m, c, rfl, H1⟩ := FrA.opened h1
  obtain ⟨b2, o2, m2, c2, rfl, H2⟩ := FrA.opened h2
  exact ⟨b, o, m, c, b2, o2, m2, c2, rfl, hid (H1.out.ai.mono (by omega)), hid (H2.out.ai.mono (by omega)), hb⟩
theorem ai_nil (w : World) (K : Nat) : Ai w (.agg #[.bool false, .slice none 0 0]) 0 K := ⟨false, none, 0, [], rfl, Rd.nil _ _, fun _ h => (nomatch h), Nat.zero_le _, rfl⟩
theorem div_z0 (u v : Value) (x : Int) (K R : Nat) (w : World) (hu : Ai w u x K) (hv : Ai w v 0 K) (hK : K ≤ 1000) : Calls Tryz.prog 21 #[u, v] w (RetZZI w 0 0 10 R R) := by
  refine (Div_zero u v x K w hu hv (by omega)).mono ?_
  rintro e w' ⟨rfl, hb⟩
  exact ⟨_, _, _, _, _, _, _, _, rfl, hid (ai_nil _ _), hid (ai_nil _ _), hb⟩
theorem of_z (t : Int) (w : World) (h0 : -1 ≤ t) (h1 : t ≤ 1) : Calls Tryz.prog 22 #[.int .i64 t] w (RetZI w t 2) :=
  (of_any t w (by omega) (by omega)).mono fun e w' h => h.zi (Nat.le_refl _)

theorem fmod_pos {x y : Int} (h : 0 < y) : 0 ≤ x.fmod y ∧ x.fmod y < y := by
  rw [Int.fmod_eq_emod_of_nonneg x (by omega)]
  exact ⟨Int.emod_nonneg _ (by omega), Int.emod_lt_of_pos _ h⟩
theorem fmod_neg' {x y : Int} (h : y < 0) : x.fmod y ≤ 0 ∧ y < x.fmod y := by
  have e := Int.neg_fmod_neg x y
  have := fmod_pos (x := -x) (y := -y) (by omega)
  omega

/-- The numbers of the law where the divisor is not 0. -/
structure DivN (x y z q r s t4 X Y g : Int) : Prop where
  dq : x.fdiv y = q
  dr : x.fmod y = r
  s0 : cmpI y 0 = s
  s1 : -1 ≤ s
  s2 : s ≤ 1
  back : q * y + r = x
  rs : cmpI (r * s) 0 = t4
  t0 : 0 ≤ t4
  lt : cmpI (r * s) (y * s) = -1
  X0 : x * z = X
  Y0 : y * z = Y
  g0 : (Int.gcd X Y : Int) = g
theorem divN (x y z : Int) (hy : y ≠ 0) : ∃ q r s t4 X Y g, DivN x y z q r s t4 X Y g := by
  refine ⟨x.fdiv y, x.fmod y, cmpI y 0, cmpI (x.fmod y * cmpI y 0) 0, x * z, y * z, _, rfl, rfl, rfl, (cmpI_bd y 0).1, (cmpI_bd y 0).2, ?_, rfl, ?_, ?_, rfl, rfl, rfl⟩
  · have := Int.mul_fdiv_add_fmod x y
    rw [Int.mul_comm] at this
    exact this
  · rcases Int.lt_or_lt_of_ne hy with h | h
    · have h1 := (fmod_neg' (x := x) h).1
      rw [cmp_lt' h]
      have h2 : 0 ≤ x.fmod y * -1 := by omega
      rcases Int.lt_or_eq_of_le h2 with h3 | h3
      · rw [cmp_gt' h3]; decide
      · rw [← h3, cmp_eq']; decide
    · have h1 := (fmod_pos (x := x) h).1
      rw [cmp_gt' h]
      have h2 : 0 ≤ x.fmod y * 1 := by omega
      rcases Int.lt_or_eq_of_le h2 with h3 | h3
      · rw [cmp_gt' h3]; decide
      · rw [← h3, cmp_eq']; decide
  · rcases Int.lt_or_lt_of_ne hy with h | h
    · have h1 := (fmod_neg' (x := x) h).2
      rw [cmp_lt' h]
      exact cmp_lt' (by omega)
    · have h1 := (fmod_pos (x := x) h).2
      rw [cmp_gt' h]
      exact cmp_lt' (by omega)
end Go.Proofs.YtilpkocmdpofpaaGreatDoor
