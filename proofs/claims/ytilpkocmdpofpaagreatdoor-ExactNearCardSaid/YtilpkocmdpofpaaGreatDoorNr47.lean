/- The law ExactNear, its walk. Written by gen_nearlaw.py. -/
import Derived.Test.YtilpkocmdpofpaaGreatDoorNr45
import Derived.Test.YtilpkocmdpofpaaGreatDoorNr46
/- The law ExactNear, its walk. Written by gen_nearlaw.py. -/
namespace Go.Proofs.YtilpkocmdpofpaaGreatDoor
open Go.RowKit

theorem Whole_rv (u : Value) (z : Int) (K R : Nat) (w : World) (hu : Ai w u z K) (hK : K ≤ 1000) (hR : 2 * ((K + 1) / 2 + 1) ≤ R) : Calls Tryz.prog 47 #[u] w (RetV w z 1 R) := by
  refine (Whole_any u z K w hu (by omega)).mono ?_
  rintro e w' ⟨f, rfl, hf, hb⟩
  exact retV hf (by decide) (by decide) rfl hR hb
theorem cmpI_le {x y : Int} (h : x ≤ y) : cmpI x y ≤ 0 := by unfold cmpI; (repeat' split) <;> omega
theorem cmpI_ge {x y : Int} (h : y ≤ x) : 0 ≤ cmpI x y := by unfold cmpI; (repeat' split) <;> omega
theorem near_lo {n d P a : Int} (hd : 0 < d) (hP : 0 < P) (h1 : a * (d * 2) ≤ n * P * 2 + d) : (((a * d - n * P) * (P * d) + (a * d - n * P) * (P * d)) * P) ≤ 1 * ((P * d) * (P * d)) := by
  have hD : 0 < P * d := Int.mul_pos hP hd
  have e : 2 * (a * d - n * P) ≤ d := by grind
  have e2 : 2 * (a * d - n * P) * P ≤ d * P := Int.mul_le_mul_of_nonneg_right e (Int.le_of_lt hP)
  have e3 := Int.mul_le_mul_of_nonneg_right e2 (Int.le_of_lt hD)
  grind
theorem near_hi {n d P a : Int} (hd : 0 < d) (hP : 0 < P) (h2 : n * P * 2 + d < (a + 1) * (d * 2)) : ((0 * P - 1 * 1) * ((P * d) * (P * d))) < (((a * d - n * P) * (P * d) + (a * d - n * P) * (P * d)) * (1 * P)) := by
  have hD : 0 < P * d := Int.mul_pos hP hd
  have e : -d < 2 * (a * d - n * P) := by grind
  have e2 : -d * P < 2 * (a * d - n * P) * P := Int.mul_lt_mul_of_pos_right e hP
  have e3 := Int.mul_lt_mul_of_pos_right e2 hD
  grind
theorem root_lo {n d P r F : Int} (hd : 0 < d) (h1 : F * d ≤ n * (P * P)) (h : r * r ≤ F) : r * r * d ≤ n * (P * P) := by
  have := Int.mul_le_mul_of_nonneg_right h (Int.le_of_lt hd)
  omega
theorem root_hi {n d P r F : Int} (hd : 0 < d) (hP : 0 < P) (h1 : n * (P * P) < (F + 1) * d) (h : F < (r + 1) * (r + 1)) : n * ((P * P) * (P * P)) < (r * P + 1 * P) * (r * P + 1 * P) * d := by
  have e1 : (F + 1) * d ≤ (r + 1) * (r + 1) * d := Int.mul_le_mul_of_nonneg_right h (Int.le_of_lt hd)
  have hPP : 0 < P * P := Int.mul_pos hP hP
  have e2 : n * (P * P) < (r + 1) * (r + 1) * d := by omega
  have e3 := Int.mul_lt_mul_of_pos_right e2 hPP
  grind

set_option maxRecDepth 100000 in
set_option maxHeartbeats 4000000 in
theorem exactNear_walk (a1 aa1 a2 : Bool) (p1 pp1 p2 : Option Addr) (l1 ll1 q1 qq1 l2 q2 k : Nat) (n1 d1 z : Int) (w : World) (hu : Rv w (.agg #[.bool a1, .slice p1 l1 q1, .bool aa1, .slice pp1 ll1 qq1]) n1 d1 8) (hv : Ai w (.agg #[.bool a2, .slice p2 l2 q2]) z 8) (hk : k < 256) (t1 : Int) (ht1 : max (l1 : Int) (ll1 : Int) = t1) (g1 : ¬ 8 < t1) (hl2 : l2 ≤ 8) :
    Calls Tryz.prog 7 #[(.agg #[.bool a1, .slice p1 l1 q1, .bool aa1, .slice pp1 ll1 qq1]), (.agg #[.bool a2, .slice p2 l2 q2]), .int .u8 (k : Int)] w fun e w' => e = .returned (.bool true) ∧ Below w.heap.size w w' := by
  obtain ⟨W0, hW0⟩ : ∃ W0, W0 = ((w.alloc (.cells #[.bool a1, .slice p1 l1 q1, .bool aa1, .slice pp1 ll1 qq1] 26)).alloc (.cells #[.bool a2, .slice p2 l2 q2] 24)) := ⟨_, rfl⟩
  have hB0 : Below w.heap.size w W0 := by rw [hW0]; exact ((Below.refl _ _).alloc (Nat.le_refl _) _).alloc (by simp <;> omega) _
  have hz0 : W0.heap.size = w.heap.size + 2 := by rw [hW0]; simp
  have HS0 : Hid (∀ w', Below W0.heap.size W0 w' → w'.cell? ⟨w.heap.size, 0, none⟩ = some (.bool a1) ∧ w'.cell? ⟨w.heap.size, 1, none⟩ = some (.slice p1 l1 q1) ∧ w'.cell? ⟨w.heap.size, 2, none⟩ = some (.bool aa1) ∧ w'.cell? ⟨w.heap.size, 3, none⟩ = some (.slice pp1 ll1 qq1) ∧ w'.cell? ⟨w.heap.size + 1, 0, none⟩ = some (.bool a2) ∧ w'.cell? ⟨w.heap.size + 1, 1, none⟩ = some (.slice p2 l2 q2)) := hid (fun w' hb => by
    refine ⟨?_, ?_, ?_, ?_, ?_, ?_⟩ <;> (rw [hb.cell (by rw [hz0]; simp <;> omega), hW0]; simp [go_sem]))
  have VR : Hid (∀ w', Below W0.heap.size W0 w' → Rv w' (.agg #[.bool a1, .slice p1 l1 q1, .bool aa1, .slice pp1 ll1 qq1]) n1 d1 8) := hid (fun w' hb => (hu.below hB0 (Nat.le_refl _)).below hb (Nat.le_refl _))
  have VN : Hid (∀ w', Below W0.heap.size W0 w' → Ai w' (.agg #[.bool a2, .slice p2 l2 q2]) z 8) := hid (fun w' hb => (hv.below hB0 (Nat.le_refl _)).below hb (Nat.le_refl _))
  obtain ⟨P, hP⟩ : ∃ P : Int, P = 2 ^ k := ⟨_, rfl⟩
  have hP0 : 0 < P := by rw [hP]; exact pow_pos2 k
  have hd0 : 0 < d1 := hu.1
  obtain ⟨a, ha⟩ : ∃ a : Int, a = (n1 * P * 2 + d1).fdiv (d1 * 2) := ⟨_, rfl⟩
  have ha2 := fdiv_le (n1 * P * 2 + d1) (show 0 < d1 * 2 by omega)
  rw [← ha] at ha2
  obtain ⟨z1, hz1⟩ : ∃ t, t = cmpI (((a * d1 - n1 * P) * (P * d1) + (a * d1 - n1 * P) * (P * d1)) * P) (1 * ((P * d1) * (P * d1))) := ⟨_, rfl⟩
  have hz1l : z1 ≤ 0 := by rw [hz1]; exact cmpI_le (near_lo hd0 hP0 ha2.1)
  have M2 := hid (show cmpI ((0 * P - 1 * 1) * ((P * d1) * (P * d1))) (((a * d1 - n1 * P) * (P * d1) + (a * d1 - n1 * P) * (P * d1)) * (1 * P)) = -1 from cmp_lt'' (near_hi hd0 hP0 ha2.2))
  have M1 := hid hz1.symm; have HPk := hid hP; have HP0 := hid hP0; have HD0 := hid hd0; have HAe := hid ha; have T1 := hid ht1; have Hk := hid hk
  have HZe := hid (show (z * P * 2 + P).fdiv (P * 2) = z from fdiv_is (by grind) (by have := hP0; grind))
  have HF := hid (fdiv_le (n1 * 2 ^ (2 * k)) hd0)
  have HPP := hid (show (2 : Int) ^ (2 * k) = P * P by rw [hP, ← Int.pow_add]; congr 1; omega)
  have kk1 : (0 : Int) ≤ (k : Int) := by omega
  have kk2 : (k : Int) ≤ 255 := by omega
  have g2 : ¬ (8 : Int) < (l2 : Int) := by omega
  have HB0 := hid hB0; have HW0 := hid hW0
  clear hW0 hB0 hz0
  clear hz1 hP ha ha2 hd0 hP0 ht1 hu hv hk hl2
  go_enter Tryz.func7, Tryz.ntmps7
  go_wp2_with fail
  rw [← HW0.out]
  refine (alive_any _).mono ?_
  rintro e w0 ⟨rfl, hX0⟩
  obtain ⟨k0, k1, k2, k3, k4, k5⟩ := HS0.out _ hX0
  go_wp2_with fail
  refine (wide_t _ _ _ _ _ _ _ _ t1 _ T1.out).mono ?_
  rintro e wa ⟨rfl, hba⟩
  have hXa := bl_tr hX0 hba
  clear k0 k1 k2 k3 k4 k5 hba hX0
  obtain ⟨k0, k1, k2, k3, k4, k5⟩ := HS0.out _ hXa
  go_upto_region 5 with (fail)
  go_wp2_with fail
  refine (Fixed_rv _ n1 d1 k 8 28 _ (VR.out _ hXa) (by have := Hk.out; omega) (by omega) (by have := Hk.out; omega)).mono ?_
  rintro e wq1 ⟨b1, o1, m1, c1, rfl, H1, hbq⟩
  rw [← HPk.out, ← HAe.out] at H1
  have hXq := bl_tr hXa hbq
  clear k0 k1 k2 k3 k4 k5 hbq hXa
  obtain ⟨W1, hW1⟩ : ∃ W, W = wq1.alloc (.cells #[.bool b1, .slice o1 m1 c1] 24) := ⟨_, rfl⟩
  have hal1 : Below wq1.heap.size wq1 W1 := by rw [hW1]; exact bl_new _
  have hXn1 : Below W0.heap.size W0 W1 := bl_tr hXq hal1
  have HS1 : Hid (∀ w', Below W1.heap.size W1 w' → (w'.cell? ⟨w.heap.size, 0, none⟩ = some (.bool a1) ∧ w'.cell? ⟨w.heap.size, 1, none⟩ = some (.slice p1 l1 q1) ∧ w'.cell? ⟨w.heap.size, 2, none⟩ = some (.bool aa1) ∧ w'.cell? ⟨w.heap.size, 3, none⟩ = some (.slice pp1 ll1 qq1) ∧ w'.cell? ⟨w.heap.size + 1, 0, none⟩ = some (.bool a2) ∧ w'.cell? ⟨w.heap.size + 1, 1, none⟩ = some (.slice p2 l2 q2)) ∧ w'.cell? ⟨wq1.heap.size, 0, none⟩ = some (.bool b1) ∧ w'.cell? ⟨wq1.heap.size, 1, none⟩ = some (.slice o1 m1 c1)) := hid (fun w' hb => by
    refine ⟨HS0.out _ (bl_tr hXn1 hb), ?_, ?_⟩ <;> (rw [hb.cell (by rw [hW1]; simp), hW1]; simp [go_sem]))
  replace VR := hid (fun w' hb => VR.out w' (bl_tr hXn1 hb))
  replace VN := hid (fun w' hb => VN.out w' (bl_tr hXn1 hb))
  have VA : Hid (∀ w', Below W1.heap.size W1 w' → Ai w' (.agg #[.bool b1, .slice o1 m1 c1]) a 28) := hid (fun w' hb => H1.out.below (bl_tr hal1 hb) (Nat.le_refl _))
  have HB1 := hid (HB0.out.trans (hXn1.mono HB0.out.size)); have HW1 := hid hW1
  clear hW1 hal1 hXn1 HS0 HB0 HW0
  clear hXq H1
  go_upto_region 6 with (fail)
  rw [← HW1.out]
  obtain ⟨⟨k0, k1, k2, k3, k4, k5⟩, k6, k7⟩ := HS1.out _ (Below.refl _ _)
  go_wp2_with fail
  refine (FromFixed_rv _ a k 28 14 28 _ (VA.out _ (Below.refl _ _)) (by have := Hk.out; omega) (by omega) (by omega) (by have := Hk.out; omega) (by omega) (by omega)).mono ?_
  rintro e wq2 ⟨b2, o2, m2, c2, bb2, oo2, mm2, cc2, rfl, H2, hbq⟩
  have hXq := bl_tr (Below.refl _ _) hbq
  clear k0 k1 k2 k3 k4 k5 k6 k7
  rw [← HPk.out] at H2
  obtain ⟨W2, hW2⟩ : ∃ W, W = wq2.alloc (.cells #[.bool b2, .slice o2 m2 c2, .bool bb2, .slice oo2 mm2 cc2] 26) := ⟨_, rfl⟩
  have hal2 : Below wq2.heap.size wq2 W2 := by rw [hW2]; exact bl_new _
  have hXn2 : Below W1.heap.size W1 W2 := bl_tr hXq hal2
  have HS2 : Hid (∀ w', Below W2.heap.size W2 w' → ((w'.cell? ⟨w.heap.size, 0, none⟩ = some (.bool a1) ∧ w'.cell? ⟨w.heap.size, 1, none⟩ = some (.slice p1 l1 q1) ∧ w'.cell? ⟨w.heap.size, 2, none⟩ = some (.bool aa1) ∧ w'.cell? ⟨w.heap.size, 3, none⟩ = some (.slice pp1 ll1 qq1) ∧ w'.cell? ⟨w.heap.size + 1, 0, none⟩ = some (.bool a2) ∧ w'.cell? ⟨w.heap.size + 1, 1, none⟩ = some (.slice p2 l2 q2)) ∧ w'.cell? ⟨wq1.heap.size, 0, none⟩ = some (.bool b1) ∧ w'.cell? ⟨wq1.heap.size, 1, none⟩ = some (.slice o1 m1 c1)) ∧ w'.cell? ⟨wq2.heap.size, 0, none⟩ = some (.bool b2) ∧ w'.cell? ⟨wq2.heap.size, 1, none⟩ = some (.slice o2 m2 c2) ∧ w'.cell? ⟨wq2.heap.size, 2, none⟩ = some (.bool bb2) ∧ w'.cell? ⟨wq2.heap.size, 3, none⟩ = some (.slice oo2 mm2 cc2)) := hid (fun w' hb => by
    refine ⟨HS1.out _ (bl_tr hXn2 hb), ?_, ?_, ?_, ?_⟩ <;> (rw [hb.cell (by rw [hW2]; simp), hW2]; simp [go_sem]))
  replace VR := hid (fun w' hb => VR.out w' (bl_tr hXn2 hb))
  replace VN := hid (fun w' hb => VN.out w' (bl_tr hXn2 hb))
  replace VA := hid (fun w' hb => VA.out w' (bl_tr hXn2 hb))
  have VB : Hid (∀ w', Below W2.heap.size W2 w' → Rv w' (.agg #[.bool b2, .slice o2 m2 c2, .bool bb2, .slice oo2 mm2 cc2]) a P 28) := hid (fun w' hb => H2.out.below (bl_tr hal2 hb) (Nat.le_refl _))
  have HB2 := hid (HB1.out.trans (hXn2.mono HB1.out.size)); have HW2 := hid hW2
  clear hW2 hal2 hXn2 HS1 HB1 HW1
  clear hXq hbq H2
  go_upto_region 7 with (fail)
  rw [← HW2.out]
  go_wp2_with fail
  refine (of_z 1 _ (by decide) (by decide)).mono ?_
  rintro e wo ⟨bo, oo, mo, co, rfl, Ho, hbo⟩
  go_wp2_with fail
  refine (FromFixed_rv _ 1 k 2 6 12 _ Ho.out (by have := Hk.out; omega) (by omega) (by omega) (by have := Hk.out; omega) (by omega) (by omega)).mono ?_
  rintro e wq3 ⟨b3, o3, m3, c3, bb3, oo3, mm3, cc3, rfl, H3, hbq⟩
  rw [← HPk.out] at H3
  have hXq := bl_tr hbo hbq
  obtain ⟨W3, hW3⟩ : ∃ W, W = wq3.alloc (.cells #[.bool b3, .slice o3 m3 c3, .bool bb3, .slice oo3 mm3 cc3] 26) := ⟨_, rfl⟩
  have hal3 : Below wq3.heap.size wq3 W3 := by rw [hW3]; exact bl_new _
  have hXn3 : Below W2.heap.size W2 W3 := bl_tr hXq hal3
  have HS3 : Hid (∀ w', Below W3.heap.size W3 w' → (((w'.cell? ⟨w.heap.size, 0, none⟩ = some (.bool a1) ∧ w'.cell? ⟨w.heap.size, 1, none⟩ = some (.slice p1 l1 q1) ∧ w'.cell? ⟨w.heap.size, 2, none⟩ = some (.bool aa1) ∧ w'.cell? ⟨w.heap.size, 3, none⟩ = some (.slice pp1 ll1 qq1) ∧ w'.cell? ⟨w.heap.size + 1, 0, none⟩ = some (.bool a2) ∧ w'.cell? ⟨w.heap.size + 1, 1, none⟩ = some (.slice p2 l2 q2)) ∧ w'.cell? ⟨wq1.heap.size, 0, none⟩ = some (.bool b1) ∧ w'.cell? ⟨wq1.heap.size, 1, none⟩ = some (.slice o1 m1 c1)) ∧ w'.cell? ⟨wq2.heap.size, 0, none⟩ = some (.bool b2) ∧ w'.cell? ⟨wq2.heap.size, 1, none⟩ = some (.slice o2 m2 c2) ∧ w'.cell? ⟨wq2.heap.size, 2, none⟩ = some (.bool bb2) ∧ w'.cell? ⟨wq2.heap.size, 3, none⟩ = some (.slice oo2 mm2 cc2)) ∧ w'.cell? ⟨wq3.heap.size, 0, none⟩ = some (.bool b3) ∧ w'.cell? ⟨wq3.heap.size, 1, none⟩ = some (.slice o3 m3 c3) ∧ w'.cell? ⟨wq3.heap.size, 2, none⟩ = some (.bool bb3) ∧ w'.cell? ⟨wq3.heap.size, 3, none⟩ = some (.slice oo3 mm3 cc3)) := hid (fun w' hb => by
    refine ⟨HS2.out _ (bl_tr hXn3 hb), ?_, ?_, ?_, ?_⟩ <;> (rw [hb.cell (by rw [hW3]; simp), hW3]; simp [go_sem]))
  replace VR := hid (fun w' hb => VR.out w' (bl_tr hXn3 hb))
  replace VN := hid (fun w' hb => VN.out w' (bl_tr hXn3 hb))
  replace VA := hid (fun w' hb => VA.out w' (bl_tr hXn3 hb))
  replace VB := hid (fun w' hb => VB.out w' (bl_tr hXn3 hb))
  have VU : Hid (∀ w', Below W3.heap.size W3 w' → Rv w' (.agg #[.bool b3, .slice o3 m3 c3, .bool bb3, .slice oo3 mm3 cc3]) 1 P 12) := hid (fun w' hb => H3.out.below (bl_tr hal3 hb) (Nat.le_refl _))
  have HB3 := hid (HB2.out.trans (hXn3.mono HB2.out.size)); have HW3 := hid hW3
  clear hW3 hal3 hXn3 HS2 HB2 HW2
  clear hXq hbq hbo H3 Ho
  go_upto_region 8 with (fail)
  rw [← HW3.out]
  obtain ⟨⟨⟨⟨k0, k1, k2, k3, k4, k5⟩, k6, k7⟩, k8, k9, k10, k11⟩, k12, k13, k14, k15⟩ := HS3.out _ (Below.refl _ _)
  go_wp2_with fail
  refine (Minus_rv _ _ _ _ _ _ 28 64 _ (VB.out _ (Below.refl _ _)) ((VR.out _ (Below.refl _ _)).mono (by omega)) (by omega) (by omega)).mono ?_
  rintro e wq4 ⟨b4, o4, m4, c4, bb4, oo4, mm4, cc4, rfl, H4, hbq⟩
  have hXq := bl_tr (Below.refl _ _) hbq
  clear k0 k1 k2 k3 k4 k5 k6 k7 k8 k9 k10 k11 k12 k13 k14 k15
  obtain ⟨W4, hW4⟩ : ∃ W, W = wq4.alloc (.cells #[.bool b4, .slice o4 m4 c4, .bool bb4, .slice oo4 mm4 cc4] 26) := ⟨_, rfl⟩
  have hal4 : Below wq4.heap.size wq4 W4 := by rw [hW4]; exact bl_new _
  have hXn4 : Below W3.heap.size W3 W4 := bl_tr hXq hal4
  have HS4 : Hid (∀ w', Below W4.heap.size W4 w' → ((((w'.cell? ⟨w.heap.size, 0, none⟩ = some (.bool a1) ∧ w'.cell? ⟨w.heap.size, 1, none⟩ = some (.slice p1 l1 q1) ∧ w'.cell? ⟨w.heap.size, 2, none⟩ = some (.bool aa1) ∧ w'.cell? ⟨w.heap.size, 3, none⟩ = some (.slice pp1 ll1 qq1) ∧ w'.cell? ⟨w.heap.size + 1, 0, none⟩ = some (.bool a2) ∧ w'.cell? ⟨w.heap.size + 1, 1, none⟩ = some (.slice p2 l2 q2)) ∧ w'.cell? ⟨wq1.heap.size, 0, none⟩ = some (.bool b1) ∧ w'.cell? ⟨wq1.heap.size, 1, none⟩ = some (.slice o1 m1 c1)) ∧ w'.cell? ⟨wq2.heap.size, 0, none⟩ = some (.bool b2) ∧ w'.cell? ⟨wq2.heap.size, 1, none⟩ = some (.slice o2 m2 c2) ∧ w'.cell? ⟨wq2.heap.size, 2, none⟩ = some (.bool bb2) ∧ w'.cell? ⟨wq2.heap.size, 3, none⟩ = some (.slice oo2 mm2 cc2)) ∧ w'.cell? ⟨wq3.heap.size, 0, none⟩ = some (.bool b3) ∧ w'.cell? ⟨wq3.heap.size, 1, none⟩ = some (.slice o3 m3 c3) ∧ w'.cell? ⟨wq3.heap.size, 2, none⟩ = some (.bool bb3) ∧ w'.cell? ⟨wq3.heap.size, 3, none⟩ = some (.slice oo3 mm3 cc3)) ∧ w'.cell? ⟨wq4.heap.size, 0, none⟩ = some (.bool b4) ∧ w'.cell? ⟨wq4.heap.size, 1, none⟩ = some (.slice o4 m4 c4) ∧ w'.cell? ⟨wq4.heap.size, 2, none⟩ = some (.bool bb4) ∧ w'.cell? ⟨wq4.heap.size, 3, none⟩ = some (.slice oo4 mm4 cc4)) := hid (fun w' hb => by
    refine ⟨HS3.out _ (bl_tr hXn4 hb), ?_, ?_, ?_, ?_⟩ <;> (rw [hb.cell (by rw [hW4]; simp), hW4]; simp [go_sem]))
  replace VR := hid (fun w' hb => VR.out w' (bl_tr hXn4 hb))
  replace VN := hid (fun w' hb => VN.out w' (bl_tr hXn4 hb))
  replace VA := hid (fun w' hb => VA.out w' (bl_tr hXn4 hb))
  replace VB := hid (fun w' hb => VB.out w' (bl_tr hXn4 hb))
  replace VU := hid (fun w' hb => VU.out w' (bl_tr hXn4 hb))
  have VO : Hid (∀ w', Below W4.heap.size W4 w' → Rv w' (.agg #[.bool b4, .slice o4 m4 c4, .bool bb4, .slice oo4 mm4 cc4]) (a * d1 - n1 * P) (P * d1) 64) := hid (fun w' hb => H4.out.below (bl_tr hal4 hb) (Nat.le_refl _))
  have HB4 := hid (HB3.out.trans (hXn4.mono HB3.out.size)); have HW4 := hid hW4
  clear hW4 hal4 hXn4 HS3 HB3 HW3
  clear hXq hbq H4
  go_upto_region 9 with (fail)
  rw [← HW4.out]
  obtain ⟨⟨⟨⟨⟨k0, k1, k2, k3, k4, k5⟩, k6, k7⟩, k8, k9, k10, k11⟩, k12, k13, k14, k15⟩, k16, k17, k18, k19⟩ := HS4.out _ (Below.refl _ _)
  go_wp2_with fail
  refine (Plus_rv _ _ _ _ _ _ 64 136 _ (VO.out _ (Below.refl _ _)) (VO.out _ (Below.refl _ _)) (by omega) (by omega)).mono ?_
  rintro e wq5 ⟨b5, o5, m5, c5, bb5, oo5, mm5, cc5, rfl, H5, hbq⟩
  have hXq := bl_tr (Below.refl _ _) hbq
  clear k0 k1 k2 k3 k4 k5 k6 k7 k8 k9 k10 k11 k12 k13 k14 k15 k16 k17 k18 k19
  obtain ⟨W5, hW5⟩ : ∃ W, W = wq5.alloc (.cells #[.bool b5, .slice o5 m5 c5, .bool bb5, .slice oo5 mm5 cc5] 26) := ⟨_, rfl⟩
  have hal5 : Below wq5.heap.size wq5 W5 := by rw [hW5]; exact bl_new _
  have hXn5 : Below W4.heap.size W4 W5 := bl_tr hXq hal5
  have HS5 : Hid (∀ w', Below W5.heap.size W5 w' → (((((w'.cell? ⟨w.heap.size, 0, none⟩ = some (.bool a1) ∧ w'.cell? ⟨w.heap.size, 1, none⟩ = some (.slice p1 l1 q1) ∧ w'.cell? ⟨w.heap.size, 2, none⟩ = some (.bool aa1) ∧ w'.cell? ⟨w.heap.size, 3, none⟩ = some (.slice pp1 ll1 qq1) ∧ w'.cell? ⟨w.heap.size + 1, 0, none⟩ = some (.bool a2) ∧ w'.cell? ⟨w.heap.size + 1, 1, none⟩ = some (.slice p2 l2 q2)) ∧ w'.cell? ⟨wq1.heap.size, 0, none⟩ = some (.bool b1) ∧ w'.cell? ⟨wq1.heap.size, 1, none⟩ = some (.slice o1 m1 c1)) ∧ w'.cell? ⟨wq2.heap.size, 0, none⟩ = some (.bool b2) ∧ w'.cell? ⟨wq2.heap.size, 1, none⟩ = some (.slice o2 m2 c2) ∧ w'.cell? ⟨wq2.heap.size, 2, none⟩ = some (.bool bb2) ∧ w'.cell? ⟨wq2.heap.size, 3, none⟩ = some (.slice oo2 mm2 cc2)) ∧ w'.cell? ⟨wq3.heap.size, 0, none⟩ = some (.bool b3) ∧ w'.cell? ⟨wq3.heap.size, 1, none⟩ = some (.slice o3 m3 c3) ∧ w'.cell? ⟨wq3.heap.size, 2, none⟩ = some (.bool bb3) ∧ w'.cell? ⟨wq3.heap.size, 3, none⟩ = some (.slice oo3 mm3 cc3)) ∧ w'.cell? ⟨wq4.heap.size, 0, none⟩ = some (.bool b4) ∧ w'.cell? ⟨wq4.heap.size, 1, none⟩ = some (.slice o4 m4 c4) ∧ w'.cell? ⟨wq4.heap.size, 2, none⟩ = some (.bool bb4) ∧ w'.cell? ⟨wq4.heap.size, 3, none⟩ = some (.slice oo4 mm4 cc4)) ∧ w'.cell? ⟨wq5.heap.size, 0, none⟩ = some (.bool b5) ∧ w'.cell? ⟨wq5.heap.size, 1, none⟩ = some (.slice o5 m5 c5) ∧ w'.cell? ⟨wq5.heap.size, 2, none⟩ = some (.bool bb5) ∧ w'.cell? ⟨wq5.heap.size, 3, none⟩ = some (.slice oo5 mm5 cc5)) := hid (fun w' hb => by
    refine ⟨HS4.out _ (bl_tr hXn5 hb), ?_, ?_, ?_, ?_⟩ <;> (rw [hb.cell (by rw [hW5]; simp), hW5]; simp [go_sem]))
  replace VR := hid (fun w' hb => VR.out w' (bl_tr hXn5 hb))
  replace VN := hid (fun w' hb => VN.out w' (bl_tr hXn5 hb))
  replace VA := hid (fun w' hb => VA.out w' (bl_tr hXn5 hb))
  replace VB := hid (fun w' hb => VB.out w' (bl_tr hXn5 hb))
  replace VU := hid (fun w' hb => VU.out w' (bl_tr hXn5 hb))
  replace VO := hid (fun w' hb => VO.out w' (bl_tr hXn5 hb))
  have VT : Hid (∀ w', Below W5.heap.size W5 w' → Rv w' (.agg #[.bool b5, .slice o5 m5 c5, .bool bb5, .slice oo5 mm5 cc5]) ((a * d1 - n1 * P) * (P * d1) + (a * d1 - n1 * P) * (P * d1)) ((P * d1) * (P * d1)) 136) := hid (fun w' hb => H5.out.below (bl_tr hal5 hb) (Nat.le_refl _))
  have HB5 := hid (HB4.out.trans (hXn5.mono HB4.out.size)); have HW5 := hid hW5
  clear hW5 hal5 hXn5 HS4 HB4 HW4
  clear hXq hbq H5
  go_upto_region 10 with (fail)
  rw [← HW5.out]
  have hX0 := Below.refl W5.heap.size W5
  have tk1 := hid trivial
  have tk2 := hid trivial
  have tk3 := hid trivial
  have tk4 := hid trivial
  have tk5 := hid trivial
  go_region_held3 (fun w' => (((((w'.cell? ⟨w.heap.size, 0, none⟩ = some (.bool a1) ∧ w'.cell? ⟨w.heap.size, 1, none⟩ = some (.slice p1 l1 q1) ∧ w'.cell? ⟨w.heap.size, 2, none⟩ = some (.bool aa1) ∧ w'.cell? ⟨w.heap.size, 3, none⟩ = some (.slice pp1 ll1 qq1) ∧ w'.cell? ⟨w.heap.size + 1, 0, none⟩ = some (.bool a2) ∧ w'.cell? ⟨w.heap.size + 1, 1, none⟩ = some (.slice p2 l2 q2)) ∧ w'.cell? ⟨wq1.heap.size, 0, none⟩ = some (.bool b1) ∧ w'.cell? ⟨wq1.heap.size, 1, none⟩ = some (.slice o1 m1 c1)) ∧ w'.cell? ⟨wq2.heap.size, 0, none⟩ = some (.bool b2) ∧ w'.cell? ⟨wq2.heap.size, 1, none⟩ = some (.slice o2 m2 c2) ∧ w'.cell? ⟨wq2.heap.size, 2, none⟩ = some (.bool bb2) ∧ w'.cell? ⟨wq2.heap.size, 3, none⟩ = some (.slice oo2 mm2 cc2)) ∧ w'.cell? ⟨wq3.heap.size, 0, none⟩ = some (.bool b3) ∧ w'.cell? ⟨wq3.heap.size, 1, none⟩ = some (.slice o3 m3 c3) ∧ w'.cell? ⟨wq3.heap.size, 2, none⟩ = some (.bool bb3) ∧ w'.cell? ⟨wq3.heap.size, 3, none⟩ = some (.slice oo3 mm3 cc3)) ∧ w'.cell? ⟨wq4.heap.size, 0, none⟩ = some (.bool b4) ∧ w'.cell? ⟨wq4.heap.size, 1, none⟩ = some (.slice o4 m4 c4) ∧ w'.cell? ⟨wq4.heap.size, 2, none⟩ = some (.bool bb4) ∧ w'.cell? ⟨wq4.heap.size, 3, none⟩ = some (.slice oo4 mm4 cc4)) ∧ w'.cell? ⟨wq5.heap.size, 0, none⟩ = some (.bool b5) ∧ w'.cell? ⟨wq5.heap.size, 1, none⟩ = some (.slice o5 m5 c5) ∧ w'.cell? ⟨wq5.heap.size, 2, none⟩ = some (.bool bb5) ∧ w'.cell? ⟨wq5.heap.size, 3, none⟩ = some (.slice oo5 mm5 cc5)) ((refine HS5.out _ ?_; first | assumption | exact Below.drew (by assumption))) (first
    | (clear tk1; go_at_call 38; refine (Compare_rv _ _ _ _ _ _ z1 136 _ (VT.out _ hX0.drew) ((VU.out _ hX0.drew).mono (by omega)) M1.out (by omega)).mono ?_; rintro e v1 ⟨rfl, hbq⟩; have hY1 : Below W5.heap.size W5 v1 := (hX0.drew).trans (hbq.mono (hX0.drew).size))
    | (clear tk2; go_at_call 22; refine (of_z 0 _ (by decide) (by decide)).mono ?_; rintro e v2 ⟨bo, oo, mo, co, rfl, Ho, hbq⟩; have hY2 : Below W5.heap.size W5 v2 := (hY1).trans (hbq.mono (hY1).size))
    | (clear tk3; go_at_call 47; refine (Whole_rv _ 0 2 4 _ Ho.out (by omega) (by omega)).mono ?_; rintro e v3 ⟨b6, o6, m6, c6, bb6, oo6, mm6, cc6, rfl, H6, hbq⟩; have hY3 : Below W5.heap.size W5 v3 := (hY2).trans (hbq.mono (hY2).size))
    | (clear tk4; go_at_call 37; refine (Minus_rv _ _ _ _ _ _ 12 32 _ (H6.out.mono (by omega)) (VU.out _ hY3) (by omega) (by omega)).mono ?_; rintro e v4 ⟨b7, o7, m7, c7, bb7, oo7, mm7, cc7, rfl, H7, hbq⟩; have hY4 : Below W5.heap.size W5 v4 := (hY3).trans (hbq.mono (hY3).size))
    | (clear tk5; go_at_call 38; refine (Compare_rv _ _ _ _ _ _ (-1) 136 _ (H7.out.mono (by omega)) (VT.out _ hY4) M2.out (by omega)).mono ?_; rintro e v5 ⟨rfl, hbq⟩; have hY5 : Below W5.heap.size W5 v5 := (hY4).trans (hbq.mono (hY4).size)))
  clear hX0 hY1 hY2 hY3 hY4
  go_upto_region 11 with (fail)
  obtain ⟨⟨⟨⟨⟨⟨k0, k1, k2, k3, k4, k5⟩, k6, k7⟩, k8, k9, k10, k11⟩, k12, k13, k14, k15⟩, k16, k17, k18, k19⟩, k20, k21, k22, k23⟩ := HS5.out _ hY5
  go_wp2_with fail
  refine (FromFixed_rv _ z k 8 6 12 _ (VN.out _ hY5) (by have := Hk.out; omega) (by omega) (by omega) (by have := Hk.out; omega) (by omega) (by omega)).mono ?_
  rintro e wq8 ⟨b8, o8, m8, c8, bb8, oo8, mm8, cc8, rfl, H8, hbq⟩
  have hXq := bl_tr hY5 hbq
  clear k0 k1 k2 k3 k4 k5 k6 k7 k8 k9 k10 k11 k12 k13 k14 k15 k16 k17 k18 k19 k20 k21 k22 k23
  rw [← HPk.out] at H8
  obtain ⟨W6, hW6⟩ : ∃ W, W = wq8.alloc (.cells #[.bool b8, .slice o8 m8 c8, .bool bb8, .slice oo8 mm8 cc8] 26) := ⟨_, rfl⟩
  have hal6 : Below wq8.heap.size wq8 W6 := by rw [hW6]; exact bl_new _
  have hXn6 : Below W5.heap.size W5 W6 := bl_tr hXq hal6
  have HS6 : Hid (∀ w', Below W6.heap.size W6 w' → ((((((w'.cell? ⟨w.heap.size, 0, none⟩ = some (.bool a1) ∧ w'.cell? ⟨w.heap.size, 1, none⟩ = some (.slice p1 l1 q1) ∧ w'.cell? ⟨w.heap.size, 2, none⟩ = some (.bool aa1) ∧ w'.cell? ⟨w.heap.size, 3, none⟩ = some (.slice pp1 ll1 qq1) ∧ w'.cell? ⟨w.heap.size + 1, 0, none⟩ = some (.bool a2) ∧ w'.cell? ⟨w.heap.size + 1, 1, none⟩ = some (.slice p2 l2 q2)) ∧ w'.cell? ⟨wq1.heap.size, 0, none⟩ = some (.bool b1) ∧ w'.cell? ⟨wq1.heap.size, 1, none⟩ = some (.slice o1 m1 c1)) ∧ w'.cell? ⟨wq2.heap.size, 0, none⟩ = some (.bool b2) ∧ w'.cell? ⟨wq2.heap.size, 1, none⟩ = some (.slice o2 m2 c2) ∧ w'.cell? ⟨wq2.heap.size, 2, none⟩ = some (.bool bb2) ∧ w'.cell? ⟨wq2.heap.size, 3, none⟩ = some (.slice oo2 mm2 cc2)) ∧ w'.cell? ⟨wq3.heap.size, 0, none⟩ = some (.bool b3) ∧ w'.cell? ⟨wq3.heap.size, 1, none⟩ = some (.slice o3 m3 c3) ∧ w'.cell? ⟨wq3.heap.size, 2, none⟩ = some (.bool bb3) ∧ w'.cell? ⟨wq3.heap.size, 3, none⟩ = some (.slice oo3 mm3 cc3)) ∧ w'.cell? ⟨wq4.heap.size, 0, none⟩ = some (.bool b4) ∧ w'.cell? ⟨wq4.heap.size, 1, none⟩ = some (.slice o4 m4 c4) ∧ w'.cell? ⟨wq4.heap.size, 2, none⟩ = some (.bool bb4) ∧ w'.cell? ⟨wq4.heap.size, 3, none⟩ = some (.slice oo4 mm4 cc4)) ∧ w'.cell? ⟨wq5.heap.size, 0, none⟩ = some (.bool b5) ∧ w'.cell? ⟨wq5.heap.size, 1, none⟩ = some (.slice o5 m5 c5) ∧ w'.cell? ⟨wq5.heap.size, 2, none⟩ = some (.bool bb5) ∧ w'.cell? ⟨wq5.heap.size, 3, none⟩ = some (.slice oo5 mm5 cc5)) ∧ w'.cell? ⟨wq8.heap.size, 0, none⟩ = some (.bool b8) ∧ w'.cell? ⟨wq8.heap.size, 1, none⟩ = some (.slice o8 m8 c8) ∧ w'.cell? ⟨wq8.heap.size, 2, none⟩ = some (.bool bb8) ∧ w'.cell? ⟨wq8.heap.size, 3, none⟩ = some (.slice oo8 mm8 cc8)) := hid (fun w' hb => by
    refine ⟨HS5.out _ (bl_tr hXn6 hb), ?_, ?_, ?_, ?_⟩ <;> (rw [hb.cell (by rw [hW6]; simp), hW6]; simp [go_sem]))
  replace VR := hid (fun w' hb => VR.out w' (bl_tr hXn6 hb))
  replace VN := hid (fun w' hb => VN.out w' (bl_tr hXn6 hb))
  replace VA := hid (fun w' hb => VA.out w' (bl_tr hXn6 hb))
  replace VB := hid (fun w' hb => VB.out w' (bl_tr hXn6 hb))
  replace VU := hid (fun w' hb => VU.out w' (bl_tr hXn6 hb))
  replace VO := hid (fun w' hb => VO.out w' (bl_tr hXn6 hb))
  replace VT := hid (fun w' hb => VT.out w' (bl_tr hXn6 hb))
  have VW : Hid (∀ w', Below W6.heap.size W6 w' → Rv w' (.agg #[.bool b8, .slice o8 m8 c8, .bool bb8, .slice oo8 mm8 cc8]) z P 12) := hid (fun w' hb => H8.out.below (bl_tr hal6 hb) (Nat.le_refl _))
  have HB6 := hid (HB5.out.trans (hXn6.mono HB5.out.size)); have HW6 := hid hW6
  clear hW6 hal6 hXn6 HS5 HB5 HW5
  clear hXq hbq H8 hY5
  go_upto_region 12 with (fail)
  rw [← HW6.out]
  obtain ⟨⟨⟨⟨⟨⟨⟨k0, k1, k2, k3, k4, k5⟩, k6, k7⟩, k8, k9, k10, k11⟩, k12, k13, k14, k15⟩, k16, k17, k18, k19⟩, k20, k21, k22, k23⟩, k24, k25, k26, k27⟩ := HS6.out _ (Below.refl _ _)
  go_wp2_with fail
  refine (Fixed_rv _ z P k 12 34 _ (VW.out _ (Below.refl _ _)) (by have := Hk.out; omega) (by omega) (by have := Hk.out; omega)).mono ?_
  rintro e wq9 ⟨b9, o9, m9, c9, rfl, H9, hbq⟩
  have hXq := bl_tr (Below.refl _ _) hbq
  clear k0 k1 k2 k3 k4 k5 k6 k7 k8 k9 k10 k11 k12 k13 k14 k15 k16 k17 k18 k19 k20 k21 k22 k23 k24 k25 k26 k27
  rw [← HPk.out, HZe.out] at H9
  obtain ⟨W7, hW7⟩ : ∃ W, W = wq9.alloc (.cells #[.bool b9, .slice o9 m9 c9] 24) := ⟨_, rfl⟩
  have hal7 : Below wq9.heap.size wq9 W7 := by rw [hW7]; exact bl_new _
  have hXn7 : Below W6.heap.size W6 W7 := bl_tr hXq hal7
  have HS7 : Hid (∀ w', Below W7.heap.size W7 w' → (((((((w'.cell? ⟨w.heap.size, 0, none⟩ = some (.bool a1) ∧ w'.cell? ⟨w.heap.size, 1, none⟩ = some (.slice p1 l1 q1) ∧ w'.cell? ⟨w.heap.size, 2, none⟩ = some (.bool aa1) ∧ w'.cell? ⟨w.heap.size, 3, none⟩ = some (.slice pp1 ll1 qq1) ∧ w'.cell? ⟨w.heap.size + 1, 0, none⟩ = some (.bool a2) ∧ w'.cell? ⟨w.heap.size + 1, 1, none⟩ = some (.slice p2 l2 q2)) ∧ w'.cell? ⟨wq1.heap.size, 0, none⟩ = some (.bool b1) ∧ w'.cell? ⟨wq1.heap.size, 1, none⟩ = some (.slice o1 m1 c1)) ∧ w'.cell? ⟨wq2.heap.size, 0, none⟩ = some (.bool b2) ∧ w'.cell? ⟨wq2.heap.size, 1, none⟩ = some (.slice o2 m2 c2) ∧ w'.cell? ⟨wq2.heap.size, 2, none⟩ = some (.bool bb2) ∧ w'.cell? ⟨wq2.heap.size, 3, none⟩ = some (.slice oo2 mm2 cc2)) ∧ w'.cell? ⟨wq3.heap.size, 0, none⟩ = some (.bool b3) ∧ w'.cell? ⟨wq3.heap.size, 1, none⟩ = some (.slice o3 m3 c3) ∧ w'.cell? ⟨wq3.heap.size, 2, none⟩ = some (.bool bb3) ∧ w'.cell? ⟨wq3.heap.size, 3, none⟩ = some (.slice oo3 mm3 cc3)) ∧ w'.cell? ⟨wq4.heap.size, 0, none⟩ = some (.bool b4) ∧ w'.cell? ⟨wq4.heap.size, 1, none⟩ = some (.slice o4 m4 c4) ∧ w'.cell? ⟨wq4.heap.size, 2, none⟩ = some (.bool bb4) ∧ w'.cell? ⟨wq4.heap.size, 3, none⟩ = some (.slice oo4 mm4 cc4)) ∧ w'.cell? ⟨wq5.heap.size, 0, none⟩ = some (.bool b5) ∧ w'.cell? ⟨wq5.heap.size, 1, none⟩ = some (.slice o5 m5 c5) ∧ w'.cell? ⟨wq5.heap.size, 2, none⟩ = some (.bool bb5) ∧ w'.cell? ⟨wq5.heap.size, 3, none⟩ = some (.slice oo5 mm5 cc5)) ∧ w'.cell? ⟨wq8.heap.size, 0, none⟩ = some (.bool b8) ∧ w'.cell? ⟨wq8.heap.size, 1, none⟩ = some (.slice o8 m8 c8) ∧ w'.cell? ⟨wq8.heap.size, 2, none⟩ = some (.bool bb8) ∧ w'.cell? ⟨wq8.heap.size, 3, none⟩ = some (.slice oo8 mm8 cc8)) ∧ w'.cell? ⟨wq9.heap.size, 0, none⟩ = some (.bool b9) ∧ w'.cell? ⟨wq9.heap.size, 1, none⟩ = some (.slice o9 m9 c9)) := hid (fun w' hb => by
    refine ⟨HS6.out _ (bl_tr hXn7 hb), ?_, ?_⟩ <;> (rw [hb.cell (by rw [hW7]; simp), hW7]; simp [go_sem]))
  replace VR := hid (fun w' hb => VR.out w' (bl_tr hXn7 hb))
  replace VN := hid (fun w' hb => VN.out w' (bl_tr hXn7 hb))
  replace VA := hid (fun w' hb => VA.out w' (bl_tr hXn7 hb))
  replace VB := hid (fun w' hb => VB.out w' (bl_tr hXn7 hb))
  replace VU := hid (fun w' hb => VU.out w' (bl_tr hXn7 hb))
  replace VO := hid (fun w' hb => VO.out w' (bl_tr hXn7 hb))
  replace VT := hid (fun w' hb => VT.out w' (bl_tr hXn7 hb))
  replace VW := hid (fun w' hb => VW.out w' (bl_tr hXn7 hb))
  have VM : Hid (∀ w', Below W7.heap.size W7 w' → Ai w' (.agg #[.bool b9, .slice o9 m9 c9]) z 34) := hid (fun w' hb => H9.out.below (bl_tr hal7 hb) (Nat.le_refl _))
  have HB7 := hid (HB6.out.trans (hXn7.mono HB6.out.size)); have HW7 := hid hW7
  clear hW7 hal7 hXn7 HS6 HB6 HW6
  clear hXq hbq H9
  go_upto_region 13 with (fail)
  rw [← HW7.out]
  obtain ⟨⟨⟨⟨⟨⟨⟨⟨k0, k1, k2, k3, k4, k5⟩, k6, k7⟩, k8, k9, k10, k11⟩, k12, k13, k14, k15⟩, k16, k17, k18, k19⟩, k20, k21, k22, k23⟩, k24, k25, k26, k27⟩, k28, k29⟩ := HS7.out _ (Below.refl _ _)
  go_wp2_with fail
  refine (equal_z _ _ z z 34 _ (VM.out _ (Below.refl _ _)) ((VN.out _ (Below.refl _ _)).mono (by omega)) rfl (by omega)).mono ?_
  rintro e we ⟨rfl, hbe⟩
  clear k0 k1 k2 k3 k4 k5 k6 k7 k8 k9 k10 k11 k12 k13 k14 k15 k16 k17 k18 k19 k20 k21 k22 k23 k24 k25 k26 k27 k28 k29
  by_cases hn : n1 < 0
  · have Mn := hid (show cmpI n1 0 = -1 from cmp_lt'' hn)
    have Hn := hid hn
    clear hn
    go_upto_region 14 with (fail)
    obtain ⟨⟨⟨⟨⟨⟨⟨⟨k0, k1, k2, k3, k4, k5⟩, k6, k7⟩, k8, k9, k10, k11⟩, k12, k13, k14, k15⟩, k16, k17, k18, k19⟩, k20, k21, k22, k23⟩, k24, k25, k26, k27⟩, k28, k29⟩ := HS7.out _ hbe
    go_wp2_with fail
    refine (RootFixed_neg _ n1 d1 k 8 _ (VR.out _ hbe) Hn.out (by have := Hk.out; omega) (by omega)).mono ?_
    rintro e wr ⟨rfl, hbr⟩
    have hXr := bl_tr hbe hbr
    clear k0 k1 k2 k3 k4 k5 k6 k7 k8 k9 k10 k11 k12 k13 k14 k15 k16 k17 k18 k19 k20 k21 k22 k23 k24 k25 k26 k27 k28 k29
    have hXr2 := hXr.alloc hXr.size (.cells #[.bool false, .slice none 0 0] 24)
    obtain ⟨⟨⟨⟨⟨⟨⟨⟨k0, k1, k2, k3, k4, k5⟩, k6, k7⟩, k8, k9, k10, k11⟩, k12, k13, k14, k15⟩, k16, k17, k18, k19⟩, k20, k21, k22, k23⟩, k24, k25, k26, k27⟩, k28, k29⟩ := HS7.out _ hXr2
    go_wp2_with fail
    refine (signum_t _ n1 d1 (-1) 8 _ (VR.out _ hXr2) Mn.out (by omega)).mono ?_
    rintro e ws ⟨rfl, hbs⟩
    have hXs := bl_tr hXr2 hbs
    go_wp2
    go_ret
    exact ⟨rfl, HB7.out.trans (hXs.mono HB7.out.size)⟩
  · have Hn := hid (show 0 ≤ n1 by omega)
    obtain ⟨s1, hs1⟩ : ∃ t, t = cmpI n1 0 := ⟨_, rfl⟩
    have hs1l : ¬ s1 < 0 := by have := cmpI_ge Hn.out; omega
    have Mn := hid hs1.symm
    clear hn hs1
    go_upto_region 14 with (fail)
    obtain ⟨⟨⟨⟨⟨⟨⟨⟨k0, k1, k2, k3, k4, k5⟩, k6, k7⟩, k8, k9, k10, k11⟩, k12, k13, k14, k15⟩, k16, k17, k18, k19⟩, k20, k21, k22, k23⟩, k24, k25, k26, k27⟩, k28, k29⟩ := HS7.out _ hbe
    go_wp2_with fail
    refine (RootFixed_rv _ n1 d1 k 8 16 _ (VR.out _ hbe) Hn.out (by have := Hk.out; omega) (by omega) (by omega)).mono ?_
    rintro e wq10 ⟨r, hr, b10, o10, m10, c10, rfl, H10, hbq⟩
    have hXq := bl_tr hbe hbq
    have HR := hid hr
    clear k0 k1 k2 k3 k4 k5 k6 k7 k8 k9 k10 k11 k12 k13 k14 k15 k16 k17 k18 k19 k20 k21 k22 k23 k24 k25 k26 k27 k28 k29 hr hbq hbe
    have hF := HF.out
    have hR := HR.out
    rw [HPP.out] at hF hR
    obtain ⟨z3, hz3⟩ : ∃ t, t = cmpI r 0 := ⟨_, rfl⟩
    have hz3l : 0 ≤ z3 := by rw [hz3]; exact cmpI_ge hR.1
    obtain ⟨z4, hz4⟩ : ∃ t, t = cmpI (r * r * d1) (n1 * (P * P)) := ⟨_, rfl⟩
    have hz4l : z4 ≤ 0 := by rw [hz4]; exact cmpI_le (root_lo HD0.out hF.1 hR.2.1)
    have M5 := hid (show cmpI ((r * P + 1 * P) * (r * P + 1 * P) * d1) (n1 * ((P * P) * (P * P))) = 1 from cmp_gt'' (root_hi HD0.out HP0.out hF.2 hR.2.2))
    have M3 := hid hz3.symm; have M4 := hid hz4.symm
    clear hF hR hz3 hz4
    obtain ⟨W8, hW8⟩ : ∃ W, W = wq10.alloc (.cells #[.bool b10, .slice o10 m10 c10] 24) := ⟨_, rfl⟩
    have hal8 : Below wq10.heap.size wq10 W8 := by rw [hW8]; exact bl_new _
    have hXn8 : Below W7.heap.size W7 W8 := bl_tr hXq hal8
    have HS8 : Hid (∀ w', Below W8.heap.size W8 w' → ((((((((w'.cell? ⟨w.heap.size, 0, none⟩ = some (.bool a1) ∧ w'.cell? ⟨w.heap.size, 1, none⟩ = some (.slice p1 l1 q1) ∧ w'.cell? ⟨w.heap.size, 2, none⟩ = some (.bool aa1) ∧ w'.cell? ⟨w.heap.size, 3, none⟩ = some (.slice pp1 ll1 qq1) ∧ w'.cell? ⟨w.heap.size + 1, 0, none⟩ = some (.bool a2) ∧ w'.cell? ⟨w.heap.size + 1, 1, none⟩ = some (.slice p2 l2 q2)) ∧ w'.cell? ⟨wq1.heap.size, 0, none⟩ = some (.bool b1) ∧ w'.cell? ⟨wq1.heap.size, 1, none⟩ = some (.slice o1 m1 c1)) ∧ w'.cell? ⟨wq2.heap.size, 0, none⟩ = some (.bool b2) ∧ w'.cell? ⟨wq2.heap.size, 1, none⟩ = some (.slice o2 m2 c2) ∧ w'.cell? ⟨wq2.heap.size, 2, none⟩ = some (.bool bb2) ∧ w'.cell? ⟨wq2.heap.size, 3, none⟩ = some (.slice oo2 mm2 cc2)) ∧ w'.cell? ⟨wq3.heap.size, 0, none⟩ = some (.bool b3) ∧ w'.cell? ⟨wq3.heap.size, 1, none⟩ = some (.slice o3 m3 c3) ∧ w'.cell? ⟨wq3.heap.size, 2, none⟩ = some (.bool bb3) ∧ w'.cell? ⟨wq3.heap.size, 3, none⟩ = some (.slice oo3 mm3 cc3)) ∧ w'.cell? ⟨wq4.heap.size, 0, none⟩ = some (.bool b4) ∧ w'.cell? ⟨wq4.heap.size, 1, none⟩ = some (.slice o4 m4 c4) ∧ w'.cell? ⟨wq4.heap.size, 2, none⟩ = some (.bool bb4) ∧ w'.cell? ⟨wq4.heap.size, 3, none⟩ = some (.slice oo4 mm4 cc4)) ∧ w'.cell? ⟨wq5.heap.size, 0, none⟩ = some (.bool b5) ∧ w'.cell? ⟨wq5.heap.size, 1, none⟩ = some (.slice o5 m5 c5) ∧ w'.cell? ⟨wq5.heap.size, 2, none⟩ = some (.bool bb5) ∧ w'.cell? ⟨wq5.heap.size, 3, none⟩ = some (.slice oo5 mm5 cc5)) ∧ w'.cell? ⟨wq8.heap.size, 0, none⟩ = some (.bool b8) ∧ w'.cell? ⟨wq8.heap.size, 1, none⟩ = some (.slice o8 m8 c8) ∧ w'.cell? ⟨wq8.heap.size, 2, none⟩ = some (.bool bb8) ∧ w'.cell? ⟨wq8.heap.size, 3, none⟩ = some (.slice oo8 mm8 cc8)) ∧ w'.cell? ⟨wq9.heap.size, 0, none⟩ = some (.bool b9) ∧ w'.cell? ⟨wq9.heap.size, 1, none⟩ = some (.slice o9 m9 c9)) ∧ w'.cell? ⟨wq10.heap.size, 0, none⟩ = some (.bool b10) ∧ w'.cell? ⟨wq10.heap.size, 1, none⟩ = some (.slice o10 m10 c10)) := hid (fun w' hb => by
      refine ⟨HS7.out _ (bl_tr hXn8 hb), ?_, ?_⟩ <;> (rw [hb.cell (by rw [hW8]; simp), hW8]; simp [go_sem]))
    replace VR := hid (fun w' hb => VR.out w' (bl_tr hXn8 hb))
    replace VN := hid (fun w' hb => VN.out w' (bl_tr hXn8 hb))
    replace VA := hid (fun w' hb => VA.out w' (bl_tr hXn8 hb))
    replace VB := hid (fun w' hb => VB.out w' (bl_tr hXn8 hb))
    replace VU := hid (fun w' hb => VU.out w' (bl_tr hXn8 hb))
    replace VO := hid (fun w' hb => VO.out w' (bl_tr hXn8 hb))
    replace VT := hid (fun w' hb => VT.out w' (bl_tr hXn8 hb))
    replace VW := hid (fun w' hb => VW.out w' (bl_tr hXn8 hb))
    replace VM := hid (fun w' hb => VM.out w' (bl_tr hXn8 hb))
    have VRt : Hid (∀ w', Below W8.heap.size W8 w' → Ai w' (.agg #[.bool b10, .slice o10 m10 c10]) r 16) := hid (fun w' hb => H10.out.below (bl_tr hal8 hb) (Nat.le_refl _))
    have HB8 := hid (HB7.out.trans (hXn8.mono HB7.out.size)); have HW8 := hid hW8
    clear hW8 hal8 hXn8 HS7 HB7 HW7
    clear hXq H10
    go_upto_region 15 with (fail)
    rw [← HW8.out]
    obtain ⟨⟨⟨⟨⟨⟨⟨⟨⟨k0, k1, k2, k3, k4, k5⟩, k6, k7⟩, k8, k9, k10, k11⟩, k12, k13, k14, k15⟩, k16, k17, k18, k19⟩, k20, k21, k22, k23⟩, k24, k25, k26, k27⟩, k28, k29⟩, k30, k31⟩ := HS8.out _ (Below.refl _ _)
    go_wp2_with fail
    refine (signum_t _ n1 d1 s1 8 _ (VR.out _ (Below.refl _ _)) Mn.out (by omega)).mono ?_
    rintro e ws ⟨rfl, hbs⟩
    clear k0 k1 k2 k3 k4 k5 k6 k7 k8 k9 k10 k11 k12 k13 k14 k15 k16 k17 k18 k19 k20 k21 k22 k23 k24 k25 k26 k27 k28 k29 k30 k31
    go_upto_region 17 with (fail)
    obtain ⟨⟨⟨⟨⟨⟨⟨⟨⟨k0, k1, k2, k3, k4, k5⟩, k6, k7⟩, k8, k9, k10, k11⟩, k12, k13, k14, k15⟩, k16, k17, k18, k19⟩, k20, k21, k22, k23⟩, k24, k25, k26, k27⟩, k28, k29⟩, k30, k31⟩ := HS8.out _ hbs
    go_wp2_with fail
    refine (FromFixed_rv _ r k 16 8 16 _ (VRt.out _ hbs) (by have := Hk.out; omega) (by omega) (by omega) (by have := Hk.out; omega) (by omega) (by omega)).mono ?_
    rintro e wq11 ⟨b11, o11, m11, c11, bb11, oo11, mm11, cc11, rfl, H11, hbq⟩
    have hXq := bl_tr hbs hbq
    clear k0 k1 k2 k3 k4 k5 k6 k7 k8 k9 k10 k11 k12 k13 k14 k15 k16 k17 k18 k19 k20 k21 k22 k23 k24 k25 k26 k27 k28 k29 k30 k31
    rw [← HPk.out] at H11
    obtain ⟨W9, hW9⟩ : ∃ W, W = wq11.alloc (.cells #[.bool b11, .slice o11 m11 c11, .bool bb11, .slice oo11 mm11 cc11] 26) := ⟨_, rfl⟩
    have hal9 : Below wq11.heap.size wq11 W9 := by rw [hW9]; exact bl_new _
    have hXn9 : Below W8.heap.size W8 W9 := bl_tr hXq hal9
    have HS9 : Hid (∀ w', Below W9.heap.size W9 w' → (((((((((w'.cell? ⟨w.heap.size, 0, none⟩ = some (.bool a1) ∧ w'.cell? ⟨w.heap.size, 1, none⟩ = some (.slice p1 l1 q1) ∧ w'.cell? ⟨w.heap.size, 2, none⟩ = some (.bool aa1) ∧ w'.cell? ⟨w.heap.size, 3, none⟩ = some (.slice pp1 ll1 qq1) ∧ w'.cell? ⟨w.heap.size + 1, 0, none⟩ = some (.bool a2) ∧ w'.cell? ⟨w.heap.size + 1, 1, none⟩ = some (.slice p2 l2 q2)) ∧ w'.cell? ⟨wq1.heap.size, 0, none⟩ = some (.bool b1) ∧ w'.cell? ⟨wq1.heap.size, 1, none⟩ = some (.slice o1 m1 c1)) ∧ w'.cell? ⟨wq2.heap.size, 0, none⟩ = some (.bool b2) ∧ w'.cell? ⟨wq2.heap.size, 1, none⟩ = some (.slice o2 m2 c2) ∧ w'.cell? ⟨wq2.heap.size, 2, none⟩ = some (.bool bb2) ∧ w'.cell? ⟨wq2.heap.size, 3, none⟩ = some (.slice oo2 mm2 cc2)) ∧ w'.cell? ⟨wq3.heap.size, 0, none⟩ = some (.bool b3) ∧ w'.cell? ⟨wq3.heap.size, 1, none⟩ = some (.slice o3 m3 c3) ∧ w'.cell? ⟨wq3.heap.size, 2, none⟩ = some (.bool bb3) ∧ w'.cell? ⟨wq3.heap.size, 3, none⟩ = some (.slice oo3 mm3 cc3)) ∧ w'.cell? ⟨wq4.heap.size, 0, none⟩ = some (.bool b4) ∧ w'.cell? ⟨wq4.heap.size, 1, none⟩ = some (.slice o4 m4 c4) ∧ w'.cell? ⟨wq4.heap.size, 2, none⟩ = some (.bool bb4) ∧ w'.cell? ⟨wq4.heap.size, 3, none⟩ = some (.slice oo4 mm4 cc4)) ∧ w'.cell? ⟨wq5.heap.size, 0, none⟩ = some (.bool b5) ∧ w'.cell? ⟨wq5.heap.size, 1, none⟩ = some (.slice o5 m5 c5) ∧ w'.cell? ⟨wq5.heap.size, 2, none⟩ = some (.bool bb5) ∧ w'.cell? ⟨wq5.heap.size, 3, none⟩ = some (.slice oo5 mm5 cc5)) ∧ w'.cell? ⟨wq8.heap.size, 0, none⟩ = some (.bool b8) ∧ w'.cell? ⟨wq8.heap.size, 1, none⟩ = some (.slice o8 m8 c8) ∧ w'.cell? ⟨wq8.heap.size, 2, none⟩ = some (.bool bb8) ∧ w'.cell? ⟨wq8.heap.size, 3, none⟩ = some (.slice oo8 mm8 cc8)) ∧ w'.cell? ⟨wq9.heap.size, 0, none⟩ = some (.bool b9) ∧ w'.cell? ⟨wq9.heap.size, 1, none⟩ = some (.slice o9 m9 c9)) ∧ w'.cell? ⟨wq10.heap.size, 0, none⟩ = some (.bool b10) ∧ w'.cell? ⟨wq10.heap.size, 1, none⟩ = some (.slice o10 m10 c10)) ∧ w'.cell? ⟨wq11.heap.size, 0, none⟩ = some (.bool b11) ∧ w'.cell? ⟨wq11.heap.size, 1, none⟩ = some (.slice o11 m11 c11) ∧ w'.cell? ⟨wq11.heap.size, 2, none⟩ = some (.bool bb11) ∧ w'.cell? ⟨wq11.heap.size, 3, none⟩ = some (.slice oo11 mm11 cc11)) := hid (fun w' hb => by
      refine ⟨HS8.out _ (bl_tr hXn9 hb), ?_, ?_, ?_, ?_⟩ <;> (rw [hb.cell (by rw [hW9]; simp), hW9]; simp [go_sem]))
    replace VR := hid (fun w' hb => VR.out w' (bl_tr hXn9 hb))
    replace VN := hid (fun w' hb => VN.out w' (bl_tr hXn9 hb))
    replace VA := hid (fun w' hb => VA.out w' (bl_tr hXn9 hb))
    replace VB := hid (fun w' hb => VB.out w' (bl_tr hXn9 hb))
    replace VU := hid (fun w' hb => VU.out w' (bl_tr hXn9 hb))
    replace VO := hid (fun w' hb => VO.out w' (bl_tr hXn9 hb))
    replace VT := hid (fun w' hb => VT.out w' (bl_tr hXn9 hb))
    replace VW := hid (fun w' hb => VW.out w' (bl_tr hXn9 hb))
    replace VM := hid (fun w' hb => VM.out w' (bl_tr hXn9 hb))
    replace VRt := hid (fun w' hb => VRt.out w' (bl_tr hXn9 hb))
    have VX : Hid (∀ w', Below W9.heap.size W9 w' → Rv w' (.agg #[.bool b11, .slice o11 m11 c11, .bool bb11, .slice oo11 mm11 cc11]) r P 16) := hid (fun w' hb => H11.out.below (bl_tr hal9 hb) (Nat.le_refl _))
    have HB9 := hid (HB8.out.trans (hXn9.mono HB8.out.size)); have HW9 := hid hW9
    clear hW9 hal9 hXn9 HS8 HB8 HW8
    clear hXq hbq hbs H11
    go_upto_region 18 with (fail)
    rw [← HW9.out]
    obtain ⟨⟨⟨⟨⟨⟨⟨⟨⟨⟨k0, k1, k2, k3, k4, k5⟩, k6, k7⟩, k8, k9, k10, k11⟩, k12, k13, k14, k15⟩, k16, k17, k18, k19⟩, k20, k21, k22, k23⟩, k24, k25, k26, k27⟩, k28, k29⟩, k30, k31⟩, k32, k33, k34, k35⟩ := HS9.out _ (Below.refl _ _)
    go_wp2_with fail
    refine (Plus_rv _ _ _ _ _ _ 16 40 _ (VX.out _ (Below.refl _ _)) ((VU.out _ (Below.refl _ _)).mono (by omega)) (by omega) (by omega)).mono ?_
    rintro e wq12 ⟨b12, o12, m12, c12, bb12, oo12, mm12, cc12, rfl, H12, hbq⟩
    have hXq := bl_tr (Below.refl _ _) hbq
    clear k0 k1 k2 k3 k4 k5 k6 k7 k8 k9 k10 k11 k12 k13 k14 k15 k16 k17 k18 k19 k20 k21 k22 k23 k24 k25 k26 k27 k28 k29 k30 k31 k32 k33 k34 k35
    obtain ⟨W10, hW10⟩ : ∃ W, W = wq12.alloc (.cells #[.bool b12, .slice o12 m12 c12, .bool bb12, .slice oo12 mm12 cc12] 26) := ⟨_, rfl⟩
    have hal10 : Below wq12.heap.size wq12 W10 := by rw [hW10]; exact bl_new _
    have hXn10 : Below W9.heap.size W9 W10 := bl_tr hXq hal10
    have HS10 : Hid (∀ w', Below W10.heap.size W10 w' → ((((((((((w'.cell? ⟨w.heap.size, 0, none⟩ = some (.bool a1) ∧ w'.cell? ⟨w.heap.size, 1, none⟩ = some (.slice p1 l1 q1) ∧ w'.cell? ⟨w.heap.size, 2, none⟩ = some (.bool aa1) ∧ w'.cell? ⟨w.heap.size, 3, none⟩ = some (.slice pp1 ll1 qq1) ∧ w'.cell? ⟨w.heap.size + 1, 0, none⟩ = some (.bool a2) ∧ w'.cell? ⟨w.heap.size + 1, 1, none⟩ = some (.slice p2 l2 q2)) ∧ w'.cell? ⟨wq1.heap.size, 0, none⟩ = some (.bool b1) ∧ w'.cell? ⟨wq1.heap.size, 1, none⟩ = some (.slice o1 m1 c1)) ∧ w'.cell? ⟨wq2.heap.size, 0, none⟩ = some (.bool b2) ∧ w'.cell? ⟨wq2.heap.size, 1, none⟩ = some (.slice o2 m2 c2) ∧ w'.cell? ⟨wq2.heap.size, 2, none⟩ = some (.bool bb2) ∧ w'.cell? ⟨wq2.heap.size, 3, none⟩ = some (.slice oo2 mm2 cc2)) ∧ w'.cell? ⟨wq3.heap.size, 0, none⟩ = some (.bool b3) ∧ w'.cell? ⟨wq3.heap.size, 1, none⟩ = some (.slice o3 m3 c3) ∧ w'.cell? ⟨wq3.heap.size, 2, none⟩ = some (.bool bb3) ∧ w'.cell? ⟨wq3.heap.size, 3, none⟩ = some (.slice oo3 mm3 cc3)) ∧ w'.cell? ⟨wq4.heap.size, 0, none⟩ = some (.bool b4) ∧ w'.cell? ⟨wq4.heap.size, 1, none⟩ = some (.slice o4 m4 c4) ∧ w'.cell? ⟨wq4.heap.size, 2, none⟩ = some (.bool bb4) ∧ w'.cell? ⟨wq4.heap.size, 3, none⟩ = some (.slice oo4 mm4 cc4)) ∧ w'.cell? ⟨wq5.heap.size, 0, none⟩ = some (.bool b5) ∧ w'.cell? ⟨wq5.heap.size, 1, none⟩ = some (.slice o5 m5 c5) ∧ w'.cell? ⟨wq5.heap.size, 2, none⟩ = some (.bool bb5) ∧ w'.cell? ⟨wq5.heap.size, 3, none⟩ = some (.slice oo5 mm5 cc5)) ∧ w'.cell? ⟨wq8.heap.size, 0, none⟩ = some (.bool b8) ∧ w'.cell? ⟨wq8.heap.size, 1, none⟩ = some (.slice o8 m8 c8) ∧ w'.cell? ⟨wq8.heap.size, 2, none⟩ = some (.bool bb8) ∧ w'.cell? ⟨wq8.heap.size, 3, none⟩ = some (.slice oo8 mm8 cc8)) ∧ w'.cell? ⟨wq9.heap.size, 0, none⟩ = some (.bool b9) ∧ w'.cell? ⟨wq9.heap.size, 1, none⟩ = some (.slice o9 m9 c9)) ∧ w'.cell? ⟨wq10.heap.size, 0, none⟩ = some (.bool b10) ∧ w'.cell? ⟨wq10.heap.size, 1, none⟩ = some (.slice o10 m10 c10)) ∧ w'.cell? ⟨wq11.heap.size, 0, none⟩ = some (.bool b11) ∧ w'.cell? ⟨wq11.heap.size, 1, none⟩ = some (.slice o11 m11 c11) ∧ w'.cell? ⟨wq11.heap.size, 2, none⟩ = some (.bool bb11) ∧ w'.cell? ⟨wq11.heap.size, 3, none⟩ = some (.slice oo11 mm11 cc11)) ∧ w'.cell? ⟨wq12.heap.size, 0, none⟩ = some (.bool b12) ∧ w'.cell? ⟨wq12.heap.size, 1, none⟩ = some (.slice o12 m12 c12) ∧ w'.cell? ⟨wq12.heap.size, 2, none⟩ = some (.bool bb12) ∧ w'.cell? ⟨wq12.heap.size, 3, none⟩ = some (.slice oo12 mm12 cc12)) := hid (fun w' hb => by
      refine ⟨HS9.out _ (bl_tr hXn10 hb), ?_, ?_, ?_, ?_⟩ <;> (rw [hb.cell (by rw [hW10]; simp), hW10]; simp [go_sem]))
    replace VR := hid (fun w' hb => VR.out w' (bl_tr hXn10 hb))
    replace VN := hid (fun w' hb => VN.out w' (bl_tr hXn10 hb))
    replace VA := hid (fun w' hb => VA.out w' (bl_tr hXn10 hb))
    replace VB := hid (fun w' hb => VB.out w' (bl_tr hXn10 hb))
    replace VU := hid (fun w' hb => VU.out w' (bl_tr hXn10 hb))
    replace VO := hid (fun w' hb => VO.out w' (bl_tr hXn10 hb))
    replace VT := hid (fun w' hb => VT.out w' (bl_tr hXn10 hb))
    replace VW := hid (fun w' hb => VW.out w' (bl_tr hXn10 hb))
    replace VM := hid (fun w' hb => VM.out w' (bl_tr hXn10 hb))
    replace VRt := hid (fun w' hb => VRt.out w' (bl_tr hXn10 hb))
    replace VX := hid (fun w' hb => VX.out w' (bl_tr hXn10 hb))
    have VY : Hid (∀ w', Below W10.heap.size W10 w' → Rv w' (.agg #[.bool b12, .slice o12 m12 c12, .bool bb12, .slice oo12 mm12 cc12]) (r * P + 1 * P) (P * P) 40) := hid (fun w' hb => H12.out.below (bl_tr hal10 hb) (Nat.le_refl _))
    have HB10 := hid (HB9.out.trans (hXn10.mono HB9.out.size)); have HW10 := hid hW10
    clear hW10 hal10 hXn10 HS9 HB9 HW9
    clear hXq hbq H12
    go_upto_region 19 with (fail)
    rw [← HW10.out]
    have hX0 := Below.refl W10.heap.size W10
    have tk11 := hid trivial
    have tk12 := hid trivial
    have tk13 := hid trivial
    have tk14 := hid trivial
    have tk15 := hid trivial
    go_region_held3 (fun w' => ((((((((((w'.cell? ⟨w.heap.size, 0, none⟩ = some (.bool a1) ∧ w'.cell? ⟨w.heap.size, 1, none⟩ = some (.slice p1 l1 q1) ∧ w'.cell? ⟨w.heap.size, 2, none⟩ = some (.bool aa1) ∧ w'.cell? ⟨w.heap.size, 3, none⟩ = some (.slice pp1 ll1 qq1) ∧ w'.cell? ⟨w.heap.size + 1, 0, none⟩ = some (.bool a2) ∧ w'.cell? ⟨w.heap.size + 1, 1, none⟩ = some (.slice p2 l2 q2)) ∧ w'.cell? ⟨wq1.heap.size, 0, none⟩ = some (.bool b1) ∧ w'.cell? ⟨wq1.heap.size, 1, none⟩ = some (.slice o1 m1 c1)) ∧ w'.cell? ⟨wq2.heap.size, 0, none⟩ = some (.bool b2) ∧ w'.cell? ⟨wq2.heap.size, 1, none⟩ = some (.slice o2 m2 c2) ∧ w'.cell? ⟨wq2.heap.size, 2, none⟩ = some (.bool bb2) ∧ w'.cell? ⟨wq2.heap.size, 3, none⟩ = some (.slice oo2 mm2 cc2)) ∧ w'.cell? ⟨wq3.heap.size, 0, none⟩ = some (.bool b3) ∧ w'.cell? ⟨wq3.heap.size, 1, none⟩ = some (.slice o3 m3 c3) ∧ w'.cell? ⟨wq3.heap.size, 2, none⟩ = some (.bool bb3) ∧ w'.cell? ⟨wq3.heap.size, 3, none⟩ = some (.slice oo3 mm3 cc3)) ∧ w'.cell? ⟨wq4.heap.size, 0, none⟩ = some (.bool b4) ∧ w'.cell? ⟨wq4.heap.size, 1, none⟩ = some (.slice o4 m4 c4) ∧ w'.cell? ⟨wq4.heap.size, 2, none⟩ = some (.bool bb4) ∧ w'.cell? ⟨wq4.heap.size, 3, none⟩ = some (.slice oo4 mm4 cc4)) ∧ w'.cell? ⟨wq5.heap.size, 0, none⟩ = some (.bool b5) ∧ w'.cell? ⟨wq5.heap.size, 1, none⟩ = some (.slice o5 m5 c5) ∧ w'.cell? ⟨wq5.heap.size, 2, none⟩ = some (.bool bb5) ∧ w'.cell? ⟨wq5.heap.size, 3, none⟩ = some (.slice oo5 mm5 cc5)) ∧ w'.cell? ⟨wq8.heap.size, 0, none⟩ = some (.bool b8) ∧ w'.cell? ⟨wq8.heap.size, 1, none⟩ = some (.slice o8 m8 c8) ∧ w'.cell? ⟨wq8.heap.size, 2, none⟩ = some (.bool bb8) ∧ w'.cell? ⟨wq8.heap.size, 3, none⟩ = some (.slice oo8 mm8 cc8)) ∧ w'.cell? ⟨wq9.heap.size, 0, none⟩ = some (.bool b9) ∧ w'.cell? ⟨wq9.heap.size, 1, none⟩ = some (.slice o9 m9 c9)) ∧ w'.cell? ⟨wq10.heap.size, 0, none⟩ = some (.bool b10) ∧ w'.cell? ⟨wq10.heap.size, 1, none⟩ = some (.slice o10 m10 c10)) ∧ w'.cell? ⟨wq11.heap.size, 0, none⟩ = some (.bool b11) ∧ w'.cell? ⟨wq11.heap.size, 1, none⟩ = some (.slice o11 m11 c11) ∧ w'.cell? ⟨wq11.heap.size, 2, none⟩ = some (.bool bb11) ∧ w'.cell? ⟨wq11.heap.size, 3, none⟩ = some (.slice oo11 mm11 cc11)) ∧ w'.cell? ⟨wq12.heap.size, 0, none⟩ = some (.bool b12) ∧ w'.cell? ⟨wq12.heap.size, 1, none⟩ = some (.slice o12 m12 c12) ∧ w'.cell? ⟨wq12.heap.size, 2, none⟩ = some (.bool bb12) ∧ w'.cell? ⟨wq12.heap.size, 3, none⟩ = some (.slice oo12 mm12 cc12)) ((refine HS10.out _ ?_; first | assumption | exact Below.drew (by assumption))) (first
      | (clear tk11; go_at_call 40; refine (signum_t _ _ _ z3 16 _ (VX.out _ hX0.drew) M3.out (by omega)).mono ?_; rintro e v1 ⟨rfl, hbq⟩; have hY1 : Below W10.heap.size W10 v1 := (hX0.drew).trans (hbq.mono (hX0.drew).size))
      | (clear tk12; go_at_call 36; refine (Times_rv _ _ _ _ _ _ 16 38 _ (VX.out _ hY1) (VX.out _ hY1) (by omega) (by omega)).mono ?_; rintro e v2 ⟨b13, o13, m13, c13, bb13, oo13, mm13, cc13, rfl, H13, hbq⟩; have hY2 : Below W10.heap.size W10 v2 := (hY1).trans (hbq.mono (hY1).size))
      | (clear tk13; go_at_call 38; refine (Compare_rv _ _ _ _ _ _ z4 38 _ H13.out ((VR.out _ hY2).mono (by omega)) M4.out (by omega)).mono ?_; rintro e v3 ⟨rfl, hbq⟩; have hY3 : Below W10.heap.size W10 v3 := (hY2).trans (hbq.mono (hY2).size))
      | (clear tk14; go_at_call 36; refine (Times_rv _ _ _ _ _ _ 40 86 _ (VY.out _ hY3) (VY.out _ hY3) (by omega) (by omega)).mono ?_; rintro e v4 ⟨b14, o14, m14, c14, bb14, oo14, mm14, cc14, rfl, H14, hbq⟩; have hY4 : Below W10.heap.size W10 v4 := (hY3).trans (hbq.mono (hY3).size))
      | (clear tk15; go_at_call 38; refine (Compare_rv _ _ _ _ _ _ 1 86 _ H14.out ((VR.out _ hY4).mono (by omega)) M5.out (by omega)).mono ?_; rintro e v5 ⟨rfl, hbq⟩; have hY5 : Below W10.heap.size W10 v5 := (hY4).trans (hbq.mono (hY4).size)))
    clear hX0 hY1 hY2 hY3 hY4
    go_wp2
    go_ret
    exact ⟨rfl, HB10.out.trans (hY5.mono HB10.out.size)⟩
end Go.Proofs.YtilpkocmdpofpaaGreatDoor
