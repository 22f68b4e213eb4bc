/- The law ExactField, its walk. Written by gen_field.py. -/
import Derived.Test.YtilpkocmdpofpaaGreatDoorZg39
import Derived.Test.YtilpkocmdpofpaaGreatDoorZg42
/- The law ExactField, its walk. Written by gen_field.py. -/
namespace Go.Proofs.YtilpkocmdpofpaaGreatDoor
open Go.RowKit

theorem signum_t (v : Value) (n d t : Int) (K : Nat) (w : World) (hv : Rv w v n d K) (ht : cmpI n 0 = t) (hK : K ≤ 1000) : Calls Tryz.prog 40 #[v] w fun e w' => e = .returned (.int .i64 t) ∧ Below w.heap.size w w' := by
  rw [← ht]; exact Signum_rv v n d K w hv hK
theorem wide_t (b1 b2 : Bool) (o1 o2 : Option Addr) (m1 c1 m2 c2 : Nat) (t : Int) (w : World) (ht : max (m1 : Int) (m2 : Int) = t) :
    Calls Tryz.prog 10 #[.agg #[.bool b1, .slice o1 m1 c1, .bool b2, .slice o2 m2 c2]] w fun e w' => e = .returned (.int .i64 t) ∧ Below w.heap.size w w' := by
  rw [← ht]; exact wide_any b1 b2 o1 o2 m1 c1 m2 c2 w
theorem cmp_field {n1 d1 n2 d2 n3 d3 : Int} (h : 0 < d2) : cmpI (n1 * n2 * (d3 * d2)) (n3 * n2 * (d1 * d2)) = cmpI (n1 * d3) (n3 * d1) * cmpI n2 0 := by
  have e1 : n1 * n2 * (d3 * d2) = (n1 * d3) * (n2 * d2) := by grind
  have e2 : n3 * n2 * (d1 * d2) = (n3 * d1) * (n2 * d2) := by grind
  rw [e1, e2, cmp_times, cmp_pos h]

set_option maxRecDepth 100000 in
set_option maxHeartbeats 1000000 in
theorem exactField_walk (a1 a2 a3 aa1 aa2 aa3 : Bool) (p1 p2 p3 pp1 pp2 pp3 : Option Addr) (l1 l2 l3 ll1 ll2 ll3 q1 q2 q3 qq1 qq2 qq3 : Nat) (n1 d1 n2 d2 n3 d3 : Int) (w : World) (hu : Rv w (.agg #[.bool a1, .slice p1 l1 q1, .bool aa1, .slice pp1 ll1 qq1]) n1 d1 8) (hv : Rv w (.agg #[.bool a2, .slice p2 l2 q2, .bool aa2, .slice pp2 ll2 qq2]) n2 d2 8) (ht : Rv w (.agg #[.bool a3, .slice p3 l3 q3, .bool aa3, .slice pp3 ll3 qq3]) n3 d3 8) (t1 t2 t3 : Int) (ht1 : max (l1 : Int) (ll1 : Int) = t1) (ht2 : max (l2 : Int) (ll2 : Int) = t2) (ht3 : max (l3 : Int) (ll3 : Int) = t3) (g1 : ¬ 8 < t1) (g2 : ¬ 8 < t2) (g3 : ¬ 8 < t3) :
    Calls Tryz.prog 5 #[.agg #[.bool a1, .slice p1 l1 q1, .bool aa1, .slice pp1 ll1 qq1], .agg #[.bool a2, .slice p2 l2 q2, .bool aa2, .slice pp2 ll2 qq2], .agg #[.bool a3, .slice p3 l3 q3, .bool aa3, .slice pp3 ll3 qq3]] w fun e w' => e = .returned (.bool true) ∧ Below w.heap.size w w' := by
  obtain ⟨W0, hW0⟩ : ∃ W0, W0 = (((w.alloc (.cells #[.bool a1, .slice p1 l1 q1, .bool aa1, .slice pp1 ll1 qq1] 26)).alloc (.cells #[.bool a2, .slice p2 l2 q2, .bool aa2, .slice pp2 ll2 qq2] 26)).alloc (.cells #[.bool a3, .slice p3 l3 q3, .bool aa3, .slice pp3 ll3 qq3] 26)) := ⟨_, rfl⟩
  have hB0 : Below w.heap.size w W0 := by rw [hW0]; exact (((Below.refl _ _).alloc (Nat.le_refl _) _).alloc (by simp) _).alloc (by simp <;> omega) _
  have hz0 : W0.heap.size = w.heap.size + 3 := by rw [hW0]; simp
  have HS : Hid (∀ w', Below W0.heap.size W0 w' → w'.cell? ⟨w.heap.size, 0, none⟩ = some (.bool a1) ∧ w'.cell? ⟨w.heap.size, 1, none⟩ = some (.slice p1 l1 q1) ∧ w'.cell? ⟨w.heap.size, 2, none⟩ = some (.bool aa1) ∧ w'.cell? ⟨w.heap.size, 3, none⟩ = some (.slice pp1 ll1 qq1) ∧ w'.cell? ⟨w.heap.size + 1, 0, none⟩ = some (.bool a2) ∧ w'.cell? ⟨w.heap.size + 1, 1, none⟩ = some (.slice p2 l2 q2) ∧ w'.cell? ⟨w.heap.size + 1, 2, none⟩ = some (.bool aa2) ∧ w'.cell? ⟨w.heap.size + 1, 3, none⟩ = some (.slice pp2 ll2 qq2) ∧ w'.cell? ⟨w.heap.size + 2, 0, none⟩ = some (.bool a3) ∧ w'.cell? ⟨w.heap.size + 2, 1, none⟩ = some (.slice p3 l3 q3) ∧ w'.cell? ⟨w.heap.size + 2, 2, none⟩ = some (.bool aa3) ∧ w'.cell? ⟨w.heap.size + 2, 3, none⟩ = some (.slice pp3 ll3 qq3)) := hid (fun w' hb => by
    refine ⟨?_, ?_, ?_, ?_, ?_, ?_, ?_, ?_, ?_, ?_, ?_, ?_⟩ <;> (rw [hb.cell (by rw [hz0]; simp <;> omega), hW0]; simp [go_sem]))
  have HA : Hid (∀ w', Below W0.heap.size W0 w' → Rv w' (.agg #[.bool a1, .slice p1 l1 q1, .bool aa1, .slice pp1 ll1 qq1]) n1 d1 8) := hid (fun w' hb => (hu.below hB0 (Nat.le_refl _)).below hb (Nat.le_refl _))
  have HBv : Hid (∀ w', Below W0.heap.size W0 w' → Rv w' (.agg #[.bool a2, .slice p2 l2 q2, .bool aa2, .slice pp2 ll2 qq2]) n2 d2 8) := hid (fun w' hb => (hv.below hB0 (Nat.le_refl _)).below hb (Nat.le_refl _))
  have HC : Hid (∀ w', Below W0.heap.size W0 w' → Rv w' (.agg #[.bool a3, .slice p3 l3 q3, .bool aa3, .slice pp3 ll3 qq3]) n3 d3 8) := hid (fun w' hb => (ht.below hB0 (Nat.le_refl _)).below hb (Nat.le_refl _))
  have pd2 := hid hv.1
  obtain ⟨r1, hr1⟩ : ∃ r1, r1 = cmpI (n1 * d2) (n2 * d1) := ⟨_, rfl⟩
  obtain ⟨r2, hr2⟩ : ∃ r2, r2 = cmpI n2 0 := ⟨_, rfl⟩
  obtain ⟨r3, hr3⟩ : ∃ r3, r3 = cmpI (n1 * d3) (n3 * d1) := ⟨_, rfl⟩
  have M0 := hid (show cmpI (n1 * d2) (n2 * d1) = r1 from hr1.symm)
  have M1 := hid (show cmpI (n2 * d1) (n1 * d2) = -r1 by rw [hr1]; exact cmp_turn _ _)
  have M2 := hid (show cmpI n2 0 = r2 from hr2.symm)
  have M3 := hid (show cmpI (n1 * d3) (n3 * d1) = r3 from hr3.symm)
  have M4 := hid (show cmpI (n1 * n2 * (d3 * d2)) (n3 * n2 * (d1 * d2)) = r3 * r2 by rw [hr3, hr2]; exact cmp_field hv.1)
  have qw1 : IntKind.i64.wrap (r3 * r2) = r3 * r2 := by rcases cmp_range (n1 * d3) (n3 * d1) with h | h | h <;> rcases cmp_range n2 0 with g | g | g <;> (rw [hr3, hr2, h, g]; decide)
  have qw2 : IntKind.i64.wrap (-r1) = -r1 := by rcases cmp_range (n1 * d2) (n2 * d1) with h | h | h <;> (rw [hr1, h]; decide)
  have HB0 := hid hB0; have HW := hid hW0; have T1 := hid ht1; have T2 := hid ht2; have T3 := hid ht3
  clear hW0 hB0 hz0 hu hv ht hr1 hr2 hr3 ht1 ht2 ht3
  go_enter Tryz.func5, Tryz.ntmps5
  go_wp2_with fail
  rw [← HW.out]
  refine (alive_any _).mono ?_
  rintro e w0 ⟨rfl, hX0⟩
  obtain ⟨k0, k1, k2, k3, k4, k5, k6, k7, k8, k9, k10, k11⟩ := HS.out _ hX0
  go_wp2_with fail
  refine (wide_t _ _ _ _ _ _ _ _ t1 _ T1.out).mono ?_
  rintro e wa ⟨rfl, hba⟩
  have hXa := bl_tr hX0 hba
  clear k0 k1 k2 k3 k4 k5 k6 k7 k8 k9 k10 k11 hba
  obtain ⟨k0, k1, k2, k3, k4, k5, k6, k7, k8, k9, k10, k11⟩ := HS.out _ hXa
  go_wp2_with fail
  refine (wide_t _ _ _ _ _ _ _ _ t2 _ T2.out).mono ?_
  rintro e wb ⟨rfl, hbb⟩
  have hXb := bl_tr hXa hbb
  clear k0 k1 k2 k3 k4 k5 k6 k7 k8 k9 k10 k11 hbb
  obtain ⟨k0, k1, k2, k3, k4, k5, k6, k7, k8, k9, k10, k11⟩ := HS.out _ hXb
  go_wp2_with fail
  refine (wide_t _ _ _ _ _ _ _ _ t3 _ T3.out).mono ?_
  rintro e wc0 ⟨rfl, hbc⟩
  have hXc := bl_tr hXb hbc
  clear k0 k1 k2 k3 k4 k5 k6 k7 k8 k9 k10 k11 hbc hX0 hXa hXb
  go_upto_region 4 with (fail)
  have tk1 := hid trivial
  have tk2 := hid trivial
  have tk3 := hid trivial
  have tk4 := hid trivial
  have tk5 := hid trivial
  have tk6 := hid trivial
  have tk7 := hid trivial
  have tk8 := hid trivial
  go_region_held3 (fun w' => w'.cell? ⟨w.heap.size, 0, none⟩ = some (.bool a1) ∧ w'.cell? ⟨w.heap.size, 1, none⟩ = some (.slice p1 l1 q1) ∧ w'.cell? ⟨w.heap.size, 2, none⟩ = some (.bool aa1) ∧ w'.cell? ⟨w.heap.size, 3, none⟩ = some (.slice pp1 ll1 qq1) ∧ w'.cell? ⟨w.heap.size + 1, 0, none⟩ = some (.bool a2) ∧ w'.cell? ⟨w.heap.size + 1, 1, none⟩ = some (.slice p2 l2 q2) ∧ w'.cell? ⟨w.heap.size + 1, 2, none⟩ = some (.bool aa2) ∧ w'.cell? ⟨w.heap.size + 1, 3, none⟩ = some (.slice pp2 ll2 qq2) ∧ w'.cell? ⟨w.heap.size + 2, 0, none⟩ = some (.bool a3) ∧ w'.cell? ⟨w.heap.size + 2, 1, none⟩ = some (.slice p3 l3 q3) ∧ w'.cell? ⟨w.heap.size + 2, 2, none⟩ = some (.bool aa3) ∧ w'.cell? ⟨w.heap.size + 2, 3, none⟩ = some (.slice pp3 ll3 qq3)) ((refine HS.out _ ?_; first | assumption | exact Below.drew (by assumption))) (first
    | (clear tk1; go_at_call 35; refine (Plus_rv _ _ _ _ _ _ 8 24 _ (HA.out _ hXc.drew) (HBv.out _ hXc.drew) (by omega) (by omega)).mono ?_; rintro e w1 ⟨b1, o1, m1, c1, bb1, oo1, mm1, cc1, rfl, H1, hb1⟩; have hX1 : Below W0.heap.size W0 w1 := (hXc.drew).trans (hb1.mono (hXc.drew).size))
    | (clear tk2; go_at_call 35; refine (Plus_rv _ _ _ _ _ _ 8 24 _ (HBv.out _ hX1) (HA.out _ hX1) (by omega) (by omega)).mono ?_; rintro e w2 ⟨b2, o2, m2, c2, bb2, oo2, mm2, cc2, rfl, H2, hb2⟩; have hX2 : Below W0.heap.size W0 w2 := (hX1).trans (hb2.mono (hX1).size); have hP1_2 := hb2)
    | (clear tk3; go_at_call 34; refine (same_rv _ _ _ _ _ _ 24 _ (H1.out.below hP1_2 (Nat.le_refl _)) H2.out (by grind) (by omega)).mono ?_; rintro e w3 ⟨rfl, hb3⟩; have hX3 : Below W0.heap.size W0 w3 := (hX2).trans (hb3.mono (hX2).size))
    | (clear tk4; go_at_call 35; refine (Plus_rv _ _ _ _ _ _ 8 24 _ (HA.out _ hX3) (HBv.out _ hX3) (by omega) (by omega)).mono ?_; rintro e w4 ⟨b4, o4, m4, c4, bb4, oo4, mm4, cc4, rfl, H4, hb4⟩; have hX4 : Below W0.heap.size W0 w4 := (hX3).trans (hb4.mono (hX3).size))
    | (clear tk5; go_at_call 35; refine (Plus_rv _ _ _ _ _ _ 24 56 _ H4.out ((HC.out _ hX4).mono (by omega)) (by omega) (by omega)).mono ?_; rintro e w5 ⟨b5, o5, m5, c5, bb5, oo5, mm5, cc5, rfl, H5, hb5⟩; have hX5 : Below W0.heap.size W0 w5 := (hX4).trans (hb5.mono (hX4).size))
    | (clear tk6; go_at_call 35; refine (Plus_rv _ _ _ _ _ _ 8 24 _ (HBv.out _ hX5) (HC.out _ hX5) (by omega) (by omega)).mono ?_; rintro e w6 ⟨b6, o6, m6, c6, bb6, oo6, mm6, cc6, rfl, H6, hb6⟩; have hX6 : Below W0.heap.size W0 w6 := (hX5).trans (hb6.mono (hX5).size); have hP5_6 := hb6)
    | (clear tk7; go_at_call 35; refine (Plus_rv _ _ _ _ _ _ 24 56 _ ((HA.out _ hX6).mono (by omega)) H6.out (by omega) (by omega)).mono ?_; rintro e w7 ⟨b7, o7, m7, c7, bb7, oo7, mm7, cc7, rfl, H7, hb7⟩; have hX7 : Below W0.heap.size W0 w7 := (hX6).trans (hb7.mono (hX6).size); have hP5_7 := hP5_6.trans (hb7.mono hP5_6.size))
    | (clear tk8; go_at_call 34; refine (same_rv _ _ _ _ _ _ 56 _ (H5.out.below hP5_7 (Nat.le_refl _)) H7.out (by grind) (by omega)).mono ?_; rintro e w8 ⟨rfl, hb8⟩; have hX8 : Below W0.heap.size W0 w8 := (hX7).trans (hb8.mono (hX7).size)))
  clear hX1 hX2 hX3 hX4 hX5 hX6 hX7 hXc
  go_upto_region 5 with (fail)
  have tk9 := hid trivial
  have tk10 := hid trivial
  have tk11 := hid trivial
  have tk12 := hid trivial
  have tk13 := hid trivial
  have tk14 := hid trivial
  go_region_held3 (fun w' => w'.cell? ⟨w.heap.size, 0, none⟩ = some (.bool a1) ∧ w'.cell? ⟨w.heap.size, 1, none⟩ = some (.slice p1 l1 q1) ∧ w'.cell? ⟨w.heap.size, 2, none⟩ = some (.bool aa1) ∧ w'.cell? ⟨w.heap.size, 3, none⟩ = some (.slice pp1 ll1 qq1) ∧ w'.cell? ⟨w.heap.size + 1, 0, none⟩ = some (.bool a2) ∧ w'.cell? ⟨w.heap.size + 1, 1, none⟩ = some (.slice p2 l2 q2) ∧ w'.cell? ⟨w.heap.size + 1, 2, none⟩ = some (.bool aa2) ∧ w'.cell? ⟨w.heap.size + 1, 3, none⟩ = some (.slice pp2 ll2 qq2) ∧ w'.cell? ⟨w.heap.size + 2, 0, none⟩ = some (.bool a3) ∧ w'.cell? ⟨w.heap.size + 2, 1, none⟩ = some (.slice p3 l3 q3) ∧ w'.cell? ⟨w.heap.size + 2, 2, none⟩ = some (.bool aa3) ∧ w'.cell? ⟨w.heap.size + 2, 3, none⟩ = some (.slice pp3 ll3 qq3)) ((refine HS.out _ ?_; first | assumption | exact Below.drew (by assumption))) (first
    | (clear tk9; go_at_call 35; refine (Plus_rv _ _ _ _ _ _ 8 24 _ (HA.out _ hX8.drew) (HBv.out _ hX8.drew) (by omega) (by omega)).mono ?_; rintro e w9 ⟨b9, o9, m9, c9, bb9, oo9, mm9, cc9, rfl, H9, hb9⟩; have hX9 : Below W0.heap.size W0 w9 := (hX8.drew).trans (hb9.mono (hX8.drew).size))
    | (clear tk10; go_at_call 36; refine (Times_rv _ _ _ _ _ _ 24 54 _ H9.out ((HC.out _ hX9).mono (by omega)) (by omega) (by omega)).mono ?_; rintro e w10 ⟨b10, o10, m10, c10, bb10, oo10, mm10, cc10, rfl, H10, hb10⟩; have hX10 : Below W0.heap.size W0 w10 := (hX9).trans (hb10.mono (hX9).size))
    | (clear tk11; go_at_call 36; refine (Times_rv _ _ _ _ _ _ 8 22 _ (HA.out _ hX10) (HC.out _ hX10) (by omega) (by omega)).mono ?_; rintro e w11 ⟨b11, o11, m11, c11, bb11, oo11, mm11, cc11, rfl, H11, hb11⟩; have hX11 : Below W0.heap.size W0 w11 := (hX10).trans (hb11.mono (hX10).size); have hP10_11 := hb11)
    | (clear tk12; go_at_call 36; refine (Times_rv _ _ _ _ _ _ 8 22 _ (HBv.out _ hX11) (HC.out _ hX11) (by omega) (by omega)).mono ?_; rintro e w12 ⟨b12, o12, m12, c12, bb12, oo12, mm12, cc12, rfl, H12, hb12⟩; have hX12 : Below W0.heap.size W0 w12 := (hX11).trans (hb12.mono (hX11).size); have hP10_12 := hP10_11.trans (hb12.mono hP10_11.size); have hP11_12 := hb12)
    | (clear tk13; go_at_call 35; refine (Plus_rv _ _ _ _ _ _ 22 52 _ (H11.out.below hP11_12 (Nat.le_refl _)) H12.out (by omega) (by omega)).mono ?_; rintro e w13 ⟨b13, o13, m13, c13, bb13, oo13, mm13, cc13, rfl, H13, hb13⟩; have hX13 : Below W0.heap.size W0 w13 := (hX12).trans (hb13.mono (hX12).size); have hP10_13 := hP10_12.trans (hb13.mono hP10_12.size))
    | (clear tk14; go_at_call 34; refine (same_rv _ _ _ _ _ _ 54 _ (H10.out.below hP10_13 (Nat.le_refl _)) (H13.out.mono (by omega)) (by grind) (by omega)).mono ?_; rintro e w14 ⟨rfl, hb14⟩; have hX14 : Below W0.heap.size W0 w14 := (hX13).trans (hb14.mono (hX13).size)))
  clear hX9 hX10 hX11 hX12 hX13 hX8
  go_upto_region 6 with (fail)
  have tk15 := hid trivial
  have tk16 := hid trivial
  have tk17 := hid trivial
  have tk18 := hid trivial
  have tk19 := hid trivial
  go_region_held3 (fun w' => w'.cell? ⟨w.heap.size, 0, none⟩ = some (.bool a1) ∧ w'.cell? ⟨w.heap.size, 1, none⟩ = some (.slice p1 l1 q1) ∧ w'.cell? ⟨w.heap.size, 2, none⟩ = some (.bool aa1) ∧ w'.cell? ⟨w.heap.size, 3, none⟩ = some (.slice pp1 ll1 qq1) ∧ w'.cell? ⟨w.heap.size + 1, 0, none⟩ = some (.bool a2) ∧ w'.cell? ⟨w.heap.size + 1, 1, none⟩ = some (.slice p2 l2 q2) ∧ w'.cell? ⟨w.heap.size + 1, 2, none⟩ = some (.bool aa2) ∧ w'.cell? ⟨w.heap.size + 1, 3, none⟩ = some (.slice pp2 ll2 qq2) ∧ w'.cell? ⟨w.heap.size + 2, 0, none⟩ = some (.bool a3) ∧ w'.cell? ⟨w.heap.size + 2, 1, none⟩ = some (.slice p3 l3 q3) ∧ w'.cell? ⟨w.heap.size + 2, 2, none⟩ = some (.bool aa3) ∧ w'.cell? ⟨w.heap.size + 2, 3, none⟩ = some (.slice pp3 ll3 qq3)) ((refine HS.out _ ?_; first | assumption | exact Below.drew (by assumption))) (first
    | (clear tk15; go_at_call 35; refine (Plus_rv _ _ _ _ _ _ 8 24 _ (HA.out _ hX14.drew) (HBv.out _ hX14.drew) (by omega) (by omega)).mono ?_; rintro e w15 ⟨b15, o15, m15, c15, bb15, oo15, mm15, cc15, rfl, H15, hb15⟩; have hX15 : Below W0.heap.size W0 w15 := (hX14.drew).trans (hb15.mono (hX14.drew).size))
    | (clear tk16; go_at_call 37; refine (Minus_rv _ _ _ _ _ _ 24 56 _ H15.out ((HBv.out _ hX15).mono (by omega)) (by omega) (by omega)).mono ?_; rintro e w16 ⟨b16, o16, m16, c16, bb16, oo16, mm16, cc16, rfl, H16, hb16⟩; have hX16 : Below W0.heap.size W0 w16 := (hX15).trans (hb16.mono (hX15).size))
    | (clear tk17; go_at_call 34; refine (same_rv _ _ _ _ _ _ 56 _ H16.out ((HA.out _ hX16).mono (by omega)) (by grind) (by omega)).mono ?_; rintro e w17 ⟨rfl, hb17⟩; have hX17 : Below W0.heap.size W0 w17 := (hX16).trans (hb17.mono (hX16).size))
    | (clear tk18; go_at_call 38; refine (Compare_rv _ _ _ _ _ _ (-r1) 8 _ (HBv.out _ hX17) (HA.out _ hX17) M1.out (by omega)).mono ?_; rintro e w18 ⟨rfl, hb18⟩; have hX18 : Below W0.heap.size W0 w18 := (hX17).trans (hb18.mono (hX17).size))
    | (clear tk19; go_at_call 38; refine (Compare_rv _ _ _ _ _ _ (r1) 8 _ (HA.out _ hX18) (HBv.out _ hX18) M0.out (by omega)).mono ?_; rintro e w19 ⟨rfl, hb19⟩; have hX19 : Below W0.heap.size W0 w19 := (hX18).trans (hb19.mono (hX18).size)))
  clear hX15 hX16 hX17 hX18 hX14
  by_cases hn2 : n2 = 0
  · have Hz := hid (show r2 = 0 by rw [← M2.out, hn2]; rfl)
    subst hn2
    go_upto_region 7 with (fail)
    obtain ⟨k0, k1, k2, k3, k4, k5, k6, k7, k8, k9, k10, k11⟩ := HS.out _ hX19
    go_wp2_with fail
    refine (Quotient_rz _ _ n1 d1 d2 8 _ (HA.out _ hX19) (HBv.out _ hX19) (by omega)).mono ?_
    rintro e wq ⟨rfl, hbq⟩
    have hXq := bl_tr hX19 hbq
    clear k0 k1 k2 k3 k4 k5 k6 k7 k8 k9 k10 k11
    obtain ⟨k0, k1, k2, k3, k4, k5, k6, k7, k8, k9, k10, k11⟩ := HS.out _ (hXq.alloc hXq.size (.cells #[.bool false, .slice none 0 0, .bool false, .slice none 0 0] 26))
    have Mz := hid (show cmpI (0 : Int) 0 = 0 from rfl)
    go_wp2_with fail
    refine (signum_t _ 0 d2 0 8 _ (HBv.out _ (hXq.alloc hXq.size _)) Mz.out (by omega)).mono ?_
    rintro e ws ⟨rfl, hbs⟩
    have hXs := bl_tr (hXq.alloc hXq.size _) hbs
    go_wp2
    go_ret
    exact ⟨rfl, HB0.out.trans (hXs.mono HB0.out.size)⟩
  · have hr20 : ¬ r2 = 0 := by rw [← M2.out]; unfold cmpI; (repeat' split) <;> omega
    have Hn := hid hn2
    clear hn2
    go_upto_region 7 with (fail)
    obtain ⟨k0, k1, k2, k3, k4, k5, k6, k7, k8, k9, k10, k11⟩ := HS.out _ hX19
    go_wp2_with fail
    refine (Quotient_rv _ _ n1 d1 n2 d2 8 22 _ (HA.out _ hX19) (HBv.out _ hX19) Hn.out (by omega) (by omega)).mono ?_
    rintro e wq ⟨a4, p4, l4, q4, aa4, pp4, ll4, qq4, rfl, HQ, hbq⟩
    have hXq := bl_tr hX19 hbq
    clear k0 k1 k2 k3 k4 k5 k6 k7 k8 k9 k10 k11
    obtain ⟨W7, hW7⟩ : ∃ W7, W7 = wq.alloc (.cells #[.bool a4, .slice p4 l4 q4, .bool aa4, .slice pp4 ll4 qq4] 26) := ⟨_, rfl⟩
    have hal : Below wq.heap.size wq W7 := by rw [hW7]; exact (Below.refl _ _).alloc (Nat.le_refl _) _
    have hz7 : W7.heap.size = wq.heap.size + 1 := by rw [hW7]; simp
    have hX7 := bl_tr hXq hal
    have HS7 : Hid (∀ w', Below W7.heap.size W7 w' → (w'.cell? ⟨w.heap.size, 0, none⟩ = some (.bool a1) ∧ w'.cell? ⟨w.heap.size, 1, none⟩ = some (.slice p1 l1 q1) ∧ w'.cell? ⟨w.heap.size, 2, none⟩ = some (.bool aa1) ∧ w'.cell? ⟨w.heap.size, 3, none⟩ = some (.slice pp1 ll1 qq1) ∧ w'.cell? ⟨w.heap.size + 1, 0, none⟩ = some (.bool a2) ∧ w'.cell? ⟨w.heap.size + 1, 1, none⟩ = some (.slice p2 l2 q2) ∧ w'.cell? ⟨w.heap.size + 1, 2, none⟩ = some (.bool aa2) ∧ w'.cell? ⟨w.heap.size + 1, 3, none⟩ = some (.slice pp2 ll2 qq2) ∧ w'.cell? ⟨w.heap.size + 2, 0, none⟩ = some (.bool a3) ∧ w'.cell? ⟨w.heap.size + 2, 1, none⟩ = some (.slice p3 l3 q3) ∧ w'.cell? ⟨w.heap.size + 2, 2, none⟩ = some (.bool aa3) ∧ w'.cell? ⟨w.heap.size + 2, 3, none⟩ = some (.slice pp3 ll3 qq3)) ∧ w'.cell? ⟨wq.heap.size, 0, none⟩ = some (.bool a4) ∧ w'.cell? ⟨wq.heap.size, 1, none⟩ = some (.slice p4 l4 q4) ∧ w'.cell? ⟨wq.heap.size, 2, none⟩ = some (.bool aa4) ∧ w'.cell? ⟨wq.heap.size, 3, none⟩ = some (.slice pp4 ll4 qq4)) := hid (fun w' hb => by
      refine ⟨HS.out _ (bl_tr hX7 hb), ?_, ?_, ?_, ?_⟩ <;> (rw [hb.cell (by rw [hz7]; simp), hW7]; simp [go_sem]))
    have HA7 : Hid (∀ w', Below W7.heap.size W7 w' → Rv w' (.agg #[.bool a1, .slice p1 l1 q1, .bool aa1, .slice pp1 ll1 qq1]) n1 d1 8) := hid (fun w' hb => HA.out _ (bl_tr hX7 hb))
    have HB7 : Hid (∀ w', Below W7.heap.size W7 w' → Rv w' (.agg #[.bool a2, .slice p2 l2 q2, .bool aa2, .slice pp2 ll2 qq2]) n2 d2 8) := hid (fun w' hb => HBv.out _ (bl_tr hX7 hb))
    have HC7 : Hid (∀ w', Below W7.heap.size W7 w' → Rv w' (.agg #[.bool a3, .slice p3 l3 q3, .bool aa3, .slice pp3 ll3 qq3]) n3 d3 8) := hid (fun w' hb => HC.out _ (bl_tr hX7 hb))
    have HQ7 : Hid (∀ w', Below W7.heap.size W7 w' → Rv w' (.agg #[.bool a4, .slice p4 l4 q4, .bool aa4, .slice pp4 ll4 qq4]) (n1 * d2 * cmpI n2 0) (d1 * (n2 * cmpI n2 0)) 22) := hid (fun w' hb => HQ.out.below (bl_tr hal hb) (Nat.le_refl _))
    have HX7 := hid hX7; have HW7 := hid hW7
    clear hX7 hW7 hal hz7 hXq hX19 hbq
    have hY0 := Below.refl W7.heap.size W7
    go_upto_region 8 with (fail)
    rw [← HW7.out]
    obtain ⟨⟨k0, k1, k2, k3, k4, k5, k6, k7, k8, k9, k10, k11⟩, k12, k13, k14, k15⟩ := HS7.out _ hY0
    go_wp2_with fail
    refine (signum_t _ n2 d2 r2 8 _ (HB7.out _ hY0) M2.out (by omega)).mono ?_
    rintro e ws ⟨rfl, hYs⟩
    clear k0 k1 k2 k3 k4 k5 k6 k7 k8 k9 k10 k11 k12 k13 k14 k15
    go_upto_region 10 with (fail)
    have tk20 := hid trivial
    have tk21 := hid trivial
    have tk22 := hid trivial
    have tk23 := hid trivial
    have tk24 := hid trivial
    go_region_held3 (fun w' => (w'.cell? ⟨w.heap.size, 0, none⟩ = some (.bool a1) ∧ w'.cell? ⟨w.heap.size, 1, none⟩ = some (.slice p1 l1 q1) ∧ w'.cell? ⟨w.heap.size, 2, none⟩ = some (.bool aa1) ∧ w'.cell? ⟨w.heap.size, 3, none⟩ = some (.slice pp1 ll1 qq1) ∧ w'.cell? ⟨w.heap.size + 1, 0, none⟩ = some (.bool a2) ∧ w'.cell? ⟨w.heap.size + 1, 1, none⟩ = some (.slice p2 l2 q2) ∧ w'.cell? ⟨w.heap.size + 1, 2, none⟩ = some (.bool aa2) ∧ w'.cell? ⟨w.heap.size + 1, 3, none⟩ = some (.slice pp2 ll2 qq2) ∧ w'.cell? ⟨w.heap.size + 2, 0, none⟩ = some (.bool a3) ∧ w'.cell? ⟨w.heap.size + 2, 1, none⟩ = some (.slice p3 l3 q3) ∧ w'.cell? ⟨w.heap.size + 2, 2, none⟩ = some (.bool aa3) ∧ w'.cell? ⟨w.heap.size + 2, 3, none⟩ = some (.slice pp3 ll3 qq3)) ∧ w'.cell? ⟨wq.heap.size, 0, none⟩ = some (.bool a4) ∧ w'.cell? ⟨wq.heap.size, 1, none⟩ = some (.slice p4 l4 q4) ∧ w'.cell? ⟨wq.heap.size, 2, none⟩ = some (.bool aa4) ∧ w'.cell? ⟨wq.heap.size, 3, none⟩ = some (.slice pp4 ll4 qq4)) ((refine HS7.out _ ?_; first | assumption | exact Below.drew (by assumption))) (first
    | (clear tk20; go_at_call 36; refine (Times_rv _ _ _ _ _ _ 8 22 _ (HA7.out _ hYs.drew) (HB7.out _ hYs.drew) (by omega) (by omega)).mono ?_; rintro e w20 ⟨b20, o20, m20, c20, bb20, oo20, mm20, cc20, rfl, H20, hb20⟩; have hX20 : Below W7.heap.size W7 w20 := (hYs.drew).trans (hb20.mono (hYs.drew).size))
    | (clear tk21; go_at_call 36; refine (Times_rv _ _ _ _ _ _ 8 22 _ (HC7.out _ hX20) (HB7.out _ hX20) (by omega) (by omega)).mono ?_; rintro e w21 ⟨b21, o21, m21, c21, bb21, oo21, mm21, cc21, rfl, H21, hb21⟩; have hX21 : Below W7.heap.size W7 w21 := (hX20).trans (hb21.mono (hX20).size); have hP20_21 := hb21)
    | (clear tk22; go_at_call 38; refine (Compare_rv _ _ _ _ _ _ (r3 * r2) 22 _ (H20.out.below hP20_21 (Nat.le_refl _)) H21.out M4.out (by omega)).mono ?_; rintro e w22 ⟨rfl, hb22⟩; have hX22 : Below W7.heap.size W7 w22 := (hX21).trans (hb22.mono (hX21).size))
    | (clear tk23; go_at_call 38; refine (Compare_rv _ _ _ _ _ _ (r3) 8 _ (HA7.out _ hX22) (HC7.out _ hX22) M3.out (by omega)).mono ?_; rintro e w23 ⟨rfl, hb23⟩; have hX23 : Below W7.heap.size W7 w23 := (hX22).trans (hb23.mono (hX22).size))
    | (clear tk24; go_at_call 40; refine (signum_t _ _ _ (r2) 8 _ (HB7.out _ hX23) M2.out (by omega)).mono ?_; rintro e w24 ⟨rfl, hb24⟩; have hX24 : Below W7.heap.size W7 w24 := (hX23).trans (hb24.mono (hX23).size)))
    clear hX20 hX21 hX22 hX23 hYs
    go_upto_region 11 with (fail)
    have tk25 := hid trivial
    have tk26 := hid trivial
    go_region_held3 (fun w' => (w'.cell? ⟨w.heap.size, 0, none⟩ = some (.bool a1) ∧ w'.cell? ⟨w.heap.size, 1, none⟩ = some (.slice p1 l1 q1) ∧ w'.cell? ⟨w.heap.size, 2, none⟩ = some (.bool aa1) ∧ w'.cell? ⟨w.heap.size, 3, none⟩ = some (.slice pp1 ll1 qq1) ∧ w'.cell? ⟨w.heap.size + 1, 0, none⟩ = some (.bool a2) ∧ w'.cell? ⟨w.heap.size + 1, 1, none⟩ = some (.slice p2 l2 q2) ∧ w'.cell? ⟨w.heap.size + 1, 2, none⟩ = some (.bool aa2) ∧ w'.cell? ⟨w.heap.size + 1, 3, none⟩ = some (.slice pp2 ll2 qq2) ∧ w'.cell? ⟨w.heap.size + 2, 0, none⟩ = some (.bool a3) ∧ w'.cell? ⟨w.heap.size + 2, 1, none⟩ = some (.slice p3 l3 q3) ∧ w'.cell? ⟨w.heap.size + 2, 2, none⟩ = some (.bool aa3) ∧ w'.cell? ⟨w.heap.size + 2, 3, none⟩ = some (.slice pp3 ll3 qq3)) ∧ w'.cell? ⟨wq.heap.size, 0, none⟩ = some (.bool a4) ∧ w'.cell? ⟨wq.heap.size, 1, none⟩ = some (.slice p4 l4 q4) ∧ w'.cell? ⟨wq.heap.size, 2, none⟩ = some (.bool aa4) ∧ w'.cell? ⟨wq.heap.size, 3, none⟩ = some (.slice pp4 ll4 qq4)) ((refine HS7.out _ ?_; first | assumption | exact Below.drew (by assumption))) (first
    | (clear tk25; go_at_call 36; refine (Times_rv _ _ _ _ _ _ 22 50 _ (HQ7.out _ hX24.drew) ((HB7.out _ hX24.drew).mono (by omega)) (by omega) (by omega)).mono ?_; rintro e w25 ⟨b25, o25, m25, c25, bb25, oo25, mm25, cc25, rfl, H25, hb25⟩; have hX25 : Below W7.heap.size W7 w25 := (hX24.drew).trans (hb25.mono (hX24.drew).size))
    | (clear tk26; go_at_call 34; refine (same_rv _ _ _ _ _ _ 50 _ H25.out ((HA7.out _ hX25).mono (by omega)) (by grind) (by omega)).mono ?_; rintro e w26 ⟨rfl, hb26⟩; have hX26 : Below W7.heap.size W7 w26 := (hX25).trans (hb26.mono (hX25).size)))
    clear hX25 hX24
    go_wp2
    go_ret
    exact ⟨rfl, HB0.out.trans ((bl_tr HX7.out hX26).mono HB0.out.size)⟩
end Go.Proofs.YtilpkocmdpofpaaGreatDoor
