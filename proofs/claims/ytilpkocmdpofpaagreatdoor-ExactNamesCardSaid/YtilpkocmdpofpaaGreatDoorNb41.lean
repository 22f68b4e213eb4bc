/- The law ExactNames, its walk. Written by gen_names.py. -/
import Derived.Test.YtilpkocmdpofpaaGreatDoorNb40
import Derived.Test.YtilpkocmdpofpaaGreatDoorNb36
/- The law ExactNames, its walk. Written by gen_names.py. -/
namespace Go.Proofs.YtilpkocmdpofpaaGreatDoor
open Go.RowKit

set_option maxRecDepth 100000 in
set_option maxHeartbeats 4000000 in
theorem exactNames_walk (W0 : World) (hT : Tab W0) (hM : Mx W0) :
    Calls Tryz.prog 4 #[] W0 fun e w' => e = .returned (.bool true) ∧ Below W0.heap.size W0 w' := by
  have hB0 : Below W0.heap.size W0 W0 := Below.refl _ _
  have HS0 : Hid (∀ w', Below W0.heap.size W0 w' → True) := hid (fun _ _ => trivial)
  have HT : Hid (∀ w', Below W0.heap.size W0 w' → Tab w') := hid (fun w' hb => (hT.below hB0).below hb)
  have HM : Hid (∀ w', Below W0.heap.size W0 w' → Mx w') := hid (fun w' hb => (hM.below hB0).below hb)
  have HB0 := hid hB0; have HW0 := hid trivial
  clear hB0 hT hM
  go_enter Tryz.func4, Tryz.ntmps4
  go_upto_region 1 with (fail)
  have hX := Below.refl W0.heap.size W0
  go_wp2_with fail
  refine (of_s2 (-7) _ (by decide) (by decide)).mono ?_
  rintro e w1 ⟨b1, o1, m1, c1, rfl, H1, hb1⟩
  have hX1 := bl_tr hX hb1
  go_wp2_with fail
  refine (of_s2 2 _ (by decide) (by decide)).mono ?_
  rintro e w2 ⟨b2, o2, m2, c2, rfl, H2, hb2⟩
  have hX2 := bl_tr hX1 hb2
  go_wp2_with fail
  refine (div_z _ _ (-7) 2 (-4) 1 2 7 _ (H1.out.below hb2 (Nat.le_refl _)) H2.out (by decide) (by decide) (by decide) (by omega) (by omega)).mono ?_
  rintro e w3 ⟨b3, o3, m3, c3, bb3, oo3, mm3, cc3, rfl, H3, HH3, hb3⟩
  have hX3 := bl_tr hX2 hb3
  go_upto_region 2 with (fail)
  obtain ⟨W1, hW1⟩ : ∃ W, W = (w3.alloc (.cells #[.bool b3, .slice o3 m3 c3] 24)).alloc (.cells #[.bool bb3, .slice oo3 mm3 cc3] 24) := ⟨_, rfl⟩
  have hal1 : Below w3.heap.size w3 W1 := by rw [hW1]; exact ((Below.refl _ _).alloc (Nat.le_refl _) _).alloc (by simp) _
  have hXn1 : Below W0.heap.size W0 W1 := bl_tr hX3 hal1
  have HS1 : Hid (∀ w', Below W1.heap.size W1 w' → (True) ∧ w'.cell? ⟨w3.heap.size, 0, none⟩ = some (.bool b3) ∧ w'.cell? ⟨w3.heap.size, 1, none⟩ = some (.slice o3 m3 c3) ∧ w'.cell? ⟨w3.heap.size + 1, 0, none⟩ = some (.bool bb3) ∧ w'.cell? ⟨w3.heap.size + 1, 1, none⟩ = some (.slice oo3 mm3 cc3)) := hid (fun w' hb => by
    refine ⟨HS0.out _ (bl_tr hXn1 hb), ?_, ?_, ?_, ?_⟩ <;> (rw [hb.cell (by rw [hW1]; simp <;> omega), hW1]; simp [go_sem]))
  replace HT := hid (fun w' hb => HT.out w' (bl_tr hXn1 hb))
  replace HM := hid (fun w' hb => HM.out w' (bl_tr hXn1 hb))
  have VQ : Hid (∀ w', Below W1.heap.size W1 w' → Ai w' (.agg #[.bool b3, .slice o3 m3 c3]) (-4) 7) := hid (fun w' hb => H3.out.below (bl_tr hal1 hb) (Nat.le_refl _))
  have VR : Hid (∀ w', Below W1.heap.size W1 w' → Ai w' (.agg #[.bool bb3, .slice oo3 mm3 cc3]) 1 7) := hid (fun w' hb => HH3.out.below (bl_tr hal1 hb) (Nat.le_refl _))
  have HB1 := hid (HB0.out.trans (hXn1.mono HB0.out.size)); have HW1 := hid hW1
  clear hW1 hal1 hXn1 HS0 HB0 HW0
  rw [← HW1.out]
  have hX := Below.refl W1.heap.size W1
  obtain ⟨k0, k1, k2, k3, k4⟩ := HS1.out _ hX
  go_wp2_with fail
  refine (of_s2 1 _ (by decide) (by decide)).mono ?_
  rintro e w4 ⟨b4, o4, m4, c4, rfl, H4, hb4⟩
  have hX4 := bl_tr hX hb4
  clear k0 k1 k2 k3 k4
  obtain ⟨k0, k1, k2, k3, k4⟩ := HS1.out _ hX4
  go_wp2_with fail
  refine (of_s2 0 _ (by decide) (by decide)).mono ?_
  rintro e w5 ⟨b5, o5, m5, c5, rfl, H5, hb5⟩
  have hX5 := bl_tr hX4 hb5
  clear k0 k1 k2 k3 k4
  obtain ⟨k0, k1, k2, k3, k4⟩ := HS1.out _ hX5
  go_wp2_with fail
  refine (div_z0 _ _ 1 2 7 _ (H4.out.below hb5 (Nat.le_refl _)) H5.out (by omega)).mono ?_
  rintro e w6 ⟨b6, o6, m6, c6, bb6, oo6, mm6, cc6, rfl, H6, HH6, hb6⟩
  have hX6 := bl_tr hX5 hb6
  clear k0 k1 k2 k3 k4
  obtain ⟨k0, k1, k2, k3, k4⟩ := HS1.out _ hX6
  clear k0 k1 k2 k3 k4
  go_upto_region 3 with (fail)
  obtain ⟨W2, hW2⟩ : ∃ W, W = (w6.alloc (.cells #[.bool b6, .slice o6 m6 c6] 24)).alloc (.cells #[.bool bb6, .slice oo6 mm6 cc6] 24) := ⟨_, rfl⟩
  have hal2 : Below w6.heap.size w6 W2 := by rw [hW2]; exact ((Below.refl _ _).alloc (Nat.le_refl _) _).alloc (by simp) _
  have hXn2 : Below W1.heap.size W1 W2 := bl_tr hX6 hal2
  have HS2 : Hid (∀ w', Below W2.heap.size W2 w' → ((True) ∧ w'.cell? ⟨w3.heap.size, 0, none⟩ = some (.bool b3) ∧ w'.cell? ⟨w3.heap.size, 1, none⟩ = some (.slice o3 m3 c3) ∧ w'.cell? ⟨w3.heap.size + 1, 0, none⟩ = some (.bool bb3) ∧ w'.cell? ⟨w3.heap.size + 1, 1, none⟩ = some (.slice oo3 mm3 cc3)) ∧ w'.cell? ⟨w6.heap.size, 0, none⟩ = some (.bool b6) ∧ w'.cell? ⟨w6.heap.size, 1, none⟩ = some (.slice o6 m6 c6) ∧ w'.cell? ⟨w6.heap.size + 1, 0, none⟩ = some (.bool bb6) ∧ w'.cell? ⟨w6.heap.size + 1, 1, none⟩ = some (.slice oo6 mm6 cc6)) := hid (fun w' hb => by
    refine ⟨HS1.out _ (bl_tr hXn2 hb), ?_, ?_, ?_, ?_⟩ <;> (rw [hb.cell (by rw [hW2]; simp <;> omega), hW2]; simp [go_sem]))
  replace HT := hid (fun w' hb => HT.out w' (bl_tr hXn2 hb))
  replace HM := hid (fun w' hb => HM.out w' (bl_tr hXn2 hb))
  replace VQ := hid (fun w' hb => VQ.out w' (bl_tr hXn2 hb))
  replace VR := hid (fun w' hb => VR.out w' (bl_tr hXn2 hb))
  have HB2 := hid (HB1.out.trans (hXn2.mono HB1.out.size)); have HW2 := hid hW2
  clear hW2 hal2 hXn2 HS1 HB1 HW1
  rw [← HW2.out]
  have hX := Below.refl W2.heap.size W2
  obtain ⟨⟨k0, k1, k2, k3, k4⟩, k5, k6, k7, k8⟩ := HS2.out _ hX
  go_wp2_with fail
  refine (Text_is (-4) 7 _ _ (VQ.out _ hX) (by omega) (HT.out _ hX) _ nt_m4).mono ?_
  rintro e w7 ⟨rfl, hb7⟩
  have hX7 := bl_tr hX hb7
  clear k0 k1 k2 k3 k4 k5 k6 k7 k8
  obtain ⟨⟨k0, k1, k2, k3, k4⟩, k5, k6, k7, k8⟩ := HS2.out _ hX7
  go_wp2_with fail
  refine (Text_is 1 7 _ _ (VR.out _ hX7) (by omega) (HT.out _ hX7) _ nt_1).mono ?_
  rintro e w8 ⟨rfl, hb8⟩
  have hX8 := bl_tr hX7 hb8
  clear k0 k1 k2 k3 k4 k5 k6 k7 k8
  obtain ⟨⟨k0, k1, k2, k3, k4⟩, k5, k6, k7, k8⟩ := HS2.out _ hX8
  clear k0 k1 k2 k3 k4 k5 k6 k7 k8
  replace HS2 : Hid (∀ w', Below W2.heap.size W2 w' → True) := hid (fun _ _ => trivial)
  clear VQ VR
  go_upto_region 4 with (fail)
  have hbi : ∀ (o : Option Addr) (m c : Nat) (w : World), (Instr.build 24 #[(1, .slice o m c)]).run Tryz.prog w = .ok (.agg #[.bool false, .slice o m c]) w := fun o m c w => by kernel_rfl
  have hbr : ∀ (o : Option Addr) (m c : Nat) (w : World), (Instr.build 26 #[(0, .agg #[.bool false, .slice o m c])]).run Tryz.prog w = .ok (.agg #[.bool false, .slice o m c, .bool false, .slice none 0 0]) w := fun o m c w => by kernel_rfl
  have hXl := hX8.alloc hX8.size (.cells #[.int .u32 5] 53)
  go_wp2_with fail
  refine (Lowest_fr _ 5 0 1 _ (five_none _) (by omega)).mono ?_
  rintro e w9 ⟨f, rfl, ⟨q1, q2, q3, q4, rfl, hq1, hq2⟩, hb9⟩
  rw [show lowN (rn 5 0) (rd 0) = 0 from by decide +kernel] at hq1
  rw [show lowD (rn 5 0) (rd 0) = 1 from by decide +kernel] at hq2
  obtain ⟨b9, o9, m9, c9, e1, H9⟩ := FrA.opened hq1
  obtain ⟨gb, go, cc9, e2, hone⟩ := one_words hq2
  injection e1 with e1; injection e2 with e2
  simp at e1 e2
  obtain ⟨rfl, rfl⟩ := e1
  obtain ⟨rfl, rfl⟩ := e2
  have hX9 := hXl.trans (hb9.mono hXl.size)
  have HN : Hid (Rv w9 (.agg #[.bool b9, .slice o9 m9 c9, .bool false, .slice (some ⟨gb, go, none⟩) 1 cc9]) 0 1 4) := hid (Ra.rv (⟨_, _, _, _, _, _, _, _, rfl, H9.out.ai.mono (by omega), hq2.ai.mono (by omega)⟩) (by decide))
  have HOne := hid (show One w9 gb go from hone)
  go_upto_region 5 with (fail)
  obtain ⟨W3, hW3⟩ : ∃ W, W = w9.alloc (.cells #[.bool b9, .slice o9 m9 c9, .bool false, .slice (some ⟨gb, go, none⟩) 1 cc9] 26) := ⟨_, rfl⟩
  have hal3 : Below w9.heap.size w9 W3 := by rw [hW3]; exact bl_new _
  have hXn3 : Below W2.heap.size W2 W3 := bl_tr hX9 hal3
  have HS3 : Hid (∀ w', Below W3.heap.size W3 w' → (True) ∧ w'.cell? ⟨w9.heap.size, 0, none⟩ = some (.bool b9) ∧ w'.cell? ⟨w9.heap.size, 1, none⟩ = some (.slice o9 m9 c9) ∧ w'.cell? ⟨w9.heap.size, 2, none⟩ = some (.bool false) ∧ w'.cell? ⟨w9.heap.size, 3, none⟩ = some (.slice (some ⟨gb, go, none⟩) 1 cc9)) := hid (fun w' hb => by
    refine ⟨HS2.out _ (bl_tr hXn3 hb), ?_, ?_, ?_, ?_⟩ <;> (rw [hb.cell (by rw [hW3]; simp), hW3]; simp [go_sem]))
  replace HT := hid (fun w' hb => HT.out w' (bl_tr hXn3 hb))
  replace HM := hid (fun w' hb => HM.out w' (bl_tr hXn3 hb))
  have VN : Hid (∀ w', Below W3.heap.size W3 w' → Rv w' (.agg #[.bool b9, .slice o9 m9 c9, .bool false, .slice (some ⟨gb, go, none⟩) 1 cc9]) 0 1 4) := hid (fun w' hb => HN.out.below (bl_tr hal3 hb) (Nat.le_refl _))
  have VO1 : Hid (∀ w', Below W3.heap.size W3 w' → One w' gb go) := hid (fun w' hb => HOne.out.below (bl_tr hal3 hb) (Nat.le_refl _))
  have HB3 := hid (HB2.out.trans (hXn3.mono HB2.out.size)); have HW3 := hid hW3
  clear hW3 hal3 hXn3 HS2 HB2 HW2
  rw [← HW3.out]
  have hX := Below.refl W3.heap.size W3
  obtain ⟨k0, k9, k10, k11, k12⟩ := HS3.out _ hX
  go_wp2_with fail
  refine (shows_any _ 0 1 4 _ (VN.out _ hX) (by omega) (HT.out _ hX) _ sh_zero).mono ?_
  rintro e w10 ⟨rfl, hb10⟩
  have hX10 := bl_tr hX hb10
  clear k0 k9 k10 k11 k12
  obtain ⟨k0, k9, k10, k11, k12⟩ := HS3.out _ hX10
  have hone5 := VO1.out _ hX10
  unfold One at hone5
  go_upto_region 6 with (fail)
  clear k0 k9 k10 k11 k12 hone5
  replace HS3 : Hid (∀ w', Below W3.heap.size W3 w' → True) := hid (fun _ _ => trivial)
  clear VN VO1
  go_wp2_with fail
  refine (lover_nd 5 2 _ (by decide) (by decide) (by decide) (by decide)).mono ?_
  rintro e w11 ⟨b11, o11, m11, c11, bb11, oo11, mm11, cc11, rfl, H11, hb11⟩
  have hX11 := bl_tr hX10 hb11
  go_wp2_with fail
  refine (Nearest_rv _ 5 2 4 14 _ H11.out (by omega) (by omega)).mono ?_
  rintro e w12 ⟨b12, o12, m12, c12, rfl, H12, hb12⟩
  have hX12 := bl_tr hX11 hb12
  go_wp2_with fail
  refine (Text_is 3 14 _ _ H12.out (by omega) (HT.out _ hX12) _ nt_3).mono ?_
  rintro e w13 ⟨rfl, hb13⟩
  have hX13 := bl_tr hX12 hb13
  go_wp2_with fail
  refine (lover_nd (-5) 2 _ (by decide) (by decide) (by decide) (by decide)).mono ?_
  rintro e w14 ⟨b14, o14, m14, c14, bb14, oo14, mm14, cc14, rfl, H14, hb14⟩
  have hX14 := bl_tr hX13 hb14
  go_wp2_with fail
  refine (Nearest_rv _ (-5) 2 4 14 _ H14.out (by omega) (by omega)).mono ?_
  rintro e w15 ⟨b15, o15, m15, c15, rfl, H15, hb15⟩
  have hX15 := bl_tr hX14 hb15
  go_wp2_with fail
  refine (Text_is (-2) 14 _ _ H15.out (by omega) (HT.out _ hX15) _ nt_m2).mono ?_
  rintro e w16 ⟨rfl, hb16⟩
  have hX16 := bl_tr hX15 hb16
  go_wp2_with fail
  refine (lover_nd (-5) 2 _ (by decide) (by decide) (by decide) (by decide)).mono ?_
  rintro e w17 ⟨b17, o17, m17, c17, bb17, oo17, mm17, cc17, rfl, H17, hb17⟩
  have hX17 := bl_tr hX16 hb17
  go_wp2_with fail
  refine (Floor_rv _ (-5) 2 4 10 _ H17.out (by omega) (by omega)).mono ?_
  rintro e w18 ⟨b18, o18, m18, c18, rfl, H18, hb18⟩
  have hX18 := bl_tr hX17 hb18
  go_wp2_with fail
  refine (Text_is (-3) 10 _ _ H18.out (by omega) (HT.out _ hX18) _ nt_m3).mono ?_
  rintro e w19 ⟨rfl, hb19⟩
  have hX19 := bl_tr hX18 hb19
  go_upto_region 7 with (fail)
  go_wp2_with fail
  refine (lover_nd 1 3 _ (by decide) (by decide) (by decide) (by decide)).mono ?_
  rintro e w20 ⟨b20, o20, m20, c20, bb20, oo20, mm20, cc20, rfl, H20, hb20⟩
  have hX20 := bl_tr hX19 hb20
  go_wp2_with fail
  refine (lover_nd 1 2 _ (by decide) (by decide) (by decide) (by decide)).mono ?_
  rintro e w21 ⟨b21, o21, m21, c21, bb21, oo21, mm21, cc21, rfl, H21, hb21⟩
  have hX21 := bl_tr hX20 hb21
  go_wp2_with fail
  refine (Between_is _ _ 1 3 1 2 1 2 _ (H20.out.below hb21 (Nat.le_refl _)) H21.out (by decide) (by decide) (fun _ _ h => btw_a h)).mono ?_
  rintro e w22 ⟨b22, o22, m22, c22, bb22, oo22, mm22, cc22, rfl, H22, hb22⟩
  have hX22 := bl_tr hX21 hb22
  go_upto_region 8 with (fail)
  obtain ⟨W4, hW4⟩ : ∃ W, W = w22.alloc (.cells #[.bool b22, .slice o22 m22 c22, .bool bb22, .slice oo22 mm22 cc22] 26) := ⟨_, rfl⟩
  have hal4 : Below w22.heap.size w22 W4 := by rw [hW4]; exact bl_new _
  have hXn4 : Below W3.heap.size W3 W4 := bl_tr hX22 hal4
  have HS4 : Hid (∀ w', Below W4.heap.size W4 w' → (True) ∧ w'.cell? ⟨w22.heap.size, 0, none⟩ = some (.bool b22) ∧ w'.cell? ⟨w22.heap.size, 1, none⟩ = some (.slice o22 m22 c22) ∧ w'.cell? ⟨w22.heap.size, 2, none⟩ = some (.bool bb22) ∧ w'.cell? ⟨w22.heap.size, 3, none⟩ = some (.slice oo22 mm22 cc22)) := hid (fun w' hb => by
    refine ⟨HS3.out _ (bl_tr hXn4 hb), ?_, ?_, ?_, ?_⟩ <;> (rw [hb.cell (by rw [hW4]; simp), hW4]; simp [go_sem]))
  replace HT := hid (fun w' hb => HT.out w' (bl_tr hXn4 hb))
  replace HM := hid (fun w' hb => HM.out w' (bl_tr hXn4 hb))
  have VA : Hid (∀ w', Below W4.heap.size W4 w' → Rv w' (.agg #[.bool b22, .slice o22 m22 c22, .bool bb22, .slice oo22 mm22 cc22]) 1 2 8) := hid (fun w' hb => H22.out.below (bl_tr hal4 hb) (Nat.le_refl _))
  have HB4 := hid (HB3.out.trans (hXn4.mono HB3.out.size)); have HW4 := hid hW4
  clear hW4 hal4 hXn4 HS3 HB3 HW3
  rw [← HW4.out]
  have hX := Below.refl W4.heap.size W4
  obtain ⟨k0, k13, k14, k15, k16⟩ := HS4.out _ hX
  go_wp2_with fail
  refine (lover_nd 31 100 _ (by decide) (by decide) (by decide) (by decide)).mono ?_
  rintro e w23 ⟨b23, o23, m23, c23, bb23, oo23, mm23, cc23, rfl, H23, hb23⟩
  have hX23 := bl_tr hX hb23
  clear k0 k13 k14 k15 k16
  obtain ⟨k0, k13, k14, k15, k16⟩ := HS4.out _ hX23
  go_wp2_with fail
  refine (lover_nd 32 100 _ (by decide) (by decide) (by decide) (by decide)).mono ?_
  rintro e w24 ⟨b24, o24, m24, c24, bb24, oo24, mm24, cc24, rfl, H24, hb24⟩
  have hX24 := bl_tr hX23 hb24
  clear k0 k13 k14 k15 k16
  obtain ⟨k0, k13, k14, k15, k16⟩ := HS4.out _ hX24
  go_wp2_with fail
  refine (Between_is _ _ 31 100 32 100 5 16 _ (H23.out.below hb24 (Nat.le_refl _)) H24.out (by decide) (by decide) (fun _ _ h => btw_b h)).mono ?_
  rintro e w25 ⟨b25, o25, m25, c25, bb25, oo25, mm25, cc25, rfl, H25, hb25⟩
  have hX25 := bl_tr hX24 hb25
  clear k0 k13 k14 k15 k16
  obtain ⟨k0, k13, k14, k15, k16⟩ := HS4.out _ hX25
  clear k0 k13 k14 k15 k16
  go_upto_region 9 with (fail)
  obtain ⟨W5, hW5⟩ : ∃ W, W = w25.alloc (.cells #[.bool b25, .slice o25 m25 c25, .bool bb25, .slice oo25 mm25 cc25] 26) := ⟨_, rfl⟩
  have hal5 : Below w25.heap.size w25 W5 := by rw [hW5]; exact bl_new _
  have hXn5 : Below W4.heap.size W4 W5 := bl_tr hX25 hal5
  have HS5 : Hid (∀ w', Below W5.heap.size W5 w' → ((True) ∧ w'.cell? ⟨w22.heap.size, 0, none⟩ = some (.bool b22) ∧ w'.cell? ⟨w22.heap.size, 1, none⟩ = some (.slice o22 m22 c22) ∧ w'.cell? ⟨w22.heap.size, 2, none⟩ = some (.bool bb22) ∧ w'.cell? ⟨w22.heap.size, 3, none⟩ = some (.slice oo22 mm22 cc22)) ∧ w'.cell? ⟨w25.heap.size, 0, none⟩ = some (.bool b25) ∧ w'.cell? ⟨w25.heap.size, 1, none⟩ = some (.slice o25 m25 c25) ∧ w'.cell? ⟨w25.heap.size, 2, none⟩ = some (.bool bb25) ∧ w'.cell? ⟨w25.heap.size, 3, none⟩ = some (.slice oo25 mm25 cc25)) := hid (fun w' hb => by
    refine ⟨HS4.out _ (bl_tr hXn5 hb), ?_, ?_, ?_, ?_⟩ <;> (rw [hb.cell (by rw [hW5]; simp), hW5]; simp [go_sem]))
  replace HT := hid (fun w' hb => HT.out w' (bl_tr hXn5 hb))
  replace HM := hid (fun w' hb => HM.out w' (bl_tr hXn5 hb))
  replace VA := hid (fun w' hb => VA.out w' (bl_tr hXn5 hb))
  have VB : Hid (∀ w', Below W5.heap.size W5 w' → Rv w' (.agg #[.bool b25, .slice o25 m25 c25, .bool bb25, .slice oo25 mm25 cc25]) 5 16 8) := hid (fun w' hb => H25.out.below (bl_tr hal5 hb) (Nat.le_refl _))
  have HB5 := hid (HB4.out.trans (hXn5.mono HB4.out.size)); have HW5 := hid hW5
  clear hW5 hal5 hXn5 HS4 HB4 HW4
  rw [← HW5.out]
  have hX := Below.refl W5.heap.size W5
  obtain ⟨⟨k0, k13, k14, k15, k16⟩, k17, k18, k19, k20⟩ := HS5.out _ hX
  go_wp2_with fail
  refine (lover_nd (-2) 1 _ (by decide) (by decide) (by decide) (by decide)).mono ?_
  rintro e w26 ⟨b26, o26, m26, c26, bb26, oo26, mm26, cc26, rfl, H26, hb26⟩
  have hX26 := bl_tr hX hb26
  clear k0 k13 k14 k15 k16 k17 k18 k19 k20
  obtain ⟨⟨k0, k13, k14, k15, k16⟩, k17, k18, k19, k20⟩ := HS5.out _ hX26
  go_wp2_with fail
  refine (lover_nd 3 1 _ (by decide) (by decide) (by decide) (by decide)).mono ?_
  rintro e w27 ⟨b27, o27, m27, c27, bb27, oo27, mm27, cc27, rfl, H27, hb27⟩
  have hX27 := bl_tr hX26 hb27
  clear k0 k13 k14 k15 k16 k17 k18 k19 k20
  obtain ⟨⟨k0, k13, k14, k15, k16⟩, k17, k18, k19, k20⟩ := HS5.out _ hX27
  go_wp2_with fail
  refine (Between_is _ _ (-2) 1 3 1 0 1 _ (H26.out.below hb27 (Nat.le_refl _)) H27.out (by decide) (by decide) (fun _ _ h => btw_c h)).mono ?_
  rintro e w28 ⟨b28, o28, m28, c28, bb28, oo28, mm28, cc28, rfl, H28, hb28⟩
  have hX28 := bl_tr hX27 hb28
  clear k0 k13 k14 k15 k16 k17 k18 k19 k20
  obtain ⟨⟨k0, k13, k14, k15, k16⟩, k17, k18, k19, k20⟩ := HS5.out _ hX28
  clear k0 k13 k14 k15 k16 k17 k18 k19 k20
  go_upto_region 10 with (fail)
  obtain ⟨W6, hW6⟩ : ∃ W, W = w28.alloc (.cells #[.bool b28, .slice o28 m28 c28, .bool bb28, .slice oo28 mm28 cc28] 26) := ⟨_, rfl⟩
  have hal6 : Below w28.heap.size w28 W6 := by rw [hW6]; exact bl_new _
  have hXn6 : Below W5.heap.size W5 W6 := bl_tr hX28 hal6
  have HS6 : Hid (∀ w', Below W6.heap.size W6 w' → (((True) ∧ w'.cell? ⟨w22.heap.size, 0, none⟩ = some (.bool b22) ∧ w'.cell? ⟨w22.heap.size, 1, none⟩ = some (.slice o22 m22 c22) ∧ w'.cell? ⟨w22.heap.size, 2, none⟩ = some (.bool bb22) ∧ w'.cell? ⟨w22.heap.size, 3, none⟩ = some (.slice oo22 mm22 cc22)) ∧ w'.cell? ⟨w25.heap.size, 0, none⟩ = some (.bool b25) ∧ w'.cell? ⟨w25.heap.size, 1, none⟩ = some (.slice o25 m25 c25) ∧ w'.cell? ⟨w25.heap.size, 2, none⟩ = some (.bool bb25) ∧ w'.cell? ⟨w25.heap.size, 3, none⟩ = some (.slice oo25 mm25 cc25)) ∧ w'.cell? ⟨w28.heap.size, 0, none⟩ = some (.bool b28) ∧ w'.cell? ⟨w28.heap.size, 1, none⟩ = some (.slice o28 m28 c28) ∧ w'.cell? ⟨w28.heap.size, 2, none⟩ = some (.bool bb28) ∧ w'.cell? ⟨w28.heap.size, 3, none⟩ = some (.slice oo28 mm28 cc28)) := hid (fun w' hb => by
    refine ⟨HS5.out _ (bl_tr hXn6 hb), ?_, ?_, ?_, ?_⟩ <;> (rw [hb.cell (by rw [hW6]; simp), hW6]; simp [go_sem]))
  replace HT := hid (fun w' hb => HT.out w' (bl_tr hXn6 hb))
  replace HM := hid (fun w' hb => HM.out w' (bl_tr hXn6 hb))
  replace VA := hid (fun w' hb => VA.out w' (bl_tr hXn6 hb))
  replace VB := hid (fun w' hb => VB.out w' (bl_tr hXn6 hb))
  have VC : Hid (∀ w', Below W6.heap.size W6 w' → Rv w' (.agg #[.bool b28, .slice o28 m28 c28, .bool bb28, .slice oo28 mm28 cc28]) 0 1 8) := hid (fun w' hb => H28.out.below (bl_tr hal6 hb) (Nat.le_refl _))
  have HB6 := hid (HB5.out.trans (hXn6.mono HB5.out.size)); have HW6 := hid hW6
  clear hW6 hal6 hXn6 HS5 HB5 HW5
  rw [← HW6.out]
  have hX := Below.refl W6.heap.size W6
  obtain ⟨⟨⟨k0, k13, k14, k15, k16⟩, k17, k18, k19, k20⟩, k21, k22, k23, k24⟩ := HS6.out _ hX
  go_wp2_with fail
  refine (lover_nd 1 1 _ (by decide) (by decide) (by decide) (by decide)).mono ?_
  rintro e w29 ⟨b29, o29, m29, c29, bb29, oo29, mm29, cc29, rfl, H29, hb29⟩
  have hX29 := bl_tr hX hb29
  clear k0 k13 k14 k15 k16 k17 k18 k19 k20 k21 k22 k23 k24
  obtain ⟨⟨⟨k0, k13, k14, k15, k16⟩, k17, k18, k19, k20⟩, k21, k22, k23, k24⟩ := HS6.out _ hX29
  go_wp2_with fail
  refine (lover_nd 1 2 _ (by decide) (by decide) (by decide) (by decide)).mono ?_
  rintro e w30 ⟨b30, o30, m30, c30, bb30, oo30, mm30, cc30, rfl, H30, hb30⟩
  have hX30 := bl_tr hX29 hb30
  clear k0 k13 k14 k15 k16 k17 k18 k19 k20 k21 k22 k23 k24
  obtain ⟨⟨⟨k0, k13, k14, k15, k16⟩, k17, k18, k19, k20⟩, k21, k22, k23, k24⟩ := HS6.out _ hX30
  go_wp2_with fail
  refine (Between_err _ _ 1 1 1 2 4 _ (H29.out.below hb30 (Nat.le_refl _)) H30.out (by omega) (by decide)).mono ?_
  rintro e w31 ⟨rfl, hb31⟩
  have hX31 := bl_tr hX30 hb31
  clear k0 k13 k14 k15 k16 k17 k18 k19 k20 k21 k22 k23 k24
  obtain ⟨⟨⟨k0, k13, k14, k15, k16⟩, k17, k18, k19, k20⟩, k21, k22, k23, k24⟩ := HS6.out _ hX31
  clear k0 k13 k14 k15 k16 k17 k18 k19 k20 k21 k22 k23 k24
  go_upto_region 11 with (fail)
  obtain ⟨W7, hW7⟩ : ∃ W, W = w31.alloc (.cells #[.bool false, .slice none 0 0, .bool false, .slice none 0 0] 26) := ⟨_, rfl⟩
  have hal7 : Below w31.heap.size w31 W7 := by rw [hW7]; exact bl_new _
  have hXn7 : Below W6.heap.size W6 W7 := bl_tr hX31 hal7
  have HS7 : Hid (∀ w', Below W7.heap.size W7 w' → ((((True) ∧ w'.cell? ⟨w22.heap.size, 0, none⟩ = some (.bool b22) ∧ w'.cell? ⟨w22.heap.size, 1, none⟩ = some (.slice o22 m22 c22) ∧ w'.cell? ⟨w22.heap.size, 2, none⟩ = some (.bool bb22) ∧ w'.cell? ⟨w22.heap.size, 3, none⟩ = some (.slice oo22 mm22 cc22)) ∧ w'.cell? ⟨w25.heap.size, 0, none⟩ = some (.bool b25) ∧ w'.cell? ⟨w25.heap.size, 1, none⟩ = some (.slice o25 m25 c25) ∧ w'.cell? ⟨w25.heap.size, 2, none⟩ = some (.bool bb25) ∧ w'.cell? ⟨w25.heap.size, 3, none⟩ = some (.slice oo25 mm25 cc25)) ∧ w'.cell? ⟨w28.heap.size, 0, none⟩ = some (.bool b28) ∧ w'.cell? ⟨w28.heap.size, 1, none⟩ = some (.slice o28 m28 c28) ∧ w'.cell? ⟨w28.heap.size, 2, none⟩ = some (.bool bb28) ∧ w'.cell? ⟨w28.heap.size, 3, none⟩ = some (.slice oo28 mm28 cc28)) ∧ w'.cell? ⟨w31.heap.size, 0, none⟩ = some (.bool false) ∧ w'.cell? ⟨w31.heap.size, 1, none⟩ = some (.slice none 0 0) ∧ w'.cell? ⟨w31.heap.size, 2, none⟩ = some (.bool false) ∧ w'.cell? ⟨w31.heap.size, 3, none⟩ = some (.slice none 0 0)) := hid (fun w' hb => by
    refine ⟨HS6.out _ (bl_tr hXn7 hb), ?_, ?_, ?_, ?_⟩ <;> (rw [hb.cell (by rw [hW7]; simp), hW7]; simp [go_sem]))
  replace HT := hid (fun w' hb => HT.out w' (bl_tr hXn7 hb))
  replace HM := hid (fun w' hb => HM.out w' (bl_tr hXn7 hb))
  replace VA := hid (fun w' hb => VA.out w' (bl_tr hXn7 hb))
  replace VB := hid (fun w' hb => VB.out w' (bl_tr hXn7 hb))
  replace VC := hid (fun w' hb => VC.out w' (bl_tr hXn7 hb))
  have HB7 := hid (HB6.out.trans (hXn7.mono HB6.out.size)); have HW7 := hid hW7
  clear hW7 hal7 hXn7 HS6 HB6 HW6
  rw [← HW7.out]
  have hX := Below.refl W7.heap.size W7
  obtain ⟨⟨⟨⟨k0, k13, k14, k15, k16⟩, k17, k18, k19, k20⟩, k21, k22, k23, k24⟩, k25, k26, k27, k28⟩ := HS7.out _ hX
  go_wp2_with fail
  refine (shows_any _ 1 2 8 _ (VA.out _ hX) (by omega) (HT.out _ hX) _ sh_half).mono ?_
  rintro e w32 ⟨rfl, hb32⟩
  have hX32 := bl_tr hX hb32
  clear k0 k13 k14 k15 k16 k17 k18 k19 k20 k21 k22 k23 k24 k25 k26 k27 k28
  obtain ⟨⟨⟨⟨k0, k13, k14, k15, k16⟩, k17, k18, k19, k20⟩, k21, k22, k23, k24⟩, k25, k26, k27, k28⟩ := HS7.out _ hX32
  go_wp2_with fail
  refine (shows_any _ 5 16 8 _ (VB.out _ hX32) (by omega) (HT.out _ hX32) _ sh_five).mono ?_
  rintro e w33 ⟨rfl, hb33⟩
  have hX33 := bl_tr hX32 hb33
  clear k0 k13 k14 k15 k16 k17 k18 k19 k20 k21 k22 k23 k24 k25 k26 k27 k28
  obtain ⟨⟨⟨⟨k0, k13, k14, k15, k16⟩, k17, k18, k19, k20⟩, k21, k22, k23, k24⟩, k25, k26, k27, k28⟩ := HS7.out _ hX33
  go_wp2_with fail
  refine (shows_any _ 0 1 8 _ (VC.out _ hX33) (by omega) (HT.out _ hX33) _ sh_zero).mono ?_
  rintro e w34 ⟨rfl, hb34⟩
  have hX34 := bl_tr hX33 hb34
  clear k0 k13 k14 k15 k16 k17 k18 k19 k20 k21 k22 k23 k24 k25 k26 k27 k28
  obtain ⟨⟨⟨⟨k0, k13, k14, k15, k16⟩, k17, k18, k19, k20⟩, k21, k22, k23, k24⟩, k25, k26, k27, k28⟩ := HS7.out _ hX34
  go_upto_region 12 with (fail)
  clear k0 k13 k14 k15 k16 k17 k18 k19 k20 k21 k22 k23 k24 k25 k26 k27 k28
  replace HS7 : Hid (∀ w', Below W7.heap.size W7 w' → True) := hid (fun _ _ => trivial)
  clear VA VB VC
  go_wp2_with fail
  refine (lover_nd (-1) 4 _ (by decide) (by decide) (by decide) (by decide)).mono ?_
  rintro e w35 ⟨b35, o35, m35, c35, bb35, oo35, mm35, cc35, rfl, H35, hb35⟩
  have hX35 := bl_tr hX34 hb35
  go_wp2_with fail
  refine (Decimal_is _ (-1) 4 (-2) 4 1 _ _ H35.out (by omega) (by omega) rfl (HT.out _ hX35) (by decide) _ nd_a).mono ?_
  rintro e w36 ⟨rfl, hb36⟩
  have hX36 := bl_tr hX35 hb36
  go_upto_region 13 with (fail)
  go_wp2_with fail
  refine (lover_nd 2 3 _ (by decide) (by decide) (by decide) (by decide)).mono ?_
  rintro e w37 ⟨b37, o37, m37, c37, bb37, oo37, mm37, cc37, rfl, H37, hb37⟩
  have hX37 := bl_tr hX36 hb37
  go_wp2_with fail
  refine (Decimal_is _ 2 3 667 4 3 _ _ H37.out (by omega) (by omega) rfl (HT.out _ hX37) (by decide) _ nd_b).mono ?_
  rintro e w38 ⟨rfl, hb38⟩
  have hX38 := bl_tr hX37 hb38
  go_upto_region 14 with (fail)
  go_wp2_with fail
  refine (lover_nd (-1) 2 _ (by decide) (by decide) (by decide) (by decide)).mono ?_
  rintro e w39 ⟨b39, o39, m39, c39, bb39, oo39, mm39, cc39, rfl, H39, hb39⟩
  have hX39 := bl_tr hX38 hb39
  go_wp2_with fail
  refine (Decimal_is _ (-1) 2 0 4 0 _ _ H39.out (by omega) (by omega) rfl (HT.out _ hX39) (by decide) _ nd_c).mono ?_
  rintro e w40 ⟨rfl, hb40⟩
  have hX40 := bl_tr hX39 hb40
  go_upto_region 15 with (fail)
  go_wp2_with fail
  refine (lover_nd 1 2 _ (by decide) (by decide) (by decide) (by decide)).mono ?_
  rintro e w41 ⟨b41, o41, m41, c41, bb41, oo41, mm41, cc41, rfl, H41, hb41⟩
  have hX41 := bl_tr hX40 hb41
  go_wp2_with fail
  refine (Decimal_bad _ 1 2 4 _ H41.out).mono ?_
  rintro e w42 ⟨rfl, hb42⟩
  have hX42 := bl_tr hX41 hb42
  go_upto_region 17 with (fail)
  go_wp2_with fail
  refine (lover_nd 2 1 _ (by decide) (by decide) (by decide) (by decide)).mono ?_
  rintro e w43 ⟨b43, o43, m43, c43, bb43, oo43, mm43, cc43, rfl, H43, hb43⟩
  have hX43 := bl_tr hX42 hb43
  go_wp2_with fail
  refine (RootFixed_is _ 2 1 22 4 _ _ H43.out (by decide) (by decide) rfl (by decide) (by decide) (by decide)).mono ?_
  rintro e w44 ⟨b44, o44, m44, c44, rfl, H44, hb44⟩
  have hX44 := bl_tr hX43 hb44
  go_upto_region 18 with (fail)
  obtain ⟨W8, hW8⟩ : ∃ W, W = w44.alloc (.cells #[.bool b44, .slice o44 m44 c44] 24) := ⟨_, rfl⟩
  have hal8 : Below w44.heap.size w44 W8 := by rw [hW8]; exact bl_new _
  have hXn8 : Below W7.heap.size W7 W8 := bl_tr hX44 hal8
  have HS8 : Hid (∀ w', Below W8.heap.size W8 w' → (True) ∧ w'.cell? ⟨w44.heap.size, 0, none⟩ = some (.bool b44) ∧ w'.cell? ⟨w44.heap.size, 1, none⟩ = some (.slice o44 m44 c44)) := hid (fun w' hb => by
    refine ⟨HS7.out _ (bl_tr hXn8 hb), ?_, ?_⟩ <;> (rw [hb.cell (by rw [hW8]; simp), hW8]; simp [go_sem]))
  replace HT := hid (fun w' hb => HT.out w' (bl_tr hXn8 hb))
  replace HM := hid (fun w' hb => HM.out w' (bl_tr hXn8 hb))
  have VA : Hid (∀ w', Below W8.heap.size W8 w' → Ai w' (.agg #[.bool b44, .slice o44 m44 c44]) 22 14) := hid (fun w' hb => H44.out.below (bl_tr hal8 hb) (Nat.le_refl _))
  have HB8 := hid (HB7.out.trans (hXn8.mono HB7.out.size)); have HW8 := hid hW8
  clear hW8 hal8 hXn8 HS7 HB7 HW7
  rw [← HW8.out]
  have hX := Below.refl W8.heap.size W8
  obtain ⟨k0, k29, k30⟩ := HS8.out _ hX
  go_wp2_with fail
  refine (of_s2 15 _ (by decide) (by decide)).mono ?_
  rintro e w45 ⟨b45, o45, m45, c45, rfl, H45, hb45⟩
  have hX45 := bl_tr hX hb45
  clear k0 k29 k30
  obtain ⟨k0, k29, k30⟩ := HS8.out _ hX45
  go_wp2_with fail
  refine (Root_is _ 15 3 _ (by decide) H45.out (by decide) (by decide) (by decide)).mono ?_
  rintro e w46 ⟨b46, o46, m46, c46, rfl, H46, hb46⟩
  have hX46 := bl_tr hX45 hb46
  clear k0 k29 k30
  obtain ⟨k0, k29, k30⟩ := HS8.out _ hX46
  clear k0 k29 k30
  go_upto_region 19 with (fail)
  obtain ⟨W9, hW9⟩ : ∃ W, W = w46.alloc (.cells #[.bool b46, .slice o46 m46 c46] 24) := ⟨_, rfl⟩
  have hal9 : Below w46.heap.size w46 W9 := by rw [hW9]; exact bl_new _
  have hXn9 : Below W8.heap.size W8 W9 := bl_tr hX46 hal9
  have HS9 : Hid (∀ w', Below W9.heap.size W9 w' → ((True) ∧ w'.cell? ⟨w44.heap.size, 0, none⟩ = some (.bool b44) ∧ w'.cell? ⟨w44.heap.size, 1, none⟩ = some (.slice o44 m44 c44)) ∧ w'.cell? ⟨w46.heap.size, 0, none⟩ = some (.bool b46) ∧ w'.cell? ⟨w46.heap.size, 1, none⟩ = some (.slice o46 m46 c46)) := hid (fun w' hb => by
    refine ⟨HS8.out _ (bl_tr hXn9 hb), ?_, ?_⟩ <;> (rw [hb.cell (by rw [hW9]; simp), hW9]; simp [go_sem]))
  replace HT := hid (fun w' hb => HT.out w' (bl_tr hXn9 hb))
  replace HM := hid (fun w' hb => HM.out w' (bl_tr hXn9 hb))
  replace VA := hid (fun w' hb => VA.out w' (bl_tr hXn9 hb))
  have VB : Hid (∀ w', Below W9.heap.size W9 w' → Ai w' (.agg #[.bool b46, .slice o46 m46 c46]) 3 8) := hid (fun w' hb => H46.out.below (bl_tr hal9 hb) (Nat.le_refl _))
  have HB9 := hid (HB8.out.trans (hXn9.mono HB8.out.size)); have HW9 := hid hW9
  clear hW9 hal9 hXn9 HS8 HB8 HW8
  rw [← HW9.out]
  have hX := Below.refl W9.heap.size W9
  obtain ⟨⟨k0, k29, k30⟩, k31, k32⟩ := HS9.out _ hX
  go_wp2_with fail
  refine (of_s2 (-1) _ (by decide) (by decide)).mono ?_
  rintro e w47 ⟨b47, o47, m47, c47, rfl, H47, hb47⟩
  have hX47 := bl_tr hX hb47
  clear k0 k29 k30 k31 k32
  obtain ⟨⟨k0, k29, k30⟩, k31, k32⟩ := HS9.out _ hX47
  go_wp2_with fail
  refine (Root_bad _ (-1) 2 _ (by decide) H47.out (by omega)).mono ?_
  rintro e w48 ⟨rfl, hb48⟩
  have hX48 := bl_tr hX47 hb48
  clear k0 k29 k30 k31 k32
  obtain ⟨⟨k0, k29, k30⟩, k31, k32⟩ := HS9.out _ hX48
  clear k0 k29 k30 k31 k32
  go_upto_region 20 with (fail)
  obtain ⟨W10, hW10⟩ : ∃ W, W = w48.alloc (.cells #[.bool false, .slice none 0 0] 24) := ⟨_, rfl⟩
  have hal10 : Below w48.heap.size w48 W10 := by rw [hW10]; exact bl_new _
  have hXn10 : Below W9.heap.size W9 W10 := bl_tr hX48 hal10
  have HS10 : Hid (∀ w', Below W10.heap.size W10 w' → (((True) ∧ w'.cell? ⟨w44.heap.size, 0, none⟩ = some (.bool b44) ∧ w'.cell? ⟨w44.heap.size, 1, none⟩ = some (.slice o44 m44 c44)) ∧ w'.cell? ⟨w46.heap.size, 0, none⟩ = some (.bool b46) ∧ w'.cell? ⟨w46.heap.size, 1, none⟩ = some (.slice o46 m46 c46)) ∧ w'.cell? ⟨w48.heap.size, 0, none⟩ = some (.bool false) ∧ w'.cell? ⟨w48.heap.size, 1, none⟩ = some (.slice none 0 0)) := hid (fun w' hb => by
    refine ⟨HS9.out _ (bl_tr hXn10 hb), ?_, ?_⟩ <;> (rw [hb.cell (by rw [hW10]; simp), hW10]; simp [go_sem]))
  replace HT := hid (fun w' hb => HT.out w' (bl_tr hXn10 hb))
  replace HM := hid (fun w' hb => HM.out w' (bl_tr hXn10 hb))
  replace VA := hid (fun w' hb => VA.out w' (bl_tr hXn10 hb))
  replace VB := hid (fun w' hb => VB.out w' (bl_tr hXn10 hb))
  have HB10 := hid (HB9.out.trans (hXn10.mono HB9.out.size)); have HW10 := hid hW10
  clear hW10 hal10 hXn10 HS9 HB9 HW9
  rw [← HW10.out]
  have hX := Below.refl W10.heap.size W10
  obtain ⟨⟨⟨k0, k29, k30⟩, k31, k32⟩, k33, k34⟩ := HS10.out _ hX
  go_wp2_with fail
  refine (of_s2 2 _ (by decide) (by decide)).mono ?_
  rintro e w49 ⟨b49, o49, m49, c49, rfl, H49, hb49⟩
  have hX49 := bl_tr hX hb49
  clear k0 k29 k30 k31 k32 k33 k34
  obtain ⟨⟨⟨k0, k29, k30⟩, k31, k32⟩, k33, k34⟩ := HS10.out _ hX49
  go_wp2_with fail
  refine (Power_bad _ 2 2 (-1) _ (by decide) H49.out).mono ?_
  rintro e w50 ⟨rfl, hb50⟩
  have hX50 := bl_tr hX49 hb50
  clear k0 k29 k30 k31 k32 k33 k34
  obtain ⟨⟨⟨k0, k29, k30⟩, k31, k32⟩, k33, k34⟩ := HS10.out _ hX50
  clear k0 k29 k30 k31 k32 k33 k34
  go_upto_region 21 with (fail)
  obtain ⟨W11, hW11⟩ : ∃ W, W = w50.alloc (.cells #[.bool false, .slice none 0 0] 24) := ⟨_, rfl⟩
  have hal11 : Below w50.heap.size w50 W11 := by rw [hW11]; exact bl_new _
  have hXn11 : Below W10.heap.size W10 W11 := bl_tr hX50 hal11
  have HS11 : Hid (∀ w', Below W11.heap.size W11 w' → ((((True) ∧ w'.cell? ⟨w44.heap.size, 0, none⟩ = some (.bool b44) ∧ w'.cell? ⟨w44.heap.size, 1, none⟩ = some (.slice o44 m44 c44)) ∧ w'.cell? ⟨w46.heap.size, 0, none⟩ = some (.bool b46) ∧ w'.cell? ⟨w46.heap.size, 1, none⟩ = some (.slice o46 m46 c46)) ∧ w'.cell? ⟨w48.heap.size, 0, none⟩ = some (.bool false) ∧ w'.cell? ⟨w48.heap.size, 1, none⟩ = some (.slice none 0 0)) ∧ w'.cell? ⟨w50.heap.size, 0, none⟩ = some (.bool false) ∧ w'.cell? ⟨w50.heap.size, 1, none⟩ = some (.slice none 0 0)) := hid (fun w' hb => by
    refine ⟨HS10.out _ (bl_tr hXn11 hb), ?_, ?_⟩ <;> (rw [hb.cell (by rw [hW11]; simp), hW11]; simp [go_sem]))
  replace HT := hid (fun w' hb => HT.out w' (bl_tr hXn11 hb))
  replace HM := hid (fun w' hb => HM.out w' (bl_tr hXn11 hb))
  replace VA := hid (fun w' hb => VA.out w' (bl_tr hXn11 hb))
  replace VB := hid (fun w' hb => VB.out w' (bl_tr hXn11 hb))
  have HB11 := hid (HB10.out.trans (hXn11.mono HB10.out.size)); have HW11 := hid hW11
  clear hW11 hal11 hXn11 HS10 HB10 HW10
  rw [← HW11.out]
  have hX := Below.refl W11.heap.size W11
  obtain ⟨⟨⟨⟨k0, k29, k30⟩, k31, k32⟩, k33, k34⟩, k35, k36⟩ := HS11.out _ hX
  go_wp2_with fail
  refine (Text_is 22 14 _ _ (VA.out _ hX) (by omega) (HT.out _ hX) _ nt_22).mono ?_
  rintro e w51 ⟨rfl, hb51⟩
  have hX51 := bl_tr hX hb51
  clear k0 k29 k30 k31 k32 k33 k34 k35 k36
  obtain ⟨⟨⟨⟨k0, k29, k30⟩, k31, k32⟩, k33, k34⟩, k35, k36⟩ := HS11.out _ hX51
  go_wp2_with fail
  refine (Text_is 3 8 _ _ (VB.out _ hX51) (by omega) (HT.out _ hX51) _ nt_3).mono ?_
  rintro e w52 ⟨rfl, hb52⟩
  have hX52 := bl_tr hX51 hb52
  clear k0 k29 k30 k31 k32 k33 k34 k35 k36
  obtain ⟨⟨⟨⟨k0, k29, k30⟩, k31, k32⟩, k33, k34⟩, k35, k36⟩ := HS11.out _ hX52
  go_upto_region 22 with (fail)
  clear k0 k29 k30 k31 k32 k33 k34 k35 k36
  replace HS11 : Hid (∀ w', Below W11.heap.size W11 w' → True) := hid (fun _ _ => trivial)
  clear VA VB
  go_wp2_with fail
  refine (PR_is [45, 54, 47, 52] _ (HM.out _ hX52) (by decide) np_a.1 (-6) 4 np_a.2.1 np_a.2.2 (by decide) (by decide)).mono ?_
  rintro e w53 ⟨b53, o53, m53, c53, bb53, oo53, mm53, cc53, rfl, H53, hb53⟩
  have hX53 := bl_tr hX52 hb53
  go_upto_region 23 with (fail)
  obtain ⟨W12, hW12⟩ : ∃ W, W = w53.alloc (.cells #[.bool b53, .slice o53 m53 c53, .bool bb53, .slice oo53 mm53 cc53] 26) := ⟨_, rfl⟩
  have hal12 : Below w53.heap.size w53 W12 := by rw [hW12]; exact bl_new _
  have hXn12 : Below W11.heap.size W11 W12 := bl_tr hX53 hal12
  have HS12 : Hid (∀ w', Below W12.heap.size W12 w' → (True) ∧ w'.cell? ⟨w53.heap.size, 0, none⟩ = some (.bool b53) ∧ w'.cell? ⟨w53.heap.size, 1, none⟩ = some (.slice o53 m53 c53) ∧ w'.cell? ⟨w53.heap.size, 2, none⟩ = some (.bool bb53) ∧ w'.cell? ⟨w53.heap.size, 3, none⟩ = some (.slice oo53 mm53 cc53)) := hid (fun w' hb => by
    refine ⟨HS11.out _ (bl_tr hXn12 hb), ?_, ?_, ?_, ?_⟩ <;> (rw [hb.cell (by rw [hW12]; simp), hW12]; simp [go_sem]))
  replace HT := hid (fun w' hb => HT.out w' (bl_tr hXn12 hb))
  replace HM := hid (fun w' hb => HM.out w' (bl_tr hXn12 hb))
  have VA : Hid (∀ w', Below W12.heap.size W12 w' → Rv w' (.agg #[.bool b53, .slice o53 m53 c53, .bool bb53, .slice oo53 mm53 cc53]) (-6) 4 1) := hid (fun w' hb => H53.out.below (bl_tr hal12 hb) (Nat.le_refl _))
  have HB12 := hid (HB11.out.trans (hXn12.mono HB11.out.size)); have HW12 := hid hW12
  clear hW12 hal12 hXn12 HS11 HB11 HW11
  rw [← HW12.out]
  have hX := Below.refl W12.heap.size W12
  obtain ⟨k0, k37, k38, k39, k40⟩ := HS12.out _ hX
  go_wp2_with fail
  refine (ParseRatio_bad [49, 47, 48] (by decide) _ (HM.out _ hX) np_b.1).mono ?_
  rintro e w54 ⟨b54, o54, m54, c54, bb54, oo54, mm54, cc54, rfl, hb54⟩
  have hX54 := bl_tr hX hb54
  clear k0 k37 k38 k39 k40
  obtain ⟨k0, k37, k38, k39, k40⟩ := HS12.out _ hX54
  clear k0 k37 k38 k39 k40
  go_upto_region 24 with (fail)
  obtain ⟨W13, hW13⟩ : ∃ W, W = w54.alloc (.cells #[.bool b54, .slice o54 m54 c54, .bool bb54, .slice oo54 mm54 cc54] 26) := ⟨_, rfl⟩
  have hal13 : Below w54.heap.size w54 W13 := by rw [hW13]; exact bl_new _
  have hXn13 : Below W12.heap.size W12 W13 := bl_tr hX54 hal13
  have HS13 : Hid (∀ w', Below W13.heap.size W13 w' → ((True) ∧ w'.cell? ⟨w53.heap.size, 0, none⟩ = some (.bool b53) ∧ w'.cell? ⟨w53.heap.size, 1, none⟩ = some (.slice o53 m53 c53) ∧ w'.cell? ⟨w53.heap.size, 2, none⟩ = some (.bool bb53) ∧ w'.cell? ⟨w53.heap.size, 3, none⟩ = some (.slice oo53 mm53 cc53)) ∧ w'.cell? ⟨w54.heap.size, 0, none⟩ = some (.bool b54) ∧ w'.cell? ⟨w54.heap.size, 1, none⟩ = some (.slice o54 m54 c54) ∧ w'.cell? ⟨w54.heap.size, 2, none⟩ = some (.bool bb54) ∧ w'.cell? ⟨w54.heap.size, 3, none⟩ = some (.slice oo54 mm54 cc54)) := hid (fun w' hb => by
    refine ⟨HS12.out _ (bl_tr hXn13 hb), ?_, ?_, ?_, ?_⟩ <;> (rw [hb.cell (by rw [hW13]; simp), hW13]; simp [go_sem]))
  replace HT := hid (fun w' hb => HT.out w' (bl_tr hXn13 hb))
  replace HM := hid (fun w' hb => HM.out w' (bl_tr hXn13 hb))
  replace VA := hid (fun w' hb => VA.out w' (bl_tr hXn13 hb))
  have HB13 := hid (HB12.out.trans (hXn13.mono HB12.out.size)); have HW13 := hid hW13
  clear hW13 hal13 hXn13 HS12 HB12 HW12
  rw [← HW13.out]
  have hX := Below.refl W13.heap.size W13
  obtain ⟨⟨k0, k37, k38, k39, k40⟩, k41, k42, k43, k44⟩ := HS13.out _ hX
  go_wp2_with fail
  refine (ParseRatio_bad [45, 48] (by decide) _ (HM.out _ hX) np_b.2.1).mono ?_
  rintro e w55 ⟨b55, o55, m55, c55, bb55, oo55, mm55, cc55, rfl, hb55⟩
  have hX55 := bl_tr hX hb55
  clear k0 k37 k38 k39 k40 k41 k42 k43 k44
  obtain ⟨⟨k0, k37, k38, k39, k40⟩, k41, k42, k43, k44⟩ := HS13.out _ hX55
  clear k0 k37 k38 k39 k40 k41 k42 k43 k44
  go_upto_region 25 with (fail)
  obtain ⟨W14, hW14⟩ : ∃ W, W = w55.alloc (.cells #[.bool b55, .slice o55 m55 c55, .bool bb55, .slice oo55 mm55 cc55] 26) := ⟨_, rfl⟩
  have hal14 : Below w55.heap.size w55 W14 := by rw [hW14]; exact bl_new _
  have hXn14 : Below W13.heap.size W13 W14 := bl_tr hX55 hal14
  have HS14 : Hid (∀ w', Below W14.heap.size W14 w' → (((True) ∧ w'.cell? ⟨w53.heap.size, 0, none⟩ = some (.bool b53) ∧ w'.cell? ⟨w53.heap.size, 1, none⟩ = some (.slice o53 m53 c53) ∧ w'.cell? ⟨w53.heap.size, 2, none⟩ = some (.bool bb53) ∧ w'.cell? ⟨w53.heap.size, 3, none⟩ = some (.slice oo53 mm53 cc53)) ∧ w'.cell? ⟨w54.heap.size, 0, none⟩ = some (.bool b54) ∧ w'.cell? ⟨w54.heap.size, 1, none⟩ = some (.slice o54 m54 c54) ∧ w'.cell? ⟨w54.heap.size, 2, none⟩ = some (.bool bb54) ∧ w'.cell? ⟨w54.heap.size, 3, none⟩ = some (.slice oo54 mm54 cc54)) ∧ w'.cell? ⟨w55.heap.size, 0, none⟩ = some (.bool b55) ∧ w'.cell? ⟨w55.heap.size, 1, none⟩ = some (.slice o55 m55 c55) ∧ w'.cell? ⟨w55.heap.size, 2, none⟩ = some (.bool bb55) ∧ w'.cell? ⟨w55.heap.size, 3, none⟩ = some (.slice oo55 mm55 cc55)) := hid (fun w' hb => by
    refine ⟨HS13.out _ (bl_tr hXn14 hb), ?_, ?_, ?_, ?_⟩ <;> (rw [hb.cell (by rw [hW14]; simp), hW14]; simp [go_sem]))
  replace HT := hid (fun w' hb => HT.out w' (bl_tr hXn14 hb))
  replace HM := hid (fun w' hb => HM.out w' (bl_tr hXn14 hb))
  replace VA := hid (fun w' hb => VA.out w' (bl_tr hXn14 hb))
  have HB14 := hid (HB13.out.trans (hXn14.mono HB13.out.size)); have HW14 := hid hW14
  clear hW14 hal14 hXn14 HS13 HB13 HW13
  rw [← HW14.out]
  have hX := Below.refl W14.heap.size W14
  obtain ⟨⟨⟨k0, k37, k38, k39, k40⟩, k41, k42, k43, k44⟩, k45, k46, k47, k48⟩ := HS14.out _ hX
  go_wp2_with fail
  refine (ParseRatio_bad [48, 48, 46, 53] (by decide) _ (HM.out _ hX) np_b.2.2).mono ?_
  rintro e w56 ⟨b56, o56, m56, c56, bb56, oo56, mm56, cc56, rfl, hb56⟩
  have hX56 := bl_tr hX hb56
  clear k0 k37 k38 k39 k40 k41 k42 k43 k44 k45 k46 k47 k48
  obtain ⟨⟨⟨k0, k37, k38, k39, k40⟩, k41, k42, k43, k44⟩, k45, k46, k47, k48⟩ := HS14.out _ hX56
  clear k0 k37 k38 k39 k40 k41 k42 k43 k44 k45 k46 k47 k48
  go_upto_region 26 with (fail)
  obtain ⟨W15, hW15⟩ : ∃ W, W = w56.alloc (.cells #[.bool b56, .slice o56 m56 c56, .bool bb56, .slice oo56 mm56 cc56] 26) := ⟨_, rfl⟩
  have hal15 : Below w56.heap.size w56 W15 := by rw [hW15]; exact bl_new _
  have hXn15 : Below W14.heap.size W14 W15 := bl_tr hX56 hal15
  have HS15 : Hid (∀ w', Below W15.heap.size W15 w' → ((((True) ∧ w'.cell? ⟨w53.heap.size, 0, none⟩ = some (.bool b53) ∧ w'.cell? ⟨w53.heap.size, 1, none⟩ = some (.slice o53 m53 c53) ∧ w'.cell? ⟨w53.heap.size, 2, none⟩ = some (.bool bb53) ∧ w'.cell? ⟨w53.heap.size, 3, none⟩ = some (.slice oo53 mm53 cc53)) ∧ w'.cell? ⟨w54.heap.size, 0, none⟩ = some (.bool b54) ∧ w'.cell? ⟨w54.heap.size, 1, none⟩ = some (.slice o54 m54 c54) ∧ w'.cell? ⟨w54.heap.size, 2, none⟩ = some (.bool bb54) ∧ w'.cell? ⟨w54.heap.size, 3, none⟩ = some (.slice oo54 mm54 cc54)) ∧ w'.cell? ⟨w55.heap.size, 0, none⟩ = some (.bool b55) ∧ w'.cell? ⟨w55.heap.size, 1, none⟩ = some (.slice o55 m55 c55) ∧ w'.cell? ⟨w55.heap.size, 2, none⟩ = some (.bool bb55) ∧ w'.cell? ⟨w55.heap.size, 3, none⟩ = some (.slice oo55 mm55 cc55)) ∧ w'.cell? ⟨w56.heap.size, 0, none⟩ = some (.bool b56) ∧ w'.cell? ⟨w56.heap.size, 1, none⟩ = some (.slice o56 m56 c56) ∧ w'.cell? ⟨w56.heap.size, 2, none⟩ = some (.bool bb56) ∧ w'.cell? ⟨w56.heap.size, 3, none⟩ = some (.slice oo56 mm56 cc56)) := hid (fun w' hb => by
    refine ⟨HS14.out _ (bl_tr hXn15 hb), ?_, ?_, ?_, ?_⟩ <;> (rw [hb.cell (by rw [hW15]; simp), hW15]; simp [go_sem]))
  replace HT := hid (fun w' hb => HT.out w' (bl_tr hXn15 hb))
  replace HM := hid (fun w' hb => HM.out w' (bl_tr hXn15 hb))
  replace VA := hid (fun w' hb => VA.out w' (bl_tr hXn15 hb))
  have HB15 := hid (HB14.out.trans (hXn15.mono HB14.out.size)); have HW15 := hid hW15
  clear hW15 hal15 hXn15 HS14 HB14 HW14
  rw [← HW15.out]
  have hX := Below.refl W15.heap.size W15
  obtain ⟨⟨⟨⟨k0, k37, k38, k39, k40⟩, k41, k42, k43, k44⟩, k45, k46, k47, k48⟩, k49, k50, k51, k52⟩ := HS15.out _ hX
  go_wp2_with fail
  refine (PR_is [45, 48, 46, 48] _ (HM.out _ hX) (by decide) np_e.1 0 10 np_e.2.1 np_e.2.2 (by decide) (by decide)).mono ?_
  rintro e w57 ⟨b57, o57, m57, c57, bb57, oo57, mm57, cc57, rfl, H57, hb57⟩
  have hX57 := bl_tr hX hb57
  clear k0 k37 k38 k39 k40 k41 k42 k43 k44 k45 k46 k47 k48 k49 k50 k51 k52
  obtain ⟨⟨⟨⟨k0, k37, k38, k39, k40⟩, k41, k42, k43, k44⟩, k45, k46, k47, k48⟩, k49, k50, k51, k52⟩ := HS15.out _ hX57
  clear k0 k37 k38 k39 k40 k41 k42 k43 k44 k45 k46 k47 k48 k49 k50 k51 k52
  go_upto_region 27 with (fail)
  obtain ⟨W16, hW16⟩ : ∃ W, W = w57.alloc (.cells #[.bool b57, .slice o57 m57 c57, .bool bb57, .slice oo57 mm57 cc57] 26) := ⟨_, rfl⟩
  have hal16 : Below w57.heap.size w57 W16 := by rw [hW16]; exact bl_new _
  have hXn16 : Below W15.heap.size W15 W16 := bl_tr hX57 hal16
  have HS16 : Hid (∀ w', Below W16.heap.size W16 w' → (((((True) ∧ w'.cell? ⟨w53.heap.size, 0, none⟩ = some (.bool b53) ∧ w'.cell? ⟨w53.heap.size, 1, none⟩ = some (.slice o53 m53 c53) ∧ w'.cell? ⟨w53.heap.size, 2, none⟩ = some (.bool bb53) ∧ w'.cell? ⟨w53.heap.size, 3, none⟩ = some (.slice oo53 mm53 cc53)) ∧ w'.cell? ⟨w54.heap.size, 0, none⟩ = some (.bool b54) ∧ w'.cell? ⟨w54.heap.size, 1, none⟩ = some (.slice o54 m54 c54) ∧ w'.cell? ⟨w54.heap.size, 2, none⟩ = some (.bool bb54) ∧ w'.cell? ⟨w54.heap.size, 3, none⟩ = some (.slice oo54 mm54 cc54)) ∧ w'.cell? ⟨w55.heap.size, 0, none⟩ = some (.bool b55) ∧ w'.cell? ⟨w55.heap.size, 1, none⟩ = some (.slice o55 m55 c55) ∧ w'.cell? ⟨w55.heap.size, 2, none⟩ = some (.bool bb55) ∧ w'.cell? ⟨w55.heap.size, 3, none⟩ = some (.slice oo55 mm55 cc55)) ∧ w'.cell? ⟨w56.heap.size, 0, none⟩ = some (.bool b56) ∧ w'.cell? ⟨w56.heap.size, 1, none⟩ = some (.slice o56 m56 c56) ∧ w'.cell? ⟨w56.heap.size, 2, none⟩ = some (.bool bb56) ∧ w'.cell? ⟨w56.heap.size, 3, none⟩ = some (.slice oo56 mm56 cc56)) ∧ w'.cell? ⟨w57.heap.size, 0, none⟩ = some (.bool b57) ∧ w'.cell? ⟨w57.heap.size, 1, none⟩ = some (.slice o57 m57 c57) ∧ w'.cell? ⟨w57.heap.size, 2, none⟩ = some (.bool bb57) ∧ w'.cell? ⟨w57.heap.size, 3, none⟩ = some (.slice oo57 mm57 cc57)) := hid (fun w' hb => by
    refine ⟨HS15.out _ (bl_tr hXn16 hb), ?_, ?_, ?_, ?_⟩ <;> (rw [hb.cell (by rw [hW16]; simp), hW16]; simp [go_sem]))
  replace HT := hid (fun w' hb => HT.out w' (bl_tr hXn16 hb))
  replace HM := hid (fun w' hb => HM.out w' (bl_tr hXn16 hb))
  replace VA := hid (fun w' hb => VA.out w' (bl_tr hXn16 hb))
  have VB : Hid (∀ w', Below W16.heap.size W16 w' → Rv w' (.agg #[.bool b57, .slice o57 m57 c57, .bool bb57, .slice oo57 mm57 cc57]) 0 10 1) := hid (fun w' hb => H57.out.below (bl_tr hal16 hb) (Nat.le_refl _))
  have HB16 := hid (HB15.out.trans (hXn16.mono HB15.out.size)); have HW16 := hid hW16
  clear hW16 hal16 hXn16 HS15 HB15 HW15
  rw [← HW16.out]
  have hX := Below.refl W16.heap.size W16
  obtain ⟨⟨⟨⟨⟨k0, k37, k38, k39, k40⟩, k41, k42, k43, k44⟩, k45, k46, k47, k48⟩, k49, k50, k51, k52⟩, k53, k54, k55, k56⟩ := HS16.out _ hX
  go_wp2_with fail
  refine (shows_any _ (-6) 4 1 _ (VA.out _ hX) (by omega) (HT.out _ hX) _ sh_three).mono ?_
  rintro e w58 ⟨rfl, hb58⟩
  have hX58 := bl_tr hX hb58
  clear k0 k37 k38 k39 k40 k41 k42 k43 k44 k45 k46 k47 k48 k49 k50 k51 k52 k53 k54 k55 k56
  obtain ⟨⟨⟨⟨⟨k0, k37, k38, k39, k40⟩, k41, k42, k43, k44⟩, k45, k46, k47, k48⟩, k49, k50, k51, k52⟩, k53, k54, k55, k56⟩ := HS16.out _ hX58
  go_wp2_with fail
  refine (shows_any _ 0 10 1 _ (VB.out _ hX58) (by omega) (HT.out _ hX58) _ sh_zero10).mono ?_
  rintro e w59 ⟨rfl, hb59⟩
  have hX59 := bl_tr hX58 hb59
  clear k0 k37 k38 k39 k40 k41 k42 k43 k44 k45 k46 k47 k48 k49 k50 k51 k52 k53 k54 k55 k56
  obtain ⟨⟨⟨⟨⟨k0, k37, k38, k39, k40⟩, k41, k42, k43, k44⟩, k45, k46, k47, k48⟩, k49, k50, k51, k52⟩, k53, k54, k55, k56⟩ := HS16.out _ hX59
  clear k0 k37 k38 k39 k40 k41 k42 k43 k44 k45 k46 k47 k48 k49 k50 k51 k52 k53 k54 k55 k56
  go_wp2_with fail
  refine (alive_any _).mono ?_
  rintro e w60 ⟨rfl, hb60⟩
  have hX60 := bl_tr hX59 hb60
  go_wp2
  go_ret
  exact ⟨rfl, HB16.out.trans (hX60.mono HB16.out.size)⟩
end Go.Proofs.YtilpkocmdpofpaaGreatDoor
