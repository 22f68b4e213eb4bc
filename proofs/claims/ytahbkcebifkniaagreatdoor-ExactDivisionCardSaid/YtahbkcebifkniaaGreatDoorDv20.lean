/- The law ExactDivision, its walk. Written by gen_division.py. -/
import Derived.Test.YtahbkcebifkniaaGreatDoorDv19
import Derived.Deep.DeepCutAuto
/- The law ExactDivision, its walk. Written by gen_division.py. -/
namespace Go.Proofs.YtahbkcebifkniaaGreatDoor
open Go.RowKit

set_option maxRecDepth 100000 in
set_option maxHeartbeats 1000000 in
theorem exactDivision_zero (na nb nc : Bool) (ao bo co : Option Addr) (n m l ca cb cc : Nat) (x y z : Int) (w : World) (hu : Ai w (.agg #[.bool na, .slice ao n ca]) x 16) (hv : Ai w (.agg #[.bool nb, .slice bo m cb]) y 16) (ht : Ai w (.agg #[.bool nc, .slice co l cc]) z 16) (hn : n ≤ 16) (hm : m ≤ 16) (hl : l ≤ 16) (hy : y = 0) :
    Calls Tryz.prog 4 #[.agg #[.bool na, .slice ao n ca], .agg #[.bool nb, .slice bo m cb], .agg #[.bool nc, .slice co l cc]] w fun e w' => e = .returned (.bool true) ∧ Below w.heap.size w w' := by
  subst hy
  obtain ⟨W0, hW0⟩ : ∃ W0, W0 = (((w.alloc (.cells #[.bool na, .slice ao n ca] 24)).alloc (.cells #[.bool nb, .slice bo m cb] 24)).alloc (.cells #[.bool nc, .slice co l cc] 24)) := ⟨_, rfl⟩
  have hB0 : Below w.heap.size w W0 := by rw [hW0]; exact (((Below.refl _ _).alloc (Nat.le_refl _) _).alloc (by simp) _).alloc (by simp <;> omega) _
  have hz0 : W0.heap.size = w.heap.size + 3 := by rw [hW0]; simp
  have HS : Hid (∀ w', Below W0.heap.size W0 w' → w'.cell? ⟨w.heap.size, 0, none⟩ = some (.bool na) ∧ w'.cell? ⟨w.heap.size, 1, none⟩ = some (.slice ao n ca) ∧ w'.cell? ⟨w.heap.size + 1, 0, none⟩ = some (.bool nb) ∧ w'.cell? ⟨w.heap.size + 1, 1, none⟩ = some (.slice bo m cb) ∧ w'.cell? ⟨w.heap.size + 2, 0, none⟩ = some (.bool nc) ∧ w'.cell? ⟨w.heap.size + 2, 1, none⟩ = some (.slice co l cc)) := hid (fun w' hb => by
    refine ⟨?_, ?_, ?_, ?_, ?_, ?_⟩ <;> (rw [hb.cell (by rw [hz0]; simp <;> omega), hW0]; simp [go_sem]))
  have HA : Hid (∀ w', Below W0.heap.size W0 w' → Ai w' (.agg #[.bool na, .slice ao n ca]) x 16) := hid (fun w' hb => (hu.below hB0 (Nat.le_refl _)).below hb (Nat.le_refl _))
  have HBv : Hid (∀ w', Below W0.heap.size W0 w' → Ai w' (.agg #[.bool nb, .slice bo m cb]) 0 16) := hid (fun w' hb => (hv.below hB0 (Nat.le_refl _)).below hb (Nat.le_refl _))
  have HC : Hid (∀ w', Below W0.heap.size W0 w' → Ai w' (.agg #[.bool nc, .slice co l cc]) z 16) := hid (fun w' hb => (ht.below hB0 (Nat.le_refl _)).below hb (Nat.le_refl _))
  have g1 : ¬ (16 : Int) < (n : Int) := by omega
  have g2 : ¬ (16 : Int) < (m : Int) := by omega
  have g3 : ¬ (16 : Int) < (l : Int) := by omega
  have HB0 := hid hB0; have HW := hid hW0
  clear hW0 hB0 hz0 hu hv ht hn hm hl
  go_enter Tryz.func4, Tryz.ntmps4
  go_wp2_with fail
  rw [← HW.out]
  refine (alive_any _).mono ?_
  rintro e w0 ⟨rfl, hX0⟩
  obtain ⟨k0, k1, k2, k3, k4, k5⟩ := HS.out _ hX0
  go_wp2_with fail
  refine (div_z0 _ _ x 16 16 _ (HA.out _ hX0) (HBv.out _ hX0) (by omega)).mono ?_
  rintro e w1 ⟨b1, o1, m1, c1, b2, o2, m2, c2, rfl, HQ, HR, hb1⟩
  have hX1 := bl_trans hX0 hb1
  clear k0 k1 k2 k3 k4 k5 hb1
  obtain ⟨k0, k1, k2, k3, k4, k5⟩ := HS.out _ (bl_alloc (bl_alloc hX1 (.cells #[.bool b1, .slice o1 m1 c1] 24)) (.cells #[.bool b2, .slice o2 m2 c2] 24))
  go_wp2_with fail
  refine (sign_z _ 0 0 16 _ (HBv.out _ (bl_alloc (bl_alloc hX1 _) _)) rfl (by omega)).mono ?_
  rintro e w2 ⟨rfl, hb2⟩
  have hX2 := bl_trans (bl_alloc (bl_alloc hX1 _) _) hb2
  go_wp2
  go_ret
  exact ⟨rfl, HB0.out.trans (hX2.mono HB0.out.size)⟩

set_option maxRecDepth 100000 in
set_option maxHeartbeats 1000000 in
theorem exactDivision_ne (na nb nc : Bool) (ao bo co : Option Addr) (n m l ca cb cc : Nat) (x y z : Int) (w : World) (hu : Ai w (.agg #[.bool na, .slice ao n ca]) x 16) (hv : Ai w (.agg #[.bool nb, .slice bo m cb]) y 16) (ht : Ai w (.agg #[.bool nc, .slice co l cc]) z 16) (hn : n ≤ 16) (hm : m ≤ 16) (hl : l ≤ 16) (hy : y ≠ 0) :
    Calls Tryz.prog 4 #[.agg #[.bool na, .slice ao n ca], .agg #[.bool nb, .slice bo m cb], .agg #[.bool nc, .slice co l cc]] w fun e w' => e = .returned (.bool true) ∧ Below w.heap.size w w' := by
  obtain ⟨q, r, s, t4, X, Y, g, N⟩ := divN x y z hy
  have HN := hid N; have Hy := hid hy
  clear N hy
  obtain ⟨W0, hW0⟩ : ∃ W0, W0 = (((w.alloc (.cells #[.bool na, .slice ao n ca] 24)).alloc (.cells #[.bool nb, .slice bo m cb] 24)).alloc (.cells #[.bool nc, .slice co l cc] 24)) := ⟨_, rfl⟩
  have hB0 : Below w.heap.size w W0 := by rw [hW0]; exact (((Below.refl _ _).alloc (Nat.le_refl _) _).alloc (by simp) _).alloc (by simp <;> omega) _
  have hz0 : W0.heap.size = w.heap.size + 3 := by rw [hW0]; simp
  have HS : Hid (∀ w', Below W0.heap.size W0 w' → w'.cell? ⟨w.heap.size, 0, none⟩ = some (.bool na) ∧ w'.cell? ⟨w.heap.size, 1, none⟩ = some (.slice ao n ca) ∧ w'.cell? ⟨w.heap.size + 1, 0, none⟩ = some (.bool nb) ∧ w'.cell? ⟨w.heap.size + 1, 1, none⟩ = some (.slice bo m cb) ∧ w'.cell? ⟨w.heap.size + 2, 0, none⟩ = some (.bool nc) ∧ w'.cell? ⟨w.heap.size + 2, 1, none⟩ = some (.slice co l cc)) := hid (fun w' hb => by
    refine ⟨?_, ?_, ?_, ?_, ?_, ?_⟩ <;> (rw [hb.cell (by rw [hz0]; simp <;> omega), hW0]; simp [go_sem]))
  have HA : Hid (∀ w', Below W0.heap.size W0 w' → Ai w' (.agg #[.bool na, .slice ao n ca]) x 16) := hid (fun w' hb => (hu.below hB0 (Nat.le_refl _)).below hb (Nat.le_refl _))
  have HBv : Hid (∀ w', Below W0.heap.size W0 w' → Ai w' (.agg #[.bool nb, .slice bo m cb]) y 16) := hid (fun w' hb => (hv.below hB0 (Nat.le_refl _)).below hb (Nat.le_refl _))
  have HC : Hid (∀ w', Below W0.heap.size W0 w' → Ai w' (.agg #[.bool nc, .slice co l cc]) z 16) := hid (fun w' hb => (ht.below hB0 (Nat.le_refl _)).below hb (Nat.le_refl _))
  have g1 : ¬ (16 : Int) < (n : Int) := by omega
  have g2 : ¬ (16 : Int) < (m : Int) := by omega
  have g3 : ¬ (16 : Int) < (l : Int) := by omega
  have HB0 := hid hB0; have HW := hid hW0
  clear hW0 hB0 hz0 hu hv ht hn hm hl
  go_enter Tryz.func4, Tryz.ntmps4
  go_wp2_with fail
  rw [← HW.out]
  refine (alive_any _).mono ?_
  rintro e w0 ⟨rfl, hX0⟩
  obtain ⟨k0, k1, k2, k3, k4, k5⟩ := HS.out _ hX0
  go_wp2_with fail
  refine (div_z _ _ x y q r 16 21 _ (HA.out _ hX0) (HBv.out _ hX0) Hy.out HN.out.dq HN.out.dr (by omega) (by omega)).mono ?_
  rintro e w1 ⟨b1, o1, m1, c1, b2, o2, m2, c2, rfl, HQ, HR, hb1⟩
  have hX1 := bl_trans hX0 hb1
  clear k0 k1 k2 k3 k4 k5 hb1
  go_upto_region 5 with (fail)
  obtain ⟨W4, hW4⟩ : ∃ W4, W4 = ((w1.alloc (.cells #[.bool b1, .slice o1 m1 c1] 24)).alloc (.cells #[.bool b2, .slice o2 m2 c2] 24)) := ⟨_, rfl⟩
  have hal : Below w1.heap.size w1 W4 := by rw [hW4]; exact bl_alloc (bl_alloc (Below.refl _ _) _) _
  have hz : W4.heap.size = w1.heap.size + 2 := by rw [hW4]; simp
  have hp : Below W0.heap.size W0 W4 := bl_trans hX1 hal
  have HSW4 : Hid (∀ w', Below W4.heap.size W4 w' → (w'.cell? ⟨w.heap.size, 0, none⟩ = some (.bool na) ∧ w'.cell? ⟨w.heap.size, 1, none⟩ = some (.slice ao n ca) ∧ w'.cell? ⟨w.heap.size + 1, 0, none⟩ = some (.bool nb) ∧ w'.cell? ⟨w.heap.size + 1, 1, none⟩ = some (.slice bo m cb) ∧ w'.cell? ⟨w.heap.size + 2, 0, none⟩ = some (.bool nc) ∧ w'.cell? ⟨w.heap.size + 2, 1, none⟩ = some (.slice co l cc)) ∧ w'.cell? ⟨w1.heap.size, 0, none⟩ = some (.bool b1) ∧ w'.cell? ⟨w1.heap.size, 1, none⟩ = some (.slice o1 m1 c1) ∧ w'.cell? ⟨w1.heap.size + 1, 0, none⟩ = some (.bool b2) ∧ w'.cell? ⟨w1.heap.size + 1, 1, none⟩ = some (.slice o2 m2 c2)) := hid (fun w' hb => by
    have S := HS.out _ (bl_trans hp hb)
    refine ⟨S, ?_, ?_, ?_, ?_⟩ <;> (rw [hb.cell (by rw [hz]; simp), hW4]; simp [go_sem]))
  have HAW4 : Hid (∀ w', Below W4.heap.size W4 w' → Ai w' (.agg #[.bool na, .slice ao n ca]) (x) 16) := hid (fun w' hb => HA.out _ (bl_trans hp hb))
  have HBvW4 : Hid (∀ w', Below W4.heap.size W4 w' → Ai w' (.agg #[.bool nb, .slice bo m cb]) (y) 16) := hid (fun w' hb => HBv.out _ (bl_trans hp hb))
  have HCW4 : Hid (∀ w', Below W4.heap.size W4 w' → Ai w' (.agg #[.bool nc, .slice co l cc]) (z) 16) := hid (fun w' hb => HC.out _ (bl_trans hp hb))
  have HZqW4 : Hid (∀ w', Below W4.heap.size W4 w' → Ai w' (.agg #[.bool b1, .slice o1 m1 c1]) (q) 21) := hid (fun w' hb => HQ.out.below (bl_trans hal hb) (Nat.le_refl _))
  have HZrW4 : Hid (∀ w', Below W4.heap.size W4 w' → Ai w' (.agg #[.bool b2, .slice o2 m2 c2]) (r) 21) := hid (fun w' hb => HR.out.below (bl_trans hal hb) (Nat.le_refl _))
  have HWW4 := hid hW4; have HPW4 := hid hp
  clear hal hz hp hW4 hX1
  rw [← HWW4.out]
  have hs0 : ¬ s = 0 := by rw [← HN.out.s0]; rcases Int.lt_or_lt_of_ne Hy.out with h | h <;> (first | (rw [cmp_lt' h]; decide) | (rw [cmp_gt' h]; decide))
  go_cut [57] from 26 (fun s57 wx => s57 = .bool false ∧ Below W4.heap.size W4 wx)
  case first =>
    obtain ⟨⟨k0, k1, k2, k3, k4, k5⟩, k6, k7, k8, k9⟩ := HSW4.out _ (Below.refl _ _)
    go_wp2_with fail
    refine (sign_z _ y s 16 _ (HBvW4.out _ (Below.refl _ _)) HN.out.s0 (by omega)).mono ?_
    rintro e w2 ⟨rfl, hX2⟩
    go_wp2_with fail
    go_meet
    exact ⟨by rw [show (s == 0) = false by simp [hs0]], hX2⟩
  case rest =>
  obtain ⟨w5, rfl⟩ : ∃ w5, w5 = wc := ⟨_, rfl⟩
  obtain ⟨rfl, hX5⟩ := hcut
  go_upto_region 7 with (fail)
  go_cut [11] from 26 (fun s11 wx => Below W4.heap.size W4 wx ∧ NewBox wx s11 (y * s) 20)
  case first =>
    have HKG : Hid (KG (Vc (.agg #[.bool nb, .slice bo m cb])) (Vc (.agg #[.bool nb, .slice bo m cb])) (Vc (.int .i64 s)) (Zi s 2) (Zi (y * s) 20) (Vt)) := hid ⟨vc_keep _, vc_keep _, vc_keep _, zi_keep _ _, zi_keep _ _, vt_keep⟩
    refine region_inv (by kernel_rfl) (fun L a w' => ∃ f0 f1 f2 f3 f4 f5 f6, L = #[f0, f1, f2, f3, f4, f5, f6] ∧ (f6 = true → f5 = true ∧ f4 = true) ∧ ∃ s63 s64 s65 s66 s67 s11, a = { tmps := #[.agg #[.bool na, .slice ao n ca], .agg #[.bool nb, .slice bo m cb], .agg #[.bool nc, .slice co l cc], .pointer (some ⟨w.heap.size, 0, none⟩), .pointer (some ⟨w.heap.size + 1, 0, none⟩), .pointer (some ⟨w.heap.size + 1 + 1, 0, none⟩), .bool false, .bool true, .pointer (some ⟨w1.heap.size, 0, none⟩), .pointer (some ⟨w1.heap.size + 1, 0, none⟩), .int .i64 0, s11, undef, undef, undef, undef, undef, undef, undef, undef, undef, undef, undef, undef, undef, undef, u26, u27, u28, u29, u30, u31, u32, u33, u34, u35, u36, u37, u38, u39, u40, u41, u42, u43, u44, u45, u46, u47, u48, u49, u50, u51, u52, u53, u54, u55, u56, .bool false, u58, u59, u60, u61, u62, s63, s64, s65, s66, s67, u68, u69, u70, u71, u72, u73, u74, u75, u76, u77, u78, u79, u80, u81, u82, u83, u84, u85, u86, u87, u88, u89, u90, u91, u92, u93, u94, u95, u96, u97, u98, u99, u100, u101, u102, u103, u104, u105, u106, u107, u108, u109, u110, u111, u112, u113, u114, u115, u116, u117, u118, u119, u120, u121, u122, u123, u124, u125, u126, u127, u128, u129, u130, u131, u132, u133, u134, u135, u136, u137, u138, u139, u140, u141, u142, u143, u144, u145, u146, u147, u148, u149, u150, u151, u152, u153, u154, u155, u156, u157, u158, u159, u160, u161, u162, u163, u164], defers := [] } ∧ BJ W4.heap.size W4 (Vc (.agg #[.bool nb, .slice bo m cb])) (Vc (.agg #[.bool nb, .slice bo m cb])) (Vc (.int .i64 s)) (Zi s 2) (Zi (y * s) 20) (Vt) f0 f1 f2 f3 f4 false s63 s64 s65 s66 s67 undef f5 f6 s11 s67 false false undef undef w') ?_ ?_ ?_
    · exact ⟨_, _, _, _, _, _, _, rfl, nofun, _, _, _, _, _, _, rfl, BJ.start hX5.drew hX5.size⟩
    · rintro L a w' i hs ⟨f0, f1, f2, f3, f4, f5, f6, rfl, d1, s63, s64, s65, s66, s67, s11, rfl, J⟩ hi
      obtain ⟨hi, hn, hd⟩ := waits_spec (dep := [[], [], [1], [2], [0, 3], [], [5, 4]]) (by kernel_rfl) hi
      have hiN : i < 7 := hi
      obtain ⟨⟨k0, k1, k2, k3, k4, k5⟩, k6, k7, k8, k9⟩ := HSW4.out w' J.bel
      have HJ := hid J
      rcases (show i = 0 ∨ i = 1 ∨ i = 2 ∨ i = 3 ∨ i = 4 ∨ i = 5 ∨ i = 6 by omega) with rfl | rfl | rfl | rfl | rfl | rfl | rfl
      · clear J hd hi hiN hn
        refine wpOp_step rfl (fun K hK => ?_)
        go_simp
        exact hK _ _ ⟨true, f1, f2, f3, f4, f5, f6, rfl, d1, _, _, _, _, _, _, rfl, ⟨HJ.out.bel, HJ.out.siz, fun _ => rfl, HJ.out.v1, HJ.out.v2, HJ.out.v3, HJ.out.v4, HJ.out.v5, HJ.out.a1, HJ.out.a2, HJ.out.ne⟩⟩
      · clear J hd hi hiN hn
        refine wpOp_step rfl (fun K hK => ?_)
        go_simp
        exact hK _ _ ⟨f0, true, f2, f3, f4, f5, f6, rfl, d1, _, _, _, _, _, _, rfl, ⟨HJ.out.bel, HJ.out.siz, HJ.out.v0, fun _ => rfl, HJ.out.v2, HJ.out.v3, HJ.out.v4, HJ.out.v5, HJ.out.a1, HJ.out.a2, HJ.out.ne⟩⟩
      · obtain rfl : f2 = false := hn
        have e1 : s64 = .agg #[.bool nb, .slice bo m cb] := J.v1 (hd 1 (by simp))
        subst e1
        have hw := J.bel
        clear J hd hi hiN 
        refine wpOp_step rfl (fun K hK => ?_)
        go_simp
        refine (sign_z _ y s 16 _ (HBvW4.out _ hw) HN.out.s0 (by omega)).mono ?_
        rintro e wz ⟨rfl, hb⟩
        have J2 := HJ.out.step HKG.out hb
        exact hK _ _ ⟨f0, f1, true, f3, f4, f5, f6, rfl, d1, _, _, _, _, _, _, rfl, ⟨J2.bel, J2.siz, J2.v0, J2.v1, fun _ => rfl, J2.v3, J2.v4, J2.v5, J2.a1, J2.a2, J2.ne⟩⟩
      · obtain rfl : f3 = false := hn
        have e2 : s65 = .int .i64 s := J.v2 (hd 2 (by simp))
        subst e2
        have hw := J.bel
        clear J hd hi hiN 
        refine wpOp_step rfl (fun K hK => ?_)
        go_simp
        refine (of_z s _ HN.out.s1 HN.out.s2).mono ?_
        rintro e wz ⟨zb, zo, zm, zc, rfl, HZ, hb⟩
        have J2 := HJ.out.step HKG.out hb
        exact hK _ _ ⟨f0, f1, f2, true, f4, f5, f6, rfl, d1, _, _, _, _, _, _, rfl, ⟨J2.bel, J2.siz, J2.v0, J2.v1, J2.v2, fun _ => ⟨zb, zo, zm, zc, rfl, HZ.out⟩, J2.v4, J2.v5, J2.a1, J2.a2, J2.ne⟩⟩
      · obtain rfl : f4 = false := hn
        obtain rfl : f6 = false := by cases f6 with | false => rfl | true => exact absurd (d1 rfl).2 (by simp)
        have e0 : s63 = .agg #[.bool nb, .slice bo m cb] := J.v0 (hd 0 (by simp))
        subst e0
        obtain ⟨b3, o3, m3, c3, rfl, h3⟩ := J.v3 (hd 3 (by simp))
        have hw := J.bel
        clear J hd hi hiN d1
        refine wpOp_step rfl (fun K hK => ?_)
        go_simp
        refine (mul_z _ _ y s (y * s) 16 2 20 _ (HBvW4.out _ hw) h3 rfl (by omega) (by omega) (by omega)).mono ?_
        rintro e wz ⟨zb, zo, zm, zc, rfl, HZ, hb⟩
        have J2 := HJ.out.step HKG.out hb
        exact hK _ _ ⟨f0, f1, f2, f3, true, f5, false, rfl, nofun, _, _, _, _, _, _, rfl, ⟨J2.bel, J2.siz, J2.v0, J2.v1, J2.v2, J2.v3, fun _ => ⟨zb, zo, zm, zc, rfl, HZ.out⟩, J2.v5, fun e => (J2.a1 e).fresh, J2.a2, J2.ne⟩⟩
      · obtain rfl : f5 = false := hn
        obtain rfl : f6 = false := by cases f6 with | false => rfl | true => exact absurd (d1 rfl).1 (by simp)
        clear J hd hi hiN d1
        refine wpOp_step rfl (fun K hK => ?_)
        go_simp
        exact hK _ _ ⟨f0, f1, f2, f3, f4, true, false, rfl, nofun, _, _, _, _, _, _, rfl, HJ.out.alloc1 HKG.out _⟩
      · obtain rfl : f5 = true := hd 5 (by simp)
        obtain rfl : f4 = true := hd 4 (by simp)
        obtain ⟨p, v0, v1, rfl, hp, c0, c1, e0, e1, _⟩ := J.a1 rfl
        obtain ⟨sb, so, sm, sc, rfl, _⟩ := J.v4 rfl
        clear J hd hi hiN hn
        refine wpOp_step rfl (fun K hK => ?_)
        go_simp
        exact hK _ _ ⟨f0, f1, f2, f3, true, true, true, rfl, fun _ => ⟨rfl, rfl⟩, _, _, _, _, _, _, rfl, HJ.out.store1 HKG.out nofun nofun⟩
    rintro L a w' hs ⟨f0, f1, f2, f3, f4, f5, f6, rfl, _, s63, s64, s65, s66, s67, s11, rfl, J⟩ hr
    have hd := early_done (by kernel_rfl) hs hr 7
    obtain rfl : f0 = true := hd 0 (by omega) (by simp)
    obtain rfl : f1 = true := hd 1 (by omega) (by simp)
    obtain rfl : f2 = true := hd 2 (by omega) (by simp)
    obtain rfl : f3 = true := hd 3 (by omega) (by simp)
    obtain rfl : f4 = true := hd 4 (by omega) (by simp)
    obtain rfl : f5 = true := hd 5 (by omega) (by simp)
    obtain rfl : f6 = true := hd 6 (by omega) (by simp)
    obtain ⟨p1, u1a, u1b, rfl, hp1, c1a, c1b, _, _, _, _, hu1⟩ := J.a1 rfl
    have ev1 := hu1 rfl
    subst ev1
    obtain ⟨gb1, go1, gm1, gc1, eg1, hg1⟩ := J.v4 rfl
    simp only [Value.agg.injEq, Array.mk.injEq, List.cons.injEq, and_true] at eg1
    obtain ⟨rfl, rfl⟩ := eg1
    have hbel := J.bel
    clear hd hr hs J
    go_wp2_with fail
    go_meet
    exact ⟨hbel, p1, _, _, _, _, rfl, c1a, c1b, hg1⟩
  case rest =>
  obtain ⟨W7, rfl⟩ : ∃ W7, W7 = wc := ⟨_, rfl⟩
  obtain ⟨hp, ⟨x11, b11, o11, m11, c11, rfl, x11a, x11b, x11h⟩⟩ := hcut
  have x11l := World.block_lt_of_cell? _ _ x11a
  have HSW7 : Hid (∀ w', Below W7.heap.size W7 w' → (w'.cell? ⟨w.heap.size, 0, none⟩ = some (.bool na) ∧ w'.cell? ⟨w.heap.size, 1, none⟩ = some (.slice ao n ca) ∧ w'.cell? ⟨w.heap.size + 1, 0, none⟩ = some (.bool nb) ∧ w'.cell? ⟨w.heap.size + 1, 1, none⟩ = some (.slice bo m cb) ∧ w'.cell? ⟨w.heap.size + 2, 0, none⟩ = some (.bool nc) ∧ w'.cell? ⟨w.heap.size + 2, 1, none⟩ = some (.slice co l cc)) ∧ w'.cell? ⟨w1.heap.size, 0, none⟩ = some (.bool b1) ∧ w'.cell? ⟨w1.heap.size, 1, none⟩ = some (.slice o1 m1 c1) ∧ w'.cell? ⟨w1.heap.size + 1, 0, none⟩ = some (.bool b2) ∧ w'.cell? ⟨w1.heap.size + 1, 1, none⟩ = some (.slice o2 m2 c2) ∧ w'.cell? ⟨x11, 0, none⟩ = some (.bool b11) ∧ w'.cell? ⟨x11, 1, none⟩ = some (.slice o11 m11 c11)) := hid (fun w' hb => by
    have S := HSW4.out _ (bl_trans hp hb)
    exact ⟨S.1, S.2.1, S.2.2.1, S.2.2.2.1, S.2.2.2.2, (hb.cell x11l).trans x11a, (hb.cell (p := ⟨x11, 1, none⟩) x11l).trans x11b⟩)
  have HAW7 : Hid (∀ w', Below W7.heap.size W7 w' → Ai w' (.agg #[.bool na, .slice ao n ca]) (x) 16) := hid (fun w' hb => HAW4.out _ (bl_trans hp hb))
  have HBvW7 : Hid (∀ w', Below W7.heap.size W7 w' → Ai w' (.agg #[.bool nb, .slice bo m cb]) (y) 16) := hid (fun w' hb => HBvW4.out _ (bl_trans hp hb))
  have HCW7 : Hid (∀ w', Below W7.heap.size W7 w' → Ai w' (.agg #[.bool nc, .slice co l cc]) (z) 16) := hid (fun w' hb => HCW4.out _ (bl_trans hp hb))
  have HZqW7 : Hid (∀ w', Below W7.heap.size W7 w' → Ai w' (.agg #[.bool b1, .slice o1 m1 c1]) (q) 21) := hid (fun w' hb => HZqW4.out _ (bl_trans hp hb))
  have HZrW7 : Hid (∀ w', Below W7.heap.size W7 w' → Ai w' (.agg #[.bool b2, .slice o2 m2 c2]) (r) 21) := hid (fun w' hb => HZrW4.out _ (bl_trans hp hb))
  have HZsizeW7 : Hid (∀ w', Below W7.heap.size W7 w' → Ai w' (.agg #[.bool b11, .slice o11 m11 c11]) (y * s) 20) := hid (fun w' hb => x11h.below hb (Nat.le_refl _))
  have HLW7 := hid hp
  clear hp x11a x11b x11h x11l
  go_upto_region 8 with (fail)
  go_cut [12] from 26 (fun s12 wx => Below W7.heap.size W7 wx ∧ NewBox wx s12 (r * s) 25)
  case first =>
    have hX7 := Below.refl W7.heap.size W7
    have HKG : Hid (KG (Vc (.agg #[.bool b2, .slice o2 m2 c2])) (Vc (.agg #[.bool nb, .slice bo m cb])) (Vc (.int .i64 s)) (Zi s 2) (Zi (r * s) 25) (Vt)) := hid ⟨vc_keep _, vc_keep _, vc_keep _, zi_keep _ _, zi_keep _ _, vt_keep⟩
    refine region_inv (by kernel_rfl) (fun L a w' => ∃ f0 f1 f2 f3 f4 f5 f6, L = #[f0, f1, f2, f3, f4, f5, f6] ∧ (f6 = true → f5 = true ∧ f4 = true) ∧ ∃ s68 s69 s70 s71 s72 s12, a = { tmps := #[.agg #[.bool na, .slice ao n ca], .agg #[.bool nb, .slice bo m cb], .agg #[.bool nc, .slice co l cc], .pointer (some ⟨w.heap.size, 0, none⟩), .pointer (some ⟨w.heap.size + 1, 0, none⟩), .pointer (some ⟨w.heap.size + 1 + 1, 0, none⟩), .bool false, .bool true, .pointer (some ⟨w1.heap.size, 0, none⟩), .pointer (some ⟨w1.heap.size + 1, 0, none⟩), .int .i64 0, .pointer (some ⟨x11, 0, none⟩), s12, undef, undef, undef, undef, undef, undef, undef, undef, undef, undef, undef, undef, undef, u26, u27, u28, u29, u30, u31, u32, u33, u34, u35, u36, u37, u38, u39, u40, u41, u42, u43, u44, u45, u46, u47, u48, u49, u50, u51, u52, u53, u54, u55, u56, u57, u58, u59, u60, u61, u62, u63, u64, u65, u66, u67, s68, s69, s70, s71, s72, u73, u74, u75, u76, u77, u78, u79, u80, u81, u82, u83, u84, u85, u86, u87, u88, u89, u90, u91, u92, u93, u94, u95, u96, u97, u98, u99, u100, u101, u102, u103, u104, u105, u106, u107, u108, u109, u110, u111, u112, u113, u114, u115, u116, u117, u118, u119, u120, u121, u122, u123, u124, u125, u126, u127, u128, u129, u130, u131, u132, u133, u134, u135, u136, u137, u138, u139, u140, u141, u142, u143, u144, u145, u146, u147, u148, u149, u150, u151, u152, u153, u154, u155, u156, u157, u158, u159, u160, u161, u162, u163, u164], defers := [] } ∧ BJ W7.heap.size W7 (Vc (.agg #[.bool b2, .slice o2 m2 c2])) (Vc (.agg #[.bool nb, .slice bo m cb])) (Vc (.int .i64 s)) (Zi s 2) (Zi (r * s) 25) (Vt) f0 f1 f2 f3 f4 false s68 s69 s70 s71 s72 undef f5 f6 s12 s72 false false undef undef w') ?_ ?_ ?_
    · exact ⟨_, _, _, _, _, _, _, rfl, nofun, _, _, _, _, _, _, rfl, BJ.start hX7.drew hX7.size⟩
    · rintro L a w' i hs ⟨f0, f1, f2, f3, f4, f5, f6, rfl, d1, s68, s69, s70, s71, s72, s12, rfl, J⟩ hi
      obtain ⟨hi, hn, hd⟩ := waits_spec (dep := [[], [], [1], [2], [0, 3], [], [5, 4]]) (by kernel_rfl) hi
      have hiN : i < 7 := hi
      obtain ⟨⟨k0, k1, k2, k3, k4, k5⟩, k6, k7, k8, k9, k10, k11⟩ := HSW7.out w' J.bel
      have HJ := hid J
      rcases (show i = 0 ∨ i = 1 ∨ i = 2 ∨ i = 3 ∨ i = 4 ∨ i = 5 ∨ i = 6 by omega) with rfl | rfl | rfl | rfl | rfl | rfl | rfl
      · clear J hd hi hiN hn
        refine wpOp_step rfl (fun K hK => ?_)
        go_simp
        exact hK _ _ ⟨true, f1, f2, f3, f4, f5, f6, rfl, d1, _, _, _, _, _, _, rfl, ⟨HJ.out.bel, HJ.out.siz, fun _ => rfl, HJ.out.v1, HJ.out.v2, HJ.out.v3, HJ.out.v4, HJ.out.v5, HJ.out.a1, HJ.out.a2, HJ.out.ne⟩⟩
      · clear J hd hi hiN hn
        refine wpOp_step rfl (fun K hK => ?_)
        go_simp
        exact hK _ _ ⟨f0, true, f2, f3, f4, f5, f6, rfl, d1, _, _, _, _, _, _, rfl, ⟨HJ.out.bel, HJ.out.siz, HJ.out.v0, fun _ => rfl, HJ.out.v2, HJ.out.v3, HJ.out.v4, HJ.out.v5, HJ.out.a1, HJ.out.a2, HJ.out.ne⟩⟩
      · obtain rfl : f2 = false := hn
        have e1 : s69 = .agg #[.bool nb, .slice bo m cb] := J.v1 (hd 1 (by simp))
        subst e1
        have hw := J.bel
        clear J hd hi hiN 
        refine wpOp_step rfl (fun K hK => ?_)
        go_simp
        refine (sign_z _ y s 16 _ (HBvW7.out _ hw) HN.out.s0 (by omega)).mono ?_
        rintro e wz ⟨rfl, hb⟩
        have J2 := HJ.out.step HKG.out hb
        exact hK _ _ ⟨f0, f1, true, f3, f4, f5, f6, rfl, d1, _, _, _, _, _, _, rfl, ⟨J2.bel, J2.siz, J2.v0, J2.v1, fun _ => rfl, J2.v3, J2.v4, J2.v5, J2.a1, J2.a2, J2.ne⟩⟩
      · obtain rfl : f3 = false := hn
        have e2 : s70 = .int .i64 s := J.v2 (hd 2 (by simp))
        subst e2
        have hw := J.bel
        clear J hd hi hiN 
        refine wpOp_step rfl (fun K hK => ?_)
        go_simp
        refine (of_z s _ HN.out.s1 HN.out.s2).mono ?_
        rintro e wz ⟨zb, zo, zm, zc, rfl, HZ, hb⟩
        have J2 := HJ.out.step HKG.out hb
        exact hK _ _ ⟨f0, f1, f2, true, f4, f5, f6, rfl, d1, _, _, _, _, _, _, rfl, ⟨J2.bel, J2.siz, J2.v0, J2.v1, J2.v2, fun _ => ⟨zb, zo, zm, zc, rfl, HZ.out⟩, J2.v4, J2.v5, J2.a1, J2.a2, J2.ne⟩⟩
      · obtain rfl : f4 = false := hn
        obtain rfl : f6 = false := by cases f6 with | false => rfl | true => exact absurd (d1 rfl).2 (by simp)
        have e0 : s68 = .agg #[.bool b2, .slice o2 m2 c2] := J.v0 (hd 0 (by simp))
        subst e0
        obtain ⟨b3, o3, m3, c3, rfl, h3⟩ := J.v3 (hd 3 (by simp))
        have hw := J.bel
        clear J hd hi hiN d1
        refine wpOp_step rfl (fun K hK => ?_)
        go_simp
        refine (mul_z _ _ r s (r * s) 21 2 25 _ (HZrW7.out _ hw) h3 rfl (by omega) (by omega) (by omega)).mono ?_
        rintro e wz ⟨zb, zo, zm, zc, rfl, HZ, hb⟩
        have J2 := HJ.out.step HKG.out hb
        exact hK _ _ ⟨f0, f1, f2, f3, true, f5, false, rfl, nofun, _, _, _, _, _, _, rfl, ⟨J2.bel, J2.siz, J2.v0, J2.v1, J2.v2, J2.v3, fun _ => ⟨zb, zo, zm, zc, rfl, HZ.out⟩, J2.v5, fun e => (J2.a1 e).fresh, J2.a2, J2.ne⟩⟩
      · obtain rfl : f5 = false := hn
        obtain rfl : f6 = false := by cases f6 with | false => rfl | true => exact absurd (d1 rfl).1 (by simp)
        clear J hd hi hiN d1
        refine wpOp_step rfl (fun K hK => ?_)
        go_simp
        exact hK _ _ ⟨f0, f1, f2, f3, f4, true, false, rfl, nofun, _, _, _, _, _, _, rfl, HJ.out.alloc1 HKG.out _⟩
      · obtain rfl : f5 = true := hd 5 (by simp)
        obtain rfl : f4 = true := hd 4 (by simp)
        obtain ⟨p, v0, v1, rfl, hp, c0, c1, e0, e1, _⟩ := J.a1 rfl
        obtain ⟨sb, so, sm, sc, rfl, _⟩ := J.v4 rfl
        clear J hd hi hiN hn
        refine wpOp_step rfl (fun K hK => ?_)
        go_simp
        exact hK _ _ ⟨f0, f1, f2, f3, true, true, true, rfl, fun _ => ⟨rfl, rfl⟩, _, _, _, _, _, _, rfl, HJ.out.store1 HKG.out nofun nofun⟩
    rintro L a w' hs ⟨f0, f1, f2, f3, f4, f5, f6, rfl, _, s68, s69, s70, s71, s72, s12, rfl, J⟩ hr
    have hd := early_done (by kernel_rfl) hs hr 7
    obtain rfl : f0 = true := hd 0 (by omega) (by simp)
    obtain rfl : f1 = true := hd 1 (by omega) (by simp)
    obtain rfl : f2 = true := hd 2 (by omega) (by simp)
    obtain rfl : f3 = true := hd 3 (by omega) (by simp)
    obtain rfl : f4 = true := hd 4 (by omega) (by simp)
    obtain rfl : f5 = true := hd 5 (by omega) (by simp)
    obtain rfl : f6 = true := hd 6 (by omega) (by simp)
    obtain ⟨p1, u1a, u1b, rfl, hp1, c1a, c1b, _, _, _, _, hu1⟩ := J.a1 rfl
    have ev1 := hu1 rfl
    subst ev1
    obtain ⟨gb1, go1, gm1, gc1, eg1, hg1⟩ := J.v4 rfl
    simp only [Value.agg.injEq, Array.mk.injEq, List.cons.injEq, and_true] at eg1
    obtain ⟨rfl, rfl⟩ := eg1
    have hbel := J.bel
    clear hd hr hs J
    go_wp2_with fail
    go_meet
    exact ⟨hbel, p1, _, _, _, _, rfl, c1a, c1b, hg1⟩
  case rest =>
  obtain ⟨W8, rfl⟩ : ∃ W8, W8 = wc := ⟨_, rfl⟩
  obtain ⟨hp, ⟨x12, b12, o12, m12, c12, rfl, x12a, x12b, x12h⟩⟩ := hcut
  have x12l := World.block_lt_of_cell? _ _ x12a
  have HSW8 : Hid (∀ w', Below W8.heap.size W8 w' → (w'.cell? ⟨w.heap.size, 0, none⟩ = some (.bool na) ∧ w'.cell? ⟨w.heap.size, 1, none⟩ = some (.slice ao n ca) ∧ w'.cell? ⟨w.heap.size + 1, 0, none⟩ = some (.bool nb) ∧ w'.cell? ⟨w.heap.size + 1, 1, none⟩ = some (.slice bo m cb) ∧ w'.cell? ⟨w.heap.size + 2, 0, none⟩ = some (.bool nc) ∧ w'.cell? ⟨w.heap.size + 2, 1, none⟩ = some (.slice co l cc)) ∧ w'.cell? ⟨w1.heap.size, 0, none⟩ = some (.bool b1) ∧ w'.cell? ⟨w1.heap.size, 1, none⟩ = some (.slice o1 m1 c1) ∧ w'.cell? ⟨w1.heap.size + 1, 0, none⟩ = some (.bool b2) ∧ w'.cell? ⟨w1.heap.size + 1, 1, none⟩ = some (.slice o2 m2 c2) ∧ w'.cell? ⟨x11, 0, none⟩ = some (.bool b11) ∧ w'.cell? ⟨x11, 1, none⟩ = some (.slice o11 m11 c11) ∧ w'.cell? ⟨x12, 0, none⟩ = some (.bool b12) ∧ w'.cell? ⟨x12, 1, none⟩ = some (.slice o12 m12 c12)) := hid (fun w' hb => by
    have S := HSW7.out _ (bl_trans hp hb)
    exact ⟨S.1, S.2.1, S.2.2.1, S.2.2.2.1, S.2.2.2.2.1, S.2.2.2.2.2.1, S.2.2.2.2.2.2, (hb.cell x12l).trans x12a, (hb.cell (p := ⟨x12, 1, none⟩) x12l).trans x12b⟩)
  have HAW8 : Hid (∀ w', Below W8.heap.size W8 w' → Ai w' (.agg #[.bool na, .slice ao n ca]) (x) 16) := hid (fun w' hb => HAW7.out _ (bl_trans hp hb))
  have HBvW8 : Hid (∀ w', Below W8.heap.size W8 w' → Ai w' (.agg #[.bool nb, .slice bo m cb]) (y) 16) := hid (fun w' hb => HBvW7.out _ (bl_trans hp hb))
  have HCW8 : Hid (∀ w', Below W8.heap.size W8 w' → Ai w' (.agg #[.bool nc, .slice co l cc]) (z) 16) := hid (fun w' hb => HCW7.out _ (bl_trans hp hb))
  have HZqW8 : Hid (∀ w', Below W8.heap.size W8 w' → Ai w' (.agg #[.bool b1, .slice o1 m1 c1]) (q) 21) := hid (fun w' hb => HZqW7.out _ (bl_trans hp hb))
  have HZrW8 : Hid (∀ w', Below W8.heap.size W8 w' → Ai w' (.agg #[.bool b2, .slice o2 m2 c2]) (r) 21) := hid (fun w' hb => HZrW7.out _ (bl_trans hp hb))
  have HZsizeW8 : Hid (∀ w', Below W8.heap.size W8 w' → Ai w' (.agg #[.bool b11, .slice o11 m11 c11]) (y * s) 20) := hid (fun w' hb => HZsizeW7.out _ (bl_trans hp hb))
  have HZrestW8 : Hid (∀ w', Below W8.heap.size W8 w' → Ai w' (.agg #[.bool b12, .slice o12 m12 c12]) (r * s) 25) := hid (fun w' hb => x12h.below hb (Nat.le_refl _))
  have HLW8 := hid hp
  clear hp x12a x12b x12h x12l
  have ht4 := HN.out.t0
  go_upto_region 9 with (fail)
  go_cut [13] from 26 (fun s13 wx => s13 = .bool true ∧ Below W8.heap.size W8 wx)
  case first =>
    have hX80 := Below.refl W8.heap.size W8
    have tk81 := hid trivial
    have tk82 := hid trivial
    have tk83 := hid trivial
    have tk84 := hid trivial
    have tk85 := hid trivial
    go_region_held3 (fun w' => (w'.cell? ⟨w.heap.size, 0, none⟩ = some (.bool na) ∧ w'.cell? ⟨w.heap.size, 1, none⟩ = some (.slice ao n ca) ∧ w'.cell? ⟨w.heap.size + 1, 0, none⟩ = some (.bool nb) ∧ w'.cell? ⟨w.heap.size + 1, 1, none⟩ = some (.slice bo m cb) ∧ w'.cell? ⟨w.heap.size + 2, 0, none⟩ = some (.bool nc) ∧ w'.cell? ⟨w.heap.size + 2, 1, none⟩ = some (.slice co l cc)) ∧ w'.cell? ⟨w1.heap.size, 0, none⟩ = some (.bool b1) ∧ w'.cell? ⟨w1.heap.size, 1, none⟩ = some (.slice o1 m1 c1) ∧ w'.cell? ⟨w1.heap.size + 1, 0, none⟩ = some (.bool b2) ∧ w'.cell? ⟨w1.heap.size + 1, 1, none⟩ = some (.slice o2 m2 c2) ∧ w'.cell? ⟨x11, 0, none⟩ = some (.bool b11) ∧ w'.cell? ⟨x11, 1, none⟩ = some (.slice o11 m11 c11) ∧ w'.cell? ⟨x12, 0, none⟩ = some (.bool b12) ∧ w'.cell? ⟨x12, 1, none⟩ = some (.slice o12 m12 c12)) ((refine HSW8.out _ ?_; first | assumption | exact Below.drew (by assumption))) (first
      | (clear tk81; go_at_call 9; refine (mul_z _ _ _ _ (q * y) 21 16 39 _ (HZqW8.out _ hX80.drew) (HBvW8.out _ hX80.drew) rfl (by omega) (by omega) (by omega)).mono ?_; rintro e w81 ⟨b81, o81, m81, c81, rfl, H81, hb81⟩; have hX81 : Below W8.heap.size W8 w81 := (hX80.drew).trans (hb81.mono (hX80.drew).size))
      | (clear tk82; go_at_call 8; refine (add_z _ _ _ _ (q * y + r) 39 42 _ H81.out ((HZrW8.out _ hX81).mono (by omega)) rfl (by omega) (by omega)).mono ?_; rintro e w82 ⟨b82, o82, m82, c82, rfl, H82, hb82⟩; have hX82 : Below W8.heap.size W8 w82 := (hX81).trans (hb82.mono (hX81).size))
      | (clear tk83; go_at_call 7; refine (equal_z _ _ _ _ 42 _ H82.out ((HAW8.out _ hX82).mono (by omega)) HN.out.back (by omega)).mono ?_; rintro e w83 ⟨rfl, hb83⟩; have hX83 : Below W8.heap.size W8 w83 := (hX82).trans (hb83.mono (hX82).size))
      | (clear tk84; go_at_call 11; refine (sign_z _ _ (t4) 25 _ (HZrestW8.out _ hX83) HN.out.rs (by omega)).mono ?_; rintro e w84 ⟨rfl, hb84⟩; have hX84 : Below W8.heap.size W8 w84 := (hX83).trans (hb84.mono (hX83).size))
      | (clear tk85; go_at_call 13; refine (cmp_z _ _ _ _ (-1) 25 _ (HZrestW8.out _ hX84) ((HZsizeW8.out _ hX84).mono (by omega)) HN.out.lt (by omega)).mono ?_; rintro e w85 ⟨rfl, hb85⟩; have hX85 : Below W8.heap.size W8 w85 := (hX84).trans (hb85.mono (hX84).size)))
    go_wp2_with fail
    go_meet
    exact ⟨rfl, hX85⟩
  case rest =>
  obtain ⟨w9, rfl⟩ : ∃ w9, w9 = wc := ⟨_, rfl⟩
  obtain ⟨rfl, hX9⟩ := hcut
  clear ht4
  go_upto_region 10 with (fail)
  go_cut [14, 15] from 26 (fun s14 s15 wx => Below W8.heap.size W8 wx ∧ NewBox wx s14 X 34 ∧ NewBox wx s15 Y 34)
  case first =>
    have HKG : Hid (KG (Vc (.agg #[.bool na, .slice ao n ca])) (Vc (.agg #[.bool nc, .slice co l cc])) (Zi X 34) (Vc (.agg #[.bool nb, .slice bo m cb])) (Vc (.agg #[.bool nc, .slice co l cc])) (Zi Y 34)) := hid ⟨vc_keep _, vc_keep _, zi_keep _ _, vc_keep _, vc_keep _, zi_keep _ _⟩
    refine region_inv (by kernel_rfl) (fun L a w' => ∃ f0 f1 f2 f3 f4 f5 f6 f7 f8 f9, L = #[f0, f1, f2, f3, f4, f5, f6, f7, f8, f9] ∧ (f8 = true → f6 = true ∧ f2 = true) ∧ (f9 = true → f7 = true ∧ f5 = true) ∧ ∃ s95 s96 s97 s98 s99 s100 s14 s15, a = { tmps := #[.agg #[.bool na, .slice ao n ca], .agg #[.bool nb, .slice bo m cb], .agg #[.bool nc, .slice co l cc], .pointer (some ⟨w.heap.size, 0, none⟩), .pointer (some ⟨w.heap.size + 1, 0, none⟩), .pointer (some ⟨w.heap.size + 1 + 1, 0, none⟩), .bool false, .bool true, .pointer (some ⟨w1.heap.size, 0, none⟩), .pointer (some ⟨w1.heap.size + 1, 0, none⟩), .int .i64 0, .pointer (some ⟨x11, 0, none⟩), .pointer (some ⟨x12, 0, none⟩), .bool true, s14, s15, undef, undef, undef, undef, undef, undef, undef, undef, undef, undef, u26, u27, u28, u29, u30, u31, u32, u33, u34, u35, u36, u37, u38, u39, u40, u41, u42, u43, u44, u45, u46, u47, u48, u49, u50, u51, u52, u53, u54, u55, u56, u57, u58, u59, u60, u61, u62, u63, u64, u65, u66, u67, u68, u69, u70, u71, u72, u73, u74, u75, u76, u77, u78, u79, u80, u81, u82, u83, u84, u85, u86, u87, u88, u89, u90, u91, u92, u93, u94, s95, s96, s97, s98, s99, s100, u101, u102, u103, u104, u105, u106, u107, u108, u109, u110, u111, u112, u113, u114, u115, u116, u117, u118, u119, u120, u121, u122, u123, u124, u125, u126, u127, u128, u129, u130, u131, u132, u133, u134, u135, u136, u137, u138, u139, u140, u141, u142, u143, u144, u145, u146, u147, u148, u149, u150, u151, u152, u153, u154, u155, u156, u157, u158, u159, u160, u161, u162, u163, u164], defers := [] } ∧ BJ W8.heap.size W8 (Vc (.agg #[.bool na, .slice ao n ca])) (Vc (.agg #[.bool nc, .slice co l cc])) (Zi X 34) (Vc (.agg #[.bool nb, .slice bo m cb])) (Vc (.agg #[.bool nc, .slice co l cc])) (Zi Y 34) f0 f1 f2 f3 f4 f5 s95 s96 s97 s98 s99 s100 f6 f8 s14 s97 f7 f9 s15 s100 w') ?_ ?_ ?_
    · exact ⟨_, _, _, _, _, _, _, _, _, _, rfl, nofun, nofun, _, _, _, _, _, _, _, _, rfl, BJ.start hX9.drew hX9.size⟩
    · rintro L a w' i hs ⟨f0, f1, f2, f3, f4, f5, f6, f7, f8, f9, rfl, d1, d2, s95, s96, s97, s98, s99, s100, s14, s15, rfl, J⟩ hi
      obtain ⟨hi, hn, hd⟩ := waits_spec (dep := [[], [], [0, 1], [], [], [3, 4], [], [], [6, 2], [7, 5]]) (by kernel_rfl) hi
      have hiN : i < 10 := hi
      obtain ⟨⟨k0, k1, k2, k3, k4, k5⟩, k6, k7, k8, k9, k10, k11, k12, k13⟩ := HSW8.out w' J.bel
      have HJ := hid J
      rcases (show i = 0 ∨ i = 1 ∨ i = 2 ∨ i = 3 ∨ i = 4 ∨ i = 5 ∨ i = 6 ∨ i = 7 ∨ i = 8 ∨ i = 9 by omega) with rfl | rfl | rfl | rfl | rfl | rfl | rfl | rfl | rfl | rfl
      · clear J hd hi hiN hn
        refine wpOp_step rfl (fun K hK => ?_)
        go_simp
        exact hK _ _ ⟨true, f1, f2, f3, f4, f5, f6, f7, f8, f9, rfl, d1, d2, _, _, _, _, _, _, _, _, rfl, ⟨HJ.out.bel, HJ.out.siz, fun _ => rfl, HJ.out.v1, HJ.out.v2, HJ.out.v3, HJ.out.v4, HJ.out.v5, HJ.out.a1, HJ.out.a2, HJ.out.ne⟩⟩
      · clear J hd hi hiN hn
        refine wpOp_step rfl (fun K hK => ?_)
        go_simp
        exact hK _ _ ⟨f0, true, f2, f3, f4, f5, f6, f7, f8, f9, rfl, d1, d2, _, _, _, _, _, _, _, _, rfl, ⟨HJ.out.bel, HJ.out.siz, HJ.out.v0, fun _ => rfl, HJ.out.v2, HJ.out.v3, HJ.out.v4, HJ.out.v5, HJ.out.a1, HJ.out.a2, HJ.out.ne⟩⟩
      · obtain rfl : f2 = false := hn
        obtain rfl : f8 = false := by cases f8 with | false => rfl | true => exact absurd (d1 rfl).2 (by simp)
        have e0 : s95 = .agg #[.bool na, .slice ao n ca] := J.v0 (hd 0 (by simp))
        subst e0
        have e1 : s96 = .agg #[.bool nc, .slice co l cc] := J.v1 (hd 1 (by simp))
        subst e1
        have hw := J.bel
        clear J hd hi hiN d1
        refine wpOp_step rfl (fun K hK => ?_)
        go_simp
        refine (mul_z _ _ x z X 16 16 34 _ (HAW8.out _ hw) (HCW8.out _ hw) HN.out.X0 (by omega) (by omega) (by omega)).mono ?_
        rintro e wz ⟨zb, zo, zm, zc, rfl, HZ, hb⟩
        have J2 := HJ.out.step HKG.out hb
        exact hK _ _ ⟨f0, f1, true, f3, f4, f5, f6, f7, false, f9, rfl, nofun, d2, _, _, _, _, _, _, _, _, rfl, ⟨J2.bel, J2.siz, J2.v0, J2.v1, fun _ => ⟨zb, zo, zm, zc, rfl, HZ.out⟩, J2.v3, J2.v4, J2.v5, fun e => (J2.a1 e).fresh, J2.a2, J2.ne⟩⟩
      · clear J hd hi hiN hn
        refine wpOp_step rfl (fun K hK => ?_)
        go_simp
        exact hK _ _ ⟨f0, f1, f2, true, f4, f5, f6, f7, f8, f9, rfl, d1, d2, _, _, _, _, _, _, _, _, rfl, ⟨HJ.out.bel, HJ.out.siz, HJ.out.v0, HJ.out.v1, HJ.out.v2, fun _ => rfl, HJ.out.v4, HJ.out.v5, HJ.out.a1, HJ.out.a2, HJ.out.ne⟩⟩
      · clear J hd hi hiN hn
        refine wpOp_step rfl (fun K hK => ?_)
        go_simp
        exact hK _ _ ⟨f0, f1, f2, f3, true, f5, f6, f7, f8, f9, rfl, d1, d2, _, _, _, _, _, _, _, _, rfl, ⟨HJ.out.bel, HJ.out.siz, HJ.out.v0, HJ.out.v1, HJ.out.v2, HJ.out.v3, fun _ => rfl, HJ.out.v5, HJ.out.a1, HJ.out.a2, HJ.out.ne⟩⟩
      · obtain rfl : f5 = false := hn
        obtain rfl : f9 = false := by cases f9 with | false => rfl | true => exact absurd (d2 rfl).2 (by simp)
        have e3 : s98 = .agg #[.bool nb, .slice bo m cb] := J.v3 (hd 3 (by simp))
        subst e3
        have e4 : s99 = .agg #[.bool nc, .slice co l cc] := J.v4 (hd 4 (by simp))
        subst e4
        have hw := J.bel
        clear J hd hi hiN d2
        refine wpOp_step rfl (fun K hK => ?_)
        go_simp
        refine (mul_z _ _ y z Y 16 16 34 _ (HBvW8.out _ hw) (HCW8.out _ hw) HN.out.Y0 (by omega) (by omega) (by omega)).mono ?_
        rintro e wz ⟨zb, zo, zm, zc, rfl, HZ, hb⟩
        have J2 := HJ.out.step HKG.out hb
        exact hK _ _ ⟨f0, f1, f2, f3, f4, true, f6, f7, f8, false, rfl, d1, nofun, _, _, _, _, _, _, _, _, rfl, ⟨J2.bel, J2.siz, J2.v0, J2.v1, J2.v2, J2.v3, J2.v4, fun _ => ⟨zb, zo, zm, zc, rfl, HZ.out⟩, J2.a1, fun e => (J2.a2 e).fresh, J2.ne⟩⟩
      · obtain rfl : f6 = false := hn
        obtain rfl : f8 = false := by cases f8 with | false => rfl | true => exact absurd (d1 rfl).1 (by simp)
        clear J hd hi hiN d1
        refine wpOp_step rfl (fun K hK => ?_)
        go_simp
        exact hK _ _ ⟨f0, f1, f2, f3, f4, f5, true, f7, false, f9, rfl, nofun, d2, _, _, _, _, _, _, _, _, rfl, HJ.out.alloc1 HKG.out _⟩
      · obtain rfl : f7 = false := hn
        obtain rfl : f9 = false := by cases f9 with | false => rfl | true => exact absurd (d2 rfl).1 (by simp)
        clear J hd hi hiN d2
        refine wpOp_step rfl (fun K hK => ?_)
        go_simp
        exact hK _ _ ⟨f0, f1, f2, f3, f4, f5, f6, true, f8, false, rfl, d1, nofun, _, _, _, _, _, _, _, _, rfl, HJ.out.alloc2 HKG.out _⟩
      · obtain rfl : f6 = true := hd 6 (by simp)
        obtain rfl : f2 = true := hd 2 (by simp)
        obtain ⟨p, v0, v1, rfl, hp, c0, c1, e0, e1, _⟩ := J.a1 rfl
        obtain ⟨sb, so, sm, sc, rfl, _⟩ := J.v2 rfl
        clear J hd hi hiN hn
        refine wpOp_step rfl (fun K hK => ?_)
        go_simp
        exact hK _ _ ⟨f0, f1, true, f3, f4, f5, true, f7, true, f9, rfl, fun _ => ⟨rfl, rfl⟩, d2, _, _, _, _, _, _, _, _, rfl, HJ.out.store1 HKG.out nofun nofun⟩
      · obtain rfl : f7 = true := hd 7 (by simp)
        obtain rfl : f5 = true := hd 5 (by simp)
        obtain ⟨p, v0, v1, rfl, hp, c0, c1, e0, e1, _⟩ := J.a2 rfl
        obtain ⟨sb, so, sm, sc, rfl, _⟩ := J.v5 rfl
        clear J hd hi hiN hn
        refine wpOp_step rfl (fun K hK => ?_)
        go_simp
        exact hK _ _ ⟨f0, f1, f2, f3, f4, true, f6, true, f8, true, rfl, d1, fun _ => ⟨rfl, rfl⟩, _, _, _, _, _, _, _, _, rfl, HJ.out.store2 HKG.out nofun nofun⟩
    rintro L a w' hs ⟨f0, f1, f2, f3, f4, f5, f6, f7, f8, f9, rfl, _, _, s95, s96, s97, s98, s99, s100, s14, s15, rfl, J⟩ hr
    have hd := early_done (by kernel_rfl) hs hr 10
    obtain rfl : f0 = true := hd 0 (by omega) (by simp)
    obtain rfl : f1 = true := hd 1 (by omega) (by simp)
    obtain rfl : f2 = true := hd 2 (by omega) (by simp)
    obtain rfl : f3 = true := hd 3 (by omega) (by simp)
    obtain rfl : f4 = true := hd 4 (by omega) (by simp)
    obtain rfl : f5 = true := hd 5 (by omega) (by simp)
    obtain rfl : f6 = true := hd 6 (by omega) (by simp)
    obtain rfl : f7 = true := hd 7 (by omega) (by simp)
    obtain rfl : f8 = true := hd 8 (by omega) (by simp)
    obtain rfl : f9 = true := hd 9 (by omega) (by simp)
    obtain ⟨p1, u1a, u1b, rfl, hp1, c1a, c1b, _, _, _, _, hu1⟩ := J.a1 rfl
    obtain ⟨p2, u2a, u2b, rfl, hp2, c2a, c2b, _, _, _, _, hu2⟩ := J.a2 rfl
    have ev1 := hu1 rfl
    subst ev1
    obtain ⟨gb1, go1, gm1, gc1, eg1, hg1⟩ := J.v2 rfl
    simp only [Value.agg.injEq, Array.mk.injEq, List.cons.injEq, and_true] at eg1
    obtain ⟨rfl, rfl⟩ := eg1
    have ev2 := hu2 rfl
    subst ev2
    obtain ⟨gb2, go2, gm2, gc2, eg2, hg2⟩ := J.v5 rfl
    simp only [Value.agg.injEq, Array.mk.injEq, List.cons.injEq, and_true] at eg2
    obtain ⟨rfl, rfl⟩ := eg2
    have hbel := J.bel
    clear hd hr hs J
    go_wp2_with fail
    go_meet
    exact ⟨hbel, ⟨p1, _, _, _, _, rfl, c1a, c1b, hg1⟩, ⟨p2, _, _, _, _, rfl, c2a, c2b, hg2⟩⟩
  case rest =>
  obtain ⟨W10, rfl⟩ : ∃ W10, W10 = wc := ⟨_, rfl⟩
  obtain ⟨hp, ⟨x14, b14, o14, m14, c14, rfl, x14a, x14b, x14h⟩, ⟨x15, b15, o15, m15, c15, rfl, x15a, x15b, x15h⟩⟩ := hcut
  have x14l := World.block_lt_of_cell? _ _ x14a
  have x15l := World.block_lt_of_cell? _ _ x15a
  have HSW10 : Hid (∀ w', Below W10.heap.size W10 w' → (w'.cell? ⟨w.heap.size, 0, none⟩ = some (.bool na) ∧ w'.cell? ⟨w.heap.size, 1, none⟩ = some (.slice ao n ca) ∧ w'.cell? ⟨w.heap.size + 1, 0, none⟩ = some (.bool nb) ∧ w'.cell? ⟨w.heap.size + 1, 1, none⟩ = some (.slice bo m cb) ∧ w'.cell? ⟨w.heap.size + 2, 0, none⟩ = some (.bool nc) ∧ w'.cell? ⟨w.heap.size + 2, 1, none⟩ = some (.slice co l cc)) ∧ w'.cell? ⟨w1.heap.size, 0, none⟩ = some (.bool b1) ∧ w'.cell? ⟨w1.heap.size, 1, none⟩ = some (.slice o1 m1 c1) ∧ w'.cell? ⟨w1.heap.size + 1, 0, none⟩ = some (.bool b2) ∧ w'.cell? ⟨w1.heap.size + 1, 1, none⟩ = some (.slice o2 m2 c2) ∧ w'.cell? ⟨x11, 0, none⟩ = some (.bool b11) ∧ w'.cell? ⟨x11, 1, none⟩ = some (.slice o11 m11 c11) ∧ w'.cell? ⟨x12, 0, none⟩ = some (.bool b12) ∧ w'.cell? ⟨x12, 1, none⟩ = some (.slice o12 m12 c12) ∧ w'.cell? ⟨x14, 0, none⟩ = some (.bool b14) ∧ w'.cell? ⟨x14, 1, none⟩ = some (.slice o14 m14 c14) ∧ w'.cell? ⟨x15, 0, none⟩ = some (.bool b15) ∧ w'.cell? ⟨x15, 1, none⟩ = some (.slice o15 m15 c15)) := hid (fun w' hb => by
    have S := HSW8.out _ (bl_trans hp hb)
    exact ⟨S.1, S.2.1, S.2.2.1, S.2.2.2.1, S.2.2.2.2.1, S.2.2.2.2.2.1, S.2.2.2.2.2.2.1, S.2.2.2.2.2.2.2.1, S.2.2.2.2.2.2.2.2, (hb.cell x14l).trans x14a, (hb.cell (p := ⟨x14, 1, none⟩) x14l).trans x14b, (hb.cell x15l).trans x15a, (hb.cell (p := ⟨x15, 1, none⟩) x15l).trans x15b⟩)
  have HAW10 : Hid (∀ w', Below W10.heap.size W10 w' → Ai w' (.agg #[.bool na, .slice ao n ca]) (x) 16) := hid (fun w' hb => HAW8.out _ (bl_trans hp hb))
  have HBvW10 : Hid (∀ w', Below W10.heap.size W10 w' → Ai w' (.agg #[.bool nb, .slice bo m cb]) (y) 16) := hid (fun w' hb => HBvW8.out _ (bl_trans hp hb))
  have HCW10 : Hid (∀ w', Below W10.heap.size W10 w' → Ai w' (.agg #[.bool nc, .slice co l cc]) (z) 16) := hid (fun w' hb => HCW8.out _ (bl_trans hp hb))
  have HZqW10 : Hid (∀ w', Below W10.heap.size W10 w' → Ai w' (.agg #[.bool b1, .slice o1 m1 c1]) (q) 21) := hid (fun w' hb => HZqW8.out _ (bl_trans hp hb))
  have HZrW10 : Hid (∀ w', Below W10.heap.size W10 w' → Ai w' (.agg #[.bool b2, .slice o2 m2 c2]) (r) 21) := hid (fun w' hb => HZrW8.out _ (bl_trans hp hb))
  have HZsizeW10 : Hid (∀ w', Below W10.heap.size W10 w' → Ai w' (.agg #[.bool b11, .slice o11 m11 c11]) (y * s) 20) := hid (fun w' hb => HZsizeW8.out _ (bl_trans hp hb))
  have HZrestW10 : Hid (∀ w', Below W10.heap.size W10 w' → Ai w' (.agg #[.bool b12, .slice o12 m12 c12]) (r * s) 25) := hid (fun w' hb => HZrestW8.out _ (bl_trans hp hb))
  have HZXW10 : Hid (∀ w', Below W10.heap.size W10 w' → Ai w' (.agg #[.bool b14, .slice o14 m14 c14]) (X) 34) := hid (fun w' hb => x14h.below hb (Nat.le_refl _))
  have HZYW10 : Hid (∀ w', Below W10.heap.size W10 w' → Ai w' (.agg #[.bool b15, .slice o15 m15 c15]) (Y) 34) := hid (fun w' hb => x15h.below hb (Nat.le_refl _))
  have HLW10 := hid hp
  clear hp x14a x14b x14h x14l x15a x15b x15h x15l
  go_upto_region 11 with (fail)
  go_cut [16] from 26 (fun s16 wx => Below W10.heap.size W10 wx ∧ NewBox wx s16 g 35)
  case first =>
    obtain ⟨⟨k0, k1, k2, k3, k4, k5⟩, k6, k7, k8, k9, k10, k11, k12, k13, k14, k15, k16, k17⟩ := HSW10.out _ (Below.refl _ _)
    go_wp2_with fail
    refine (gcd_z _ _ X Y g 34 35 _ (HZXW10.out _ (Below.refl _ _)) (HZYW10.out _ (Below.refl _ _)) HN.out.g0 (by omega) (by omega)).mono ?_
    rintro e wg ⟨gb, go, gm, gc, rfl, HG, hbg⟩
    go_wp2_with fail
    go_meet
    exact ⟨bl_alloc hbg _, wg.heap.size, _, _, _, _, rfl, by simp [go_sem], by simp [go_sem], HG.out.below (bl_alloc (Below.refl _ _) _) (Nat.le_refl _)⟩
  case rest =>
  obtain ⟨W11, rfl⟩ : ∃ W11, W11 = wc := ⟨_, rfl⟩
  obtain ⟨hp, ⟨x16, b16, o16, m16, c16, rfl, x16a, x16b, x16h⟩⟩ := hcut
  have x16l := World.block_lt_of_cell? _ _ x16a
  have HSW11 : Hid (∀ w', Below W11.heap.size W11 w' → (w'.cell? ⟨w.heap.size, 0, none⟩ = some (.bool na) ∧ w'.cell? ⟨w.heap.size, 1, none⟩ = some (.slice ao n ca) ∧ w'.cell? ⟨w.heap.size + 1, 0, none⟩ = some (.bool nb) ∧ w'.cell? ⟨w.heap.size + 1, 1, none⟩ = some (.slice bo m cb) ∧ w'.cell? ⟨w.heap.size + 2, 0, none⟩ = some (.bool nc) ∧ w'.cell? ⟨w.heap.size + 2, 1, none⟩ = some (.slice co l cc)) ∧ w'.cell? ⟨w1.heap.size, 0, none⟩ = some (.bool b1) ∧ w'.cell? ⟨w1.heap.size, 1, none⟩ = some (.slice o1 m1 c1) ∧ w'.cell? ⟨w1.heap.size + 1, 0, none⟩ = some (.bool b2) ∧ w'.cell? ⟨w1.heap.size + 1, 1, none⟩ = some (.slice o2 m2 c2) ∧ w'.cell? ⟨x11, 0, none⟩ = some (.bool b11) ∧ w'.cell? ⟨x11, 1, none⟩ = some (.slice o11 m11 c11) ∧ w'.cell? ⟨x12, 0, none⟩ = some (.bool b12) ∧ w'.cell? ⟨x12, 1, none⟩ = some (.slice o12 m12 c12) ∧ w'.cell? ⟨x14, 0, none⟩ = some (.bool b14) ∧ w'.cell? ⟨x14, 1, none⟩ = some (.slice o14 m14 c14) ∧ w'.cell? ⟨x15, 0, none⟩ = some (.bool b15) ∧ w'.cell? ⟨x15, 1, none⟩ = some (.slice o15 m15 c15) ∧ w'.cell? ⟨x16, 0, none⟩ = some (.bool b16) ∧ w'.cell? ⟨x16, 1, none⟩ = some (.slice o16 m16 c16)) := hid (fun w' hb => by
    have S := HSW10.out _ (bl_trans hp hb)
    exact ⟨S.1, S.2.1, S.2.2.1, S.2.2.2.1, S.2.2.2.2.1, S.2.2.2.2.2.1, S.2.2.2.2.2.2.1, S.2.2.2.2.2.2.2.1, S.2.2.2.2.2.2.2.2.1, S.2.2.2.2.2.2.2.2.2.1, S.2.2.2.2.2.2.2.2.2.2.1, S.2.2.2.2.2.2.2.2.2.2.2.1, S.2.2.2.2.2.2.2.2.2.2.2.2, (hb.cell x16l).trans x16a, (hb.cell (p := ⟨x16, 1, none⟩) x16l).trans x16b⟩)
  have HAW11 : Hid (∀ w', Below W11.heap.size W11 w' → Ai w' (.agg #[.bool na, .slice ao n ca]) (x) 16) := hid (fun w' hb => HAW10.out _ (bl_trans hp hb))
  have HBvW11 : Hid (∀ w', Below W11.heap.size W11 w' → Ai w' (.agg #[.bool nb, .slice bo m cb]) (y) 16) := hid (fun w' hb => HBvW10.out _ (bl_trans hp hb))
  have HCW11 : Hid (∀ w', Below W11.heap.size W11 w' → Ai w' (.agg #[.bool nc, .slice co l cc]) (z) 16) := hid (fun w' hb => HCW10.out _ (bl_trans hp hb))
  have HZqW11 : Hid (∀ w', Below W11.heap.size W11 w' → Ai w' (.agg #[.bool b1, .slice o1 m1 c1]) (q) 21) := hid (fun w' hb => HZqW10.out _ (bl_trans hp hb))
  have HZrW11 : Hid (∀ w', Below W11.heap.size W11 w' → Ai w' (.agg #[.bool b2, .slice o2 m2 c2]) (r) 21) := hid (fun w' hb => HZrW10.out _ (bl_trans hp hb))
  have HZsizeW11 : Hid (∀ w', Below W11.heap.size W11 w' → Ai w' (.agg #[.bool b11, .slice o11 m11 c11]) (y * s) 20) := hid (fun w' hb => HZsizeW10.out _ (bl_trans hp hb))
  have HZrestW11 : Hid (∀ w', Below W11.heap.size W11 w' → Ai w' (.agg #[.bool b12, .slice o12 m12 c12]) (r * s) 25) := hid (fun w' hb => HZrestW10.out _ (bl_trans hp hb))
  have HZXW11 : Hid (∀ w', Below W11.heap.size W11 w' → Ai w' (.agg #[.bool b14, .slice o14 m14 c14]) (X) 34) := hid (fun w' hb => HZXW10.out _ (bl_trans hp hb))
  have HZYW11 : Hid (∀ w', Below W11.heap.size W11 w' → Ai w' (.agg #[.bool b15, .slice o15 m15 c15]) (Y) 34) := hid (fun w' hb => HZYW10.out _ (bl_trans hp hb))
  have HZgW11 : Hid (∀ w', Below W11.heap.size W11 w' → Ai w' (.agg #[.bool b16, .slice o16 m16 c16]) (g) 35) := hid (fun w' hb => x16h.below hb (Nat.le_refl _))
  have HLW11 := hid hp
  clear hp x16a x16b x16h x16l
  have HDX := hid (show g ∣ X by rw [← HN.out.g0]; exact Int.gcd_dvd_left X Y)
  have HDY := hid (show g ∣ Y by rw [← HN.out.g0]; exact Int.gcd_dvd_right X Y)
  go_upto_region 12 with (fail)
  go_cut [17, 18, 19] from 26 (fun s17 s18 s19 wx => Below W11.heap.size W11 wx ∧ NewBox wx s18 0 40)
  case first =>
    obtain ⟨⟨k0, k1, k2, k3, k4, k5⟩, k6, k7, k8, k9, k10, k11, k12, k13, k14, k15, k16, k17, k18, k19⟩ := HSW11.out _ (Below.refl _ _)
    go_wp2_with fail
    refine (div_c _ _ X g 35 40 _ ((HZXW11.out _ (Below.refl _ _)).mono (by omega)) (HZgW11.out _ (Below.refl _ _)) HDX.out (by omega) (by omega)).mono ?_
    rintro e wg ⟨_, _, gb, go, gm, gc, hb0, ho, hm, hc, rfl, HG, HH, hbg⟩
    go_wp2_with fail
    go_meet
    exact ⟨bl_alloc (bl_alloc hbg _) _, wg.heap.size + 1, _, _, _, _, rfl, by simp [go_sem], by simp [go_sem], HH.out.below (bl_alloc (bl_alloc (Below.refl _ _) _) _) (Nat.le_refl _)⟩
  case rest =>
  obtain ⟨W12, rfl⟩ : ∃ W12, W12 = wc := ⟨_, rfl⟩
  obtain ⟨hp, ⟨x18, b18, o18, m18, c18, rfl, x18a, x18b, x18h⟩⟩ := hcut
  have x18l := World.block_lt_of_cell? _ _ x18a
  have HSW12 : Hid (∀ w', Below W12.heap.size W12 w' → (w'.cell? ⟨w.heap.size, 0, none⟩ = some (.bool na) ∧ w'.cell? ⟨w.heap.size, 1, none⟩ = some (.slice ao n ca) ∧ w'.cell? ⟨w.heap.size + 1, 0, none⟩ = some (.bool nb) ∧ w'.cell? ⟨w.heap.size + 1, 1, none⟩ = some (.slice bo m cb) ∧ w'.cell? ⟨w.heap.size + 2, 0, none⟩ = some (.bool nc) ∧ w'.cell? ⟨w.heap.size + 2, 1, none⟩ = some (.slice co l cc)) ∧ w'.cell? ⟨w1.heap.size, 0, none⟩ = some (.bool b1) ∧ w'.cell? ⟨w1.heap.size, 1, none⟩ = some (.slice o1 m1 c1) ∧ w'.cell? ⟨w1.heap.size + 1, 0, none⟩ = some (.bool b2) ∧ w'.cell? ⟨w1.heap.size + 1, 1, none⟩ = some (.slice o2 m2 c2) ∧ w'.cell? ⟨x11, 0, none⟩ = some (.bool b11) ∧ w'.cell? ⟨x11, 1, none⟩ = some (.slice o11 m11 c11) ∧ w'.cell? ⟨x12, 0, none⟩ = some (.bool b12) ∧ w'.cell? ⟨x12, 1, none⟩ = some (.slice o12 m12 c12) ∧ w'.cell? ⟨x14, 0, none⟩ = some (.bool b14) ∧ w'.cell? ⟨x14, 1, none⟩ = some (.slice o14 m14 c14) ∧ w'.cell? ⟨x15, 0, none⟩ = some (.bool b15) ∧ w'.cell? ⟨x15, 1, none⟩ = some (.slice o15 m15 c15) ∧ w'.cell? ⟨x16, 0, none⟩ = some (.bool b16) ∧ w'.cell? ⟨x16, 1, none⟩ = some (.slice o16 m16 c16) ∧ w'.cell? ⟨x18, 0, none⟩ = some (.bool b18) ∧ w'.cell? ⟨x18, 1, none⟩ = some (.slice o18 m18 c18)) := hid (fun w' hb => by
    have S := HSW11.out _ (bl_trans hp hb)
    exact ⟨S.1, S.2.1, S.2.2.1, S.2.2.2.1, S.2.2.2.2.1, S.2.2.2.2.2.1, S.2.2.2.2.2.2.1, S.2.2.2.2.2.2.2.1, S.2.2.2.2.2.2.2.2.1, S.2.2.2.2.2.2.2.2.2.1, S.2.2.2.2.2.2.2.2.2.2.1, S.2.2.2.2.2.2.2.2.2.2.2.1, S.2.2.2.2.2.2.2.2.2.2.2.2.1, S.2.2.2.2.2.2.2.2.2.2.2.2.2.1, S.2.2.2.2.2.2.2.2.2.2.2.2.2.2, (hb.cell x18l).trans x18a, (hb.cell (p := ⟨x18, 1, none⟩) x18l).trans x18b⟩)
  have HAW12 : Hid (∀ w', Below W12.heap.size W12 w' → Ai w' (.agg #[.bool na, .slice ao n ca]) (x) 16) := hid (fun w' hb => HAW11.out _ (bl_trans hp hb))
  have HBvW12 : Hid (∀ w', Below W12.heap.size W12 w' → Ai w' (.agg #[.bool nb, .slice bo m cb]) (y) 16) := hid (fun w' hb => HBvW11.out _ (bl_trans hp hb))
  have HCW12 : Hid (∀ w', Below W12.heap.size W12 w' → Ai w' (.agg #[.bool nc, .slice co l cc]) (z) 16) := hid (fun w' hb => HCW11.out _ (bl_trans hp hb))
  have HZqW12 : Hid (∀ w', Below W12.heap.size W12 w' → Ai w' (.agg #[.bool b1, .slice o1 m1 c1]) (q) 21) := hid (fun w' hb => HZqW11.out _ (bl_trans hp hb))
  have HZrW12 : Hid (∀ w', Below W12.heap.size W12 w' → Ai w' (.agg #[.bool b2, .slice o2 m2 c2]) (r) 21) := hid (fun w' hb => HZrW11.out _ (bl_trans hp hb))
  have HZsizeW12 : Hid (∀ w', Below W12.heap.size W12 w' → Ai w' (.agg #[.bool b11, .slice o11 m11 c11]) (y * s) 20) := hid (fun w' hb => HZsizeW11.out _ (bl_trans hp hb))
  have HZrestW12 : Hid (∀ w', Below W12.heap.size W12 w' → Ai w' (.agg #[.bool b12, .slice o12 m12 c12]) (r * s) 25) := hid (fun w' hb => HZrestW11.out _ (bl_trans hp hb))
  have HZXW12 : Hid (∀ w', Below W12.heap.size W12 w' → Ai w' (.agg #[.bool b14, .slice o14 m14 c14]) (X) 34) := hid (fun w' hb => HZXW11.out _ (bl_trans hp hb))
  have HZYW12 : Hid (∀ w', Below W12.heap.size W12 w' → Ai w' (.agg #[.bool b15, .slice o15 m15 c15]) (Y) 34) := hid (fun w' hb => HZYW11.out _ (bl_trans hp hb))
  have HZgW12 : Hid (∀ w', Below W12.heap.size W12 w' → Ai w' (.agg #[.bool b16, .slice o16 m16 c16]) (g) 35) := hid (fun w' hb => HZgW11.out _ (bl_trans hp hb))
  have HZoneW12 : Hid (∀ w', Below W12.heap.size W12 w' → Ai w' (.agg #[.bool b18, .slice o18 m18 c18]) (0) 40) := hid (fun w' hb => x18h.below hb (Nat.le_refl _))
  have HLW12 := hid hp
  clear hp x18a x18b x18h x18l
  go_upto_region 13 with (fail)
  go_cut [20, 21, 22] from 26 (fun s20 s21 s22 wx => Below W12.heap.size W12 wx ∧ NewBox wx s21 0 40)
  case first =>
    obtain ⟨⟨k0, k1, k2, k3, k4, k5⟩, k6, k7, k8, k9, k10, k11, k12, k13, k14, k15, k16, k17, k18, k19, k20, k21⟩ := HSW12.out _ (Below.refl _ _)
    go_wp2_with fail
    refine (div_c _ _ Y g 35 40 _ ((HZYW12.out _ (Below.refl _ _)).mono (by omega)) (HZgW12.out _ (Below.refl _ _)) HDY.out (by omega) (by omega)).mono ?_
    rintro e wg ⟨_, _, gb, go, gm, gc, hb0, ho, hm, hc, rfl, HG, HH, hbg⟩
    go_wp2_with fail
    go_meet
    exact ⟨bl_alloc (bl_alloc hbg _) _, wg.heap.size + 1, _, _, _, _, rfl, by simp [go_sem], by simp [go_sem], HH.out.below (bl_alloc (bl_alloc (Below.refl _ _) _) _) (Nat.le_refl _)⟩
  case rest =>
  obtain ⟨W13, rfl⟩ : ∃ W13, W13 = wc := ⟨_, rfl⟩
  obtain ⟨hp, ⟨x21, b21, o21, m21, c21, rfl, x21a, x21b, x21h⟩⟩ := hcut
  have x21l := World.block_lt_of_cell? _ _ x21a
  have HSW13 : Hid (∀ w', Below W13.heap.size W13 w' → (w'.cell? ⟨w.heap.size, 0, none⟩ = some (.bool na) ∧ w'.cell? ⟨w.heap.size, 1, none⟩ = some (.slice ao n ca) ∧ w'.cell? ⟨w.heap.size + 1, 0, none⟩ = some (.bool nb) ∧ w'.cell? ⟨w.heap.size + 1, 1, none⟩ = some (.slice bo m cb) ∧ w'.cell? ⟨w.heap.size + 2, 0, none⟩ = some (.bool nc) ∧ w'.cell? ⟨w.heap.size + 2, 1, none⟩ = some (.slice co l cc)) ∧ w'.cell? ⟨w1.heap.size, 0, none⟩ = some (.bool b1) ∧ w'.cell? ⟨w1.heap.size, 1, none⟩ = some (.slice o1 m1 c1) ∧ w'.cell? ⟨w1.heap.size + 1, 0, none⟩ = some (.bool b2) ∧ w'.cell? ⟨w1.heap.size + 1, 1, none⟩ = some (.slice o2 m2 c2) ∧ w'.cell? ⟨x11, 0, none⟩ = some (.bool b11) ∧ w'.cell? ⟨x11, 1, none⟩ = some (.slice o11 m11 c11) ∧ w'.cell? ⟨x12, 0, none⟩ = some (.bool b12) ∧ w'.cell? ⟨x12, 1, none⟩ = some (.slice o12 m12 c12) ∧ w'.cell? ⟨x14, 0, none⟩ = some (.bool b14) ∧ w'.cell? ⟨x14, 1, none⟩ = some (.slice o14 m14 c14) ∧ w'.cell? ⟨x15, 0, none⟩ = some (.bool b15) ∧ w'.cell? ⟨x15, 1, none⟩ = some (.slice o15 m15 c15) ∧ w'.cell? ⟨x16, 0, none⟩ = some (.bool b16) ∧ w'.cell? ⟨x16, 1, none⟩ = some (.slice o16 m16 c16) ∧ w'.cell? ⟨x18, 0, none⟩ = some (.bool b18) ∧ w'.cell? ⟨x18, 1, none⟩ = some (.slice o18 m18 c18) ∧ w'.cell? ⟨x21, 0, none⟩ = some (.bool b21) ∧ w'.cell? ⟨x21, 1, none⟩ = some (.slice o21 m21 c21)) := hid (fun w' hb => by
    have S := HSW12.out _ (bl_trans hp hb)
    exact ⟨S.1, S.2.1, S.2.2.1, S.2.2.2.1, S.2.2.2.2.1, S.2.2.2.2.2.1, S.2.2.2.2.2.2.1, S.2.2.2.2.2.2.2.1, S.2.2.2.2.2.2.2.2.1, S.2.2.2.2.2.2.2.2.2.1, S.2.2.2.2.2.2.2.2.2.2.1, S.2.2.2.2.2.2.2.2.2.2.2.1, S.2.2.2.2.2.2.2.2.2.2.2.2.1, S.2.2.2.2.2.2.2.2.2.2.2.2.2.1, S.2.2.2.2.2.2.2.2.2.2.2.2.2.2.1, S.2.2.2.2.2.2.2.2.2.2.2.2.2.2.2.1, S.2.2.2.2.2.2.2.2.2.2.2.2.2.2.2.2, (hb.cell x21l).trans x21a, (hb.cell (p := ⟨x21, 1, none⟩) x21l).trans x21b⟩)
  have HAW13 : Hid (∀ w', Below W13.heap.size W13 w' → Ai w' (.agg #[.bool na, .slice ao n ca]) (x) 16) := hid (fun w' hb => HAW12.out _ (bl_trans hp hb))
  have HBvW13 : Hid (∀ w', Below W13.heap.size W13 w' → Ai w' (.agg #[.bool nb, .slice bo m cb]) (y) 16) := hid (fun w' hb => HBvW12.out _ (bl_trans hp hb))
  have HCW13 : Hid (∀ w', Below W13.heap.size W13 w' → Ai w' (.agg #[.bool nc, .slice co l cc]) (z) 16) := hid (fun w' hb => HCW12.out _ (bl_trans hp hb))
  have HZqW13 : Hid (∀ w', Below W13.heap.size W13 w' → Ai w' (.agg #[.bool b1, .slice o1 m1 c1]) (q) 21) := hid (fun w' hb => HZqW12.out _ (bl_trans hp hb))
  have HZrW13 : Hid (∀ w', Below W13.heap.size W13 w' → Ai w' (.agg #[.bool b2, .slice o2 m2 c2]) (r) 21) := hid (fun w' hb => HZrW12.out _ (bl_trans hp hb))
  have HZsizeW13 : Hid (∀ w', Below W13.heap.size W13 w' → Ai w' (.agg #[.bool b11, .slice o11 m11 c11]) (y * s) 20) := hid (fun w' hb => HZsizeW12.out _ (bl_trans hp hb))
  have HZrestW13 : Hid (∀ w', Below W13.heap.size W13 w' → Ai w' (.agg #[.bool b12, .slice o12 m12 c12]) (r * s) 25) := hid (fun w' hb => HZrestW12.out _ (bl_trans hp hb))
  have HZXW13 : Hid (∀ w', Below W13.heap.size W13 w' → Ai w' (.agg #[.bool b14, .slice o14 m14 c14]) (X) 34) := hid (fun w' hb => HZXW12.out _ (bl_trans hp hb))
  have HZYW13 : Hid (∀ w', Below W13.heap.size W13 w' → Ai w' (.agg #[.bool b15, .slice o15 m15 c15]) (Y) 34) := hid (fun w' hb => HZYW12.out _ (bl_trans hp hb))
  have HZgW13 : Hid (∀ w', Below W13.heap.size W13 w' → Ai w' (.agg #[.bool b16, .slice o16 m16 c16]) (g) 35) := hid (fun w' hb => HZgW12.out _ (bl_trans hp hb))
  have HZoneW13 : Hid (∀ w', Below W13.heap.size W13 w' → Ai w' (.agg #[.bool b18, .slice o18 m18 c18]) (0) 40) := hid (fun w' hb => HZoneW12.out _ (bl_trans hp hb))
  have HZtwoW13 : Hid (∀ w', Below W13.heap.size W13 w' → Ai w' (.agg #[.bool b21, .slice o21 m21 c21]) (0) 40) := hid (fun w' hb => x21h.below hb (Nat.le_refl _))
  have HLW13 := hid hp
  clear hp x21a x21b x21h x21l
  have HB13 := hid (HB0.out.trans ((bl_trans HPW4.out (bl_trans HLW7.out (bl_trans HLW8.out (bl_trans HLW10.out (bl_trans HLW11.out (bl_trans HLW12.out HLW13.out)))))).mono HB0.out.size))
  by_cases hz : z = 0
  · have hgz : g = 0 := by rw [← HN.out.g0, ← HN.out.X0, ← HN.out.Y0, hz]; simp
    have HZ0 := hid (show cmpI z 0 = 0 by rw [hz]; rfl); have HG0 := hid (show cmpI g 0 = 0 by rw [hgz]; rfl)
    clear hz hgz
    obtain ⟨⟨k0, k1, k2, k3, k4, k5⟩, k6, k7, k8, k9, k10, k11, k12, k13, k14, k15, k16, k17, k18, k19, k20, k21, k22, k23⟩ := HSW13.out _ (Below.refl _ _)
    go_wp2_with fail
    refine (sign_z _ z 0 16 _ (HCW13.out _ (Below.refl _ _)) HZ0.out (by omega)).mono ?_
    rintro e w14 ⟨rfl, hX14⟩
    clear k0 k1 k2 k3 k4 k5 k6 k7 k8 k9 k10 k11 k12 k13 k14 k15 k16 k17 k18 k19 k20 k21 k22 k23
    obtain ⟨⟨k0, k1, k2, k3, k4, k5⟩, k6, k7, k8, k9, k10, k11, k12, k13, k14, k15, k16, k17, k18, k19, k20, k21, k22, k23⟩ := HSW13.out _ hX14
    go_wp2_with fail
    refine (sign_z _ g 0 35 _ (HZgW13.out _ hX14) HG0.out (by omega)).mono ?_
    rintro e w15 ⟨rfl, hb15⟩
    have hX15 := bl_trans hX14 hb15
    go_wp2
    go_ret
    exact ⟨rfl, HB13.out.trans (hX15.mono HB13.out.size)⟩
  · obtain ⟨sz, hsz⟩ : ∃ sz, sz = cmpI z 0 := ⟨_, rfl⟩
    have hszn : (sz == 0) = false := by rw [hsz]; rcases Int.lt_or_lt_of_ne hz with h | h <;> (first | (rw [cmp_lt' h]; decide) | (rw [cmp_gt' h]; decide))
    have HZ0 := hid (show cmpI z 0 = sz from hsz.symm); have Hz := hid hz
    have HG0 := hid (show cmpI g 0 = 1 from cmp_gt' (by
      have hgn : (0 : Int) ≤ g := by rw [← HN.out.g0]; omega
      rcases Int.lt_or_eq_of_le hgn with h | h
      · exact h
      · exfalso
        have h0 : Int.gcd X Y = 0 := by have := HN.out.g0; omega
        have hY := (Int.gcd_eq_zero_iff.1 h0).2
        rw [← HN.out.Y0] at hY
        rcases Int.mul_eq_zero.1 hY with h1 | h1
        · exact Hy.out h1
        · exact hz h1))
    have HDZ := hid (show z ∣ g by rw [← HN.out.g0]; exact Int.dvd_coe_gcd (by rw [← HN.out.X0]; exact Int.dvd_mul_left x z) (by rw [← HN.out.Y0]; exact Int.dvd_mul_left y z))
    clear hz hsz
    obtain ⟨⟨k0, k1, k2, k3, k4, k5⟩, k6, k7, k8, k9, k10, k11, k12, k13, k14, k15, k16, k17, k18, k19, k20, k21, k22, k23⟩ := HSW13.out _ (Below.refl _ _)
    go_wp2_with fail
    refine (sign_z _ z sz 16 _ (HCW13.out _ (Below.refl _ _)) HZ0.out (by omega)).mono ?_
    rintro e w14 ⟨rfl, hX14⟩
    clear k0 k1 k2 k3 k4 k5 k6 k7 k8 k9 k10 k11 k12 k13 k14 k15 k16 k17 k18 k19 k20 k21 k22 k23
    go_upto_region 16 with (fail)
    go_cut [23, 24, 25] from 26 (fun s23 s24 s25 wx => s25 = .int .i64 0 ∧ Below W13.heap.size W13 wx ∧ NewBox wx s24 0 40)
    case first =>
      obtain ⟨⟨k0, k1, k2, k3, k4, k5⟩, k6, k7, k8, k9, k10, k11, k12, k13, k14, k15, k16, k17, k18, k19, k20, k21, k22, k23⟩ := HSW13.out _ hX14
      go_wp2_with fail
      refine (div_z _ _ g z _ 0 35 40 _ (HZgW13.out _ hX14) ((HCW13.out _ hX14).mono (by omega)) Hz.out rfl (Int.fmod_eq_zero_of_dvd HDZ.out) (by omega) (by omega)).mono ?_
      rintro e wg ⟨gb, go, gm, gc, hb0, ho, hm, hc, rfl, HG, HH, hbg⟩
      go_wp2_with fail
      go_meet
      exact ⟨rfl, bl_alloc (bl_alloc (bl_trans hX14 hbg) _) _, wg.heap.size + 1, _, _, _, _, rfl, by simp [go_sem], by simp [go_sem], HH.out.below (bl_alloc (bl_alloc (Below.refl _ _) _) _) (Nat.le_refl _)⟩
    case rest =>
    obtain ⟨rfl, hcut⟩ := hcut
    obtain ⟨W16, rfl⟩ : ∃ W16, W16 = wc := ⟨_, rfl⟩
    obtain ⟨hp, ⟨x24, b24, o24, m24, c24, rfl, x24a, x24b, x24h⟩⟩ := hcut
    have x24l := World.block_lt_of_cell? _ _ x24a
    have HSW16 : Hid (∀ w', Below W16.heap.size W16 w' → (w'.cell? ⟨w.heap.size, 0, none⟩ = some (.bool na) ∧ w'.cell? ⟨w.heap.size, 1, none⟩ = some (.slice ao n ca) ∧ w'.cell? ⟨w.heap.size + 1, 0, none⟩ = some (.bool nb) ∧ w'.cell? ⟨w.heap.size + 1, 1, none⟩ = some (.slice bo m cb) ∧ w'.cell? ⟨w.heap.size + 2, 0, none⟩ = some (.bool nc) ∧ w'.cell? ⟨w.heap.size + 2, 1, none⟩ = some (.slice co l cc)) ∧ w'.cell? ⟨w1.heap.size, 0, none⟩ = some (.bool b1) ∧ w'.cell? ⟨w1.heap.size, 1, none⟩ = some (.slice o1 m1 c1) ∧ w'.cell? ⟨w1.heap.size + 1, 0, none⟩ = some (.bool b2) ∧ w'.cell? ⟨w1.heap.size + 1, 1, none⟩ = some (.slice o2 m2 c2) ∧ w'.cell? ⟨x11, 0, none⟩ = some (.bool b11) ∧ w'.cell? ⟨x11, 1, none⟩ = some (.slice o11 m11 c11) ∧ w'.cell? ⟨x12, 0, none⟩ = some (.bool b12) ∧ w'.cell? ⟨x12, 1, none⟩ = some (.slice o12 m12 c12) ∧ w'.cell? ⟨x14, 0, none⟩ = some (.bool b14) ∧ w'.cell? ⟨x14, 1, none⟩ = some (.slice o14 m14 c14) ∧ w'.cell? ⟨x15, 0, none⟩ = some (.bool b15) ∧ w'.cell? ⟨x15, 1, none⟩ = some (.slice o15 m15 c15) ∧ w'.cell? ⟨x16, 0, none⟩ = some (.bool b16) ∧ w'.cell? ⟨x16, 1, none⟩ = some (.slice o16 m16 c16) ∧ w'.cell? ⟨x18, 0, none⟩ = some (.bool b18) ∧ w'.cell? ⟨x18, 1, none⟩ = some (.slice o18 m18 c18) ∧ w'.cell? ⟨x21, 0, none⟩ = some (.bool b21) ∧ w'.cell? ⟨x21, 1, none⟩ = some (.slice o21 m21 c21) ∧ w'.cell? ⟨x24, 0, none⟩ = some (.bool b24) ∧ w'.cell? ⟨x24, 1, none⟩ = some (.slice o24 m24 c24)) := hid (fun w' hb => by
      have S := HSW13.out _ (bl_trans hp hb)
      exact ⟨S.1, S.2.1, S.2.2.1, S.2.2.2.1, S.2.2.2.2.1, S.2.2.2.2.2.1, S.2.2.2.2.2.2.1, S.2.2.2.2.2.2.2.1, S.2.2.2.2.2.2.2.2.1, S.2.2.2.2.2.2.2.2.2.1, S.2.2.2.2.2.2.2.2.2.2.1, S.2.2.2.2.2.2.2.2.2.2.2.1, S.2.2.2.2.2.2.2.2.2.2.2.2.1, S.2.2.2.2.2.2.2.2.2.2.2.2.2.1, S.2.2.2.2.2.2.2.2.2.2.2.2.2.2.1, S.2.2.2.2.2.2.2.2.2.2.2.2.2.2.2.1, S.2.2.2.2.2.2.2.2.2.2.2.2.2.2.2.2.1, S.2.2.2.2.2.2.2.2.2.2.2.2.2.2.2.2.2.1, S.2.2.2.2.2.2.2.2.2.2.2.2.2.2.2.2.2.2, (hb.cell x24l).trans x24a, (hb.cell (p := ⟨x24, 1, none⟩) x24l).trans x24b⟩)
    have HAW16 : Hid (∀ w', Below W16.heap.size W16 w' → Ai w' (.agg #[.bool na, .slice ao n ca]) (x) 16) := hid (fun w' hb => HAW13.out _ (bl_trans hp hb))
    have HBvW16 : Hid (∀ w', Below W16.heap.size W16 w' → Ai w' (.agg #[.bool nb, .slice bo m cb]) (y) 16) := hid (fun w' hb => HBvW13.out _ (bl_trans hp hb))
    have HCW16 : Hid (∀ w', Below W16.heap.size W16 w' → Ai w' (.agg #[.bool nc, .slice co l cc]) (z) 16) := hid (fun w' hb => HCW13.out _ (bl_trans hp hb))
    have HZqW16 : Hid (∀ w', Below W16.heap.size W16 w' → Ai w' (.agg #[.bool b1, .slice o1 m1 c1]) (q) 21) := hid (fun w' hb => HZqW13.out _ (bl_trans hp hb))
    have HZrW16 : Hid (∀ w', Below W16.heap.size W16 w' → Ai w' (.agg #[.bool b2, .slice o2 m2 c2]) (r) 21) := hid (fun w' hb => HZrW13.out _ (bl_trans hp hb))
    have HZsizeW16 : Hid (∀ w', Below W16.heap.size W16 w' → Ai w' (.agg #[.bool b11, .slice o11 m11 c11]) (y * s) 20) := hid (fun w' hb => HZsizeW13.out _ (bl_trans hp hb))
    have HZrestW16 : Hid (∀ w', Below W16.heap.size W16 w' → Ai w' (.agg #[.bool b12, .slice o12 m12 c12]) (r * s) 25) := hid (fun w' hb => HZrestW13.out _ (bl_trans hp hb))
    have HZXW16 : Hid (∀ w', Below W16.heap.size W16 w' → Ai w' (.agg #[.bool b14, .slice o14 m14 c14]) (X) 34) := hid (fun w' hb => HZXW13.out _ (bl_trans hp hb))
    have HZYW16 : Hid (∀ w', Below W16.heap.size W16 w' → Ai w' (.agg #[.bool b15, .slice o15 m15 c15]) (Y) 34) := hid (fun w' hb => HZYW13.out _ (bl_trans hp hb))
    have HZgW16 : Hid (∀ w', Below W16.heap.size W16 w' → Ai w' (.agg #[.bool b16, .slice o16 m16 c16]) (g) 35) := hid (fun w' hb => HZgW13.out _ (bl_trans hp hb))
    have HZoneW16 : Hid (∀ w', Below W16.heap.size W16 w' → Ai w' (.agg #[.bool b18, .slice o18 m18 c18]) (0) 40) := hid (fun w' hb => HZoneW13.out _ (bl_trans hp hb))
    have HZtwoW16 : Hid (∀ w', Below W16.heap.size W16 w' → Ai w' (.agg #[.bool b21, .slice o21 m21 c21]) (0) 40) := hid (fun w' hb => HZtwoW13.out _ (bl_trans hp hb))
    have HZthreeW16 : Hid (∀ w', Below W16.heap.size W16 w' → Ai w' (.agg #[.bool b24, .slice o24 m24 c24]) (0) 40) := hid (fun w' hb => x24h.below hb (Nat.le_refl _))
    have HLW16 := hid hp
    clear hp x24a x24b x24h x24l
    have HB16 := hid (HB13.out.trans (HLW16.out.mono HB13.out.size))
    have hX0 := Below.refl W16.heap.size W16
    obtain ⟨⟨k0, k1, k2, k3, k4, k5⟩, k6, k7, k8, k9, k10, k11, k12, k13, k14, k15, k16, k17, k18, k19, k20, k21, k22, k23, k24, k25⟩ := HSW16.out _ hX0
    go_wp2_with fail
    refine (sign_z _ (g) (1) 35 _ (HZgW16.out _ hX0) HG0.out (by omega)).mono ?_
    rintro e v1 ⟨rfl, hb1⟩
    have hX1 := bl_trans hX0 hb1
    clear k0 k1 k2 k3 k4 k5 k6 k7 k8 k9 k10 k11 k12 k13 k14 k15 k16 k17 k18 k19 k20 k21 k22 k23 k24 k25
    obtain ⟨⟨k0, k1, k2, k3, k4, k5⟩, k6, k7, k8, k9, k10, k11, k12, k13, k14, k15, k16, k17, k18, k19, k20, k21, k22, k23, k24, k25⟩ := HSW16.out _ hX1
    go_wp2_with fail
    refine (sign_z _ (0) (0) 40 _ (HZoneW16.out _ hX1) rfl (by omega)).mono ?_
    rintro e v2 ⟨rfl, hb2⟩
    have hX2 := bl_trans hX1 hb2
    clear k0 k1 k2 k3 k4 k5 k6 k7 k8 k9 k10 k11 k12 k13 k14 k15 k16 k17 k18 k19 k20 k21 k22 k23 k24 k25
    obtain ⟨⟨k0, k1, k2, k3, k4, k5⟩, k6, k7, k8, k9, k10, k11, k12, k13, k14, k15, k16, k17, k18, k19, k20, k21, k22, k23, k24, k25⟩ := HSW16.out _ hX2
    go_wp2_with fail
    refine (sign_z _ (0) (0) 40 _ (HZtwoW16.out _ hX2) rfl (by omega)).mono ?_
    rintro e v3 ⟨rfl, hb3⟩
    have hX3 := bl_trans hX2 hb3
    clear k0 k1 k2 k3 k4 k5 k6 k7 k8 k9 k10 k11 k12 k13 k14 k15 k16 k17 k18 k19 k20 k21 k22 k23 k24 k25
    obtain ⟨⟨k0, k1, k2, k3, k4, k5⟩, k6, k7, k8, k9, k10, k11, k12, k13, k14, k15, k16, k17, k18, k19, k20, k21, k22, k23, k24, k25⟩ := HSW16.out _ hX3
    go_wp2_with fail
    refine (sign_z _ (0) (0) 40 _ (HZthreeW16.out _ hX3) rfl (by omega)).mono ?_
    rintro e v4 ⟨rfl, hb4⟩
    have hX4 := bl_trans hX3 hb4
    go_wp2
    go_ret
    exact ⟨rfl, HB16.out.trans (hX4.mono HB16.out.size)⟩

theorem exactDivision_walk (na nb nc : Bool) (ao bo co : Option Addr) (n m l ca cb cc : Nat) (x y z : Int) (w : World) (hu : Ai w (.agg #[.bool na, .slice ao n ca]) x 16) (hv : Ai w (.agg #[.bool nb, .slice bo m cb]) y 16) (ht : Ai w (.agg #[.bool nc, .slice co l cc]) z 16) (hn : n ≤ 16) (hm : m ≤ 16) (hl : l ≤ 16) :
    Calls Tryz.prog 4 #[.agg #[.bool na, .slice ao n ca], .agg #[.bool nb, .slice bo m cb], .agg #[.bool nc, .slice co l cc]] w fun e w' => e = .returned (.bool true) ∧ Below w.heap.size w w' := by
  by_cases hy : y = 0
  · exact exactDivision_zero na nb nc ao bo co n m l ca cb cc x y z w hu hv ht hn hm hl hy
  · exact exactDivision_ne na nb nc ao bo co n m l ca cb cc x y z w hu hv ht hn hm hl hy
end Go.Proofs.YtahbkcebifkniaaGreatDoor
