/- The statement ExactFractions and its card: whatever the arguments are, the law returns true, and they read behind the call as they read before. Written by gen_rowx.py. -/
import Derived.Test.YtbapeilpkhbbeaaGreatDoorYn49
import Derived.Test.YtbapeilpkhbbeaaGreatDoorYn45
import Derived.Test.YtbapeilpkhbbeaaGreatDoorCards
import Derived.Test.YtbapeilpkhbbeaaGreatDoorTie
import Derived.Lib.LaidTab
import Derived.OpenShut
import Derived.Deep.DeepHandedRow
import Derived.SevenTiedAt
import Derived.Carry
import Derived.ChangeMaps5
import Derived.Shelf.Vars
import Derived.LaidSub
/- The law ExactFractions, its walk. Written by gen_frac.py. -/
namespace Go.Proofs.YtbapeilpkhbbeaaGreatDoor
open Go.RowKit

set_option maxRecDepth 100000 in
set_option maxHeartbeats 4000000 in
theorem exactFractions_walk (a1 aa1 : Bool) (p1 pp1 : Option Addr) (l1 ll1 q1 qq1 : Nat) (nA nB : Bool) (A B : List Int) (i : Int) (s : List UInt8) (w : World) (hu : Lr w (.agg #[.bool a1, .slice p1 l1 q1, .bool aa1, .slice pp1 ll1 qq1]) nA A nB B) (hA : A.length ≤ 16) (hB : B.length ≤ 16) (hs : s.length ≤ 5000) (t1 : Int) (ht1 : max (l1 : Int) (ll1 : Int) = t1) (g1 : ¬ 16 < t1) (hT : Tab w) (hM : Mx w) :
    Calls Tryz.prog 3 #[(.agg #[.bool a1, .slice p1 l1 q1, .bool aa1, .slice pp1 ll1 qq1]), .int .i64 i, .string ⟨s.toArray⟩] w fun e w' => e = .returned (.bool true) ∧ Below w.heap.size w w' := by
  obtain ⟨W0, hW0⟩ : ∃ W0, W0 = (w.alloc (.cells #[.bool a1, .slice p1 l1 q1, .bool aa1, .slice pp1 ll1 qq1] 26)) := ⟨_, rfl⟩
  have hB0 : Below w.heap.size w W0 := by rw [hW0]; exact (Below.refl _ _).alloc (Nat.le_refl _) _
  have hz0 : W0.heap.size = w.heap.size + 1 := by rw [hW0]; simp
  have HS0 : Hid (∀ w', Below W0.heap.size W0 w' → w'.cell? ⟨w.heap.size, 0, none⟩ = some (.bool a1) ∧ w'.cell? ⟨w.heap.size, 1, none⟩ = some (.slice p1 l1 q1) ∧ w'.cell? ⟨w.heap.size, 2, none⟩ = some (.bool aa1) ∧ w'.cell? ⟨w.heap.size, 3, none⟩ = some (.slice pp1 ll1 qq1)) := hid (fun w' hb => by
    refine ⟨?_, ?_, ?_, ?_⟩ <;> (rw [hb.cell (by rw [hz0]; simp <;> omega), hW0]; simp [go_sem]))
  have VR : Hid (∀ w', Below W0.heap.size W0 w' → Lr w' (.agg #[.bool a1, .slice p1 l1 q1, .bool aa1, .slice pp1 ll1 qq1]) nA A nB B) := hid (fun w' hb => (hu.below hB0 (Nat.le_refl _)).below hb (Nat.le_refl _))
  have HT : Hid (∀ w', Below W0.heap.size W0 w' → Tab w') := hid (fun w' hb => (hT.below hB0).below hb)
  have HM : Hid (∀ w', Below W0.heap.size W0 w' → Mx w') := hid (fun w' hb => (hM.below hB0).below hb)
  obtain ⟨n, hn⟩ : ∃ n, n = rn (sgn nA (val B32 A)) (sgn nB (val B32 B)) := ⟨_, rfl⟩
  obtain ⟨d, hd⟩ : ∃ d, d = rd (sgn nB (val B32 B)) := ⟨_, rfl⟩
  have HRV := hid (fun (w' : World) (v : Value) (h : Lr w' v nA A nB B) => show Rv w' v n d 16 by rw [hn, hd]; exact h.rv hA hB)
  obtain ⟨DT, hDT⟩ : ∃ t : ByteArray, (if i < 0 ∨ 100 < i then ⟨#[]⟩ else dcT ((n * 10 ^ i.toNat * 2 + d).fdiv (d * 2)) i.toNat) = t := ⟨_, rfl⟩
  obtain ⟨ST, hST⟩ : ∃ t, t = shT (lowN n d) (lowD n d) := ⟨_, rfl⟩
  obtain ⟨PE, hPE⟩ : ∃ x, x = placeErr i := ⟨_, rfl⟩
  obtain ⟨E, hE⟩ : ∃ x, x = prfE s := ⟨_, rfl⟩
  obtain ⟨N, hN⟩ : ∃ x, x = prfN s := ⟨_, rfl⟩
  obtain ⟨F, hF⟩ : ∃ x, x = prfD s := ⟨_, rfl⟩
  have HX1 := hid (fun (w' : World) (v : Value) (h : Lr w' v nA A nB B) (ht : Tab w') => show Calls Tryz.prog 7 #[v, .int .i64 i] w' (fun e w2 => e = .returned (.tuple #[.string DT, .int .i64 PE]) ∧ Below w'.heap.size w' w2) by rw [hPE]; exact Decimal_res v n d i DT w' (HRV.out _ _ h) ht hDT)
  have HX2 := hid (fun (w' : World) (v : Value) (h : Qv w' v n d 35) => show Calls Tryz.prog 8 #[v, .int .i64 i] w' (fun e w2 => e = .returned (.tuple #[.string DT, .int .i64 PE]) ∧ Below w'.heap.size w' w2) by rw [hPE]; exact rDecimal_res v n d i DT w' h hDT)
  have HX3 := hid (fun (w' : World) (hm : Mx w') => show Calls Tryz.prog 9 #[.string ⟨s.toArray⟩] w' (fun e w2 => ∃ b1 o1 m1 c1 b2 o2 m2 c2, e = .returned (.tuple #[.agg #[.bool b1, .slice o1 m1 c1, .bool b2, .slice o2 m2 c2], .int .i64 E]) ∧ Hid (RtE w2 (.agg #[.bool b1, .slice o1 m1 c1, .bool b2, .slice o2 m2 c2]) E N F) ∧ Below w'.heap.size w' w2) by rw [hE, hN, hF]; exact ParseRatio_res s hs w' hm)
  have HX4 := hid (fun (w' : World)  => show Calls Tryz.prog 10 #[.string ⟨s.toArray⟩] w' (fun e w2 => ∃ b1 o1 m1 c1 b2 o2 m2 c2, e = .returned (.tuple #[.agg #[.bool b1, .slice o1 m1 c1, .bool b2, .slice o2 m2 c2], .int .i64 E]) ∧ Hid (QvE w2 (.agg #[.bool b1, .slice o1 m1 c1, .bool b2, .slice o2 m2 c2]) E N F) ∧ Below w'.heap.size w' w2) by rw [hE, hN, hF]; exact rParseRatio_res s w')
  have HX5 := hid (fun (w' : World) (v : Value) (h : Lr w' v nA A nB B) (ht : Tab w') => show Calls Tryz.prog 11 #[v] w' (fun e w2 => e = .returned (.string ST) ∧ Below w'.heap.size w' w2) by rw [hST]; exact Show_rv v n d 16 w' (HRV.out _ _ h) (by decide) ht)
  have HX6 := hid (fun (w' : World) (v : Value) (h : Qv w' v n d 35) => show Calls Tryz.prog 12 #[v] w' (fun e w2 => e = .returned (.string ST) ∧ Below w'.heap.size w' w2) by rw [hST]; exact rshow_v v n d 35 w' h (by decide) (by decide))
  have HLA := hid (show A.length ≤ 1073741824 by omega); have HLB := hid (show B.length ≤ 1073741824 by omega)
  have T1 := hid ht1
  have g2 : ¬ (5000 : Int) < (s.length : Int) := by omega
  have HB0 := hid hB0; have HW0 := hid hW0
  clear hW0 hB0 hz0
  clear hn hd hDT hST hPE hE hN hF ht1 hu hA hB hs hT hM
  go_enter Tryz.func3, Tryz.ntmps3
  go_upto_region 1 with (fail)
  rw [← HW0.out]
  obtain ⟨k0, k1, k2, k3⟩ := HS0.out _ (Below.refl _ _)
  go_wp2_with fail
  refine (wide_t _ _ _ _ _ _ _ _ t1 _ T1.out).mono ?_
  rintro e wa ⟨rfl, hXa⟩
  clear k0 k1 k2 k3
  obtain ⟨k0, k1, k2, k3⟩ := HS0.out _ hXa
  go_upto_region 3 with (fail)
  go_wp2_with fail
  refine (ownRatio_any _ _ _ _ _ _ (VR.out _ hXa) HLA.out HLB.out).mono ?_
  rintro e wq3 ⟨b3, o3, m3, c3, bb3, oo3, mm3, cc3, rfl, H3, hbq⟩
  have hXq := bl_tr hXa hbq
  clear k0 k1 k2 k3 hbq hXa
  obtain ⟨W1, hW1⟩ : ∃ W, W = wq3.alloc (.cells #[.bool b3, .slice o3 m3 c3, .bool bb3, .slice oo3 mm3 cc3] 26) := ⟨_, rfl⟩
  have hal1 : Below wq3.heap.size wq3 W1 := by rw [hW1]; exact bl_new _
  have hXn1 : Below W0.heap.size W0 W1 := bl_tr hXq hal1
  have HS1 : Hid (∀ w', Below W1.heap.size W1 w' → (w'.cell? ⟨w.heap.size, 0, none⟩ = some (.bool a1) ∧ w'.cell? ⟨w.heap.size, 1, none⟩ = some (.slice p1 l1 q1) ∧ w'.cell? ⟨w.heap.size, 2, none⟩ = some (.bool aa1) ∧ w'.cell? ⟨w.heap.size, 3, none⟩ = some (.slice pp1 ll1 qq1)) ∧ w'.cell? ⟨wq3.heap.size, 0, none⟩ = some (.bool b3) ∧ w'.cell? ⟨wq3.heap.size, 1, none⟩ = some (.slice o3 m3 c3) ∧ w'.cell? ⟨wq3.heap.size, 2, none⟩ = some (.bool bb3) ∧ w'.cell? ⟨wq3.heap.size, 3, none⟩ = some (.slice oo3 mm3 cc3)) := hid (fun w' hb => by
    refine ⟨HS0.out _ (bl_tr hXn1 hb), ?_, ?_, ?_, ?_⟩ <;> (rw [hb.cell (by rw [hW1]; simp), hW1]; simp [go_sem]))
  replace VR := hid (fun w' hb => VR.out w' (bl_tr hXn1 hb))
  replace HT := hid (fun w' hb => HT.out w' (bl_tr hXn1 hb))
  replace HM := hid (fun w' hb => HM.out w' (bl_tr hXn1 hb))
  have VX : Hid (∀ w', Below W1.heap.size W1 w' → Lr w' (.agg #[.bool b3, .slice o3 m3 c3, .bool bb3, .slice oo3 mm3 cc3]) nA A nB B) := hid (fun w' hb => H3.out.below (bl_tr hal1 hb) (Nat.le_refl _))
  have HB1 := hid (HB0.out.trans (hXn1.mono HB0.out.size)); have HW1 := hid hW1
  clear hW1 hal1 hXn1 HS0 HB0 HW0
  clear hXq H3
  go_upto_region 4 with (fail)
  rw [← HW1.out]
  obtain ⟨⟨k0, k1, k2, k3⟩, k4, k5, k6, k7⟩ := HS1.out _ (Below.refl _ _)
  go_wp2_with fail
  refine (rfromRatio_v _ n d 16 35 _ (HRV.out _ _ (VR.out _ (Below.refl _ _))) (by decide) (by decide) (by decide)).mono ?_
  rintro e wq4 ⟨b4, o4, m4, c4, bb4, oo4, mm4, cc4, rfl, H4, hbq⟩
  have hXq : Below W1.heap.size W1 wq4 := hbq
  clear k0 k1 k2 k3 k4 k5 k6 k7 hbq
  obtain ⟨W2, hW2⟩ : ∃ W, W = wq4.alloc (.cells #[.bool b4, .slice o4 m4 c4, .bool bb4, .slice oo4 mm4 cc4] 33) := ⟨_, rfl⟩
  have hal2 : Below wq4.heap.size wq4 W2 := by rw [hW2]; exact bl_new _
  have hXn2 : Below W1.heap.size W1 W2 := bl_tr hXq hal2
  have HS2 : Hid (∀ w', Below W2.heap.size W2 w' → ((w'.cell? ⟨w.heap.size, 0, none⟩ = some (.bool a1) ∧ w'.cell? ⟨w.heap.size, 1, none⟩ = some (.slice p1 l1 q1) ∧ w'.cell? ⟨w.heap.size, 2, none⟩ = some (.bool aa1) ∧ w'.cell? ⟨w.heap.size, 3, none⟩ = some (.slice pp1 ll1 qq1)) ∧ w'.cell? ⟨wq3.heap.size, 0, none⟩ = some (.bool b3) ∧ w'.cell? ⟨wq3.heap.size, 1, none⟩ = some (.slice o3 m3 c3) ∧ w'.cell? ⟨wq3.heap.size, 2, none⟩ = some (.bool bb3) ∧ w'.cell? ⟨wq3.heap.size, 3, none⟩ = some (.slice oo3 mm3 cc3)) ∧ w'.cell? ⟨wq4.heap.size, 0, none⟩ = some (.bool b4) ∧ w'.cell? ⟨wq4.heap.size, 1, none⟩ = some (.slice o4 m4 c4) ∧ w'.cell? ⟨wq4.heap.size, 2, none⟩ = some (.bool bb4) ∧ w'.cell? ⟨wq4.heap.size, 3, none⟩ = some (.slice oo4 mm4 cc4)) := hid (fun w' hb => by
    refine ⟨HS1.out _ (bl_tr hXn2 hb), ?_, ?_, ?_, ?_⟩ <;> (rw [hb.cell (by rw [hW2]; simp), hW2]; simp [go_sem]))
  replace VR := hid (fun w' hb => VR.out w' (bl_tr hXn2 hb))
  replace HT := hid (fun w' hb => HT.out w' (bl_tr hXn2 hb))
  replace HM := hid (fun w' hb => HM.out w' (bl_tr hXn2 hb))
  replace VX := hid (fun w' hb => VX.out w' (bl_tr hXn2 hb))
  have VP : Hid (∀ w', Below W2.heap.size W2 w' → Qv w' (.agg #[.bool b4, .slice o4 m4 c4, .bool bb4, .slice oo4 mm4 cc4]) n d 35) := hid (fun w' hb => H4.out.below (bl_tr hal2 hb) (Nat.le_refl _))
  have HB2 := hid (HB1.out.trans (hXn2.mono HB1.out.size)); have HW2 := hid hW2
  clear hW2 hal2 hXn2 HS1 HB1 HW1
  clear hXq H4
  go_upto_region 5 with (fail)
  rw [← HW2.out]
  obtain ⟨⟨⟨k0, k1, k2, k3⟩, k4, k5, k6, k7⟩, k8, k9, k10, k11⟩ := HS2.out _ (Below.refl _ _)
  go_wp2_with fail
  refine (HX1.out _ _ (VX.out _ (Below.refl _ _)) (HT.out _ (Below.refl _ _))).mono ?_
  rintro e wq5 ⟨rfl, hbq⟩
  have hXq : Below W2.heap.size W2 wq5 := hbq
  clear k0 k1 k2 k3 k4 k5 k6 k7 k8 k9 k10 k11 hbq
  go_upto_region 6 with (fail)
  obtain ⟨⟨⟨k0, k1, k2, k3⟩, k4, k5, k6, k7⟩, k8, k9, k10, k11⟩ := HS2.out _ hXq
  go_wp2_with fail
  refine (HX2.out _ _ (VP.out _ hXq)).mono ?_
  rintro e wq6 ⟨rfl, hb6⟩
  have hX6 := bl_tr hXq hb6
  clear k0 k1 k2 k3 k4 k5 k6 k7 k8 k9 k10 k11 hXq hb6
  go_upto_region 7 with (fail)
  go_wp2_with fail
  refine (HX3.out _ (HM.out _ hX6)).mono ?_
  rintro e wq7 ⟨b7, o7, m7, c7, bb7, oo7, mm7, cc7, rfl, H7, hbq⟩
  have hXq := bl_tr hX6 hbq
  clear hX6 hbq
  obtain ⟨W3, hW3⟩ : ∃ W, W = wq7.alloc (.cells #[.bool b7, .slice o7 m7 c7, .bool bb7, .slice oo7 mm7 cc7] 26) := ⟨_, rfl⟩
  have hal3 : Below wq7.heap.size wq7 W3 := by rw [hW3]; exact bl_new _
  have hXn3 : Below W2.heap.size W2 W3 := bl_tr hXq hal3
  have HS3 : Hid (∀ w', Below W3.heap.size W3 w' → (((w'.cell? ⟨w.heap.size, 0, none⟩ = some (.bool a1) ∧ w'.cell? ⟨w.heap.size, 1, none⟩ = some (.slice p1 l1 q1) ∧ w'.cell? ⟨w.heap.size, 2, none⟩ = some (.bool aa1) ∧ w'.cell? ⟨w.heap.size, 3, none⟩ = some (.slice pp1 ll1 qq1)) ∧ w'.cell? ⟨wq3.heap.size, 0, none⟩ = some (.bool b3) ∧ w'.cell? ⟨wq3.heap.size, 1, none⟩ = some (.slice o3 m3 c3) ∧ w'.cell? ⟨wq3.heap.size, 2, none⟩ = some (.bool bb3) ∧ w'.cell? ⟨wq3.heap.size, 3, none⟩ = some (.slice oo3 mm3 cc3)) ∧ w'.cell? ⟨wq4.heap.size, 0, none⟩ = some (.bool b4) ∧ w'.cell? ⟨wq4.heap.size, 1, none⟩ = some (.slice o4 m4 c4) ∧ w'.cell? ⟨wq4.heap.size, 2, none⟩ = some (.bool bb4) ∧ w'.cell? ⟨wq4.heap.size, 3, none⟩ = some (.slice oo4 mm4 cc4)) ∧ w'.cell? ⟨wq7.heap.size, 0, none⟩ = some (.bool b7) ∧ w'.cell? ⟨wq7.heap.size, 1, none⟩ = some (.slice o7 m7 c7) ∧ w'.cell? ⟨wq7.heap.size, 2, none⟩ = some (.bool bb7) ∧ w'.cell? ⟨wq7.heap.size, 3, none⟩ = some (.slice oo7 mm7 cc7)) := hid (fun w' hb => by
    refine ⟨HS2.out _ (bl_tr hXn3 hb), ?_, ?_, ?_, ?_⟩ <;> (rw [hb.cell (by rw [hW3]; simp), hW3]; simp [go_sem]))
  replace VR := hid (fun w' hb => VR.out w' (bl_tr hXn3 hb))
  replace HT := hid (fun w' hb => HT.out w' (bl_tr hXn3 hb))
  replace HM := hid (fun w' hb => HM.out w' (bl_tr hXn3 hb))
  replace VX := hid (fun w' hb => VX.out w' (bl_tr hXn3 hb))
  replace VP := hid (fun w' hb => VP.out w' (bl_tr hXn3 hb))
  have V7 : Hid (∀ w', Below W3.heap.size W3 w' → RtE w' (.agg #[.bool b7, .slice o7 m7 c7, .bool bb7, .slice oo7 mm7 cc7]) E N F) := hid (fun w' hb => H7.out.below (bl_tr hal3 hb) (Nat.le_refl _))
  have HB3 := hid (HB2.out.trans (hXn3.mono HB2.out.size)); have HW3 := hid hW3
  clear hW3 hal3 hXn3 HS2 HB2 HW2
  clear hXq H7
  go_upto_region 8 with (fail)
  rw [← HW3.out]
  go_wp2_with fail
  refine (HX4.out _).mono ?_
  rintro e wq8 ⟨b8, o8, m8, c8, bb8, oo8, mm8, cc8, rfl, H8, hbq⟩
  have hXq : Below W3.heap.size W3 wq8 := hbq
  clear hbq
  obtain ⟨W4, hW4⟩ : ∃ W, W = wq8.alloc (.cells #[.bool b8, .slice o8 m8 c8, .bool bb8, .slice oo8 mm8 cc8] 33) := ⟨_, rfl⟩
  have hal4 : Below wq8.heap.size wq8 W4 := by rw [hW4]; exact bl_new _
  have hXn4 : Below W3.heap.size W3 W4 := bl_tr hXq hal4
  have HS4 : Hid (∀ w', Below W4.heap.size W4 w' → ((((w'.cell? ⟨w.heap.size, 0, none⟩ = some (.bool a1) ∧ w'.cell? ⟨w.heap.size, 1, none⟩ = some (.slice p1 l1 q1) ∧ w'.cell? ⟨w.heap.size, 2, none⟩ = some (.bool aa1) ∧ w'.cell? ⟨w.heap.size, 3, none⟩ = some (.slice pp1 ll1 qq1)) ∧ w'.cell? ⟨wq3.heap.size, 0, none⟩ = some (.bool b3) ∧ w'.cell? ⟨wq3.heap.size, 1, none⟩ = some (.slice o3 m3 c3) ∧ w'.cell? ⟨wq3.heap.size, 2, none⟩ = some (.bool bb3) ∧ w'.cell? ⟨wq3.heap.size, 3, none⟩ = some (.slice oo3 mm3 cc3)) ∧ w'.cell? ⟨wq4.heap.size, 0, none⟩ = some (.bool b4) ∧ w'.cell? ⟨wq4.heap.size, 1, none⟩ = some (.slice o4 m4 c4) ∧ w'.cell? ⟨wq4.heap.size, 2, none⟩ = some (.bool bb4) ∧ w'.cell? ⟨wq4.heap.size, 3, none⟩ = some (.slice oo4 mm4 cc4)) ∧ w'.cell? ⟨wq7.heap.size, 0, none⟩ = some (.bool b7) ∧ w'.cell? ⟨wq7.heap.size, 1, none⟩ = some (.slice o7 m7 c7) ∧ w'.cell? ⟨wq7.heap.size, 2, none⟩ = some (.bool bb7) ∧ w'.cell? ⟨wq7.heap.size, 3, none⟩ = some (.slice oo7 mm7 cc7)) ∧ w'.cell? ⟨wq8.heap.size, 0, none⟩ = some (.bool b8) ∧ w'.cell? ⟨wq8.heap.size, 1, none⟩ = some (.slice o8 m8 c8) ∧ w'.cell? ⟨wq8.heap.size, 2, none⟩ = some (.bool bb8) ∧ w'.cell? ⟨wq8.heap.size, 3, none⟩ = some (.slice oo8 mm8 cc8)) := hid (fun w' hb => by
    refine ⟨HS3.out _ (bl_tr hXn4 hb), ?_, ?_, ?_, ?_⟩ <;> (rw [hb.cell (by rw [hW4]; simp), hW4]; simp [go_sem]))
  replace VR := hid (fun w' hb => VR.out w' (bl_tr hXn4 hb))
  replace HT := hid (fun w' hb => HT.out w' (bl_tr hXn4 hb))
  replace HM := hid (fun w' hb => HM.out w' (bl_tr hXn4 hb))
  replace VX := hid (fun w' hb => VX.out w' (bl_tr hXn4 hb))
  replace VP := hid (fun w' hb => VP.out w' (bl_tr hXn4 hb))
  replace V7 := hid (fun w' hb => V7.out w' (bl_tr hXn4 hb))
  have V8 : Hid (∀ w', Below W4.heap.size W4 w' → QvE w' (.agg #[.bool b8, .slice o8 m8 c8, .bool bb8, .slice oo8 mm8 cc8]) E N F) := hid (fun w' hb => H8.out.below (bl_tr hal4 hb) (Nat.le_refl _))
  have HB4 := hid (HB3.out.trans (hXn4.mono HB3.out.size)); have HW4 := hid hW4
  clear hW4 hal4 hXn4 HS3 HB3 HW3
  clear hXq H8 HX1 HX2 HX3 HX4
  go_upto_region 9 with (fail)
  rw [← HW4.out]
  have hY0 := Below.refl W4.heap.size W4
  have tk1 := hid trivial
  have tk2 := hid trivial
  have tk3 := hid trivial
  have tk4 := hid trivial
  go_region_held3 (fun w' => ((((w'.cell? ⟨w.heap.size, 0, none⟩ = some (.bool a1) ∧ w'.cell? ⟨w.heap.size, 1, none⟩ = some (.slice p1 l1 q1) ∧ w'.cell? ⟨w.heap.size, 2, none⟩ = some (.bool aa1) ∧ w'.cell? ⟨w.heap.size, 3, none⟩ = some (.slice pp1 ll1 qq1)) ∧ w'.cell? ⟨wq3.heap.size, 0, none⟩ = some (.bool b3) ∧ w'.cell? ⟨wq3.heap.size, 1, none⟩ = some (.slice o3 m3 c3) ∧ w'.cell? ⟨wq3.heap.size, 2, none⟩ = some (.bool bb3) ∧ w'.cell? ⟨wq3.heap.size, 3, none⟩ = some (.slice oo3 mm3 cc3)) ∧ w'.cell? ⟨wq4.heap.size, 0, none⟩ = some (.bool b4) ∧ w'.cell? ⟨wq4.heap.size, 1, none⟩ = some (.slice o4 m4 c4) ∧ w'.cell? ⟨wq4.heap.size, 2, none⟩ = some (.bool bb4) ∧ w'.cell? ⟨wq4.heap.size, 3, none⟩ = some (.slice oo4 mm4 cc4)) ∧ w'.cell? ⟨wq7.heap.size, 0, none⟩ = some (.bool b7) ∧ w'.cell? ⟨wq7.heap.size, 1, none⟩ = some (.slice o7 m7 c7) ∧ w'.cell? ⟨wq7.heap.size, 2, none⟩ = some (.bool bb7) ∧ w'.cell? ⟨wq7.heap.size, 3, none⟩ = some (.slice oo7 mm7 cc7)) ∧ w'.cell? ⟨wq8.heap.size, 0, none⟩ = some (.bool b8) ∧ w'.cell? ⟨wq8.heap.size, 1, none⟩ = some (.slice o8 m8 c8) ∧ w'.cell? ⟨wq8.heap.size, 2, none⟩ = some (.bool bb8) ∧ w'.cell? ⟨wq8.heap.size, 3, none⟩ = some (.slice oo8 mm8 cc8)) ((refine HS4.out _ ?_; first | assumption | exact Below.drew (by assumption))) (first
      | (clear tk1; go_at_call 11; refine (HX5.out _ _ (VX.out _ hY0.drew) (HT.out _ hY0.drew)).mono ?_; rintro e v1 ⟨rfl, hbq⟩; have hY1 : Below W4.heap.size W4 v1 := (hY0.drew).trans (hbq.mono (hY0.drew).size))
      | (clear tk2; go_at_call 12; refine (HX6.out _ _ (VP.out _ hY1)).mono ?_; rintro e v2 ⟨rfl, hbq⟩; have hY2 : Below W4.heap.size W4 v2 := (hY1).trans (hbq.mono (hY1).size))
      | (clear tk3; go_at_call 13; refine (isRatio_rt _ _ E N F _ (V7.out _ hY2) (V8.out _ hY2)).mono ?_; rintro e v3 ⟨rfl, hbq⟩; have hY3 : Below W4.heap.size W4 v3 := (hY2).trans (hbq.mono (hY2).size))
      | (clear tk4; go_at_call 14; refine (like_any _ _ _ _ _ _ _ (VX.out _ hY3) (VR.out _ hY3)).mono ?_; rintro e v4 ⟨rfl, hbq⟩; have hY4 : Below W4.heap.size W4 v4 := (hY3).trans (hbq.mono (hY3).size)))
  go_wp2
  go_ret
  exact ⟨rfl, HB4.out.trans (hY4.mono HB4.out.size)⟩
end Go.Proofs.YtbapeilpkhbbeaaGreatDoor

/- The law ExactFractions at any arguments. Written by gen_rowx.py. -/
namespace Go.Proofs.YtbapeilpkhbbeaaGreatDoor
open Go.RowKit

set_option maxRecDepth 100000 in
set_option maxHeartbeats 1000000 in
theorem exactFractions_long (a1 aa1 : Bool) (p1 pp1 : Option Addr) (l1 ll1 q1 qq1 : Nat) (i2 : Int) (s3 : List UInt8) (w : World) (t1 : Int) (ht1 : max (l1 : Int) (ll1 : Int) = t1) (h : (16 < t1) ∨ (¬ 16 < t1 ∧ 5000 < s3.length)) :
    Calls Tryz.prog 3 #[.agg #[.bool a1, .slice p1 l1 q1, .bool aa1, .slice pp1 ll1 qq1], .int .i64 i2, .string ⟨s3.toArray⟩] w fun e w' => e = .returned (.bool true) ∧ Below w.heap.size w w' := by
  obtain ⟨W0, hW0⟩ : ∃ W0, W0 = (w.alloc (.cells #[.bool a1, .slice p1 l1 q1, .bool aa1, .slice pp1 ll1 qq1] 26)) := ⟨_, rfl⟩
  have hB0 : Below w.heap.size w W0 := by rw [hW0]; exact (Below.refl _ _).alloc (Nat.le_refl _) _
  have hz0 : W0.heap.size = w.heap.size + 1 := by rw [hW0]; simp
  have HS : Hid (∀ w', Below W0.heap.size W0 w' → w'.cell? ⟨w.heap.size, 0, none⟩ = some (.bool a1) ∧ w'.cell? ⟨w.heap.size, 1, none⟩ = some (.slice p1 l1 q1) ∧ w'.cell? ⟨w.heap.size, 2, none⟩ = some (.bool aa1) ∧ w'.cell? ⟨w.heap.size, 3, none⟩ = some (.slice pp1 ll1 qq1)) := hid (fun w' hb => by
    refine ⟨?_, ?_, ?_, ?_⟩ <;> (rw [hb.cell (by rw [hz0]; simp <;> omega), hW0]; simp [go_sem]))
  have HB0 := hid hB0; have HW := hid hW0; have T1 := hid ht1
  clear hW0 hB0 hz0 ht1
  rcases h with g1 | ⟨g1, g3⟩
  · go_enter Tryz.func3, Tryz.ntmps3
    go_upto_region 1 with (fail)
    rw [← HW.out]
    have hY0 := Below.refl W0.heap.size W0
    obtain ⟨k0, k1, k2, k3⟩ := HS.out _ hY0
    go_wp2_with fail
    refine (wide_t _ _ _ _ _ _ _ _ t1 _ T1.out).mono ?_
    rintro e v0 ⟨rfl, hb0⟩
    have hYn0 := bl_tr hY0 hb0
    clear k0 k1 k2 k3 hb0
    obtain ⟨k0, k1, k2, k3⟩ := HS.out _ hYn0
    go_wp2
    go_ret
    exact ⟨rfl, HB0.out.trans (hYn0.mono HB0.out.size)⟩
  · have gi3 : (5000 : Int) < (s3.length : Int) := by omega
    go_enter Tryz.func3, Tryz.ntmps3
    go_upto_region 1 with (fail)
    rw [← HW.out]
    have hY0 := Below.refl W0.heap.size W0
    obtain ⟨k0, k1, k2, k3⟩ := HS.out _ hY0
    go_wp2_with fail
    refine (wide_t _ _ _ _ _ _ _ _ t1 _ T1.out).mono ?_
    rintro e v0 ⟨rfl, hb0⟩
    have hYn0 := bl_tr hY0 hb0
    clear k0 k1 k2 k3 hb0
    obtain ⟨k0, k1, k2, k3⟩ := HS.out _ hYn0
    go_wp2
    go_ret
    exact ⟨rfl, HB0.out.trans (hYn0.mono HB0.out.size)⟩

theorem exactFractions_any (nA nB : Bool) (A B : List Int) (i1 : Int) (s2 : List UInt8) (w : World) (u0 : Value) (hu0 : Lr w u0 nA A nB B) (_hi1 : -9223372036854775808 ≤ i1 ∧ i1 ≤ 9223372036854775807) (hT : Tab w) (hM : Mx w) :
    Calls Tryz.prog 3 #[u0, .int .i64 i1, .string ⟨s2.toArray⟩] w fun e w' => e = .returned (.bool true) ∧ Below w.heap.size w w' := by
  obtain ⟨aoA, cA, aoB, cB, rfl, rA, rB, dA, dB⟩ := hu0
  by_cases h1 : (16 : Int) < max (A.length : Int) (B.length : Int)
  · exact exactFractions_long _ _ _ _ _ _ _ _ _ _ w _ rfl  (Or.inl (h1))
  by_cases h3 : 5000 < s2.length
  · exact exactFractions_long _ _ _ _ _ _ _ _ _ _ w _ rfl  (Or.inr (⟨h1, h3⟩))
  exact exactFractions_walk _ _ _ _ _ _ _ _ _ _ A B i1 s2 w ⟨_, _, _, _, rfl, rA, rB, dA, dB⟩ (by omega) (by omega) (by omega) _ rfl h1 hT hM
end Go.Proofs.YtbapeilpkhbbeaaGreatDoor

/- A world for the rows' witnesses: the listed tables hold what they are said to hold. -/
namespace Go.Proofs.YtbapeilpkhbbeaaGreatDoor

/-- A number of a table as a value; a table's cells. -/
def litVal : Lit → Value | .int k x => .int k x | .bool b => .bool b | _ => undef
def datVal : DataW Unit → Value | .lit l => litVal l | _ => undef
def datCells : DataW Unit → Array Value | .agg l => (l.map datVal).toArray | _ => #[]
def laidAt (W : Array Obj) (b : Nat) (d : DataW Unit) : Array Obj := W.modify b fun
  | .cells _ t frozen => .cells (datCells d) t frozen
  | o => o
noncomputable def laidWorld (os : Os) : World :=
  { World.holding Tryz.prog os ⟨#[], #[], []⟩ with heap := laidAt (laidAt (laidAt (World.holding Tryz.prog os ⟨#[], #[], []⟩).heap 2 Rows.laid_internal_strconv_uint64pow10) 4 Rows.laid_math_bits_deBruijn32tab) 5 Rows.laid_math_bits_deBruijn64tab }
end Go.Proofs.YtbapeilpkhbbeaaGreatDoor

/- The statement ExactFractions and its card: whatever the arguments are, the law returns true, and they read behind the call as they read before. Written by gen_rowx.py. -/
namespace Go.Proofs.YtbapeilpkhbbeaaGreatDoor
open Go.ChangeShapes Go.WideShapes Go.ChangeAt Go.RowKit Go.Joins

/-- Arguments of zeros. -/
def zeroExactFractions : Array Value := #[.agg #[.bool false, .slice none 0 0, .bool false, .slice none 0 0], .int .i64 0, .string ⟨#[]⟩]
theorem exactFractions_tab {W : World} (h : laidMetH Tryz.prog Rows.exactFractionsRow.laid W) : Tab W := by
  have h1 := (laidMetH_iff.1 (h.filter (fun x => x.1 == "internal/strconv.uint64pow10"))).1
  have e : ((Rows.exactFractionsRow.laid.filter (fun x => x.1 == "internal/strconv.uint64pow10")).filter fun a => a.2.handleName?.isNone) = [("internal/strconv.uint64pow10", Lib.tabData .u64 Lib.pow10Tab)] := by kernel_rfl
  rw [e] at h1
  exact Lib.tabIs_of_head (g := 2) (t := 198) (n := 20) (by kernel_rfl) (by kernel_rfl) Tryz.underlying198 Tryz.underlying63 (by kernel_rfl) (by kernel_rfl) h1

theorem exactFractions_mx {W : World} (h : W.ShapedOpen Tryz.prog) : Mx W :=
  cell_of_shapedOpen_int (zero := #[.int .i64 0]) (t := 3) h (of_decide_eq_true (by kernel_rfl)) (by kernel_rfl) rfl (by kernel_rfl) (by kernel_rfl) Tryz.underlying3

set_option maxRecDepth 100000 in
theorem exactFractions_laid (os : Os) : laidMet Tryz.prog Rows.exactFractionsRow.laid ((laidWorld os).forCall (fun _ _ => 0) ⟨#[], zeroExactFractions, []⟩).memory :=
  laidMet_of_run' 8 (by kernel_rfl) (by kernel_rfl)

set_option maxRecDepth 100000 in
theorem exactFractions_lifted (os : Os) (started : os.Started) (H : Type) (enc : TypeId × Value → H) (F : Stop.Interp) :
    ReturnsInHanded {} Tryz.checked os 3 .any ((OpenSpec.ofChange Rows.exactFractionsSpec).preRow enc Tryz.prog Tryz.f3 Rows.exactFractionsRow.domain false Rows.exactFractionsRow.laid) (((OpenSpec.ofChange Rows.exactFractionsSpec).at F).post enc Tryz.prog Tryz.f3 false true false false) := by
  obtain ⟨x, hx⟩ := Option.isSome_iff_exists.1 (show (DataW.whole enc Tryz.prog ((laidWorld os).forCall (fun _ _ => 0) ⟨#[], zeroExactFractions, []⟩).memory Tryz.f3.params.toList Rows.exactFractionsSpec.vars false zeroExactFractions.toList 8).isSome = true by kernel_rfl)
  refine returnsInHanded_of_row (C := Tryz.checked) (s := OpenSpec.ofChange Rows.exactFractionsSpec) Tryz.ownKnobNone started (by kernel_rfl) Tryz.func3
    (witness_row_at (enc := enc) (C := Tryz.checked) false (laidWorld os) zeroExactFractions rfl (by kernel_rfl) (by kernel_rfl) (by kernel_rfl)
      (OpenSpec.preRow_of_cond 8 hx (by kernel_rfl) (fun k hk => by cases hk) (by kernel_rfl) (exactFractions_laid os))) ?_
  intro W base args ds gs before hval0 hW _ _ _ hlaid hshaped _
  have hval : ∀ (j : Nat) t v, Tryz.f3.params[j]? = some t → args[j]? = some v → Value.okWide Tryz.prog W .any base t v := hval0
  have hW' := hW
  obtain ⟨p, q, hA0, hV, rfl, hfz, hnd⟩ := hW
  have hA : DataW.TrodAll enc Tryz.prog W 0 (fun _ => true) true Tryz.f3.params.toList args.toList ds p := hA0
  rw [Tryz.params3] at hA hval
  obtain ⟨v0, v1, v2, d0, d1, d2, p0, p1, p2, rfl, rfl, rfl, h0, h1, h2⟩ := trodAll_three hA
  obtain ⟨rfl, rfl⟩ := trodVars_none hV
  obtain ⟨nA, A', nB, B', hu0⟩ := openLr (hval 0 26 v0 rfl rfl) h0
  obtain ⟨i1, rfl, rfl, rfl, wf1⟩ := open_int Tryz.underlying3 (hval 1 3 v1 rfl rfl) h1
  simp [Lit.wf, IntKind.min, IntKind.max, IntKind.signed, IntKind.bits] at wf1
  obtain ⟨s2, rfl, rfl, rfl, _⟩ := Go.ChangeMaps.open_string Tryz.underlying9 (hval 2 9 v2 rfl rfl) h2
  obtain ⟨l2, hl2⟩ : ∃ l : List UInt8, s2 = ⟨l.toArray⟩ := ⟨s2.data.toList, (Lib.mk_data s2).symm⟩
  subst hl2
  clear hA0 hval0
  refine (exactFractions_any _ _ _ _ _ _ W _ hu0 (by omega) (exactFractions_tab hlaid) (exactFractions_mx hshaped)).mono fun e W' ⟨he, hw⟩ => ?_
  subst he
  exact ⟨_, rfl, lawTrue (tb := 4) Tryz.laidOutAll (of_decide_eq_true (by kernel_rfl)) rfl rfl Tryz.underlying4 rfl hW' hw⟩

theorem exactFractions_said : Rows.ExactFractionsSaid :=
  OpenClaim.holds_of_cond 3 Tryz.f3 rfl rfl rfl rfl rfl rfl rfl ⟨rfl, rfl, rfl, rfl, rfl⟩ rfl rfl rfl rfl rfl (by kernel_rfl) Tryz.func3 (by kernel_rfl)
    (of_decide_eq_true (by kernel_rfl)) (by unfold Func.isWrapper; first | (rw [if_pos (by decide +kernel)]; kernel_rfl) | (rw [if_neg (by decide +kernel)]; exact ⟨rfl, rfl⟩))
    (fun os started H enc _ F => by rw [OpenClaim.pre_eq_preRow]; exact exactFractions_lifted os started H enc F)

theorem exactFractions_plain (f : FuncId) (fn : Func) (hf : Tryz.pinned.checked.prog.funcNamed "hodoscope/hodoscopelaw01.ExactFractions" = some f) (hfn : Tryz.pinned.checked.prog.funcs[f]? = some fn) :
    false = Tryz.pinned.checked.prog.looks [] ∧ ∀ (j : Nat) t, fn.params[j]? = some t → Tryz.pinned.checked.prog.wantsStandIn t = false := by
  obtain rfl : f = 3 := Option.some.inj ((show Tryz.prog.funcNamed "hodoscope/hodoscopelaw01.ExactFractions" = some 3 by kernel_rfl).symm.trans hf) |>.symm
  obtain rfl : fn = Tryz.f3 := (Option.some.inj (Tryz.func3.symm.trans hfn)).symm
  refine ⟨by kernel_rfl, fun j t ht => ?_⟩
  rw [Tryz.params3] at ht
  have hm := Array.mem_of_getElem? ht
  simp only [List.mem_toArray, List.mem_cons, List.not_mem_nil, or_false] at hm
  rcases hm with rfl | rfl | rfl
  · exact (show Tryz.prog.wantsStandIn 26 = false by kernel_rfl)
  · exact (show Tryz.prog.wantsStandIn 3 = false by kernel_rfl)
  · exact (show Tryz.prog.wantsStandIn 9 = false by kernel_rfl)

theorem exactFractions_card : Rows.ExactFractionsCardSaid :=
  Claim7.holds_tied_plain_at .later [] _ _ _ _ exactFractions_said (fun _ h => by cases h) (by kernel_rfl) (fun _ h => by cases h) exactFractions_row_tie rfl ⟨rfl, rfl⟩ (by kernel_rfl) rfl exactFractions_plain (by kernel_rfl)
#print axioms exactFractions_card
end Go.Proofs.YtbapeilpkhbbeaaGreatDoor
