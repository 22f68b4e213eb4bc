/- The document's Compare by values; the law's tiny. Written by gen_rq3.py. -/
import Derived.Test.YtbapeilpkhbbeaaGreatBn32
import Derived.Test.YtbapeilpkhbbeaaGreatBn34
/- The document's Compare by values; the law's tiny. Written by gen_rq3.py. -/
namespace Go.Proofs.YtbapeilpkhbbeaaGreat
open Go.RowKit

theorem rneg_o (u : Value) (x : Int) (K : Nat) (w : World) (hu : Zt w u x K) : Calls Tryz.prog 59 #[u] w (RetZo w (-x) K) :=
  (rneg_any u x K w hu).mono fun _ _ h => h.op (Nat.le_refl _)
theorem rcmp_t (u v : Value) (x y t : Int) (K : Nat) (w : World) (hu : Zt w u x K) (hv : Zt w v y K) (ht : cmpI x y = t) (hK : K ≤ 1073741823) :
    Calls Tryz.prog 69 #[u, v] w fun e w' => e = .returned (.int .i64 t) ∧ Below w.heap.size w w' := by
  rw [← ht]; exact rcmp_any u v x y K w hu hv hK
theorem rsign_t (u : Value) (x t : Int) (K : Nat) (w : World) (hu : Zt w u x K) (ht : cmpI x 0 = t) :
    Calls Tryz.prog 64 #[u] w fun e w' => e = .returned (.int .i64 t) ∧ Below w.heap.size w w' := by
  rw [← ht]; exact rsign_any u x K w hu
theorem low_neg (n d : Int) : lowN (-n) d = -lowN n d ∧ lowD (-n) d = lowD n d := by
  unfold lowN lowD
  rw [Int.natAbs_neg]
  refine ⟨?_, rfl⟩
  unfold sgn
  by_cases h : n < 0
  · rw [decide_eq_true h, decide_eq_false (show ¬ -n < 0 by omega)]; simp
  · by_cases h0 : n = 0
    · subst h0; simp
    · rw [decide_eq_false h, decide_eq_true (show -n < 0 by omega)]; simp
theorem cmpI_gt0 {x y : Int} : 0 < cmpI x y ↔ y < x := by unfold cmpI; (repeat' split) <;> omega
theorem cmpI_lt0 {x y : Int} : cmpI x y < 0 ↔ x < y := by unfold cmpI; (repeat' split) <;> omega

set_option maxRecDepth 100000 in
set_option maxHeartbeats 4000000 in
theorem rcompare_v (u v : Value) (n1 d1 n2 d2 t : Int) (K : Nat) (w : World) (hu : Qv w u n1 d1 K) (hv : Qv w v n2 d2 K) (ht : cmpI (n1 * d2) (n2 * d1) = t) (hK : K ≤ 1000000) :
    Calls Tryz.prog 25 #[u, v] w fun e w' => e = .returned (.int .i64 t) ∧ Below w.heap.size w w' := by
  obtain ⟨N1, E1, hN1, hE1, p1, e1⟩ := low_open n1 hu.1
  obtain ⟨N2, E2, hN2, hE2, p2, e2⟩ := low_open n2 hv.1
  have hct := hid ((alg_cmp p1 p2 hu.1 hv.1 e1 e2).trans ht)
  obtain ⟨b1, o1, m1, c1, bb1, oo1, mm1, cc1, rfl, Hu⟩ := Qv.opened hu
  obtain ⟨b2, o2, m2, c2, bb2, oo2, mm2, cc2, rfl, Hv⟩ := Qv.opened hv
  have HK := hid hK
  obtain ⟨W0, hW0⟩ : ∃ W0, W0 = ((w.alloc (.cells #[.bool b1, .slice o1 m1 c1, .bool bb1, .slice oo1 mm1 cc1] 35)).alloc (.cells #[.bool b2, .slice o2 m2 c2, .bool bb2, .slice oo2 mm2 cc2] 35)) := ⟨_, rfl⟩
  have hB0 : Below w.heap.size w W0 := by rw [hW0]; exact ((Below.refl _ _).alloc (Nat.le_refl _) _).alloc (by simp <;> omega) _
  have hz0 : W0.heap.size = w.heap.size + 2 := by rw [hW0]; simp
  have HS0 : Hid (∀ w', Below W0.heap.size W0 w' → w'.cell? ⟨w.heap.size, 0, none⟩ = some (.bool b1) ∧ w'.cell? ⟨w.heap.size, 1, none⟩ = some (.slice o1 m1 c1) ∧ w'.cell? ⟨w.heap.size, 2, none⟩ = some (.bool bb1) ∧ w'.cell? ⟨w.heap.size, 3, none⟩ = some (.slice oo1 mm1 cc1) ∧ w'.cell? ⟨w.heap.size + 1, 0, none⟩ = some (.bool b2) ∧ w'.cell? ⟨w.heap.size + 1, 1, none⟩ = some (.slice o2 m2 c2) ∧ w'.cell? ⟨w.heap.size + 1, 2, none⟩ = some (.bool bb2) ∧ w'.cell? ⟨w.heap.size + 1, 3, none⟩ = some (.slice oo2 mm2 cc2)) := hid (fun w' hb => by
    refine ⟨?_, ?_, ?_, ?_, ?_, ?_, ?_, ?_⟩ <;> (rw [hb.cell (by rw [hz0]; simp <;> omega), hW0]; simp [go_sem]))
  have A1 : Hid (∀ w', Below W0.heap.size W0 w' → Zt w' (.agg #[.bool b1, .slice o1 m1 c1]) N1 K ∧ Zt w' (.agg #[.bool bb1, .slice oo1 mm1 cc1]) E1 K) := hid (fun w' hb => by rw [hN1, hE1]; exact (Hu.out w' (hB0.trans (hb.mono hB0.size))).num)
  have A2 : Hid (∀ w', Below W0.heap.size W0 w' → Zt w' (.agg #[.bool b2, .slice o2 m2 c2]) N2 K ∧ Zt w' (.agg #[.bool bb2, .slice oo2 mm2 cc2]) E2 K) := hid (fun w' hb => by rw [hN2, hE2]; exact (Hv.out w' (hB0.trans (hb.mono hB0.size))).num)
  have HB0 := hid hB0; have HW0 := hid hW0
  clear hW0 hB0 hz0
  clear hu hv hK hN1 hE1 hN2 hE2 e1 e2 p1 p2 Hu Hv ht
  go_enter Tryz.func25, Tryz.ntmps25
  go_upto_region 1 with (fail)
  rw [← HW0.out]
  obtain ⟨k0, k1, k2, k3, k4, k5, k6, k7⟩ := HS0.out _ (Below.refl _ _)
  go_wp2_with fail
  refine (rmul_o _ _ _ _ K (2 * K + 1) _ (A1.out _ (Below.refl _ _)).1 (A2.out _ (Below.refl _ _)).2 (by have := HK.out; omega) (by omega)).mono ?_
  rintro e wq1 ⟨b3, o3, m3, c3, rfl, H3, hbq⟩
  have hXq : Below W0.heap.size W0 wq1 := hbq
  clear k0 k1 k2 k3 k4 k5 k6 k7 hbq
  obtain ⟨W1, hW1⟩ : ∃ W, W = wq1.alloc (.cells #[.bool b3, .slice o3 m3 c3] 33) := ⟨_, rfl⟩
  have hal1 : Below wq1.heap.size wq1 W1 := by rw [hW1]; exact bl_new _
  have hXn1 : Below W0.heap.size W0 W1 := bl_tr hXq hal1
  have HS1 : Hid (∀ w', Below W1.heap.size W1 w' → (w'.cell? ⟨w.heap.size, 0, none⟩ = some (.bool b1) ∧ w'.cell? ⟨w.heap.size, 1, none⟩ = some (.slice o1 m1 c1) ∧ w'.cell? ⟨w.heap.size, 2, none⟩ = some (.bool bb1) ∧ w'.cell? ⟨w.heap.size, 3, none⟩ = some (.slice oo1 mm1 cc1) ∧ w'.cell? ⟨w.heap.size + 1, 0, none⟩ = some (.bool b2) ∧ w'.cell? ⟨w.heap.size + 1, 1, none⟩ = some (.slice o2 m2 c2) ∧ w'.cell? ⟨w.heap.size + 1, 2, none⟩ = some (.bool bb2) ∧ w'.cell? ⟨w.heap.size + 1, 3, none⟩ = some (.slice oo2 mm2 cc2)) ∧ w'.cell? ⟨wq1.heap.size, 0, none⟩ = some (.bool b3) ∧ w'.cell? ⟨wq1.heap.size, 1, none⟩ = some (.slice o3 m3 c3)) := hid (fun w' hb => by
    refine ⟨HS0.out _ (bl_tr hXn1 hb), ?_, ?_⟩ <;> (rw [hb.cell (by rw [hW1]; simp), hW1]; simp [go_sem]))
  replace A1 := hid (fun w' hb => A1.out w' (bl_tr hXn1 hb))
  replace A2 := hid (fun w' hb => A2.out w' (bl_tr hXn1 hb))
  have VX : Hid (∀ w', Below W1.heap.size W1 w' → Zt w' (.agg #[.bool b3, .slice o3 m3 c3]) (N1 * E2) (2 * K + 1)) := hid (fun w' hb => H3.out.below (bl_tr hal1 hb) (Nat.le_refl _))
  have HB1 := hid (HB0.out.trans (hXn1.mono HB0.out.size)); have HW1 := hid hW1
  clear hW1 hal1 hXn1 HS0 HB0 HW0
  clear hXq H3
  go_upto_region 2 with (fail)
  rw [← HW1.out]
  obtain ⟨⟨k0, k1, k2, k3, k4, k5, k6, k7⟩, k8, k9⟩ := HS1.out _ (Below.refl _ _)
  go_wp2_with fail
  refine (rmul_o _ _ _ _ K (2 * K + 1) _ (A2.out _ (Below.refl _ _)).1 (A1.out _ (Below.refl _ _)).2 (by have := HK.out; omega) (by omega)).mono ?_
  rintro e wq2 ⟨b4, o4, m4, c4, rfl, H4, hbq⟩
  have hXq : Below W1.heap.size W1 wq2 := hbq
  clear k0 k1 k2 k3 k4 k5 k6 k7 k8 k9 hbq
  obtain ⟨W2, hW2⟩ : ∃ W, W = wq2.alloc (.cells #[.bool b4, .slice o4 m4 c4] 33) := ⟨_, rfl⟩
  have hal2 : Below wq2.heap.size wq2 W2 := by rw [hW2]; exact bl_new _
  have hXn2 : Below W1.heap.size W1 W2 := bl_tr hXq hal2
  have HS2 : Hid (∀ w', Below W2.heap.size W2 w' → ((w'.cell? ⟨w.heap.size, 0, none⟩ = some (.bool b1) ∧ w'.cell? ⟨w.heap.size, 1, none⟩ = some (.slice o1 m1 c1) ∧ w'.cell? ⟨w.heap.size, 2, none⟩ = some (.bool bb1) ∧ w'.cell? ⟨w.heap.size, 3, none⟩ = some (.slice oo1 mm1 cc1) ∧ w'.cell? ⟨w.heap.size + 1, 0, none⟩ = some (.bool b2) ∧ w'.cell? ⟨w.heap.size + 1, 1, none⟩ = some (.slice o2 m2 c2) ∧ w'.cell? ⟨w.heap.size + 1, 2, none⟩ = some (.bool bb2) ∧ w'.cell? ⟨w.heap.size + 1, 3, none⟩ = some (.slice oo2 mm2 cc2)) ∧ w'.cell? ⟨wq1.heap.size, 0, none⟩ = some (.bool b3) ∧ w'.cell? ⟨wq1.heap.size, 1, none⟩ = some (.slice o3 m3 c3)) ∧ w'.cell? ⟨wq2.heap.size, 0, none⟩ = some (.bool b4) ∧ w'.cell? ⟨wq2.heap.size, 1, none⟩ = some (.slice o4 m4 c4)) := hid (fun w' hb => by
    refine ⟨HS1.out _ (bl_tr hXn2 hb), ?_, ?_⟩ <;> (rw [hb.cell (by rw [hW2]; simp), hW2]; simp [go_sem]))
  replace A1 := hid (fun w' hb => A1.out w' (bl_tr hXn2 hb))
  replace A2 := hid (fun w' hb => A2.out w' (bl_tr hXn2 hb))
  replace VX := hid (fun w' hb => VX.out w' (bl_tr hXn2 hb))
  have VY : Hid (∀ w', Below W2.heap.size W2 w' → Zt w' (.agg #[.bool b4, .slice o4 m4 c4]) (N2 * E1) (2 * K + 1)) := hid (fun w' hb => H4.out.below (bl_tr hal2 hb) (Nat.le_refl _))
  have HB2 := hid (HB1.out.trans (hXn2.mono HB1.out.size)); have HW2 := hid hW2
  clear hW2 hal2 hXn2 HS1 HB1 HW1
  clear hXq H4
  go_upto_region 3 with (fail)
  rw [← HW2.out]
  obtain ⟨⟨⟨k0, k1, k2, k3, k4, k5, k6, k7⟩, k8, k9⟩, k10, k11⟩ := HS2.out _ (Below.refl _ _)
  go_wp2_with fail
  refine (rcmp_t _ _ _ _ t (2 * K + 1) _ (VX.out _ (Below.refl _ _)) (VY.out _ (Below.refl _ _)) hct.out (by have := HK.out; omega)).mono ?_
  rintro e wq3 ⟨rfl, hbq⟩
  go_wp2
  go_ret
  exact ⟨rfl, HB2.out.trans (hbq.mono HB2.out.size)⟩

set_option maxRecDepth 100000 in
set_option maxHeartbeats 4000000 in
theorem tiny_any (b1 bb1 : Bool) (o1 oo1 : Option Addr) (m1 c1 mm1 cc1 : Nat) (n d t1 : Int) (w : World) (hu : Rv w (.agg #[.bool b1, .slice o1 m1 c1, .bool bb1, .slice oo1 mm1 cc1]) n d 4) (ht : max (m1 : Int) (mm1 : Int) = t1) (ht4 : t1 ≤ 4) :
    Calls Tryz.prog 47 #[(.agg #[.bool b1, .slice o1 m1 c1, .bool bb1, .slice oo1 mm1 cc1])] w fun e w' => ∃ b, e = .returned (.bool b) ∧ (b = true → (lowN n d).natAbs ≤ 2047 ∧ lowD n d ≤ 2047) ∧ Below w.heap.size w w' := by
  have hd := hu.1
  obtain ⟨N, E, hN, hE, p, e1⟩ := low_open n hd
  rw [← hN, ← hE]
  have hT := hid ht
  obtain ⟨W0, hW0⟩ : ∃ W0, W0 = (w.alloc (.cells #[.bool b1, .slice o1 m1 c1, .bool bb1, .slice oo1 mm1 cc1] 26)) := ⟨_, rfl⟩
  have hB0 : Below w.heap.size w W0 := by rw [hW0]; exact (Below.refl _ _).alloc (Nat.le_refl _) _
  have hz0 : W0.heap.size = w.heap.size + 1 := by rw [hW0]; simp
  have HS0 : Hid (∀ w', Below W0.heap.size W0 w' → w'.cell? ⟨w.heap.size, 0, none⟩ = some (.bool b1) ∧ w'.cell? ⟨w.heap.size, 1, none⟩ = some (.slice o1 m1 c1) ∧ w'.cell? ⟨w.heap.size, 2, none⟩ = some (.bool bb1) ∧ w'.cell? ⟨w.heap.size, 3, none⟩ = some (.slice oo1 mm1 cc1)) := hid (fun w' hb => by
    refine ⟨?_, ?_, ?_, ?_⟩ <;> (rw [hb.cell (by rw [hz0]; simp <;> omega), hW0]; simp [go_sem]))
  have VU : Hid (∀ w', Below W0.heap.size W0 w' → Rv w' (.agg #[.bool b1, .slice o1 m1 c1, .bool bb1, .slice oo1 mm1 cc1]) n d 4) := hid (fun w' hb => (hu.below hB0 (Nat.le_refl _)).below hb (Nat.le_refl _))
  have HB0 := hid hB0; have HW0 := hid hW0
  clear hW0 hB0 hz0
  have HN := hid hN; have HE := hid hE; have HP := hid p
  clear hu hN hE e1 p hd ht
  go_enter Tryz.func47, Tryz.ntmps47
  go_upto_region 1 with (fail)
  rw [← HW0.out]
  obtain ⟨k0, k1, k2, k3⟩ := HS0.out _ (Below.refl _ _)
  go_wp2_with fail
  refine (rfromRatio_v _ n d 4 11 _ (VU.out _ (Below.refl _ _)) (by decide) (by decide) (by decide)).mono ?_
  rintro e wq1 ⟨b3, o3, m3, c3, bb3, oo3, mm3, cc3, rfl, H3, hbq⟩
  have hXq : Below W0.heap.size W0 wq1 := hbq
  clear k0 k1 k2 k3 hbq
  obtain ⟨W1, hW1⟩ : ∃ W, W = wq1.alloc (.cells #[.bool b3, .slice o3 m3 c3, .bool bb3, .slice oo3 mm3 cc3] 35) := ⟨_, rfl⟩
  have hal1 : Below wq1.heap.size wq1 W1 := by rw [hW1]; exact bl_new _
  have hXn1 : Below W0.heap.size W0 W1 := bl_tr hXq hal1
  have HS1 : Hid (∀ w', Below W1.heap.size W1 w' → (w'.cell? ⟨w.heap.size, 0, none⟩ = some (.bool b1) ∧ w'.cell? ⟨w.heap.size, 1, none⟩ = some (.slice o1 m1 c1) ∧ w'.cell? ⟨w.heap.size, 2, none⟩ = some (.bool bb1) ∧ w'.cell? ⟨w.heap.size, 3, none⟩ = some (.slice oo1 mm1 cc1)) ∧ w'.cell? ⟨wq1.heap.size, 0, none⟩ = some (.bool b3) ∧ w'.cell? ⟨wq1.heap.size, 1, none⟩ = some (.slice o3 m3 c3) ∧ w'.cell? ⟨wq1.heap.size, 2, none⟩ = some (.bool bb3) ∧ w'.cell? ⟨wq1.heap.size, 3, none⟩ = some (.slice oo3 mm3 cc3)) := hid (fun w' hb => by
    refine ⟨HS0.out _ (bl_tr hXn1 hb), ?_, ?_, ?_, ?_⟩ <;> (rw [hb.cell (by rw [hW1]; simp), hW1]; simp [go_sem]))
  replace VU := hid (fun w' hb => VU.out w' (bl_tr hXn1 hb))
  have VP : Hid (∀ w', Below W1.heap.size W1 w' → Qv w' (.agg #[.bool b3, .slice o3 m3 c3, .bool bb3, .slice oo3 mm3 cc3]) n d 11) := hid (fun w' hb => H3.out.below (bl_tr hal1 hb) (Nat.le_refl _))
  have HB1 := hid (HB0.out.trans (hXn1.mono HB0.out.size)); have HW1 := hid hW1
  clear hW1 hal1 hXn1 HS0 HB0 HW0
  clear hXq H3
  go_upto_region 2 with (fail)
  rw [← HW1.out]
  obtain ⟨⟨k0, k1, k2, k3⟩, k4, k5, k6, k7⟩ := HS1.out _ (Below.refl _ _)
  go_wp2_with fail
  refine (rof_o 2047 _ (by decide) (by decide)).mono ?_
  rintro e wq2 ⟨b4, o4, m4, c4, rfl, H4, hbq⟩
  have hXq : Below W1.heap.size W1 wq2 := hbq
  clear k0 k1 k2 k3 k4 k5 k6 k7 hbq
  obtain ⟨W2, hW2⟩ : ∃ W, W = wq2.alloc (.cells #[.bool b4, .slice o4 m4 c4] 33) := ⟨_, rfl⟩
  have hal2 : Below wq2.heap.size wq2 W2 := by rw [hW2]; exact bl_new _
  have hXn2 : Below W1.heap.size W1 W2 := bl_tr hXq hal2
  have HS2 : Hid (∀ w', Below W2.heap.size W2 w' → ((w'.cell? ⟨w.heap.size, 0, none⟩ = some (.bool b1) ∧ w'.cell? ⟨w.heap.size, 1, none⟩ = some (.slice o1 m1 c1) ∧ w'.cell? ⟨w.heap.size, 2, none⟩ = some (.bool bb1) ∧ w'.cell? ⟨w.heap.size, 3, none⟩ = some (.slice oo1 mm1 cc1)) ∧ w'.cell? ⟨wq1.heap.size, 0, none⟩ = some (.bool b3) ∧ w'.cell? ⟨wq1.heap.size, 1, none⟩ = some (.slice o3 m3 c3) ∧ w'.cell? ⟨wq1.heap.size, 2, none⟩ = some (.bool bb3) ∧ w'.cell? ⟨wq1.heap.size, 3, none⟩ = some (.slice oo3 mm3 cc3)) ∧ w'.cell? ⟨wq2.heap.size, 0, none⟩ = some (.bool b4) ∧ w'.cell? ⟨wq2.heap.size, 1, none⟩ = some (.slice o4 m4 c4)) := hid (fun w' hb => by
    refine ⟨HS1.out _ (bl_tr hXn2 hb), ?_, ?_⟩ <;> (rw [hb.cell (by rw [hW2]; simp), hW2]; simp [go_sem]))
  replace VU := hid (fun w' hb => VU.out w' (bl_tr hXn2 hb))
  replace VP := hid (fun w' hb => VP.out w' (bl_tr hXn2 hb))
  have VM : Hid (∀ w', Below W2.heap.size W2 w' → Zt w' (.agg #[.bool b4, .slice o4 m4 c4]) 2047 4) := hid (fun w' hb => H4.out.below (bl_tr hal2 hb) (Nat.le_refl _))
  have HB2 := hid (HB1.out.trans (hXn2.mono HB1.out.size)); have HW2 := hid hW2
  clear hW2 hal2 hXn2 HS1 HB1 HW1
  clear hXq H4
  have hNq : ∀ w', Below W2.heap.size W2 w' → Zt w' (.agg #[.bool false, .slice o3 m3 c3]) (N.natAbs : Int) 11 := fun w' hb => by
    have h := (VP.out w' hb).num.1
    rw [← HN.out] at h
    obtain ⟨s, e, h⟩ := h
    cases e
    exact ⟨_, by rw [decide_eq_false (show ¬ (N.natAbs : Int) < 0 by omega)], by simpa using h⟩
  have HNq := hid hNq
  clear hNq
  go_upto_region 3 with (fail)
  rw [← HW2.out]
  obtain ⟨⟨⟨k0, k1, k2, k3⟩, k4, k5, k6, k7⟩, k8, k9⟩ := HS2.out _ (Below.refl _ _)
  go_upto_region 5 with (fail)
  obtain ⟨W5, hW5⟩ : ∃ W, W = (W2.alloc (.cells #[.bool false, .slice o3 m3 c3] 33)) := ⟨_, rfl⟩
  have hX5 : Below W2.heap.size W2 W5 := by rw [hW5]; exact bl_new _
  have hc5 : W5.cell? ⟨W2.heap.size, 0, none⟩ = some (.bool false) ∧ W5.cell? ⟨W2.heap.size, 1, none⟩ = some (.slice o3 m3 c3) := by rw [hW5]; constructor <;> simp [go_sem]
  have hl5 : W2.heap.size < W5.heap.size := by rw [hW5]; simp
  have HS5 : Hid (∀ w', Below W5.heap.size W5 w' → (((w'.cell? ⟨w.heap.size, 0, none⟩ = some (.bool b1) ∧ w'.cell? ⟨w.heap.size, 1, none⟩ = some (.slice o1 m1 c1) ∧ w'.cell? ⟨w.heap.size, 2, none⟩ = some (.bool bb1) ∧ w'.cell? ⟨w.heap.size, 3, none⟩ = some (.slice oo1 mm1 cc1)) ∧ w'.cell? ⟨wq1.heap.size, 0, none⟩ = some (.bool b3) ∧ w'.cell? ⟨wq1.heap.size, 1, none⟩ = some (.slice o3 m3 c3) ∧ w'.cell? ⟨wq1.heap.size, 2, none⟩ = some (.bool bb3) ∧ w'.cell? ⟨wq1.heap.size, 3, none⟩ = some (.slice oo3 mm3 cc3)) ∧ w'.cell? ⟨wq2.heap.size, 0, none⟩ = some (.bool b4) ∧ w'.cell? ⟨wq2.heap.size, 1, none⟩ = some (.slice o4 m4 c4)) ∧ w'.cell? ⟨W2.heap.size, 0, none⟩ = some (.bool false) ∧ w'.cell? ⟨W2.heap.size, 1, none⟩ = some (.slice o3 m3 c3)) := hid (fun w' hb => ⟨HS2.out _ (bl_tr hX5 hb), (hb.cell (p := ⟨W2.heap.size, 0, none⟩) hl5).trans hc5.1, (hb.cell (p := ⟨W2.heap.size, 1, none⟩) hl5).trans hc5.2⟩)
  rw [← hW5]
  have HX5 := hid hX5; have HB5 := hid (HB2.out.trans (hX5.mono HB2.out.size))
  clear k0 k1 k2 k3 k4 k5 k6 k7 k8 k9 hW5 hX5 hc5 hl5
  obtain ⟨⟨⟨⟨k0, k1, k2, k3⟩, k4, k5, k6, k7⟩, k8, k9⟩, kz0, kz1⟩ := HS5.out _ (Below.refl _ _)
  go_wp2_with fail
  refine (wide_t _ _ _ _ _ _ _ _ t1 _ hT.out).mono ?_
  rintro e v1 ⟨rfl, hY1⟩
  clear k0 k1 k2 k3 k4 k5 k6 k7 k8 k9 kz0 kz1
  obtain ⟨⟨⟨⟨k0, k1, k2, k3⟩, k4, k5, k6, k7⟩, k8, k9⟩, kz0, kz1⟩ := HS5.out _ hY1
  obtain ⟨x1, hx1⟩ : ∃ x, x = cmpI (N.natAbs : Int) 2047 := ⟨_, rfl⟩
  obtain ⟨x2, hx2⟩ : ∃ x, x = cmpI E 2047 := ⟨_, rfl⟩
  have HX1 := hid hx1; have HX2 := hid hx2
  have hVE : ∀ w', Below W5.heap.size W5 w' → Zt w' (.agg #[.bool bb3, .slice oo3 mm3 cc3]) E 11 := fun w' hb => by rw [HE.out]; exact (VP.out w' (bl_tr HX5.out hb)).num.2
  have HVE := hid hVE
  clear hx1 hx2 hVE
  go_wp2_with fail
  refine (rcmp_t _ _ _ _ x1 11 _ (HNq.out _ (bl_tr HX5.out hY1)) ((VM.out _ (bl_tr HX5.out hY1)).mono (by decide)) HX1.out.symm (by decide)).mono ?_
  rintro e v2 ⟨rfl, hb2⟩
  have hY2 := bl_tr hY1 hb2
  clear k0 k1 k2 k3 k4 k5 k6 k7 k8 k9 kz0 kz1 hb2
  obtain ⟨⟨⟨⟨k0, k1, k2, k3⟩, k4, k5, k6, k7⟩, k8, k9⟩, kz0, kz1⟩ := HS5.out _ hY2
  by_cases h1 : x1 ≤ 0
  · have H1 := hid h1
    go_wp2_with fail
    refine (rcmp_t _ _ _ _ x2 11 _ (HVE.out _ hY2) ((VM.out _ (bl_tr HX5.out hY2)).mono (by decide)) HX2.out.symm (by decide)).mono ?_
    rintro e v3 ⟨rfl, hb3⟩
    have hY3 := bl_tr hY2 hb3
    go_wp2
    go_ret
    refine ⟨_, rfl, fun h => ?_, HB5.out.trans (hY3.mono HB5.out.size)⟩
    have h2 : x2 ≤ 0 := by simpa using h
    have a1 := cmpI_gt0 (x := (N.natAbs : Int)) (y := 2047); have a2 := cmpI_gt0 (x := E) (y := 2047)
    rw [← HX1.out] at a1; rw [← HX2.out] at a2
    have := H1.out; exact ⟨by omega, by omega⟩
  · have h1' := h1
    go_wp2
    go_ret
    exact Or.inl ⟨rfl, HB5.out.trans (hY2.mono HB5.out.size)⟩

end Go.Proofs.YtbapeilpkhbbeaaGreat
