/- The law ExactSimplest, its walk; exact.Lowest by values. Written by gen_simplaw.py. -/
import Derived.Test.YtilpkocmdpofpaaGreatDoorSq44
/- The law ExactSimplest, its walk; exact.Lowest by values. Written by gen_simplaw.py. -/
namespace Go.Proofs.YtilpkocmdpofpaaGreatDoor
open Go.RowKit

/-- The call hands back a ratio in lowest terms, open. -/
def RetLow (w : World) (n d : Int) (R : Nat) (e : Ending) (w' : World) : Prop := ∃ N D b1 o1 m1 c1 b2 o2 m2 c2, (0 < D ∧ N * d = n * D) ∧ e = .returned (.agg #[.bool b1, .slice o1 m1 c1, .bool b2, .slice o2 m2 c2]) ∧ Hid (Ra w' (.agg #[.bool b1, .slice o1 m1 c1, .bool b2, .slice o2 m2 c2]) N D R) ∧ Below w.heap.size w w'
set_option maxRecDepth 100000 in
set_option maxHeartbeats 1000000 in
theorem Lowest_rv (v : Value) (n d : Int) (K R : Nat) (w : World) (hv : Rv w v n d K) (hK : K ≤ 1000) (hR : 2 * ((K + 1) / 2 + 1) ≤ R) :
    Calls Tryz.prog 24 #[v] w (RetLow w n d R) := by
  obtain ⟨pd, x, y, hv, h⟩ := hv
  have HRR := hid (fun (w' : World) (hb : Below w.heap.size w w') => readRatio_any v x y K w' (hv.below hb (Nat.le_refl _)) (by omega))
  obtain ⟨xb, xo, xm, xc, yb, yo, ym, yc, rfl, _, _⟩ := Ra.opened hv
  have hD := rd_pos y
  obtain ⟨z, hz⟩ : ∃ z, z = rn x y := ⟨_, rfl⟩
  obtain ⟨q, hq'⟩ : ∃ q, q = rd y := ⟨_, rfl⟩
  rw [← hz, ← hq'] at h HRR
  rw [← hq'] at hD
  have HE := hid (show 0 < lowD z q ∧ lowN z q * d = n * lowD z q by
    obtain ⟨h1, h2⟩ := low_val z hD
    exact ⟨h2, val_cut hD h1 h⟩)
  have HD0 := hid hD; have HR := hid hR; have HK := hid hK
  clear hz hq' hv h hD hR pd hK
  obtain ⟨W0, hW0⟩ : ∃ W0, W0 = ((w.alloc (.cells #[.bool xb, .slice xo xm xc, .bool yb, .slice yo ym yc] 26)).alloc (.cells #[.bool false, .slice none 0 0, .bool false, .slice none 0 0] 26)) := ⟨_, rfl⟩
  have hB0 : Below w.heap.size w W0 := by rw [hW0]; exact ((Below.refl _ _).alloc (Nat.le_refl _) _).alloc (by simp <;> omega) _
  have hz0 : W0.heap.size = w.heap.size + 2 := by rw [hW0]; simp
  have HS : Hid (∀ w', Below (w.heap.size + 1) W0 w' → w'.cell? ⟨w.heap.size, 0, none⟩ = some (.bool xb) ∧ w'.cell? ⟨w.heap.size, 1, none⟩ = some (.slice xo xm xc) ∧ w'.cell? ⟨w.heap.size, 2, none⟩ = some (.bool yb) ∧ w'.cell? ⟨w.heap.size, 3, none⟩ = some (.slice yo ym yc)) := hid (fun w' hb => by
    refine ⟨?_, ?_, ?_, ?_⟩ <;> (first | (rw [hb.cell (by simp <;> omega), hW0]; simp [go_sem]; done) | (rw [hb.frozen (by simp <;> omega), hW0]; simp [go_sem]; done)))
  have HT : Hid (∀ w', Below (w.heap.size + 2) W0 w' → (w'.cell? ⟨w.heap.size + 1, 0, none⟩ = some (.bool false) ∧ w'.cell? ⟨w.heap.size + 1, 1, none⟩ = some (.slice none 0 0) ∧ w'.cell? ⟨w.heap.size + 1, 2, none⟩ = some (.bool false) ∧ w'.cell? ⟨w.heap.size + 1, 3, none⟩ = some (.slice none 0 0)) ∧ (w'.frozen? ⟨w.heap.size + 1, 0, none⟩ = false ∧ w'.frozen? ⟨w.heap.size + 1, 1, none⟩ = false ∧ w'.frozen? ⟨w.heap.size + 1, 2, none⟩ = false ∧ w'.frozen? ⟨w.heap.size + 1, 3, none⟩ = false)) := hid (fun w' hb => by
    refine ⟨⟨?_, ?_, ?_, ?_⟩, ?_, ?_, ?_, ?_⟩ <;> (first | (rw [hb.cell (by simp <;> omega), hW0]; simp [go_sem]; done) | (rw [hb.frozen (by simp <;> omega), hW0]; simp [go_sem]; done)))
  have HB0 := hid hB0; have Hz0 := hid hz0; have HW := hid hW0
  clear hW0 hB0 hz0
  go_enter Tryz.func24, Tryz.ntmps24
  go_upto_region 1 with (fail)
  rw [← HW.out]
  obtain ⟨k0, k1, k2, k3⟩ := HS.out W0 (Below.refl _ _)
  go_wp2_with fail
  refine (HRR.out _ HB0.out).mono ?_
  rintro e w1 ⟨f1, rfl, hf1, hb1⟩
  clear k0 k1 k2 k3
  go_wp2_with fail
  refine (fracValue_any _ z q _ _ hf1 HD0.out (by have := HK.out; omega)).mono ?_
  rintro e w4 ⟨_, rfl, hr4, hb4⟩
  obtain ⟨b4, o4, m4, c4, b5, o5, m5, c5, rfl, H4, H5⟩ := FrR.opened hr4
  have hX4 : Below W0.heap.size W0 w4 := bl_tr hb1 hb4
  obtain ⟨⟨hr0, hr1, hr2, hr3⟩, hf0, hf1, hf2, hf3⟩ := HT.out _ (hX4.mono (by have := Hz0.out; omega))
  go_wp2
  have hz0 := Hz0.out; have hs3 := hb1.size
  have hw4 : Below w.heap.size w w4 := HB0.out.trans (hX4.mono HB0.out.size)
  have hlt : w.heap.size + 1 < w1.heap.size := by omega
  refine bodyPost_ret (v := .agg #[.bool b4, .slice o4 m4 c4, .bool b5, .slice o5 m5 c5]) (by simp [results, Tryz.results24, go_sem, hr0, hr1, hr2, hr3]) rfl ⟨_, _, b4, o4, m4, c4, b5, o5, m5, c5, HE.out, rfl, hid ?_, ((((hw4.setCell (by simp <;> omega) _).setCell (by simp <;> omega) _).setCell (by simp <;> omega) _).setCell (by simp <;> omega) _)⟩
  exact Ra.mono ⟨b4, o4, m4, c4, b5, o5, m5, c5, rfl, ((((H4.out.set hlt _).set hlt _).set hlt _).set hlt _).ai, ((((H5.out.set hlt _).set hlt _).set hlt _).set hlt _).ai⟩ (by have := HR.out; omega)

theorem Ra.rv {w : World} {v : Value} {N D : Int} {K : Nat} (h : Ra w v N D K) (hD : 0 < D) : Rv w v N D K := ⟨hD, N, D, h, by rw [(rn_pos N hD).1, (rn_pos N hD).2]⟩
theorem Ra.num {w : World} {b1 b2 : Bool} {o1 o2 : Option Addr} {m1 c1 m2 c2 : Nat} {N D : Int} {K : Nat} (h : Ra w (.agg #[.bool b1, .slice o1 m1 c1, .bool b2, .slice o2 m2 c2]) N D K) : Ai w (.agg #[.bool b1, .slice o1 m1 c1]) N K := by
  obtain ⟨_, _, _, _, _, _, _, _, e, h1, _⟩ := h
  simp only [Value.agg.injEq, Array.mk.injEq, List.cons.injEq, and_true] at e
  obtain ⟨e1, e2, e3, e4⟩ := e
  rw [e1, e2]; exact h1
theorem Ra.den {w : World} {b1 b2 : Bool} {o1 o2 : Option Addr} {m1 c1 m2 c2 : Nat} {N D : Int} {K : Nat} (h : Ra w (.agg #[.bool b1, .slice o1 m1 c1, .bool b2, .slice o2 m2 c2]) N D K) : Ai w (.agg #[.bool b2, .slice o2 m2 c2]) D K := by
  obtain ⟨_, _, _, _, _, _, _, _, e, _, h2⟩ := h
  simp only [Value.agg.injEq, Array.mk.injEq, List.cons.injEq, and_true] at e
  obtain ⟨e1, e2, e3, e4⟩ := e
  rw [e3, e4]; exact h2

set_option maxRecDepth 100000 in
set_option maxHeartbeats 8000000 in
theorem exactSimplest_walk (a1 a2 a3 aa1 aa2 aa3 : Bool) (p1 p2 p3 pp1 pp2 pp3 : Option Addr) (l1 l2 l3 ll1 ll2 ll3 q1 q2 q3 qq1 qq2 qq3 : Nat) (n1 d1 n2 d2 n3 d3 : Int) (w : World) (hu : Rv w (.agg #[.bool a1, .slice p1 l1 q1, .bool aa1, .slice pp1 ll1 qq1]) n1 d1 6) (hv : Rv w (.agg #[.bool a2, .slice p2 l2 q2, .bool aa2, .slice pp2 ll2 qq2]) n2 d2 6) (ht : Rv w (.agg #[.bool a3, .slice p3 l3 q3, .bool aa3, .slice pp3 ll3 qq3]) n3 d3 6) (t1 t2 t3 : Int) (ht1 : max (l1 : Int) (ll1 : Int) = t1) (ht2 : max (l2 : Int) (ll2 : Int) = t2) (ht3 : max (l3 : Int) (ll3 : Int) = t3) (g1 : ¬ 6 < t1) (g2 : ¬ 6 < t2) (g3 : ¬ 6 < t3) :
    Calls Tryz.prog 8 #[(.agg #[.bool a1, .slice p1 l1 q1, .bool aa1, .slice pp1 ll1 qq1]), (.agg #[.bool a2, .slice p2 l2 q2, .bool aa2, .slice pp2 ll2 qq2]), (.agg #[.bool a3, .slice p3 l3 q3, .bool aa3, .slice pp3 ll3 qq3])] w fun e w' => e = .returned (.bool true) ∧ Below w.heap.size w w' := by
  obtain ⟨W0, hW0⟩ : ∃ W0, W0 = (((w.alloc (.cells #[.bool a1, .slice p1 l1 q1, .bool aa1, .slice pp1 ll1 qq1] 26)).alloc (.cells #[.bool a2, .slice p2 l2 q2, .bool aa2, .slice pp2 ll2 qq2] 26)).alloc (.cells #[.bool a3, .slice p3 l3 q3, .bool aa3, .slice pp3 ll3 qq3] 26)) := ⟨_, rfl⟩
  have hB0 : Below w.heap.size w W0 := by rw [hW0]; exact (((Below.refl _ _).alloc (Nat.le_refl _) _).alloc (by simp <;> omega) _).alloc (by simp <;> omega) _
  have hz0 : W0.heap.size = w.heap.size + 3 := by rw [hW0]; simp
  have HS0 : Hid (∀ w', Below W0.heap.size W0 w' → w'.cell? ⟨w.heap.size, 0, none⟩ = some (.bool a1) ∧ w'.cell? ⟨w.heap.size, 1, none⟩ = some (.slice p1 l1 q1) ∧ w'.cell? ⟨w.heap.size, 2, none⟩ = some (.bool aa1) ∧ w'.cell? ⟨w.heap.size, 3, none⟩ = some (.slice pp1 ll1 qq1) ∧ w'.cell? ⟨w.heap.size + 1, 0, none⟩ = some (.bool a2) ∧ w'.cell? ⟨w.heap.size + 1, 1, none⟩ = some (.slice p2 l2 q2) ∧ w'.cell? ⟨w.heap.size + 1, 2, none⟩ = some (.bool aa2) ∧ w'.cell? ⟨w.heap.size + 1, 3, none⟩ = some (.slice pp2 ll2 qq2) ∧ w'.cell? ⟨w.heap.size + 2, 0, none⟩ = some (.bool a3) ∧ w'.cell? ⟨w.heap.size + 2, 1, none⟩ = some (.slice p3 l3 q3) ∧ w'.cell? ⟨w.heap.size + 2, 2, none⟩ = some (.bool aa3) ∧ w'.cell? ⟨w.heap.size + 2, 3, none⟩ = some (.slice pp3 ll3 qq3)) := hid (fun w' hb => by
    refine ⟨?_, ?_, ?_, ?_, ?_, ?_, ?_, ?_, ?_, ?_, ?_, ?_⟩ <;> (rw [hb.cell (by rw [hz0]; simp <;> omega), hW0]; simp [go_sem]))
  have VA : Hid (∀ w', Below W0.heap.size W0 w' → Rv w' (.agg #[.bool a1, .slice p1 l1 q1, .bool aa1, .slice pp1 ll1 qq1]) n1 d1 6) := hid (fun w' hb => (hu.below hB0 (Nat.le_refl _)).below hb (Nat.le_refl _))
  have VB : Hid (∀ w', Below W0.heap.size W0 w' → Rv w' (.agg #[.bool a2, .slice p2 l2 q2, .bool aa2, .slice pp2 ll2 qq2]) n2 d2 6) := hid (fun w' hb => (hv.below hB0 (Nat.le_refl _)).below hb (Nat.le_refl _))
  have VC : Hid (∀ w', Below W0.heap.size W0 w' → Rv w' (.agg #[.bool a3, .slice p3 l3 q3, .bool aa3, .slice pp3 ll3 qq3]) n3 d3 6) := hid (fun w' hb => (ht.below hB0 (Nat.le_refl _)).below hb (Nat.le_refl _))
  have T1 := hid ht1; have T2 := hid ht2; have T3 := hid ht3
  have HB0 := hid hB0; have HW0 := hid hW0
  clear hW0 hB0 hz0
  clear hu hv ht ht1 ht2 ht3
  go_enter Tryz.func8, Tryz.ntmps8
  go_wp2_with fail
  rw [← HW0.out]
  refine (alive_any _).mono ?_
  rintro e w0 ⟨rfl, hX0⟩
  obtain ⟨k0, k1, k2, k3, k4, k5, k6, k7, k8, k9, k10, k11⟩ := HS0.out _ hX0
  go_wp2_with fail
  refine (wide_t _ _ _ _ _ _ _ _ t1 _ T1.out).mono ?_
  rintro e wa1 ⟨rfl, hba1⟩
  have hXa1 := bl_tr hX0 hba1
  clear k0 k1 k2 k3 k4 k5 k6 k7 k8 k9 k10 k11 hba1
  obtain ⟨k0, k1, k2, k3, k4, k5, k6, k7, k8, k9, k10, k11⟩ := HS0.out _ hXa1
  go_wp2_with fail
  refine (wide_t _ _ _ _ _ _ _ _ t2 _ T2.out).mono ?_
  rintro e wa2 ⟨rfl, hba2⟩
  have hXa2 := bl_tr hXa1 hba2
  clear k0 k1 k2 k3 k4 k5 k6 k7 k8 k9 k10 k11 hba2
  obtain ⟨k0, k1, k2, k3, k4, k5, k6, k7, k8, k9, k10, k11⟩ := HS0.out _ hXa2
  go_wp2_with fail
  refine (wide_t _ _ _ _ _ _ _ _ t3 _ T3.out).mono ?_
  rintro e wa3 ⟨rfl, hba3⟩
  have hXa3 := bl_tr hXa2 hba3
  clear k0 k1 k2 k3 k4 k5 k6 k7 k8 k9 k10 k11 hba3
  by_cases hlt : n2 * d1 < n1 * d2
  · have Mc := hid (show cmpI (n1 * d2) (n2 * d1) = 1 from cmp_gt'' hlt)
    have Hlt := hid hlt
    clear hlt
    go_upto_region 4 with (fail)
    obtain ⟨k0, k1, k2, k3, k4, k5, k6, k7, k8, k9, k10, k11⟩ := HS0.out _ hXa3
    go_wp2_with fail
    refine (Between_err _ _ n1 d1 n2 d2 6 _ (VA.out _ hXa3) (VB.out _ hXa3) (by omega) Hlt.out).mono ?_
    rintro e wr ⟨rfl, hbr⟩
    have hXr := bl_tr hXa3 hbr
    clear k0 k1 k2 k3 k4 k5 k6 k7 k8 k9 k10 k11
    have hXr2 := hXr.alloc hXr.size (.cells #[.bool false, .slice none 0 0, .bool false, .slice none 0 0] 26)
    obtain ⟨k0, k1, k2, k3, k4, k5, k6, k7, k8, k9, k10, k11⟩ := HS0.out _ hXr2
    go_wp2_with fail
    refine (Compare_rv _ _ n1 d1 n2 d2 1 6 _ (VA.out _ hXr2) (VB.out _ hXr2) Mc.out (by omega)).mono ?_
    rintro e ws ⟨rfl, hbs⟩
    have hXs := bl_tr hXr2 hbs
    go_wp2
    go_ret
    exact ⟨rfl, HB0.out.trans (hXs.mono HB0.out.size)⟩
  · have Hle := hid (show n1 * d2 ≤ n2 * d1 by omega)
    obtain ⟨cv, hcv⟩ : ∃ t, t = cmpI (n1 * d2) (n2 * d1) := ⟨_, rfl⟩
    have hcl : ¬ 0 < cv := by rw [hcv]; have := Hle.out; unfold cmpI; (repeat' split) <;> omega
    have Mc := hid hcv.symm
    clear hlt hcv
    go_upto_region 4 with (fail)
    obtain ⟨k0, k1, k2, k3, k4, k5, k6, k7, k8, k9, k10, k11⟩ := HS0.out _ hXa3
    go_wp2_with fail
    refine (Between_rv _ _ n1 d1 n2 d2 6 8 _ (VA.out _ hXa3) (VB.out _ hXa3) (by omega) Hle.out (by omega)).mono ?_
    rintro e wq1 ⟨N, D, b1, o1, m1, c1, bb1, oo1, mm1, cc1, hbt, rfl, H1, hbq⟩
    have hXq := bl_tr hXa3 hbq
    have HBt := hid hbt
    clear k0 k1 k2 k3 k4 k5 k6 k7 k8 k9 k10 k11 hbt hbq hXa3
    have H1r := hid (H1.out.rv HBt.out.pos); have H1n := hid H1.out.num; have H1d := hid H1.out.den
    have c1l : ¬ 0 < cmpI (n1 * D) (N * d1) := by have := HBt.out.lo; unfold cmpI; (repeat' split) <;> omega
    have c2l : ¬ 0 < cmpI (N * d2) (n2 * D) := by have := HBt.out.hi; unfold cmpI; (repeat' split) <;> omega
    obtain ⟨c1v, hc1v⟩ : ∃ t, t = cmpI (n1 * D) (N * d1) := ⟨_, rfl⟩
    obtain ⟨c2v, hc2v⟩ : ∃ t, t = cmpI (N * d2) (n2 * D) := ⟨_, rfl⟩
    rw [← hc1v] at c1l
    rw [← hc2v] at c2l
    have M1 := hid hc1v.symm; have M2 := hid hc2v.symm
    clear hc1v hc2v
    obtain ⟨W1, hW1⟩ : ∃ W, W = wq1.alloc (.cells #[.bool b1, .slice o1 m1 c1, .bool bb1, .slice oo1 mm1 cc1] 26) := ⟨_, rfl⟩
    have hal1 : Below wq1.heap.size wq1 W1 := by rw [hW1]; exact bl_new _
    have hXn1 : Below W0.heap.size W0 W1 := bl_tr hXq hal1
    have HS1 : Hid (∀ w', Below W1.heap.size W1 w' → (w'.cell? ⟨w.heap.size, 0, none⟩ = some (.bool a1) ∧ w'.cell? ⟨w.heap.size, 1, none⟩ = some (.slice p1 l1 q1) ∧ w'.cell? ⟨w.heap.size, 2, none⟩ = some (.bool aa1) ∧ w'.cell? ⟨w.heap.size, 3, none⟩ = some (.slice pp1 ll1 qq1) ∧ w'.cell? ⟨w.heap.size + 1, 0, none⟩ = some (.bool a2) ∧ w'.cell? ⟨w.heap.size + 1, 1, none⟩ = some (.slice p2 l2 q2) ∧ w'.cell? ⟨w.heap.size + 1, 2, none⟩ = some (.bool aa2) ∧ w'.cell? ⟨w.heap.size + 1, 3, none⟩ = some (.slice pp2 ll2 qq2) ∧ w'.cell? ⟨w.heap.size + 2, 0, none⟩ = some (.bool a3) ∧ w'.cell? ⟨w.heap.size + 2, 1, none⟩ = some (.slice p3 l3 q3) ∧ w'.cell? ⟨w.heap.size + 2, 2, none⟩ = some (.bool aa3) ∧ w'.cell? ⟨w.heap.size + 2, 3, none⟩ = some (.slice pp3 ll3 qq3)) ∧ w'.cell? ⟨wq1.heap.size, 0, none⟩ = some (.bool b1) ∧ w'.cell? ⟨wq1.heap.size, 1, none⟩ = some (.slice o1 m1 c1) ∧ w'.cell? ⟨wq1.heap.size, 2, none⟩ = some (.bool bb1) ∧ w'.cell? ⟨wq1.heap.size, 3, none⟩ = some (.slice oo1 mm1 cc1)) := hid (fun w' hb => by
      refine ⟨HS0.out _ (bl_tr hXn1 hb), ?_, ?_, ?_, ?_⟩ <;> (rw [hb.cell (by rw [hW1]; simp), hW1]; simp [go_sem]))
    replace VA := hid (fun w' hb => VA.out w' (bl_tr hXn1 hb))
    replace VB := hid (fun w' hb => VB.out w' (bl_tr hXn1 hb))
    replace VC := hid (fun w' hb => VC.out w' (bl_tr hXn1 hb))
    have VD : Hid (∀ w', Below W1.heap.size W1 w' → Rv w' (.agg #[.bool b1, .slice o1 m1 c1, .bool bb1, .slice oo1 mm1 cc1]) N D 8) := hid (fun w' hb => H1r.out.below (bl_tr hal1 hb) (Nat.le_refl _))
    have VDn : Hid (∀ w', Below W1.heap.size W1 w' → Ai w' (.agg #[.bool b1, .slice o1 m1 c1]) N 8) := hid (fun w' hb => H1n.out.below (bl_tr hal1 hb) (Nat.le_refl _))
    have VDd : Hid (∀ w', Below W1.heap.size W1 w' → Ai w' (.agg #[.bool bb1, .slice oo1 mm1 cc1]) D 8) := hid (fun w' hb => H1d.out.below (bl_tr hal1 hb) (Nat.le_refl _))
    have HB1 := hid (HB0.out.trans (hXn1.mono HB0.out.size)); have HW1 := hid hW1
    clear hW1 hal1 hXn1 HS0 HB0 HW0
    clear hXq H1 H1r H1n H1d
    go_upto_region 5 with (fail)
    rw [← HW1.out]
    obtain ⟨⟨k0, k1, k2, k3, k4, k5, k6, k7, k8, k9, k10, k11⟩, k12, k13, k14, k15⟩ := HS1.out _ (Below.refl _ _)
    go_wp2_with fail
    refine (Compare_rv _ _ n1 d1 n2 d2 cv 6 _ (VA.out _ (Below.refl _ _)) (VB.out _ (Below.refl _ _)) Mc.out (by omega)).mono ?_
    rintro e ws ⟨rfl, hX5⟩
    clear k0 k1 k2 k3 k4 k5 k6 k7 k8 k9 k10 k11 k12 k13 k14 k15
    go_upto_region 7 with (fail)
    obtain ⟨⟨k0, k1, k2, k3, k4, k5, k6, k7, k8, k9, k10, k11⟩, k12, k13, k14, k15⟩ := HS1.out _ hX5
    go_wp2_with fail
    refine (Compare_rv _ _ n1 d1 N D c1v 8 _ ((VA.out _ hX5).mono (by omega)) (VD.out _ hX5) M1.out (by omega)).mono ?_
    rintro e wt ⟨rfl, hbt⟩
    have hX6 := bl_tr hX5 hbt
    clear k0 k1 k2 k3 k4 k5 k6 k7 k8 k9 k10 k11 k12 k13 k14 k15 hX5 hbt
    obtain ⟨⟨k0, k1, k2, k3, k4, k5, k6, k7, k8, k9, k10, k11⟩, k12, k13, k14, k15⟩ := HS1.out _ hX6
    go_wp2_with fail
    refine (Compare_rv _ _ N D n2 d2 c2v 8 _ (VD.out _ hX6) ((VB.out _ hX6).mono (by omega)) M2.out (by omega)).mono ?_
    rintro e wt2 ⟨rfl, hbt⟩
    have hX7 := bl_tr hX6 hbt
    clear k0 k1 k2 k3 k4 k5 k6 k7 k8 k9 k10 k11 k12 k13 k14 k15 hX6 hbt
    go_upto_region 9 with (fail)
    have tk1 := hid trivial
    have tk2 := hid trivial
    have tk3 := hid trivial
    go_region_held3 (fun w' => (w'.cell? ⟨w.heap.size, 0, none⟩ = some (.bool a1) ∧ w'.cell? ⟨w.heap.size, 1, none⟩ = some (.slice p1 l1 q1) ∧ w'.cell? ⟨w.heap.size, 2, none⟩ = some (.bool aa1) ∧ w'.cell? ⟨w.heap.size, 3, none⟩ = some (.slice pp1 ll1 qq1) ∧ w'.cell? ⟨w.heap.size + 1, 0, none⟩ = some (.bool a2) ∧ w'.cell? ⟨w.heap.size + 1, 1, none⟩ = some (.slice p2 l2 q2) ∧ w'.cell? ⟨w.heap.size + 1, 2, none⟩ = some (.bool aa2) ∧ w'.cell? ⟨w.heap.size + 1, 3, none⟩ = some (.slice pp2 ll2 qq2) ∧ w'.cell? ⟨w.heap.size + 2, 0, none⟩ = some (.bool a3) ∧ w'.cell? ⟨w.heap.size + 2, 1, none⟩ = some (.slice p3 l3 q3) ∧ w'.cell? ⟨w.heap.size + 2, 2, none⟩ = some (.bool aa3) ∧ w'.cell? ⟨w.heap.size + 2, 3, none⟩ = some (.slice pp3 ll3 qq3)) ∧ w'.cell? ⟨wq1.heap.size, 0, none⟩ = some (.bool b1) ∧ w'.cell? ⟨wq1.heap.size, 1, none⟩ = some (.slice o1 m1 c1) ∧ w'.cell? ⟨wq1.heap.size, 2, none⟩ = some (.bool bb1) ∧ w'.cell? ⟨wq1.heap.size, 3, none⟩ = some (.slice oo1 mm1 cc1)) ((refine HS1.out _ ?_; repeat (first | assumption | exact Below.drew (by assumption) | (refine Below.alloc ?_ (Below.size (by assumption)) _)))) (first
      | (clear tk1; go_at_call 24; refine (Lowest_rv _ n1 d1 6 8 _ (VA.out _ hX7.drew) (by omega) (by omega)).mono ?_; rintro e v1 ⟨N2, D2, b2, o2, m2, c2, bb2, oo2, mm2, cc2, hl2, rfl, H2, hq2⟩; have HL2 := hid hl2; clear hl2; have hY1 : Below W1.heap.size W1 v1 := (hX7.drew).trans (hq2.mono (hX7.drew).size))
      | (clear tk2; go_at_call 24; refine (Lowest_rv _ n2 d2 6 8 _ (VB.out _ hY1) (by omega) (by omega)).mono ?_; rintro e v2 ⟨N3, D3, b3, o3, m3, c3, bb3, oo3, mm3, cc3, hl3, rfl, H3, hq3⟩; have HL3 := hid hl3; clear hl3; have hY2 : Below W1.heap.size W1 v2 := (hY1).trans (hq3.mono (hY1).size))
      | (clear tk3; go_at_call 24; refine (Lowest_rv _ n3 d3 6 8 _ (VC.out _ hY2) (by omega) (by omega)).mono ?_; rintro e v3 ⟨N4, D4, b4, o4, m4, c4, bb4, oo4, mm4, cc4, hl4, rfl, H4, hq4⟩; have HL4 := hid hl4; clear hl4; have hY3 : Below W1.heap.size W1 v3 := (hY2).trans (hq4.mono (hY2).size)))
    have G2 := hid (Ra.below H2.out (bl_tr hq3 hq4) (Nat.le_refl _)); have G3 := hid (Ra.below H3.out hq4 (Nat.le_refl _))
    have E2r := hid (G2.out.rv HL2.out.1); have E2n := hid G2.out.num; have E2d := hid G2.out.den
    have E3r := hid (G3.out.rv HL3.out.1); have E3n := hid G3.out.num; have E3d := hid G3.out.den
    have E4r := hid (H4.out.rv HL4.out.1); have E4n := hid H4.out.num; have E4d := hid H4.out.den
    clear hX7 hY1 hY2 hq2 hq3 hq4 H2 H3
    obtain ⟨W2, hW2⟩ : ∃ W, W = v3.alloc (.cells #[.bool b2, .slice o2 m2 c2, .bool bb2, .slice oo2 mm2 cc2, .bool b3, .slice o3 m3 c3, .bool bb3, .slice oo3 mm3 cc3, .bool b4, .slice o4 m4 c4, .bool bb4, .slice oo4 mm4 cc4] 26) := ⟨_, rfl⟩
    have hal2 : Below v3.heap.size v3 W2 := by rw [hW2]; exact bl_new _
    have hXn2 : Below W1.heap.size W1 W2 := bl_tr hY3 hal2
    have HS2 : Hid (∀ w', Below W2.heap.size W2 w' → ((w'.cell? ⟨w.heap.size, 0, none⟩ = some (.bool a1) ∧ w'.cell? ⟨w.heap.size, 1, none⟩ = some (.slice p1 l1 q1) ∧ w'.cell? ⟨w.heap.size, 2, none⟩ = some (.bool aa1) ∧ w'.cell? ⟨w.heap.size, 3, none⟩ = some (.slice pp1 ll1 qq1) ∧ w'.cell? ⟨w.heap.size + 1, 0, none⟩ = some (.bool a2) ∧ w'.cell? ⟨w.heap.size + 1, 1, none⟩ = some (.slice p2 l2 q2) ∧ w'.cell? ⟨w.heap.size + 1, 2, none⟩ = some (.bool aa2) ∧ w'.cell? ⟨w.heap.size + 1, 3, none⟩ = some (.slice pp2 ll2 qq2) ∧ w'.cell? ⟨w.heap.size + 2, 0, none⟩ = some (.bool a3) ∧ w'.cell? ⟨w.heap.size + 2, 1, none⟩ = some (.slice p3 l3 q3) ∧ w'.cell? ⟨w.heap.size + 2, 2, none⟩ = some (.bool aa3) ∧ w'.cell? ⟨w.heap.size + 2, 3, none⟩ = some (.slice pp3 ll3 qq3)) ∧ w'.cell? ⟨wq1.heap.size, 0, none⟩ = some (.bool b1) ∧ w'.cell? ⟨wq1.heap.size, 1, none⟩ = some (.slice o1 m1 c1) ∧ w'.cell? ⟨wq1.heap.size, 2, none⟩ = some (.bool bb1) ∧ w'.cell? ⟨wq1.heap.size, 3, none⟩ = some (.slice oo1 mm1 cc1)) ∧ w'.cell? ⟨v3.heap.size, 0, none⟩ = some (.bool b2) ∧ w'.cell? ⟨v3.heap.size, 1, none⟩ = some (.slice o2 m2 c2) ∧ w'.cell? ⟨v3.heap.size, 2, none⟩ = some (.bool bb2) ∧ w'.cell? ⟨v3.heap.size, 3, none⟩ = some (.slice oo2 mm2 cc2) ∧ w'.cell? ⟨v3.heap.size, 4, none⟩ = some (.bool b3) ∧ w'.cell? ⟨v3.heap.size, 5, none⟩ = some (.slice o3 m3 c3) ∧ w'.cell? ⟨v3.heap.size, 6, none⟩ = some (.bool bb3) ∧ w'.cell? ⟨v3.heap.size, 7, none⟩ = some (.slice oo3 mm3 cc3) ∧ w'.cell? ⟨v3.heap.size, 8, none⟩ = some (.bool b4) ∧ w'.cell? ⟨v3.heap.size, 9, none⟩ = some (.slice o4 m4 c4) ∧ w'.cell? ⟨v3.heap.size, 10, none⟩ = some (.bool bb4) ∧ w'.cell? ⟨v3.heap.size, 11, none⟩ = some (.slice oo4 mm4 cc4)) := hid (fun w' hb => by
      refine ⟨HS1.out _ (bl_tr hXn2 hb), ?_, ?_, ?_, ?_, ?_, ?_, ?_, ?_, ?_, ?_, ?_, ?_⟩ <;> (rw [hb.cell (by rw [hW2]; simp), hW2]; simp [go_sem]))
    replace VA := hid (fun w' hb => VA.out w' (bl_tr hXn2 hb))
    replace VB := hid (fun w' hb => VB.out w' (bl_tr hXn2 hb))
    replace VC := hid (fun w' hb => VC.out w' (bl_tr hXn2 hb))
    replace VD := hid (fun w' hb => VD.out w' (bl_tr hXn2 hb))
    replace VDn := hid (fun w' hb => VDn.out w' (bl_tr hXn2 hb))
    replace VDd := hid (fun w' hb => VDd.out w' (bl_tr hXn2 hb))
    have VE2 : Hid (∀ w', Below W2.heap.size W2 w' → Rv w' (.agg #[.bool b2, .slice o2 m2 c2, .bool bb2, .slice oo2 mm2 cc2]) N2 D2 8) := hid (fun w' hb => E2r.out.below (bl_tr hal2 hb) (Nat.le_refl _))
    have VE2n : Hid (∀ w', Below W2.heap.size W2 w' → Ai w' (.agg #[.bool b2, .slice o2 m2 c2]) N2 8) := hid (fun w' hb => E2n.out.below (bl_tr hal2 hb) (Nat.le_refl _))
    have VE2d : Hid (∀ w', Below W2.heap.size W2 w' → Ai w' (.agg #[.bool bb2, .slice oo2 mm2 cc2]) D2 8) := hid (fun w' hb => E2d.out.below (bl_tr hal2 hb) (Nat.le_refl _))
    have VE3 : Hid (∀ w', Below W2.heap.size W2 w' → Rv w' (.agg #[.bool b3, .slice o3 m3 c3, .bool bb3, .slice oo3 mm3 cc3]) N3 D3 8) := hid (fun w' hb => E3r.out.below (bl_tr hal2 hb) (Nat.le_refl _))
    have VE3n : Hid (∀ w', Below W2.heap.size W2 w' → Ai w' (.agg #[.bool b3, .slice o3 m3 c3]) N3 8) := hid (fun w' hb => E3n.out.below (bl_tr hal2 hb) (Nat.le_refl _))
    have VE3d : Hid (∀ w', Below W2.heap.size W2 w' → Ai w' (.agg #[.bool bb3, .slice oo3 mm3 cc3]) D3 8) := hid (fun w' hb => E3d.out.below (bl_tr hal2 hb) (Nat.le_refl _))
    have VE4 : Hid (∀ w', Below W2.heap.size W2 w' → Rv w' (.agg #[.bool b4, .slice o4 m4 c4, .bool bb4, .slice oo4 mm4 cc4]) N4 D4 8) := hid (fun w' hb => E4r.out.below (bl_tr hal2 hb) (Nat.le_refl _))
    have VE4n : Hid (∀ w', Below W2.heap.size W2 w' → Ai w' (.agg #[.bool b4, .slice o4 m4 c4]) N4 8) := hid (fun w' hb => E4n.out.below (bl_tr hal2 hb) (Nat.le_refl _))
    have VE4d : Hid (∀ w', Below W2.heap.size W2 w' → Ai w' (.agg #[.bool bb4, .slice oo4 mm4 cc4]) D4 8) := hid (fun w' hb => E4d.out.below (bl_tr hal2 hb) (Nat.le_refl _))
    have HB2 := hid (HB1.out.trans (hXn2.mono HB1.out.size)); have HW2 := hid hW2
    clear hW2 hal2 hXn2 HS1 HB1 HW1
    clear hY3 H4 G2 G3 E2r E2n E2d E3r E3n E3d E4r E4n E4d
    go_upto_region 10 with (fail)
    rw [← HW2.out]
    have HZ := hid (Below.refl W2.heap.size W2)
    go_wp2
    go_loopw [71] (fun iv wr => ∃ k : Int, (k = 0 ∨ k = 1 ∨ k = 2 ∨ k = 3) ∧ iv = .int .i64 k ∧ Below W2.heap.size W2 wr) (fun iv wr => (3 - (intOf iv).toNat))
    case atStart => exact ⟨0, Or.inl rfl, rfl, HZ.out⟩
    case round =>
      obtain ⟨k, hk, rfl, hX⟩ := hrel
      clear HZ
      rcases hk with rfl | rfl | rfl | rfl
      · obtain ⟨e1, he1⟩ : ∃ t, t = cmpI (n1 * D2) (N2 * d1) := ⟨_, rfl⟩
        obtain ⟨e2, he2⟩ : ∃ t, t = cmpI (N2 * d2) (n2 * D2) := ⟨_, rfl⟩
        have M3 := hid he1.symm; have M4 := hid he2.symm
        have HLe := hid (show ¬ 0 < e1 → ¬ 0 < e2 → D ≤ D2 ∧ N * N ≤ N2 * N2 by
          intro h1 h2
          refine HBt.out.least N2 D2 HL2.out.1 ?_ ?_
          · rw [he1] at h1; unfold cmpI at h1; revert h1; (repeat' split) <;> omega
          · rw [he2] at h2; unfold cmpI at h2; revert h2; (repeat' split) <;> omega)
        have r1 : e1 = -1 ∨ e1 = 0 ∨ e1 = 1 := by rw [he1]; exact cmp_range _ _
        have r2 : e2 = -1 ∨ e2 = 0 ∨ e2 = 1 := by rw [he2]; exact cmp_range _ _
        have R1 := hid r1; have R2 := hid r2
        clear he1 he2 r1 r2
        go_upto_region 13 with (fail)
        have tk1 := hid trivial
        by_cases h1 : 0 < e1
        · obtain rfl : e1 = 1 := by have := R1.out; omega
          clear M4 HLe h1 R1 R2
          have HKG : Hid (AllKeep [(false, (fun wq vq => vq = Value.agg #[Value.bool a1, Value.slice p1 l1 q1, Value.bool aa1, Value.slice pp1 ll1 qq1]), undef), (false, (fun wq vq => vq = Value.slice (some { block := v3.heap.size, off := 0 }) 3 3), undef), (false, (fun wq vq => vq = Value.int IntKind.i64 0), undef), (false, (fun wq vq => vq = .pointer (some ⟨v3.heap.size, 0, none⟩)), undef), (false, (fun wq vq => vq = .agg #[.bool b2, .slice o2 m2 c2, .bool bb2, .slice oo2 mm2 cc2]), undef), (false, (fun wq vq => vq = .int .i64 1), undef), (false, (fun wq vq => vq = .bool true), undef), (false, (fun wq vq => vq = .bool true), undef), (false, (fun wq vq => vq = undef), undef), (false, (fun wq vq => vq = undef), undef), (false, (fun wq vq => vq = undef), undef), (false, (fun wq vq => vq = undef), undef), (false, (fun wq vq => vq = undef), undef), (false, (fun wq vq => vq = undef), undef), (false, (fun wq vq => vq = undef), undef), (false, (fun wq vq => vq = .bool true), undef)]) := hid ⟨kcV _, kcV _, kcV _, kcV _, kcV _, kcV _, kcV _, kcV _, kcV _, kcV _, kcV _, kcV _, kcV _, kcV _, kcV _, kcV _, trivial⟩
          refine region_inv (by kernel_rfl) (fun L act w' => ∃ f0 f1 f2 f3 f4 f5 f6 f7 f8 f9 f10 f11 f12 f13 f14 f15, L = #[f0, f1, f2, f3, f4, f5, f6, f7, f8, f9, f10, f11, f12, f13, f14, f15] ∧ ∃ s74 s75 s76 s77 s78 s79 s80 s81 s82 s83 s84 s85 s86 s87 s88 s89, act = { tmps := #[Value.agg #[Value.bool a1, Value.slice p1 l1 q1, Value.bool aa1, Value.slice pp1 ll1 qq1], Value.agg #[Value.bool a2, Value.slice p2 l2 q2, Value.bool aa2, Value.slice pp2 ll2 qq2], Value.agg #[Value.bool a3, Value.slice p3 l3 q3, Value.bool aa3, Value.slice pp3 ll3 qq3], Value.pointer (some { block := w.heap.size, off := 0 }), Value.pointer (some { block := w.heap.size + 1, off := 0 }), Value.pointer (some { block := w.heap.size + 1 + 1, off := 0 }), u6, Value.bool true, Value.pointer (some { block := wq1.heap.size, off := 0 }), Value.int IntKind.i64 0, Value.slice (some { block := v3.heap.size, off := 0 }) 3 3, Value.int IntKind.i64 0, u12, u13, Value.bool true, Value.agg #[Value.bool a1, Value.slice p1 l1 q1, Value.bool aa1, Value.slice pp1 ll1 qq1], Value.int IntKind.i64 t1, Value.bool (decide (6 < t1)), Value.bool (decide (6 < t1)), Value.agg #[Value.bool a2, Value.slice p2 l2 q2, Value.bool aa2, Value.slice pp2 ll2 qq2], Value.int IntKind.i64 t2, Value.bool (decide (6 < t2)), Value.bool (decide (6 < t1) || decide (6 < t2)), Value.bool (decide (6 < t1) || decide (6 < t2)), Value.agg #[Value.bool a3, Value.slice p3 l3 q3, Value.bool aa3, Value.slice pp3 ll3 qq3], Value.int IntKind.i64 t3, Value.bool (decide (6 < t3)), Value.bool (decide (6 < t1) || decide (6 < t2) || decide (6 < t3)), Value.bool (decide (6 < t1) || decide (6 < t2) || decide (6 < t3)), Value.bool true, Value.bool false, Value.bool (decide (6 < t1) || decide (6 < t2) || decide (6 < t3)), undef, Value.tuple #[Value.agg #[Value.bool b1, Value.slice o1 m1 c1, Value.bool bb1, Value.slice oo1 mm1 cc1], Value.int IntKind.i64 0], Value.agg #[Value.bool a1, Value.slice p1 l1 q1, Value.bool aa1, Value.slice pp1 ll1 qq1], Value.agg #[Value.bool a2, Value.slice p2 l2 q2, Value.bool aa2, Value.slice pp2 ll2 qq2], Value.tuple #[Value.agg #[Value.bool b1, Value.slice o1 m1 c1, Value.bool bb1, Value.slice oo1 mm1 cc1], Value.int IntKind.i64 0], Value.agg #[Value.bool b1, Value.slice o1 m1 c1, Value.bool bb1, Value.slice oo1 mm1 cc1], Value.int IntKind.i64 0, Value.agg #[Value.bool a1, Value.slice p1 l1 q1, Value.bool aa1, Value.slice pp1 ll1 qq1], Value.agg #[Value.bool a2, Value.slice p2 l2 q2, Value.bool aa2, Value.slice pp2 ll2 qq2], Value.int IntKind.i64 cv, Value.bool (decide (0 < cv)), undef, undef, undef, undef, undef, Value.int IntKind.i64 0, Value.bool false, Value.bool false, Value.agg #[Value.bool a1, Value.slice p1 l1 q1, Value.bool aa1, Value.slice pp1 ll1 qq1], Value.agg #[Value.bool b1, Value.slice o1 m1 c1, Value.bool bb1, Value.slice oo1 mm1 cc1], Value.int IntKind.i64 c1v, Value.bool (decide (0 < c1v)), Value.bool (decide (0 < c1v)), Value.bool (decide (0 < c1v)), Value.agg #[Value.bool b1, Value.slice o1 m1 c1, Value.bool bb1, Value.slice oo1 mm1 cc1], Value.agg #[Value.bool a2, Value.slice p2 l2 q2, Value.bool aa2, Value.slice pp2 ll2 qq2], Value.int IntKind.i64 c2v, Value.bool (decide (0 < c2v)), Value.bool (decide (0 < c1v) || decide (0 < c2v)), Value.agg #[Value.bool a1, Value.slice p1 l1 q1, Value.bool aa1, Value.slice pp1 ll1 qq1], Value.agg #[Value.bool b2, Value.slice o2 m2 c2, Value.bool bb2, Value.slice oo2 mm2 cc2], Value.agg #[Value.bool a2, Value.slice p2 l2 q2, Value.bool aa2, Value.slice pp2 ll2 qq2], Value.agg #[Value.bool b3, Value.slice o3 m3 c3, Value.bool bb3, Value.slice oo3 mm3 cc3], Value.agg #[Value.bool a3, Value.slice p3 l3 q3, Value.bool aa3, Value.slice pp3 ll3 qq3], Value.agg #[Value.bool b4, Value.slice o4 m4 c4, Value.bool bb4, Value.slice oo4 mm4 cc4], Value.slice (some { block := v3.heap.size, off := 0 }) 3 3, Value.slice (some { block := v3.heap.size, off := 0 }) 3 3, Value.int IntKind.i64 3, Value.int IntKind.i64 0, Value.bool true, Value.int IntKind.i64 0, s74, s75, s76, s77, s78, s79, s80, s81, s82, s83, s84, s85, s86, s87, s88, s89, u90, u91, u92, u93, u94, u95, u96, u97, u98, u99, u100, u101, u102, u103, u104, u105, u106, u107, u108, u109, u110, u111, u112, u113, u114, u115, u116, u117, u118, u119, u120, u121, u122, u123, u124, u125, undef], defers := [] } ∧ RX W2.heap.size W2 [(f0, (fun wq vq => vq = Value.agg #[Value.bool a1, Value.slice p1 l1 q1, Value.bool aa1, Value.slice pp1 ll1 qq1]), s74), (f1, (fun wq vq => vq = Value.slice (some { block := v3.heap.size, off := 0 }) 3 3), s75), (f2, (fun wq vq => vq = Value.int IntKind.i64 0), s76), (f3, (fun wq vq => vq = .pointer (some ⟨v3.heap.size, 0, none⟩)), s77), (f4, (fun wq vq => vq = .agg #[.bool b2, .slice o2 m2 c2, .bool bb2, .slice oo2 mm2 cc2]), s78), (f5, (fun wq vq => vq = .int .i64 1), s79), (f6, (fun wq vq => vq = .bool true), s80), (f7, (fun wq vq => vq = .bool true), s81), (f8, (fun wq vq => vq = undef), s82), (f9, (fun wq vq => vq = undef), s83), (f10, (fun wq vq => vq = undef), s84), (f11, (fun wq vq => vq = undef), s85), (f12, (fun wq vq => vq = undef), s86), (f13, (fun wq vq => vq = undef), s87), (f14, (fun wq vq => vq = undef), s88), (f15, (fun wq vq => vq = .bool true), s89)] [] w') ?_ ?_ ?_
          · exact ⟨_, _, _, _, _, _, _, _, _, _, _, _, _, _, _, _, rfl, _, _, _, _, _, _, _, _, _, _, _, _, _, _, _, _, rfl, hX.drew, hX.size, ⟨nofun, nofun, nofun, nofun, nofun, nofun, nofun, nofun, nofun, nofun, nofun, nofun, nofun, nofun, nofun, nofun, trivial⟩, trivial, trivial⟩
          · rintro L act w' i hs ⟨f0, f1, f2, f3, f4, f5, f6, f7, f8, f9, f10, f11, f12, f13, f14, f15, rfl, s74, s75, s76, s77, s78, s79, s80, s81, s82, s83, s84, s85, s86, s87, s88, s89, rfl, J⟩ hi
            obtain ⟨hi, hn, hd⟩ := waits_spec (dep := [[], [], [], [1, 2], [3], [0, 4], [5], [6, 5], [7], [7], [8, 9, 7], [10, 7], [7], [11, 12, 7], [13, 7], [7, 14]]) (by kernel_rfl) hi
            have hiN : i < 16 := hi
            obtain ⟨⟨⟨k0, k1, k2, k3, k4, k5, k6, k7, k8, k9, k10, k11⟩, k12, k13, k14, k15⟩, k16, k17, k18, k19, k20, k21, k22, k23, k24, k25, k26, k27⟩ := HS2.out w' J.bel
            have HJ := hid J
            rcases (show i = 0 ∨ i = 1 ∨ i = 2 ∨ i = 3 ∨ i = 4 ∨ i = 5 ∨ i = 6 ∨ i = 7 ∨ i = 8 ∨ i = 9 ∨ i = 10 ∨ i = 11 ∨ i = 12 ∨ i = 13 ∨ i = 14 ∨ i = 15 by omega) with rfl | rfl | rfl | rfl | rfl | rfl | rfl | rfl | rfl | rfl | rfl | rfl | rfl | rfl | rfl | rfl
            · clear J hd hi hiN hn
              refine wpOp_step rfl (fun kq hKq => ?_)
              go_simp
              exact hKq _ _ ⟨true, f1, f2, f3, f4, f5, f6, f7, f8, f9, f10, f11, f12, f13, f14, f15, rfl, _, _, _, _, _, _, _, _, _, _, _, _, _, _, _, _, rfl, HJ.out.bel, HJ.out.siz, ⟨fun _ => rfl, HJ.out.vals.2.1, HJ.out.vals.2.2.1, HJ.out.vals.2.2.2.1, HJ.out.vals.2.2.2.2.1, HJ.out.vals.2.2.2.2.2.1, HJ.out.vals.2.2.2.2.2.2.1, HJ.out.vals.2.2.2.2.2.2.2.1, HJ.out.vals.2.2.2.2.2.2.2.2.1, HJ.out.vals.2.2.2.2.2.2.2.2.2.1, HJ.out.vals.2.2.2.2.2.2.2.2.2.2.1, HJ.out.vals.2.2.2.2.2.2.2.2.2.2.2.1, HJ.out.vals.2.2.2.2.2.2.2.2.2.2.2.2.1, HJ.out.vals.2.2.2.2.2.2.2.2.2.2.2.2.2.1, HJ.out.vals.2.2.2.2.2.2.2.2.2.2.2.2.2.2.1, HJ.out.vals.2.2.2.2.2.2.2.2.2.2.2.2.2.2.2.1, trivial⟩, trivial, HJ.out.ne⟩
            · clear J hd hi hiN hn
              refine wpOp_step rfl (fun kq hKq => ?_)
              go_simp
              exact hKq _ _ ⟨f0, true, f2, f3, f4, f5, f6, f7, f8, f9, f10, f11, f12, f13, f14, f15, rfl, _, _, _, _, _, _, _, _, _, _, _, _, _, _, _, _, rfl, HJ.out.bel, HJ.out.siz, ⟨HJ.out.vals.1, fun _ => rfl, HJ.out.vals.2.2.1, HJ.out.vals.2.2.2.1, HJ.out.vals.2.2.2.2.1, HJ.out.vals.2.2.2.2.2.1, HJ.out.vals.2.2.2.2.2.2.1, HJ.out.vals.2.2.2.2.2.2.2.1, HJ.out.vals.2.2.2.2.2.2.2.2.1, HJ.out.vals.2.2.2.2.2.2.2.2.2.1, HJ.out.vals.2.2.2.2.2.2.2.2.2.2.1, HJ.out.vals.2.2.2.2.2.2.2.2.2.2.2.1, HJ.out.vals.2.2.2.2.2.2.2.2.2.2.2.2.1, HJ.out.vals.2.2.2.2.2.2.2.2.2.2.2.2.2.1, HJ.out.vals.2.2.2.2.2.2.2.2.2.2.2.2.2.2.1, HJ.out.vals.2.2.2.2.2.2.2.2.2.2.2.2.2.2.2.1, trivial⟩, trivial, HJ.out.ne⟩
            · clear J hd hi hiN hn
              refine wpOp_step rfl (fun kq hKq => ?_)
              go_simp
              exact hKq _ _ ⟨f0, f1, true, f3, f4, f5, f6, f7, f8, f9, f10, f11, f12, f13, f14, f15, rfl, _, _, _, _, _, _, _, _, _, _, _, _, _, _, _, _, rfl, HJ.out.bel, HJ.out.siz, ⟨HJ.out.vals.1, HJ.out.vals.2.1, fun _ => rfl, HJ.out.vals.2.2.2.1, HJ.out.vals.2.2.2.2.1, HJ.out.vals.2.2.2.2.2.1, HJ.out.vals.2.2.2.2.2.2.1, HJ.out.vals.2.2.2.2.2.2.2.1, HJ.out.vals.2.2.2.2.2.2.2.2.1, HJ.out.vals.2.2.2.2.2.2.2.2.2.1, HJ.out.vals.2.2.2.2.2.2.2.2.2.2.1, HJ.out.vals.2.2.2.2.2.2.2.2.2.2.2.1, HJ.out.vals.2.2.2.2.2.2.2.2.2.2.2.2.1, HJ.out.vals.2.2.2.2.2.2.2.2.2.2.2.2.2.1, HJ.out.vals.2.2.2.2.2.2.2.2.2.2.2.2.2.2.1, HJ.out.vals.2.2.2.2.2.2.2.2.2.2.2.2.2.2.2.1, trivial⟩, trivial, HJ.out.ne⟩
            · have e75 : s75 = Value.slice (some { block := v3.heap.size, off := 0 }) 3 3 := J.vals.2.1 (hd 1 (by simp))
              subst e75
              have e76 : s76 = Value.int IntKind.i64 0 := J.vals.2.2.1 (hd 2 (by simp))
              subst e76
              clear J hd hi hiN hn
              refine wpOp_step rfl (fun kq hKq => ?_)
              go_simp
              exact hKq _ _ ⟨f0, f1, f2, true, f4, f5, f6, f7, f8, f9, f10, f11, f12, f13, f14, f15, rfl, _, _, _, _, _, _, _, _, _, _, _, _, _, _, _, _, rfl, HJ.out.bel, HJ.out.siz, ⟨HJ.out.vals.1, HJ.out.vals.2.1, HJ.out.vals.2.2.1, fun _ => rfl, HJ.out.vals.2.2.2.2.1, HJ.out.vals.2.2.2.2.2.1, HJ.out.vals.2.2.2.2.2.2.1, HJ.out.vals.2.2.2.2.2.2.2.1, HJ.out.vals.2.2.2.2.2.2.2.2.1, HJ.out.vals.2.2.2.2.2.2.2.2.2.1, HJ.out.vals.2.2.2.2.2.2.2.2.2.2.1, HJ.out.vals.2.2.2.2.2.2.2.2.2.2.2.1, HJ.out.vals.2.2.2.2.2.2.2.2.2.2.2.2.1, HJ.out.vals.2.2.2.2.2.2.2.2.2.2.2.2.2.1, HJ.out.vals.2.2.2.2.2.2.2.2.2.2.2.2.2.2.1, HJ.out.vals.2.2.2.2.2.2.2.2.2.2.2.2.2.2.2.1, trivial⟩, trivial, HJ.out.ne⟩
            · have e77 : s77 = .pointer (some ⟨v3.heap.size, 0, none⟩) := J.vals.2.2.2.1 (hd 3 (by simp))
              subst e77
              clear J hd hi hiN hn
              refine wpOp_step rfl (fun kq hKq => ?_)
              go_simp
              exact hKq _ _ ⟨f0, f1, f2, f3, true, f5, f6, f7, f8, f9, f10, f11, f12, f13, f14, f15, rfl, _, _, _, _, _, _, _, _, _, _, _, _, _, _, _, _, rfl, HJ.out.bel, HJ.out.siz, ⟨HJ.out.vals.1, HJ.out.vals.2.1, HJ.out.vals.2.2.1, HJ.out.vals.2.2.2.1, fun _ => rfl, HJ.out.vals.2.2.2.2.2.1, HJ.out.vals.2.2.2.2.2.2.1, HJ.out.vals.2.2.2.2.2.2.2.1, HJ.out.vals.2.2.2.2.2.2.2.2.1, HJ.out.vals.2.2.2.2.2.2.2.2.2.1, HJ.out.vals.2.2.2.2.2.2.2.2.2.2.1, HJ.out.vals.2.2.2.2.2.2.2.2.2.2.2.1, HJ.out.vals.2.2.2.2.2.2.2.2.2.2.2.2.1, HJ.out.vals.2.2.2.2.2.2.2.2.2.2.2.2.2.1, HJ.out.vals.2.2.2.2.2.2.2.2.2.2.2.2.2.2.1, HJ.out.vals.2.2.2.2.2.2.2.2.2.2.2.2.2.2.2.1, trivial⟩, trivial, HJ.out.ne⟩
            · obtain rfl : f5 = false := hn
              have e74 : s74 = Value.agg #[Value.bool a1, Value.slice p1 l1 q1, Value.bool aa1, Value.slice pp1 ll1 qq1] := J.vals.1 (hd 0 (by simp))
              subst e74
              have e78 : s78 = .agg #[.bool b2, .slice o2 m2 c2, .bool bb2, .slice oo2 mm2 cc2] := J.vals.2.2.2.2.1 (hd 4 (by simp))
              subst e78
              have hw := J.bel
              clear J hd hi hiN
              refine wpOp_step rfl (fun kq hKq => ?_)
              go_simp
              refine (Compare_rv _ _ n1 d1 N2 D2 _ 8 _ ((VA.out _ hw).mono (by omega)) (VE2.out _ hw) M3.out (by omega)).mono ?_
              rintro e wz ⟨rfl, hb⟩
              have J2 := RX.step HJ.out HKG.out hb
              exact hKq _ _ ⟨f0, f1, f2, f3, f4, true, f6, f7, f8, f9, f10, f11, f12, f13, f14, f15, rfl, _, _, _, _, _, _, _, _, _, _, _, _, _, _, _, _, rfl, J2.bel, J2.siz, ⟨J2.vals.1, J2.vals.2.1, J2.vals.2.2.1, J2.vals.2.2.2.1, J2.vals.2.2.2.2.1, fun _ => rfl, J2.vals.2.2.2.2.2.2.1, J2.vals.2.2.2.2.2.2.2.1, J2.vals.2.2.2.2.2.2.2.2.1, J2.vals.2.2.2.2.2.2.2.2.2.1, J2.vals.2.2.2.2.2.2.2.2.2.2.1, J2.vals.2.2.2.2.2.2.2.2.2.2.2.1, J2.vals.2.2.2.2.2.2.2.2.2.2.2.2.1, J2.vals.2.2.2.2.2.2.2.2.2.2.2.2.2.1, J2.vals.2.2.2.2.2.2.2.2.2.2.2.2.2.2.1, J2.vals.2.2.2.2.2.2.2.2.2.2.2.2.2.2.2.1, trivial⟩, trivial, J2.ne⟩
            · have e79 : s79 = .int .i64 1 := J.vals.2.2.2.2.2.1 (hd 5 (by simp))
              subst e79
              clear J hd hi hiN hn
              refine wpOp_step rfl (fun kq hKq => ?_)
              go_simp
              exact hKq _ _ ⟨f0, f1, f2, f3, f4, f5, true, f7, f8, f9, f10, f11, f12, f13, f14, f15, rfl, _, _, _, _, _, _, _, _, _, _, _, _, _, _, _, _, rfl, HJ.out.bel, HJ.out.siz, ⟨HJ.out.vals.1, HJ.out.vals.2.1, HJ.out.vals.2.2.1, HJ.out.vals.2.2.2.1, HJ.out.vals.2.2.2.2.1, HJ.out.vals.2.2.2.2.2.1, fun _ => rfl, HJ.out.vals.2.2.2.2.2.2.2.1, HJ.out.vals.2.2.2.2.2.2.2.2.1, HJ.out.vals.2.2.2.2.2.2.2.2.2.1, HJ.out.vals.2.2.2.2.2.2.2.2.2.2.1, HJ.out.vals.2.2.2.2.2.2.2.2.2.2.2.1, HJ.out.vals.2.2.2.2.2.2.2.2.2.2.2.2.1, HJ.out.vals.2.2.2.2.2.2.2.2.2.2.2.2.2.1, HJ.out.vals.2.2.2.2.2.2.2.2.2.2.2.2.2.2.1, HJ.out.vals.2.2.2.2.2.2.2.2.2.2.2.2.2.2.2.1, trivial⟩, trivial, HJ.out.ne⟩
            · have e80 : s80 = .bool true := J.vals.2.2.2.2.2.2.1 (hd 6 (by simp))
              subst e80
              clear J hd hi hiN hn
              refine wpOp_step rfl (fun kq hKq => ?_)
              go_simp
              exact hKq _ _ ⟨f0, f1, f2, f3, f4, f5, f6, true, f8, f9, f10, f11, f12, f13, f14, f15, rfl, _, _, _, _, _, _, _, _, _, _, _, _, _, _, _, _, rfl, HJ.out.bel, HJ.out.siz, ⟨HJ.out.vals.1, HJ.out.vals.2.1, HJ.out.vals.2.2.1, HJ.out.vals.2.2.2.1, HJ.out.vals.2.2.2.2.1, HJ.out.vals.2.2.2.2.2.1, HJ.out.vals.2.2.2.2.2.2.1, fun _ => rfl, HJ.out.vals.2.2.2.2.2.2.2.2.1, HJ.out.vals.2.2.2.2.2.2.2.2.2.1, HJ.out.vals.2.2.2.2.2.2.2.2.2.2.1, HJ.out.vals.2.2.2.2.2.2.2.2.2.2.2.1, HJ.out.vals.2.2.2.2.2.2.2.2.2.2.2.2.1, HJ.out.vals.2.2.2.2.2.2.2.2.2.2.2.2.2.1, HJ.out.vals.2.2.2.2.2.2.2.2.2.2.2.2.2.2.1, HJ.out.vals.2.2.2.2.2.2.2.2.2.2.2.2.2.2.2.1, trivial⟩, trivial, HJ.out.ne⟩
            · have e81 : s81 = .bool true := J.vals.2.2.2.2.2.2.2.1 (hd 7 (by simp))
              subst e81
              clear J hd hi hiN hn
              refine wpOp_step rfl (fun kq hKq => ?_)
              go_simp
              exact hKq _ _ ⟨f0, f1, f2, f3, f4, f5, f6, f7, true, f9, f10, f11, f12, f13, f14, f15, rfl, _, _, _, _, _, _, _, _, _, _, _, _, _, _, _, _, rfl, HJ.out.bel, HJ.out.siz, ⟨HJ.out.vals.1, HJ.out.vals.2.1, HJ.out.vals.2.2.1, HJ.out.vals.2.2.2.1, HJ.out.vals.2.2.2.2.1, HJ.out.vals.2.2.2.2.2.1, HJ.out.vals.2.2.2.2.2.2.1, HJ.out.vals.2.2.2.2.2.2.2.1, fun _ => rfl, HJ.out.vals.2.2.2.2.2.2.2.2.2.1, HJ.out.vals.2.2.2.2.2.2.2.2.2.2.1, HJ.out.vals.2.2.2.2.2.2.2.2.2.2.2.1, HJ.out.vals.2.2.2.2.2.2.2.2.2.2.2.2.1, HJ.out.vals.2.2.2.2.2.2.2.2.2.2.2.2.2.1, HJ.out.vals.2.2.2.2.2.2.2.2.2.2.2.2.2.2.1, HJ.out.vals.2.2.2.2.2.2.2.2.2.2.2.2.2.2.2.1, trivial⟩, trivial, HJ.out.ne⟩
            · have e81 : s81 = .bool true := J.vals.2.2.2.2.2.2.2.1 (hd 7 (by simp))
              subst e81
              clear J hd hi hiN hn
              refine wpOp_step rfl (fun kq hKq => ?_)
              go_simp
              exact hKq _ _ ⟨f0, f1, f2, f3, f4, f5, f6, f7, f8, true, f10, f11, f12, f13, f14, f15, rfl, _, _, _, _, _, _, _, _, _, _, _, _, _, _, _, _, rfl, HJ.out.bel, HJ.out.siz, ⟨HJ.out.vals.1, HJ.out.vals.2.1, HJ.out.vals.2.2.1, HJ.out.vals.2.2.2.1, HJ.out.vals.2.2.2.2.1, HJ.out.vals.2.2.2.2.2.1, HJ.out.vals.2.2.2.2.2.2.1, HJ.out.vals.2.2.2.2.2.2.2.1, HJ.out.vals.2.2.2.2.2.2.2.2.1, fun _ => rfl, HJ.out.vals.2.2.2.2.2.2.2.2.2.2.1, HJ.out.vals.2.2.2.2.2.2.2.2.2.2.2.1, HJ.out.vals.2.2.2.2.2.2.2.2.2.2.2.2.1, HJ.out.vals.2.2.2.2.2.2.2.2.2.2.2.2.2.1, HJ.out.vals.2.2.2.2.2.2.2.2.2.2.2.2.2.2.1, HJ.out.vals.2.2.2.2.2.2.2.2.2.2.2.2.2.2.2.1, trivial⟩, trivial, HJ.out.ne⟩
            · have e81 : s81 = .bool true := J.vals.2.2.2.2.2.2.2.1 (hd 7 (by simp))
              subst e81
              clear J hd hi hiN hn
              refine wpOp_step rfl (fun kq hKq => ?_)
              go_simp
              exact hKq _ _ ⟨f0, f1, f2, f3, f4, f5, f6, f7, f8, f9, true, f11, f12, f13, f14, f15, rfl, _, _, _, _, _, _, _, _, _, _, _, _, _, _, _, _, rfl, HJ.out.bel, HJ.out.siz, ⟨HJ.out.vals.1, HJ.out.vals.2.1, HJ.out.vals.2.2.1, HJ.out.vals.2.2.2.1, HJ.out.vals.2.2.2.2.1, HJ.out.vals.2.2.2.2.2.1, HJ.out.vals.2.2.2.2.2.2.1, HJ.out.vals.2.2.2.2.2.2.2.1, HJ.out.vals.2.2.2.2.2.2.2.2.1, HJ.out.vals.2.2.2.2.2.2.2.2.2.1, fun _ => rfl, HJ.out.vals.2.2.2.2.2.2.2.2.2.2.2.1, HJ.out.vals.2.2.2.2.2.2.2.2.2.2.2.2.1, HJ.out.vals.2.2.2.2.2.2.2.2.2.2.2.2.2.1, HJ.out.vals.2.2.2.2.2.2.2.2.2.2.2.2.2.2.1, HJ.out.vals.2.2.2.2.2.2.2.2.2.2.2.2.2.2.2.1, trivial⟩, trivial, HJ.out.ne⟩
            · have e81 : s81 = .bool true := J.vals.2.2.2.2.2.2.2.1 (hd 7 (by simp))
              subst e81
              clear J hd hi hiN hn
              refine wpOp_step rfl (fun kq hKq => ?_)
              go_simp
              exact hKq _ _ ⟨f0, f1, f2, f3, f4, f5, f6, f7, f8, f9, f10, true, f12, f13, f14, f15, rfl, _, _, _, _, _, _, _, _, _, _, _, _, _, _, _, _, rfl, HJ.out.bel, HJ.out.siz, ⟨HJ.out.vals.1, HJ.out.vals.2.1, HJ.out.vals.2.2.1, HJ.out.vals.2.2.2.1, HJ.out.vals.2.2.2.2.1, HJ.out.vals.2.2.2.2.2.1, HJ.out.vals.2.2.2.2.2.2.1, HJ.out.vals.2.2.2.2.2.2.2.1, HJ.out.vals.2.2.2.2.2.2.2.2.1, HJ.out.vals.2.2.2.2.2.2.2.2.2.1, HJ.out.vals.2.2.2.2.2.2.2.2.2.2.1, fun _ => rfl, HJ.out.vals.2.2.2.2.2.2.2.2.2.2.2.2.1, HJ.out.vals.2.2.2.2.2.2.2.2.2.2.2.2.2.1, HJ.out.vals.2.2.2.2.2.2.2.2.2.2.2.2.2.2.1, HJ.out.vals.2.2.2.2.2.2.2.2.2.2.2.2.2.2.2.1, trivial⟩, trivial, HJ.out.ne⟩
            · have e81 : s81 = .bool true := J.vals.2.2.2.2.2.2.2.1 (hd 7 (by simp))
              subst e81
              clear J hd hi hiN hn
              refine wpOp_step rfl (fun kq hKq => ?_)
              go_simp
              exact hKq _ _ ⟨f0, f1, f2, f3, f4, f5, f6, f7, f8, f9, f10, f11, true, f13, f14, f15, rfl, _, _, _, _, _, _, _, _, _, _, _, _, _, _, _, _, rfl, HJ.out.bel, HJ.out.siz, ⟨HJ.out.vals.1, HJ.out.vals.2.1, HJ.out.vals.2.2.1, HJ.out.vals.2.2.2.1, HJ.out.vals.2.2.2.2.1, HJ.out.vals.2.2.2.2.2.1, HJ.out.vals.2.2.2.2.2.2.1, HJ.out.vals.2.2.2.2.2.2.2.1, HJ.out.vals.2.2.2.2.2.2.2.2.1, HJ.out.vals.2.2.2.2.2.2.2.2.2.1, HJ.out.vals.2.2.2.2.2.2.2.2.2.2.1, HJ.out.vals.2.2.2.2.2.2.2.2.2.2.2.1, fun _ => rfl, HJ.out.vals.2.2.2.2.2.2.2.2.2.2.2.2.2.1, HJ.out.vals.2.2.2.2.2.2.2.2.2.2.2.2.2.2.1, HJ.out.vals.2.2.2.2.2.2.2.2.2.2.2.2.2.2.2.1, trivial⟩, trivial, HJ.out.ne⟩
            · have e81 : s81 = .bool true := J.vals.2.2.2.2.2.2.2.1 (hd 7 (by simp))
              subst e81
              clear J hd hi hiN hn
              refine wpOp_step rfl (fun kq hKq => ?_)
              go_simp
              exact hKq _ _ ⟨f0, f1, f2, f3, f4, f5, f6, f7, f8, f9, f10, f11, f12, true, f14, f15, rfl, _, _, _, _, _, _, _, _, _, _, _, _, _, _, _, _, rfl, HJ.out.bel, HJ.out.siz, ⟨HJ.out.vals.1, HJ.out.vals.2.1, HJ.out.vals.2.2.1, HJ.out.vals.2.2.2.1, HJ.out.vals.2.2.2.2.1, HJ.out.vals.2.2.2.2.2.1, HJ.out.vals.2.2.2.2.2.2.1, HJ.out.vals.2.2.2.2.2.2.2.1, HJ.out.vals.2.2.2.2.2.2.2.2.1, HJ.out.vals.2.2.2.2.2.2.2.2.2.1, HJ.out.vals.2.2.2.2.2.2.2.2.2.2.1, HJ.out.vals.2.2.2.2.2.2.2.2.2.2.2.1, HJ.out.vals.2.2.2.2.2.2.2.2.2.2.2.2.1, fun _ => rfl, HJ.out.vals.2.2.2.2.2.2.2.2.2.2.2.2.2.2.1, HJ.out.vals.2.2.2.2.2.2.2.2.2.2.2.2.2.2.2.1, trivial⟩, trivial, HJ.out.ne⟩
            · have e81 : s81 = .bool true := J.vals.2.2.2.2.2.2.2.1 (hd 7 (by simp))
              subst e81
              clear J hd hi hiN hn
              refine wpOp_step rfl (fun kq hKq => ?_)
              go_simp
              exact hKq _ _ ⟨f0, f1, f2, f3, f4, f5, f6, f7, f8, f9, f10, f11, f12, f13, true, f15, rfl, _, _, _, _, _, _, _, _, _, _, _, _, _, _, _, _, rfl, HJ.out.bel, HJ.out.siz, ⟨HJ.out.vals.1, HJ.out.vals.2.1, HJ.out.vals.2.2.1, HJ.out.vals.2.2.2.1, HJ.out.vals.2.2.2.2.1, HJ.out.vals.2.2.2.2.2.1, HJ.out.vals.2.2.2.2.2.2.1, HJ.out.vals.2.2.2.2.2.2.2.1, HJ.out.vals.2.2.2.2.2.2.2.2.1, HJ.out.vals.2.2.2.2.2.2.2.2.2.1, HJ.out.vals.2.2.2.2.2.2.2.2.2.2.1, HJ.out.vals.2.2.2.2.2.2.2.2.2.2.2.1, HJ.out.vals.2.2.2.2.2.2.2.2.2.2.2.2.1, HJ.out.vals.2.2.2.2.2.2.2.2.2.2.2.2.2.1, fun _ => rfl, HJ.out.vals.2.2.2.2.2.2.2.2.2.2.2.2.2.2.2.1, trivial⟩, trivial, HJ.out.ne⟩
            · have e81 : s81 = .bool true := J.vals.2.2.2.2.2.2.2.1 (hd 7 (by simp))
              subst e81
              have e88 : s88 = undef := J.vals.2.2.2.2.2.2.2.2.2.2.2.2.2.2.1 (hd 14 (by simp))
              subst e88
              clear J hd hi hiN hn
              refine wpOp_step rfl (fun kq hKq => ?_)
              go_simp
              exact hKq _ _ ⟨f0, f1, f2, f3, f4, f5, f6, f7, f8, f9, f10, f11, f12, f13, f14, true, rfl, _, _, _, _, _, _, _, _, _, _, _, _, _, _, _, _, rfl, HJ.out.bel, HJ.out.siz, ⟨HJ.out.vals.1, HJ.out.vals.2.1, HJ.out.vals.2.2.1, HJ.out.vals.2.2.2.1, HJ.out.vals.2.2.2.2.1, HJ.out.vals.2.2.2.2.2.1, HJ.out.vals.2.2.2.2.2.2.1, HJ.out.vals.2.2.2.2.2.2.2.1, HJ.out.vals.2.2.2.2.2.2.2.2.1, HJ.out.vals.2.2.2.2.2.2.2.2.2.1, HJ.out.vals.2.2.2.2.2.2.2.2.2.2.1, HJ.out.vals.2.2.2.2.2.2.2.2.2.2.2.1, HJ.out.vals.2.2.2.2.2.2.2.2.2.2.2.2.1, HJ.out.vals.2.2.2.2.2.2.2.2.2.2.2.2.2.1, HJ.out.vals.2.2.2.2.2.2.2.2.2.2.2.2.2.2.1, fun _ => rfl, trivial⟩, trivial, HJ.out.ne⟩
          rintro L act w' hs ⟨f0, f1, f2, f3, f4, f5, f6, f7, f8, f9, f10, f11, f12, f13, f14, f15, rfl, s74, s75, s76, s77, s78, s79, s80, s81, s82, s83, s84, s85, s86, s87, s88, s89, rfl, J⟩ hr
          have hd := early_done (by kernel_rfl) hs hr 16
          obtain rfl : f0 = true := hd 0 (by omega) (by simp)
          obtain rfl : f1 = true := hd 1 (by omega) (by simp)
          obtain rfl : f2 = true := hd 2 (by omega) (by simp)
          obtain rfl : f3 = true := hd 3 (by omega) (by simp)
          obtain rfl : f4 = true := hd 4 (by omega) (by simp)
          obtain rfl : f5 = true := hd 5 (by omega) (by simp)
          obtain rfl : f6 = true := hd 6 (by omega) (by simp)
          obtain rfl : f7 = true := hd 7 (by omega) (by simp)
          obtain rfl : f8 = true := hd 8 (by omega) (by simp)
          obtain rfl : f9 = true := hd 9 (by omega) (by simp)
          obtain rfl : f10 = true := hd 10 (by omega) (by simp)
          obtain rfl : f11 = true := hd 11 (by omega) (by simp)
          obtain rfl : f12 = true := hd 12 (by omega) (by simp)
          obtain rfl : f13 = true := hd 13 (by omega) (by simp)
          obtain rfl : f14 = true := hd 14 (by omega) (by simp)
          obtain rfl : f15 = true := hd 15 (by omega) (by simp)
          have e74 : s74 = Value.agg #[Value.bool a1, Value.slice p1 l1 q1, Value.bool aa1, Value.slice pp1 ll1 qq1] := J.vals.1 rfl
          subst e74
          have e75 : s75 = Value.slice (some { block := v3.heap.size, off := 0 }) 3 3 := J.vals.2.1 rfl
          subst e75
          have e76 : s76 = Value.int IntKind.i64 0 := J.vals.2.2.1 rfl
          subst e76
          have e77 : s77 = .pointer (some ⟨v3.heap.size, 0, none⟩) := J.vals.2.2.2.1 rfl
          subst e77
          have e78 : s78 = .agg #[.bool b2, .slice o2 m2 c2, .bool bb2, .slice oo2 mm2 cc2] := J.vals.2.2.2.2.1 rfl
          subst e78
          have e79 : s79 = .int .i64 1 := J.vals.2.2.2.2.2.1 rfl
          subst e79
          have e80 : s80 = .bool true := J.vals.2.2.2.2.2.2.1 rfl
          subst e80
          have e81 : s81 = .bool true := J.vals.2.2.2.2.2.2.2.1 rfl
          subst e81
          have e82 : s82 = undef := J.vals.2.2.2.2.2.2.2.2.1 rfl
          subst e82
          have e83 : s83 = undef := J.vals.2.2.2.2.2.2.2.2.2.1 rfl
          subst e83
          have e84 : s84 = undef := J.vals.2.2.2.2.2.2.2.2.2.2.1 rfl
          subst e84
          have e85 : s85 = undef := J.vals.2.2.2.2.2.2.2.2.2.2.2.1 rfl
          subst e85
          have e86 : s86 = undef := J.vals.2.2.2.2.2.2.2.2.2.2.2.2.1 rfl
          subst e86
          have e87 : s87 = undef := J.vals.2.2.2.2.2.2.2.2.2.2.2.2.2.1 rfl
          subst e87
          have e88 : s88 = undef := J.vals.2.2.2.2.2.2.2.2.2.2.2.2.2.2.1 rfl
          subst e88
          have e89 : s89 = .bool true := J.vals.2.2.2.2.2.2.2.2.2.2.2.2.2.2.2.1 rfl
          subst e89
          have hbel := J.bel
          have hsiz := J.siz
          clear hd hr hs J
          go_wp2
          go_roundw
          case rel => exact ⟨1, by decide, rfl, hbel⟩
          case measure => simp [intOf]
        · have tk2 := hid trivial
          have dq1 := decide_eq_false h1
          have H1 := hid h1
          clear h1
          by_cases h2 : 0 < e2
          · obtain rfl : e2 = 1 := by have := R2.out; omega
            clear HLe h2 R1 R2
            go_region_held3 (fun w' => ((w'.cell? ⟨w.heap.size, 0, none⟩ = some (.bool a1) ∧ w'.cell? ⟨w.heap.size, 1, none⟩ = some (.slice p1 l1 q1) ∧ w'.cell? ⟨w.heap.size, 2, none⟩ = some (.bool aa1) ∧ w'.cell? ⟨w.heap.size, 3, none⟩ = some (.slice pp1 ll1 qq1) ∧ w'.cell? ⟨w.heap.size + 1, 0, none⟩ = some (.bool a2) ∧ w'.cell? ⟨w.heap.size + 1, 1, none⟩ = some (.slice p2 l2 q2) ∧ w'.cell? ⟨w.heap.size + 1, 2, none⟩ = some (.bool aa2) ∧ w'.cell? ⟨w.heap.size + 1, 3, none⟩ = some (.slice pp2 ll2 qq2) ∧ w'.cell? ⟨w.heap.size + 2, 0, none⟩ = some (.bool a3) ∧ w'.cell? ⟨w.heap.size + 2, 1, none⟩ = some (.slice p3 l3 q3) ∧ w'.cell? ⟨w.heap.size + 2, 2, none⟩ = some (.bool aa3) ∧ w'.cell? ⟨w.heap.size + 2, 3, none⟩ = some (.slice pp3 ll3 qq3)) ∧ w'.cell? ⟨wq1.heap.size, 0, none⟩ = some (.bool b1) ∧ w'.cell? ⟨wq1.heap.size, 1, none⟩ = some (.slice o1 m1 c1) ∧ w'.cell? ⟨wq1.heap.size, 2, none⟩ = some (.bool bb1) ∧ w'.cell? ⟨wq1.heap.size, 3, none⟩ = some (.slice oo1 mm1 cc1)) ∧ w'.cell? ⟨v3.heap.size, 0, none⟩ = some (.bool b2) ∧ w'.cell? ⟨v3.heap.size, 1, none⟩ = some (.slice o2 m2 c2) ∧ w'.cell? ⟨v3.heap.size, 2, none⟩ = some (.bool bb2) ∧ w'.cell? ⟨v3.heap.size, 3, none⟩ = some (.slice oo2 mm2 cc2) ∧ w'.cell? ⟨v3.heap.size, 4, none⟩ = some (.bool b3) ∧ w'.cell? ⟨v3.heap.size, 5, none⟩ = some (.slice o3 m3 c3) ∧ w'.cell? ⟨v3.heap.size, 6, none⟩ = some (.bool bb3) ∧ w'.cell? ⟨v3.heap.size, 7, none⟩ = some (.slice oo3 mm3 cc3) ∧ w'.cell? ⟨v3.heap.size, 8, none⟩ = some (.bool b4) ∧ w'.cell? ⟨v3.heap.size, 9, none⟩ = some (.slice o4 m4 c4) ∧ w'.cell? ⟨v3.heap.size, 10, none⟩ = some (.bool bb4) ∧ w'.cell? ⟨v3.heap.size, 11, none⟩ = some (.slice oo4 mm4 cc4)) ((refine HS2.out _ ?_; first | assumption | exact Below.drew (by assumption))) (first
                | (clear tk1; go_at_call 38; refine (Compare_rv _ _ n1 d1 N2 D2 _ 8 _ ((VA.out _ hX.drew).mono (by omega)) (VE2.out _ hX.drew) M3.out (by omega)).mono ?_; rintro e u1 ⟨rfl, hb1⟩; have hY1 : Below W2.heap.size W2 u1 := hX.drew.trans (hb1.mono hX.size))
                | (clear tk2; go_at_call 38; refine (Compare_rv _ _ N2 D2 n2 d2 _ 8 _ (VE2.out _ hY1) ((VB.out _ hY1).mono (by omega)) M4.out (by omega)).mono ?_; rintro e u2 ⟨rfl, hb2⟩; have hY2 : Below W2.heap.size W2 u2 := hY1.trans (hb2.mono hY1.size)))
            go_wp2
            go_roundw
            case rel => exact ⟨1, by decide, rfl, hY2⟩
            case measure => simp [intOf]
          · have HLe2 := hid (HLe.out H1.out h2)
            have dq2 := decide_eq_false h2
            clear HLe h2
            go_region_held3 (fun w' => ((w'.cell? ⟨w.heap.size, 0, none⟩ = some (.bool a1) ∧ w'.cell? ⟨w.heap.size, 1, none⟩ = some (.slice p1 l1 q1) ∧ w'.cell? ⟨w.heap.size, 2, none⟩ = some (.bool aa1) ∧ w'.cell? ⟨w.heap.size, 3, none⟩ = some (.slice pp1 ll1 qq1) ∧ w'.cell? ⟨w.heap.size + 1, 0, none⟩ = some (.bool a2) ∧ w'.cell? ⟨w.heap.size + 1, 1, none⟩ = some (.slice p2 l2 q2) ∧ w'.cell? ⟨w.heap.size + 1, 2, none⟩ = some (.bool aa2) ∧ w'.cell? ⟨w.heap.size + 1, 3, none⟩ = some (.slice pp2 ll2 qq2) ∧ w'.cell? ⟨w.heap.size + 2, 0, none⟩ = some (.bool a3) ∧ w'.cell? ⟨w.heap.size + 2, 1, none⟩ = some (.slice p3 l3 q3) ∧ w'.cell? ⟨w.heap.size + 2, 2, none⟩ = some (.bool aa3) ∧ w'.cell? ⟨w.heap.size + 2, 3, none⟩ = some (.slice pp3 ll3 qq3)) ∧ w'.cell? ⟨wq1.heap.size, 0, none⟩ = some (.bool b1) ∧ w'.cell? ⟨wq1.heap.size, 1, none⟩ = some (.slice o1 m1 c1) ∧ w'.cell? ⟨wq1.heap.size, 2, none⟩ = some (.bool bb1) ∧ w'.cell? ⟨wq1.heap.size, 3, none⟩ = some (.slice oo1 mm1 cc1)) ∧ w'.cell? ⟨v3.heap.size, 0, none⟩ = some (.bool b2) ∧ w'.cell? ⟨v3.heap.size, 1, none⟩ = some (.slice o2 m2 c2) ∧ w'.cell? ⟨v3.heap.size, 2, none⟩ = some (.bool bb2) ∧ w'.cell? ⟨v3.heap.size, 3, none⟩ = some (.slice oo2 mm2 cc2) ∧ w'.cell? ⟨v3.heap.size, 4, none⟩ = some (.bool b3) ∧ w'.cell? ⟨v3.heap.size, 5, none⟩ = some (.slice o3 m3 c3) ∧ w'.cell? ⟨v3.heap.size, 6, none⟩ = some (.bool bb3) ∧ w'.cell? ⟨v3.heap.size, 7, none⟩ = some (.slice oo3 mm3 cc3) ∧ w'.cell? ⟨v3.heap.size, 8, none⟩ = some (.bool b4) ∧ w'.cell? ⟨v3.heap.size, 9, none⟩ = some (.slice o4 m4 c4) ∧ w'.cell? ⟨v3.heap.size, 10, none⟩ = some (.bool bb4) ∧ w'.cell? ⟨v3.heap.size, 11, none⟩ = some (.slice oo4 mm4 cc4)) ((refine HS2.out _ ?_; first | assumption | exact Below.drew (by assumption))) (first
                | (clear tk1; go_at_call 38; refine (Compare_rv _ _ n1 d1 N2 D2 _ 8 _ ((VA.out _ hX.drew).mono (by omega)) (VE2.out _ hX.drew) M3.out (by omega)).mono ?_; rintro e u1 ⟨rfl, hb1⟩; have hY1 : Below W2.heap.size W2 u1 := hX.drew.trans (hb1.mono hX.size))
                | (clear tk2; go_at_call 38; refine (Compare_rv _ _ N2 D2 n2 d2 _ 8 _ (VE2.out _ hY1) ((VB.out _ hY1).mono (by omega)) M4.out (by omega)).mono ?_; rintro e u2 ⟨rfl, hb2⟩; have hY2 : Below W2.heap.size W2 u2 := hY1.trans (hb2.mono hY1.size)))
            obtain ⟨e3, he3⟩ : ∃ t, t = cmpI D D2 := ⟨_, rfl⟩
            obtain ⟨e4, he4⟩ : ∃ t, t = cmpI (N2 * N2) (N * N) := ⟨_, rfl⟩
            have h4 : ¬ e4 < 0 := by rw [he4]; have := HLe2.out.2; unfold cmpI; (repeat' split) <;> omega
            have h3 : e3 = -1 ∨ e3 = 0 := by rw [he3]; have := HLe2.out.1; unfold cmpI; (repeat' split) <;> omega
            have M5 := hid he3.symm; have M6 := hid he4.symm
            clear he3 he4 hX hY1 dq1 dq2
            go_upto_region 14 with (fail)
            have tk3 := hid trivial
            go_region_held3 (fun w' => ((w'.cell? ⟨w.heap.size, 0, none⟩ = some (.bool a1) ∧ w'.cell? ⟨w.heap.size, 1, none⟩ = some (.slice p1 l1 q1) ∧ w'.cell? ⟨w.heap.size, 2, none⟩ = some (.bool aa1) ∧ w'.cell? ⟨w.heap.size, 3, none⟩ = some (.slice pp1 ll1 qq1) ∧ w'.cell? ⟨w.heap.size + 1, 0, none⟩ = some (.bool a2) ∧ w'.cell? ⟨w.heap.size + 1, 1, none⟩ = some (.slice p2 l2 q2) ∧ w'.cell? ⟨w.heap.size + 1, 2, none⟩ = some (.bool aa2) ∧ w'.cell? ⟨w.heap.size + 1, 3, none⟩ = some (.slice pp2 ll2 qq2) ∧ w'.cell? ⟨w.heap.size + 2, 0, none⟩ = some (.bool a3) ∧ w'.cell? ⟨w.heap.size + 2, 1, none⟩ = some (.slice p3 l3 q3) ∧ w'.cell? ⟨w.heap.size + 2, 2, none⟩ = some (.bool aa3) ∧ w'.cell? ⟨w.heap.size + 2, 3, none⟩ = some (.slice pp3 ll3 qq3)) ∧ w'.cell? ⟨wq1.heap.size, 0, none⟩ = some (.bool b1) ∧ w'.cell? ⟨wq1.heap.size, 1, none⟩ = some (.slice o1 m1 c1) ∧ w'.cell? ⟨wq1.heap.size, 2, none⟩ = some (.bool bb1) ∧ w'.cell? ⟨wq1.heap.size, 3, none⟩ = some (.slice oo1 mm1 cc1)) ∧ w'.cell? ⟨v3.heap.size, 0, none⟩ = some (.bool b2) ∧ w'.cell? ⟨v3.heap.size, 1, none⟩ = some (.slice o2 m2 c2) ∧ w'.cell? ⟨v3.heap.size, 2, none⟩ = some (.bool bb2) ∧ w'.cell? ⟨v3.heap.size, 3, none⟩ = some (.slice oo2 mm2 cc2) ∧ w'.cell? ⟨v3.heap.size, 4, none⟩ = some (.bool b3) ∧ w'.cell? ⟨v3.heap.size, 5, none⟩ = some (.slice o3 m3 c3) ∧ w'.cell? ⟨v3.heap.size, 6, none⟩ = some (.bool bb3) ∧ w'.cell? ⟨v3.heap.size, 7, none⟩ = some (.slice oo3 mm3 cc3) ∧ w'.cell? ⟨v3.heap.size, 8, none⟩ = some (.bool b4) ∧ w'.cell? ⟨v3.heap.size, 9, none⟩ = some (.slice o4 m4 c4) ∧ w'.cell? ⟨v3.heap.size, 10, none⟩ = some (.bool bb4) ∧ w'.cell? ⟨v3.heap.size, 11, none⟩ = some (.slice oo4 mm4 cc4)) ((refine HS2.out _ ?_; first | assumption | exact Below.drew (by assumption))) (first
                | (clear tk3; go_at_call 48; refine (cmp_z _ _ D D2 e3 8 _ (VDd.out _ hY2.drew) (VE2d.out _ hY2.drew) M5.out (by omega)).mono ?_; rintro e u3 ⟨rfl, hb3⟩; have hY3 : Below W2.heap.size W2 u3 := hY2.drew.trans (hb3.mono hY2.size)))
            clear hY2
            go_upto_region 15 with (fail)
            have tk4 := hid trivial; have tk5 := hid trivial; have tk6 := hid trivial
            go_region_held3 (fun w' => ((w'.cell? ⟨w.heap.size, 0, none⟩ = some (.bool a1) ∧ w'.cell? ⟨w.heap.size, 1, none⟩ = some (.slice p1 l1 q1) ∧ w'.cell? ⟨w.heap.size, 2, none⟩ = some (.bool aa1) ∧ w'.cell? ⟨w.heap.size, 3, none⟩ = some (.slice pp1 ll1 qq1) ∧ w'.cell? ⟨w.heap.size + 1, 0, none⟩ = some (.bool a2) ∧ w'.cell? ⟨w.heap.size + 1, 1, none⟩ = some (.slice p2 l2 q2) ∧ w'.cell? ⟨w.heap.size + 1, 2, none⟩ = some (.bool aa2) ∧ w'.cell? ⟨w.heap.size + 1, 3, none⟩ = some (.slice pp2 ll2 qq2) ∧ w'.cell? ⟨w.heap.size + 2, 0, none⟩ = some (.bool a3) ∧ w'.cell? ⟨w.heap.size + 2, 1, none⟩ = some (.slice p3 l3 q3) ∧ w'.cell? ⟨w.heap.size + 2, 2, none⟩ = some (.bool aa3) ∧ w'.cell? ⟨w.heap.size + 2, 3, none⟩ = some (.slice pp3 ll3 qq3)) ∧ w'.cell? ⟨wq1.heap.size, 0, none⟩ = some (.bool b1) ∧ w'.cell? ⟨wq1.heap.size, 1, none⟩ = some (.slice o1 m1 c1) ∧ w'.cell? ⟨wq1.heap.size, 2, none⟩ = some (.bool bb1) ∧ w'.cell? ⟨wq1.heap.size, 3, none⟩ = some (.slice oo1 mm1 cc1)) ∧ w'.cell? ⟨v3.heap.size, 0, none⟩ = some (.bool b2) ∧ w'.cell? ⟨v3.heap.size, 1, none⟩ = some (.slice o2 m2 c2) ∧ w'.cell? ⟨v3.heap.size, 2, none⟩ = some (.bool bb2) ∧ w'.cell? ⟨v3.heap.size, 3, none⟩ = some (.slice oo2 mm2 cc2) ∧ w'.cell? ⟨v3.heap.size, 4, none⟩ = some (.bool b3) ∧ w'.cell? ⟨v3.heap.size, 5, none⟩ = some (.slice o3 m3 c3) ∧ w'.cell? ⟨v3.heap.size, 6, none⟩ = some (.bool bb3) ∧ w'.cell? ⟨v3.heap.size, 7, none⟩ = some (.slice oo3 mm3 cc3) ∧ w'.cell? ⟨v3.heap.size, 8, none⟩ = some (.bool b4) ∧ w'.cell? ⟨v3.heap.size, 9, none⟩ = some (.slice o4 m4 c4) ∧ w'.cell? ⟨v3.heap.size, 10, none⟩ = some (.bool bb4) ∧ w'.cell? ⟨v3.heap.size, 11, none⟩ = some (.slice oo4 mm4 cc4)) ((refine HS2.out _ ?_; first | assumption | exact Below.drew (by assumption))) (first
                | (clear tk4; go_at_call 43; refine (mul_z _ _ N2 N2 (N2 * N2) 8 8 18 _ (VE2n.out _ hY3.drew) (VE2n.out _ hY3.drew) rfl (by omega) (by omega) (by omega)).mono ?_; rintro e u4 ⟨b5, o5, m5, c5, rfl, H5, hb4⟩; have hY4 : Below W2.heap.size W2 u4 := hY3.drew.trans (hb4.mono hY3.size))
                | (clear tk5; go_at_call 43; refine (mul_z _ _ N N (N * N) 8 8 18 _ (VDn.out _ hY4) (VDn.out _ hY4) rfl (by omega) (by omega) (by omega)).mono ?_; rintro e u5 ⟨b6, o6, m6, c6, rfl, H6, hb5⟩; have hY5 : Below W2.heap.size W2 u5 := hY4.trans (hb5.mono hY4.size))
                | (clear tk6; go_at_call 48; refine (cmp_z _ _ (N2 * N2) (N * N) e4 18 _ (H5.out.below hb5 (Nat.le_refl _)) H6.out M6.out (by omega)).mono ?_; rintro e u6 ⟨rfl, hb6⟩; have hY6 : Below W2.heap.size W2 u6 := hY5.trans (hb6.mono hY5.size)))
            have HY6 := hid hY6
            clear hY3 hY4 hY5 hY6 M5 M6
            rcases h3 with rfl | rfl
            · go_wp2
              go_roundw
              case rel => exact ⟨1, by decide, rfl, HY6.out⟩
              case measure => simp [intOf]
            · go_wp2
              go_roundw
              case rel => exact ⟨1, by decide, rfl, HY6.out⟩
              case measure => simp [intOf]
      · obtain ⟨e1, he1⟩ : ∃ t, t = cmpI (n1 * D3) (N3 * d1) := ⟨_, rfl⟩
        obtain ⟨e2, he2⟩ : ∃ t, t = cmpI (N3 * d2) (n2 * D3) := ⟨_, rfl⟩
        have M3 := hid he1.symm; have M4 := hid he2.symm
        have HLe := hid (show ¬ 0 < e1 → ¬ 0 < e2 → D ≤ D3 ∧ N * N ≤ N3 * N3 by
          intro h1 h2
          refine HBt.out.least N3 D3 HL3.out.1 ?_ ?_
          · rw [he1] at h1; unfold cmpI at h1; revert h1; (repeat' split) <;> omega
          · rw [he2] at h2; unfold cmpI at h2; revert h2; (repeat' split) <;> omega)
        have r1 : e1 = -1 ∨ e1 = 0 ∨ e1 = 1 := by rw [he1]; exact cmp_range _ _
        have r2 : e2 = -1 ∨ e2 = 0 ∨ e2 = 1 := by rw [he2]; exact cmp_range _ _
        have R1 := hid r1; have R2 := hid r2
        clear he1 he2 r1 r2
        go_upto_region 13 with (fail)
        have tk1 := hid trivial
        by_cases h1 : 0 < e1
        · obtain rfl : e1 = 1 := by have := R1.out; omega
          clear M4 HLe h1 R1 R2
          have HKG : Hid (AllKeep [(false, (fun wq vq => vq = Value.agg #[Value.bool a1, Value.slice p1 l1 q1, Value.bool aa1, Value.slice pp1 ll1 qq1]), undef), (false, (fun wq vq => vq = Value.slice (some { block := v3.heap.size, off := 0 }) 3 3), undef), (false, (fun wq vq => vq = Value.int IntKind.i64 1), undef), (false, (fun wq vq => vq = .pointer (some ⟨v3.heap.size, 4, none⟩)), undef), (false, (fun wq vq => vq = .agg #[.bool b3, .slice o3 m3 c3, .bool bb3, .slice oo3 mm3 cc3]), undef), (false, (fun wq vq => vq = .int .i64 1), undef), (false, (fun wq vq => vq = .bool true), undef), (false, (fun wq vq => vq = .bool true), undef), (false, (fun wq vq => vq = undef), undef), (false, (fun wq vq => vq = undef), undef), (false, (fun wq vq => vq = undef), undef), (false, (fun wq vq => vq = undef), undef), (false, (fun wq vq => vq = undef), undef), (false, (fun wq vq => vq = undef), undef), (false, (fun wq vq => vq = undef), undef), (false, (fun wq vq => vq = .bool true), undef)]) := hid ⟨kcV _, kcV _, kcV _, kcV _, kcV _, kcV _, kcV _, kcV _, kcV _, kcV _, kcV _, kcV _, kcV _, kcV _, kcV _, kcV _, trivial⟩
          refine region_inv (by kernel_rfl) (fun L act w' => ∃ f0 f1 f2 f3 f4 f5 f6 f7 f8 f9 f10 f11 f12 f13 f14 f15, L = #[f0, f1, f2, f3, f4, f5, f6, f7, f8, f9, f10, f11, f12, f13, f14, f15] ∧ ∃ s74 s75 s76 s77 s78 s79 s80 s81 s82 s83 s84 s85 s86 s87 s88 s89, act = { tmps := #[Value.agg #[Value.bool a1, Value.slice p1 l1 q1, Value.bool aa1, Value.slice pp1 ll1 qq1], Value.agg #[Value.bool a2, Value.slice p2 l2 q2, Value.bool aa2, Value.slice pp2 ll2 qq2], Value.agg #[Value.bool a3, Value.slice p3 l3 q3, Value.bool aa3, Value.slice pp3 ll3 qq3], Value.pointer (some { block := w.heap.size, off := 0 }), Value.pointer (some { block := w.heap.size + 1, off := 0 }), Value.pointer (some { block := w.heap.size + 1 + 1, off := 0 }), u6, Value.bool true, Value.pointer (some { block := wq1.heap.size, off := 0 }), Value.int IntKind.i64 0, Value.slice (some { block := v3.heap.size, off := 0 }) 3 3, Value.int IntKind.i64 1, u12, u13, Value.bool true, Value.agg #[Value.bool a1, Value.slice p1 l1 q1, Value.bool aa1, Value.slice pp1 ll1 qq1], Value.int IntKind.i64 t1, Value.bool (decide (6 < t1)), Value.bool (decide (6 < t1)), Value.agg #[Value.bool a2, Value.slice p2 l2 q2, Value.bool aa2, Value.slice pp2 ll2 qq2], Value.int IntKind.i64 t2, Value.bool (decide (6 < t2)), Value.bool (decide (6 < t1) || decide (6 < t2)), Value.bool (decide (6 < t1) || decide (6 < t2)), Value.agg #[Value.bool a3, Value.slice p3 l3 q3, Value.bool aa3, Value.slice pp3 ll3 qq3], Value.int IntKind.i64 t3, Value.bool (decide (6 < t3)), Value.bool (decide (6 < t1) || decide (6 < t2) || decide (6 < t3)), Value.bool (decide (6 < t1) || decide (6 < t2) || decide (6 < t3)), Value.bool true, Value.bool false, Value.bool (decide (6 < t1) || decide (6 < t2) || decide (6 < t3)), undef, Value.tuple #[Value.agg #[Value.bool b1, Value.slice o1 m1 c1, Value.bool bb1, Value.slice oo1 mm1 cc1], Value.int IntKind.i64 0], Value.agg #[Value.bool a1, Value.slice p1 l1 q1, Value.bool aa1, Value.slice pp1 ll1 qq1], Value.agg #[Value.bool a2, Value.slice p2 l2 q2, Value.bool aa2, Value.slice pp2 ll2 qq2], Value.tuple #[Value.agg #[Value.bool b1, Value.slice o1 m1 c1, Value.bool bb1, Value.slice oo1 mm1 cc1], Value.int IntKind.i64 0], Value.agg #[Value.bool b1, Value.slice o1 m1 c1, Value.bool bb1, Value.slice oo1 mm1 cc1], Value.int IntKind.i64 0, Value.agg #[Value.bool a1, Value.slice p1 l1 q1, Value.bool aa1, Value.slice pp1 ll1 qq1], Value.agg #[Value.bool a2, Value.slice p2 l2 q2, Value.bool aa2, Value.slice pp2 ll2 qq2], Value.int IntKind.i64 cv, Value.bool (decide (0 < cv)), undef, undef, undef, undef, undef, Value.int IntKind.i64 0, Value.bool false, Value.bool false, Value.agg #[Value.bool a1, Value.slice p1 l1 q1, Value.bool aa1, Value.slice pp1 ll1 qq1], Value.agg #[Value.bool b1, Value.slice o1 m1 c1, Value.bool bb1, Value.slice oo1 mm1 cc1], Value.int IntKind.i64 c1v, Value.bool (decide (0 < c1v)), Value.bool (decide (0 < c1v)), Value.bool (decide (0 < c1v)), Value.agg #[Value.bool b1, Value.slice o1 m1 c1, Value.bool bb1, Value.slice oo1 mm1 cc1], Value.agg #[Value.bool a2, Value.slice p2 l2 q2, Value.bool aa2, Value.slice pp2 ll2 qq2], Value.int IntKind.i64 c2v, Value.bool (decide (0 < c2v)), Value.bool (decide (0 < c1v) || decide (0 < c2v)), Value.agg #[Value.bool a1, Value.slice p1 l1 q1, Value.bool aa1, Value.slice pp1 ll1 qq1], Value.agg #[Value.bool b2, Value.slice o2 m2 c2, Value.bool bb2, Value.slice oo2 mm2 cc2], Value.agg #[Value.bool a2, Value.slice p2 l2 q2, Value.bool aa2, Value.slice pp2 ll2 qq2], Value.agg #[Value.bool b3, Value.slice o3 m3 c3, Value.bool bb3, Value.slice oo3 mm3 cc3], Value.agg #[Value.bool a3, Value.slice p3 l3 q3, Value.bool aa3, Value.slice pp3 ll3 qq3], Value.agg #[Value.bool b4, Value.slice o4 m4 c4, Value.bool bb4, Value.slice oo4 mm4 cc4], Value.slice (some { block := v3.heap.size, off := 0 }) 3 3, Value.slice (some { block := v3.heap.size, off := 0 }) 3 3, Value.int IntKind.i64 3, Value.int IntKind.i64 1, Value.bool true, Value.int IntKind.i64 1, s74, s75, s76, s77, s78, s79, s80, s81, s82, s83, s84, s85, s86, s87, s88, s89, u90, u91, u92, u93, u94, u95, u96, u97, u98, u99, u100, u101, u102, u103, u104, u105, u106, u107, u108, u109, u110, u111, u112, u113, u114, u115, u116, u117, u118, u119, u120, u121, u122, u123, u124, u125, undef], defers := [] } ∧ RX W2.heap.size W2 [(f0, (fun wq vq => vq = Value.agg #[Value.bool a1, Value.slice p1 l1 q1, Value.bool aa1, Value.slice pp1 ll1 qq1]), s74), (f1, (fun wq vq => vq = Value.slice (some { block := v3.heap.size, off := 0 }) 3 3), s75), (f2, (fun wq vq => vq = Value.int IntKind.i64 1), s76), (f3, (fun wq vq => vq = .pointer (some ⟨v3.heap.size, 4, none⟩)), s77), (f4, (fun wq vq => vq = .agg #[.bool b3, .slice o3 m3 c3, .bool bb3, .slice oo3 mm3 cc3]), s78), (f5, (fun wq vq => vq = .int .i64 1), s79), (f6, (fun wq vq => vq = .bool true), s80), (f7, (fun wq vq => vq = .bool true), s81), (f8, (fun wq vq => vq = undef), s82), (f9, (fun wq vq => vq = undef), s83), (f10, (fun wq vq => vq = undef), s84), (f11, (fun wq vq => vq = undef), s85), (f12, (fun wq vq => vq = undef), s86), (f13, (fun wq vq => vq = undef), s87), (f14, (fun wq vq => vq = undef), s88), (f15, (fun wq vq => vq = .bool true), s89)] [] w') ?_ ?_ ?_
          · exact ⟨_, _, _, _, _, _, _, _, _, _, _, _, _, _, _, _, rfl, _, _, _, _, _, _, _, _, _, _, _, _, _, _, _, _, rfl, hX.drew, hX.size, ⟨nofun, nofun, nofun, nofun, nofun, nofun, nofun, nofun, nofun, nofun, nofun, nofun, nofun, nofun, nofun, nofun, trivial⟩, trivial, trivial⟩
          · rintro L act w' i hs ⟨f0, f1, f2, f3, f4, f5, f6, f7, f8, f9, f10, f11, f12, f13, f14, f15, rfl, s74, s75, s76, s77, s78, s79, s80, s81, s82, s83, s84, s85, s86, s87, s88, s89, rfl, J⟩ hi
            obtain ⟨hi, hn, hd⟩ := waits_spec (dep := [[], [], [], [1, 2], [3], [0, 4], [5], [6, 5], [7], [7], [8, 9, 7], [10, 7], [7], [11, 12, 7], [13, 7], [7, 14]]) (by kernel_rfl) hi
            have hiN : i < 16 := hi
            obtain ⟨⟨⟨k0, k1, k2, k3, k4, k5, k6, k7, k8, k9, k10, k11⟩, k12, k13, k14, k15⟩, k16, k17, k18, k19, k20, k21, k22, k23, k24, k25, k26, k27⟩ := HS2.out w' J.bel
            have HJ := hid J
            rcases (show i = 0 ∨ i = 1 ∨ i = 2 ∨ i = 3 ∨ i = 4 ∨ i = 5 ∨ i = 6 ∨ i = 7 ∨ i = 8 ∨ i = 9 ∨ i = 10 ∨ i = 11 ∨ i = 12 ∨ i = 13 ∨ i = 14 ∨ i = 15 by omega) with rfl | rfl | rfl | rfl | rfl | rfl | rfl | rfl | rfl | rfl | rfl | rfl | rfl | rfl | rfl | rfl
            · clear J hd hi hiN hn
              refine wpOp_step rfl (fun kq hKq => ?_)
              go_simp
              exact hKq _ _ ⟨true, f1, f2, f3, f4, f5, f6, f7, f8, f9, f10, f11, f12, f13, f14, f15, rfl, _, _, _, _, _, _, _, _, _, _, _, _, _, _, _, _, rfl, HJ.out.bel, HJ.out.siz, ⟨fun _ => rfl, HJ.out.vals.2.1, HJ.out.vals.2.2.1, HJ.out.vals.2.2.2.1, HJ.out.vals.2.2.2.2.1, HJ.out.vals.2.2.2.2.2.1, HJ.out.vals.2.2.2.2.2.2.1, HJ.out.vals.2.2.2.2.2.2.2.1, HJ.out.vals.2.2.2.2.2.2.2.2.1, HJ.out.vals.2.2.2.2.2.2.2.2.2.1, HJ.out.vals.2.2.2.2.2.2.2.2.2.2.1, HJ.out.vals.2.2.2.2.2.2.2.2.2.2.2.1, HJ.out.vals.2.2.2.2.2.2.2.2.2.2.2.2.1, HJ.out.vals.2.2.2.2.2.2.2.2.2.2.2.2.2.1, HJ.out.vals.2.2.2.2.2.2.2.2.2.2.2.2.2.2.1, HJ.out.vals.2.2.2.2.2.2.2.2.2.2.2.2.2.2.2.1, trivial⟩, trivial, HJ.out.ne⟩
            · clear J hd hi hiN hn
              refine wpOp_step rfl (fun kq hKq => ?_)
              go_simp
              exact hKq _ _ ⟨f0, true, f2, f3, f4, f5, f6, f7, f8, f9, f10, f11, f12, f13, f14, f15, rfl, _, _, _, _, _, _, _, _, _, _, _, _, _, _, _, _, rfl, HJ.out.bel, HJ.out.siz, ⟨HJ.out.vals.1, fun _ => rfl, HJ.out.vals.2.2.1, HJ.out.vals.2.2.2.1, HJ.out.vals.2.2.2.2.1, HJ.out.vals.2.2.2.2.2.1, HJ.out.vals.2.2.2.2.2.2.1, HJ.out.vals.2.2.2.2.2.2.2.1, HJ.out.vals.2.2.2.2.2.2.2.2.1, HJ.out.vals.2.2.2.2.2.2.2.2.2.1, HJ.out.vals.2.2.2.2.2.2.2.2.2.2.1, HJ.out.vals.2.2.2.2.2.2.2.2.2.2.2.1, HJ.out.vals.2.2.2.2.2.2.2.2.2.2.2.2.1, HJ.out.vals.2.2.2.2.2.2.2.2.2.2.2.2.2.1, HJ.out.vals.2.2.2.2.2.2.2.2.2.2.2.2.2.2.1, HJ.out.vals.2.2.2.2.2.2.2.2.2.2.2.2.2.2.2.1, trivial⟩, trivial, HJ.out.ne⟩
            · clear J hd hi hiN hn
              refine wpOp_step rfl (fun kq hKq => ?_)
              go_simp
              exact hKq _ _ ⟨f0, f1, true, f3, f4, f5, f6, f7, f8, f9, f10, f11, f12, f13, f14, f15, rfl, _, _, _, _, _, _, _, _, _, _, _, _, _, _, _, _, rfl, HJ.out.bel, HJ.out.siz, ⟨HJ.out.vals.1, HJ.out.vals.2.1, fun _ => rfl, HJ.out.vals.2.2.2.1, HJ.out.vals.2.2.2.2.1, HJ.out.vals.2.2.2.2.2.1, HJ.out.vals.2.2.2.2.2.2.1, HJ.out.vals.2.2.2.2.2.2.2.1, HJ.out.vals.2.2.2.2.2.2.2.2.1, HJ.out.vals.2.2.2.2.2.2.2.2.2.1, HJ.out.vals.2.2.2.2.2.2.2.2.2.2.1, HJ.out.vals.2.2.2.2.2.2.2.2.2.2.2.1, HJ.out.vals.2.2.2.2.2.2.2.2.2.2.2.2.1, HJ.out.vals.2.2.2.2.2.2.2.2.2.2.2.2.2.1, HJ.out.vals.2.2.2.2.2.2.2.2.2.2.2.2.2.2.1, HJ.out.vals.2.2.2.2.2.2.2.2.2.2.2.2.2.2.2.1, trivial⟩, trivial, HJ.out.ne⟩
            · have e75 : s75 = Value.slice (some { block := v3.heap.size, off := 0 }) 3 3 := J.vals.2.1 (hd 1 (by simp))
              subst e75
              have e76 : s76 = Value.int IntKind.i64 1 := J.vals.2.2.1 (hd 2 (by simp))
              subst e76
              clear J hd hi hiN hn
              refine wpOp_step rfl (fun kq hKq => ?_)
              go_simp
              exact hKq _ _ ⟨f0, f1, f2, true, f4, f5, f6, f7, f8, f9, f10, f11, f12, f13, f14, f15, rfl, _, _, _, _, _, _, _, _, _, _, _, _, _, _, _, _, rfl, HJ.out.bel, HJ.out.siz, ⟨HJ.out.vals.1, HJ.out.vals.2.1, HJ.out.vals.2.2.1, fun _ => rfl, HJ.out.vals.2.2.2.2.1, HJ.out.vals.2.2.2.2.2.1, HJ.out.vals.2.2.2.2.2.2.1, HJ.out.vals.2.2.2.2.2.2.2.1, HJ.out.vals.2.2.2.2.2.2.2.2.1, HJ.out.vals.2.2.2.2.2.2.2.2.2.1, HJ.out.vals.2.2.2.2.2.2.2.2.2.2.1, HJ.out.vals.2.2.2.2.2.2.2.2.2.2.2.1, HJ.out.vals.2.2.2.2.2.2.2.2.2.2.2.2.1, HJ.out.vals.2.2.2.2.2.2.2.2.2.2.2.2.2.1, HJ.out.vals.2.2.2.2.2.2.2.2.2.2.2.2.2.2.1, HJ.out.vals.2.2.2.2.2.2.2.2.2.2.2.2.2.2.2.1, trivial⟩, trivial, HJ.out.ne⟩
            · have e77 : s77 = .pointer (some ⟨v3.heap.size, 4, none⟩) := J.vals.2.2.2.1 (hd 3 (by simp))
              subst e77
              clear J hd hi hiN hn
              refine wpOp_step rfl (fun kq hKq => ?_)
              go_simp
              exact hKq _ _ ⟨f0, f1, f2, f3, true, f5, f6, f7, f8, f9, f10, f11, f12, f13, f14, f15, rfl, _, _, _, _, _, _, _, _, _, _, _, _, _, _, _, _, rfl, HJ.out.bel, HJ.out.siz, ⟨HJ.out.vals.1, HJ.out.vals.2.1, HJ.out.vals.2.2.1, HJ.out.vals.2.2.2.1, fun _ => rfl, HJ.out.vals.2.2.2.2.2.1, HJ.out.vals.2.2.2.2.2.2.1, HJ.out.vals.2.2.2.2.2.2.2.1, HJ.out.vals.2.2.2.2.2.2.2.2.1, HJ.out.vals.2.2.2.2.2.2.2.2.2.1, HJ.out.vals.2.2.2.2.2.2.2.2.2.2.1, HJ.out.vals.2.2.2.2.2.2.2.2.2.2.2.1, HJ.out.vals.2.2.2.2.2.2.2.2.2.2.2.2.1, HJ.out.vals.2.2.2.2.2.2.2.2.2.2.2.2.2.1, HJ.out.vals.2.2.2.2.2.2.2.2.2.2.2.2.2.2.1, HJ.out.vals.2.2.2.2.2.2.2.2.2.2.2.2.2.2.2.1, trivial⟩, trivial, HJ.out.ne⟩
            · obtain rfl : f5 = false := hn
              have e74 : s74 = Value.agg #[Value.bool a1, Value.slice p1 l1 q1, Value.bool aa1, Value.slice pp1 ll1 qq1] := J.vals.1 (hd 0 (by simp))
              subst e74
              have e78 : s78 = .agg #[.bool b3, .slice o3 m3 c3, .bool bb3, .slice oo3 mm3 cc3] := J.vals.2.2.2.2.1 (hd 4 (by simp))
              subst e78
              have hw := J.bel
              clear J hd hi hiN
              refine wpOp_step rfl (fun kq hKq => ?_)
              go_simp
              refine (Compare_rv _ _ n1 d1 N3 D3 _ 8 _ ((VA.out _ hw).mono (by omega)) (VE3.out _ hw) M3.out (by omega)).mono ?_
              rintro e wz ⟨rfl, hb⟩
              have J2 := RX.step HJ.out HKG.out hb
              exact hKq _ _ ⟨f0, f1, f2, f3, f4, true, f6, f7, f8, f9, f10, f11, f12, f13, f14, f15, rfl, _, _, _, _, _, _, _, _, _, _, _, _, _, _, _, _, rfl, J2.bel, J2.siz, ⟨J2.vals.1, J2.vals.2.1, J2.vals.2.2.1, J2.vals.2.2.2.1, J2.vals.2.2.2.2.1, fun _ => rfl, J2.vals.2.2.2.2.2.2.1, J2.vals.2.2.2.2.2.2.2.1, J2.vals.2.2.2.2.2.2.2.2.1, J2.vals.2.2.2.2.2.2.2.2.2.1, J2.vals.2.2.2.2.2.2.2.2.2.2.1, J2.vals.2.2.2.2.2.2.2.2.2.2.2.1, J2.vals.2.2.2.2.2.2.2.2.2.2.2.2.1, J2.vals.2.2.2.2.2.2.2.2.2.2.2.2.2.1, J2.vals.2.2.2.2.2.2.2.2.2.2.2.2.2.2.1, J2.vals.2.2.2.2.2.2.2.2.2.2.2.2.2.2.2.1, trivial⟩, trivial, J2.ne⟩
            · have e79 : s79 = .int .i64 1 := J.vals.2.2.2.2.2.1 (hd 5 (by simp))
              subst e79
              clear J hd hi hiN hn
              refine wpOp_step rfl (fun kq hKq => ?_)
              go_simp
              exact hKq _ _ ⟨f0, f1, f2, f3, f4, f5, true, f7, f8, f9, f10, f11, f12, f13, f14, f15, rfl, _, _, _, _, _, _, _, _, _, _, _, _, _, _, _, _, rfl, HJ.out.bel, HJ.out.siz, ⟨HJ.out.vals.1, HJ.out.vals.2.1, HJ.out.vals.2.2.1, HJ.out.vals.2.2.2.1, HJ.out.vals.2.2.2.2.1, HJ.out.vals.2.2.2.2.2.1, fun _ => rfl, HJ.out.vals.2.2.2.2.2.2.2.1, HJ.out.vals.2.2.2.2.2.2.2.2.1, HJ.out.vals.2.2.2.2.2.2.2.2.2.1, HJ.out.vals.2.2.2.2.2.2.2.2.2.2.1, HJ.out.vals.2.2.2.2.2.2.2.2.2.2.2.1, HJ.out.vals.2.2.2.2.2.2.2.2.2.2.2.2.1, HJ.out.vals.2.2.2.2.2.2.2.2.2.2.2.2.2.1, HJ.out.vals.2.2.2.2.2.2.2.2.2.2.2.2.2.2.1, HJ.out.vals.2.2.2.2.2.2.2.2.2.2.2.2.2.2.2.1, trivial⟩, trivial, HJ.out.ne⟩
            · have e80 : s80 = .bool true := J.vals.2.2.2.2.2.2.1 (hd 6 (by simp))
              subst e80
              clear J hd hi hiN hn
              refine wpOp_step rfl (fun kq hKq => ?_)
              go_simp
              exact hKq _ _ ⟨f0, f1, f2, f3, f4, f5, f6, true, f8, f9, f10, f11, f12, f13, f14, f15, rfl, _, _, _, _, _, _, _, _, _, _, _, _, _, _, _, _, rfl, HJ.out.bel, HJ.out.siz, ⟨HJ.out.vals.1, HJ.out.vals.2.1, HJ.out.vals.2.2.1, HJ.out.vals.2.2.2.1, HJ.out.vals.2.2.2.2.1, HJ.out.vals.2.2.2.2.2.1, HJ.out.vals.2.2.2.2.2.2.1, fun _ => rfl, HJ.out.vals.2.2.2.2.2.2.2.2.1, HJ.out.vals.2.2.2.2.2.2.2.2.2.1, HJ.out.vals.2.2.2.2.2.2.2.2.2.2.1, HJ.out.vals.2.2.2.2.2.2.2.2.2.2.2.1, HJ.out.vals.2.2.2.2.2.2.2.2.2.2.2.2.1, HJ.out.vals.2.2.2.2.2.2.2.2.2.2.2.2.2.1, HJ.out.vals.2.2.2.2.2.2.2.2.2.2.2.2.2.2.1, HJ.out.vals.2.2.2.2.2.2.2.2.2.2.2.2.2.2.2.1, trivial⟩, trivial, HJ.out.ne⟩
            · have e81 : s81 = .bool true := J.vals.2.2.2.2.2.2.2.1 (hd 7 (by simp))
              subst e81
              clear J hd hi hiN hn
              refine wpOp_step rfl (fun kq hKq => ?_)
              go_simp
              exact hKq _ _ ⟨f0, f1, f2, f3, f4, f5, f6, f7, true, f9, f10, f11, f12, f13, f14, f15, rfl, _, _, _, _, _, _, _, _, _, _, _, _, _, _, _, _, rfl, HJ.out.bel, HJ.out.siz, ⟨HJ.out.vals.1, HJ.out.vals.2.1, HJ.out.vals.2.2.1, HJ.out.vals.2.2.2.1, HJ.out.vals.2.2.2.2.1, HJ.out.vals.2.2.2.2.2.1, HJ.out.vals.2.2.2.2.2.2.1, HJ.out.vals.2.2.2.2.2.2.2.1, fun _ => rfl, HJ.out.vals.2.2.2.2.2.2.2.2.2.1, HJ.out.vals.2.2.2.2.2.2.2.2.2.2.1, HJ.out.vals.2.2.2.2.2.2.2.2.2.2.2.1, HJ.out.vals.2.2.2.2.2.2.2.2.2.2.2.2.1, HJ.out.vals.2.2.2.2.2.2.2.2.2.2.2.2.2.1, HJ.out.vals.2.2.2.2.2.2.2.2.2.2.2.2.2.2.1, HJ.out.vals.2.2.2.2.2.2.2.2.2.2.2.2.2.2.2.1, trivial⟩, trivial, HJ.out.ne⟩
            · have e81 : s81 = .bool true := J.vals.2.2.2.2.2.2.2.1 (hd 7 (by simp))
              subst e81
              clear J hd hi hiN hn
              refine wpOp_step rfl (fun kq hKq => ?_)
              go_simp
              exact hKq _ _ ⟨f0, f1, f2, f3, f4, f5, f6, f7, f8, true, f10, f11, f12, f13, f14, f15, rfl, _, _, _, _, _, _, _, _, _, _, _, _, _, _, _, _, rfl, HJ.out.bel, HJ.out.siz, ⟨HJ.out.vals.1, HJ.out.vals.2.1, HJ.out.vals.2.2.1, HJ.out.vals.2.2.2.1, HJ.out.vals.2.2.2.2.1, HJ.out.vals.2.2.2.2.2.1, HJ.out.vals.2.2.2.2.2.2.1, HJ.out.vals.2.2.2.2.2.2.2.1, HJ.out.vals.2.2.2.2.2.2.2.2.1, fun _ => rfl, HJ.out.vals.2.2.2.2.2.2.2.2.2.2.1, HJ.out.vals.2.2.2.2.2.2.2.2.2.2.2.1, HJ.out.vals.2.2.2.2.2.2.2.2.2.2.2.2.1, HJ.out.vals.2.2.2.2.2.2.2.2.2.2.2.2.2.1, HJ.out.vals.2.2.2.2.2.2.2.2.2.2.2.2.2.2.1, HJ.out.vals.2.2.2.2.2.2.2.2.2.2.2.2.2.2.2.1, trivial⟩, trivial, HJ.out.ne⟩
            · have e81 : s81 = .bool true := J.vals.2.2.2.2.2.2.2.1 (hd 7 (by simp))
              subst e81
              clear J hd hi hiN hn
              refine wpOp_step rfl (fun kq hKq => ?_)
              go_simp
              exact hKq _ _ ⟨f0, f1, f2, f3, f4, f5, f6, f7, f8, f9, true, f11, f12, f13, f14, f15, rfl, _, _, _, _, _, _, _, _, _, _, _, _, _, _, _, _, rfl, HJ.out.bel, HJ.out.siz, ⟨HJ.out.vals.1, HJ.out.vals.2.1, HJ.out.vals.2.2.1, HJ.out.vals.2.2.2.1, HJ.out.vals.2.2.2.2.1, HJ.out.vals.2.2.2.2.2.1, HJ.out.vals.2.2.2.2.2.2.1, HJ.out.vals.2.2.2.2.2.2.2.1, HJ.out.vals.2.2.2.2.2.2.2.2.1, HJ.out.vals.2.2.2.2.2.2.2.2.2.1, fun _ => rfl, HJ.out.vals.2.2.2.2.2.2.2.2.2.2.2.1, HJ.out.vals.2.2.2.2.2.2.2.2.2.2.2.2.1, HJ.out.vals.2.2.2.2.2.2.2.2.2.2.2.2.2.1, HJ.out.vals.2.2.2.2.2.2.2.2.2.2.2.2.2.2.1, HJ.out.vals.2.2.2.2.2.2.2.2.2.2.2.2.2.2.2.1, trivial⟩, trivial, HJ.out.ne⟩
            · have e81 : s81 = .bool true := J.vals.2.2.2.2.2.2.2.1 (hd 7 (by simp))
              subst e81
              clear J hd hi hiN hn
              refine wpOp_step rfl (fun kq hKq => ?_)
              go_simp
              exact hKq _ _ ⟨f0, f1, f2, f3, f4, f5, f6, f7, f8, f9, f10, true, f12, f13, f14, f15, rfl, _, _, _, _, _, _, _, _, _, _, _, _, _, _, _, _, rfl, HJ.out.bel, HJ.out.siz, ⟨HJ.out.vals.1, HJ.out.vals.2.1, HJ.out.vals.2.2.1, HJ.out.vals.2.2.2.1, HJ.out.vals.2.2.2.2.1, HJ.out.vals.2.2.2.2.2.1, HJ.out.vals.2.2.2.2.2.2.1, HJ.out.vals.2.2.2.2.2.2.2.1, HJ.out.vals.2.2.2.2.2.2.2.2.1, HJ.out.vals.2.2.2.2.2.2.2.2.2.1, HJ.out.vals.2.2.2.2.2.2.2.2.2.2.1, fun _ => rfl, HJ.out.vals.2.2.2.2.2.2.2.2.2.2.2.2.1, HJ.out.vals.2.2.2.2.2.2.2.2.2.2.2.2.2.1, HJ.out.vals.2.2.2.2.2.2.2.2.2.2.2.2.2.2.1, HJ.out.vals.2.2.2.2.2.2.2.2.2.2.2.2.2.2.2.1, trivial⟩, trivial, HJ.out.ne⟩
            · have e81 : s81 = .bool true := J.vals.2.2.2.2.2.2.2.1 (hd 7 (by simp))
              subst e81
              clear J hd hi hiN hn
              refine wpOp_step rfl (fun kq hKq => ?_)
              go_simp
              exact hKq _ _ ⟨f0, f1, f2, f3, f4, f5, f6, f7, f8, f9, f10, f11, true, f13, f14, f15, rfl, _, _, _, _, _, _, _, _, _, _, _, _, _, _, _, _, rfl, HJ.out.bel, HJ.out.siz, ⟨HJ.out.vals.1, HJ.out.vals.2.1, HJ.out.vals.2.2.1, HJ.out.vals.2.2.2.1, HJ.out.vals.2.2.2.2.1, HJ.out.vals.2.2.2.2.2.1, HJ.out.vals.2.2.2.2.2.2.1, HJ.out.vals.2.2.2.2.2.2.2.1, HJ.out.vals.2.2.2.2.2.2.2.2.1, HJ.out.vals.2.2.2.2.2.2.2.2.2.1, HJ.out.vals.2.2.2.2.2.2.2.2.2.2.1, HJ.out.vals.2.2.2.2.2.2.2.2.2.2.2.1, fun _ => rfl, HJ.out.vals.2.2.2.2.2.2.2.2.2.2.2.2.2.1, HJ.out.vals.2.2.2.2.2.2.2.2.2.2.2.2.2.2.1, HJ.out.vals.2.2.2.2.2.2.2.2.2.2.2.2.2.2.2.1, trivial⟩, trivial, HJ.out.ne⟩
            · have e81 : s81 = .bool true := J.vals.2.2.2.2.2.2.2.1 (hd 7 (by simp))
              subst e81
              clear J hd hi hiN hn
              refine wpOp_step rfl (fun kq hKq => ?_)
              go_simp
              exact hKq _ _ ⟨f0, f1, f2, f3, f4, f5, f6, f7, f8, f9, f10, f11, f12, true, f14, f15, rfl, _, _, _, _, _, _, _, _, _, _, _, _, _, _, _, _, rfl, HJ.out.bel, HJ.out.siz, ⟨HJ.out.vals.1, HJ.out.vals.2.1, HJ.out.vals.2.2.1, HJ.out.vals.2.2.2.1, HJ.out.vals.2.2.2.2.1, HJ.out.vals.2.2.2.2.2.1, HJ.out.vals.2.2.2.2.2.2.1, HJ.out.vals.2.2.2.2.2.2.2.1, HJ.out.vals.2.2.2.2.2.2.2.2.1, HJ.out.vals.2.2.2.2.2.2.2.2.2.1, HJ.out.vals.2.2.2.2.2.2.2.2.2.2.1, HJ.out.vals.2.2.2.2.2.2.2.2.2.2.2.1, HJ.out.vals.2.2.2.2.2.2.2.2.2.2.2.2.1, fun _ => rfl, HJ.out.vals.2.2.2.2.2.2.2.2.2.2.2.2.2.2.1, HJ.out.vals.2.2.2.2.2.2.2.2.2.2.2.2.2.2.2.1, trivial⟩, trivial, HJ.out.ne⟩
            · have e81 : s81 = .bool true := J.vals.2.2.2.2.2.2.2.1 (hd 7 (by simp))
              subst e81
              clear J hd hi hiN hn
              refine wpOp_step rfl (fun kq hKq => ?_)
              go_simp
              exact hKq _ _ ⟨f0, f1, f2, f3, f4, f5, f6, f7, f8, f9, f10, f11, f12, f13, true, f15, rfl, _, _, _, _, _, _, _, _, _, _, _, _, _, _, _, _, rfl, HJ.out.bel, HJ.out.siz, ⟨HJ.out.vals.1, HJ.out.vals.2.1, HJ.out.vals.2.2.1, HJ.out.vals.2.2.2.1, HJ.out.vals.2.2.2.2.1, HJ.out.vals.2.2.2.2.2.1, HJ.out.vals.2.2.2.2.2.2.1, HJ.out.vals.2.2.2.2.2.2.2.1, HJ.out.vals.2.2.2.2.2.2.2.2.1, HJ.out.vals.2.2.2.2.2.2.2.2.2.1, HJ.out.vals.2.2.2.2.2.2.2.2.2.2.1, HJ.out.vals.2.2.2.2.2.2.2.2.2.2.2.1, HJ.out.vals.2.2.2.2.2.2.2.2.2.2.2.2.1, HJ.out.vals.2.2.2.2.2.2.2.2.2.2.2.2.2.1, fun _ => rfl, HJ.out.vals.2.2.2.2.2.2.2.2.2.2.2.2.2.2.2.1, trivial⟩, trivial, HJ.out.ne⟩
            · have e81 : s81 = .bool true := J.vals.2.2.2.2.2.2.2.1 (hd 7 (by simp))
              subst e81
              have e88 : s88 = undef := J.vals.2.2.2.2.2.2.2.2.2.2.2.2.2.2.1 (hd 14 (by simp))
              subst e88
              clear J hd hi hiN hn
              refine wpOp_step rfl (fun kq hKq => ?_)
              go_simp
              exact hKq _ _ ⟨f0, f1, f2, f3, f4, f5, f6, f7, f8, f9, f10, f11, f12, f13, f14, true, rfl, _, _, _, _, _, _, _, _, _, _, _, _, _, _, _, _, rfl, HJ.out.bel, HJ.out.siz, ⟨HJ.out.vals.1, HJ.out.vals.2.1, HJ.out.vals.2.2.1, HJ.out.vals.2.2.2.1, HJ.out.vals.2.2.2.2.1, HJ.out.vals.2.2.2.2.2.1, HJ.out.vals.2.2.2.2.2.2.1, HJ.out.vals.2.2.2.2.2.2.2.1, HJ.out.vals.2.2.2.2.2.2.2.2.1, HJ.out.vals.2.2.2.2.2.2.2.2.2.1, HJ.out.vals.2.2.2.2.2.2.2.2.2.2.1, HJ.out.vals.2.2.2.2.2.2.2.2.2.2.2.1, HJ.out.vals.2.2.2.2.2.2.2.2.2.2.2.2.1, HJ.out.vals.2.2.2.2.2.2.2.2.2.2.2.2.2.1, HJ.out.vals.2.2.2.2.2.2.2.2.2.2.2.2.2.2.1, fun _ => rfl, trivial⟩, trivial, HJ.out.ne⟩
          rintro L act w' hs ⟨f0, f1, f2, f3, f4, f5, f6, f7, f8, f9, f10, f11, f12, f13, f14, f15, rfl, s74, s75, s76, s77, s78, s79, s80, s81, s82, s83, s84, s85, s86, s87, s88, s89, rfl, J⟩ hr
          have hd := early_done (by kernel_rfl) hs hr 16
          obtain rfl : f0 = true := hd 0 (by omega) (by simp)
          obtain rfl : f1 = true := hd 1 (by omega) (by simp)
          obtain rfl : f2 = true := hd 2 (by omega) (by simp)
          obtain rfl : f3 = true := hd 3 (by omega) (by simp)
          obtain rfl : f4 = true := hd 4 (by omega) (by simp)
          obtain rfl : f5 = true := hd 5 (by omega) (by simp)
          obtain rfl : f6 = true := hd 6 (by omega) (by simp)
          obtain rfl : f7 = true := hd 7 (by omega) (by simp)
          obtain rfl : f8 = true := hd 8 (by omega) (by simp)
          obtain rfl : f9 = true := hd 9 (by omega) (by simp)
          obtain rfl : f10 = true := hd 10 (by omega) (by simp)
          obtain rfl : f11 = true := hd 11 (by omega) (by simp)
          obtain rfl : f12 = true := hd 12 (by omega) (by simp)
          obtain rfl : f13 = true := hd 13 (by omega) (by simp)
          obtain rfl : f14 = true := hd 14 (by omega) (by simp)
          obtain rfl : f15 = true := hd 15 (by omega) (by simp)
          have e74 : s74 = Value.agg #[Value.bool a1, Value.slice p1 l1 q1, Value.bool aa1, Value.slice pp1 ll1 qq1] := J.vals.1 rfl
          subst e74
          have e75 : s75 = Value.slice (some { block := v3.heap.size, off := 0 }) 3 3 := J.vals.2.1 rfl
          subst e75
          have e76 : s76 = Value.int IntKind.i64 1 := J.vals.2.2.1 rfl
          subst e76
          have e77 : s77 = .pointer (some ⟨v3.heap.size, 4, none⟩) := J.vals.2.2.2.1 rfl
          subst e77
          have e78 : s78 = .agg #[.bool b3, .slice o3 m3 c3, .bool bb3, .slice oo3 mm3 cc3] := J.vals.2.2.2.2.1 rfl
          subst e78
          have e79 : s79 = .int .i64 1 := J.vals.2.2.2.2.2.1 rfl
          subst e79
          have e80 : s80 = .bool true := J.vals.2.2.2.2.2.2.1 rfl
          subst e80
          have e81 : s81 = .bool true := J.vals.2.2.2.2.2.2.2.1 rfl
          subst e81
          have e82 : s82 = undef := J.vals.2.2.2.2.2.2.2.2.1 rfl
          subst e82
          have e83 : s83 = undef := J.vals.2.2.2.2.2.2.2.2.2.1 rfl
          subst e83
          have e84 : s84 = undef := J.vals.2.2.2.2.2.2.2.2.2.2.1 rfl
          subst e84
          have e85 : s85 = undef := J.vals.2.2.2.2.2.2.2.2.2.2.2.1 rfl
          subst e85
          have e86 : s86 = undef := J.vals.2.2.2.2.2.2.2.2.2.2.2.2.1 rfl
          subst e86
          have e87 : s87 = undef := J.vals.2.2.2.2.2.2.2.2.2.2.2.2.2.1 rfl
          subst e87
          have e88 : s88 = undef := J.vals.2.2.2.2.2.2.2.2.2.2.2.2.2.2.1 rfl
          subst e88
          have e89 : s89 = .bool true := J.vals.2.2.2.2.2.2.2.2.2.2.2.2.2.2.2.1 rfl
          subst e89
          have hbel := J.bel
          have hsiz := J.siz
          clear hd hr hs J
          go_wp2
          go_roundw
          case rel => exact ⟨2, by decide, rfl, hbel⟩
          case measure => simp [intOf]
        · have tk2 := hid trivial
          have dq1 := decide_eq_false h1
          have H1 := hid h1
          clear h1
          by_cases h2 : 0 < e2
          · obtain rfl : e2 = 1 := by have := R2.out; omega
            clear HLe h2 R1 R2
            go_region_held3 (fun w' => ((w'.cell? ⟨w.heap.size, 0, none⟩ = some (.bool a1) ∧ w'.cell? ⟨w.heap.size, 1, none⟩ = some (.slice p1 l1 q1) ∧ w'.cell? ⟨w.heap.size, 2, none⟩ = some (.bool aa1) ∧ w'.cell? ⟨w.heap.size, 3, none⟩ = some (.slice pp1 ll1 qq1) ∧ w'.cell? ⟨w.heap.size + 1, 0, none⟩ = some (.bool a2) ∧ w'.cell? ⟨w.heap.size + 1, 1, none⟩ = some (.slice p2 l2 q2) ∧ w'.cell? ⟨w.heap.size + 1, 2, none⟩ = some (.bool aa2) ∧ w'.cell? ⟨w.heap.size + 1, 3, none⟩ = some (.slice pp2 ll2 qq2) ∧ w'.cell? ⟨w.heap.size + 2, 0, none⟩ = some (.bool a3) ∧ w'.cell? ⟨w.heap.size + 2, 1, none⟩ = some (.slice p3 l3 q3) ∧ w'.cell? ⟨w.heap.size + 2, 2, none⟩ = some (.bool aa3) ∧ w'.cell? ⟨w.heap.size + 2, 3, none⟩ = some (.slice pp3 ll3 qq3)) ∧ w'.cell? ⟨wq1.heap.size, 0, none⟩ = some (.bool b1) ∧ w'.cell? ⟨wq1.heap.size, 1, none⟩ = some (.slice o1 m1 c1) ∧ w'.cell? ⟨wq1.heap.size, 2, none⟩ = some (.bool bb1) ∧ w'.cell? ⟨wq1.heap.size, 3, none⟩ = some (.slice oo1 mm1 cc1)) ∧ w'.cell? ⟨v3.heap.size, 0, none⟩ = some (.bool b2) ∧ w'.cell? ⟨v3.heap.size, 1, none⟩ = some (.slice o2 m2 c2) ∧ w'.cell? ⟨v3.heap.size, 2, none⟩ = some (.bool bb2) ∧ w'.cell? ⟨v3.heap.size, 3, none⟩ = some (.slice oo2 mm2 cc2) ∧ w'.cell? ⟨v3.heap.size, 4, none⟩ = some (.bool b3) ∧ w'.cell? ⟨v3.heap.size, 5, none⟩ = some (.slice o3 m3 c3) ∧ w'.cell? ⟨v3.heap.size, 6, none⟩ = some (.bool bb3) ∧ w'.cell? ⟨v3.heap.size, 7, none⟩ = some (.slice oo3 mm3 cc3) ∧ w'.cell? ⟨v3.heap.size, 8, none⟩ = some (.bool b4) ∧ w'.cell? ⟨v3.heap.size, 9, none⟩ = some (.slice o4 m4 c4) ∧ w'.cell? ⟨v3.heap.size, 10, none⟩ = some (.bool bb4) ∧ w'.cell? ⟨v3.heap.size, 11, none⟩ = some (.slice oo4 mm4 cc4)) ((refine HS2.out _ ?_; first | assumption | exact Below.drew (by assumption))) (first
                | (clear tk1; go_at_call 38; refine (Compare_rv _ _ n1 d1 N3 D3 _ 8 _ ((VA.out _ hX.drew).mono (by omega)) (VE3.out _ hX.drew) M3.out (by omega)).mono ?_; rintro e u1 ⟨rfl, hb1⟩; have hY1 : Below W2.heap.size W2 u1 := hX.drew.trans (hb1.mono hX.size))
                | (clear tk2; go_at_call 38; refine (Compare_rv _ _ N3 D3 n2 d2 _ 8 _ (VE3.out _ hY1) ((VB.out _ hY1).mono (by omega)) M4.out (by omega)).mono ?_; rintro e u2 ⟨rfl, hb2⟩; have hY2 : Below W2.heap.size W2 u2 := hY1.trans (hb2.mono hY1.size)))
            go_wp2
            go_roundw
            case rel => exact ⟨2, by decide, rfl, hY2⟩
            case measure => simp [intOf]
          · have HLe2 := hid (HLe.out H1.out h2)
            have dq2 := decide_eq_false h2
            clear HLe h2
            go_region_held3 (fun w' => ((w'.cell? ⟨w.heap.size, 0, none⟩ = some (.bool a1) ∧ w'.cell? ⟨w.heap.size, 1, none⟩ = some (.slice p1 l1 q1) ∧ w'.cell? ⟨w.heap.size, 2, none⟩ = some (.bool aa1) ∧ w'.cell? ⟨w.heap.size, 3, none⟩ = some (.slice pp1 ll1 qq1) ∧ w'.cell? ⟨w.heap.size + 1, 0, none⟩ = some (.bool a2) ∧ w'.cell? ⟨w.heap.size + 1, 1, none⟩ = some (.slice p2 l2 q2) ∧ w'.cell? ⟨w.heap.size + 1, 2, none⟩ = some (.bool aa2) ∧ w'.cell? ⟨w.heap.size + 1, 3, none⟩ = some (.slice pp2 ll2 qq2) ∧ w'.cell? ⟨w.heap.size + 2, 0, none⟩ = some (.bool a3) ∧ w'.cell? ⟨w.heap.size + 2, 1, none⟩ = some (.slice p3 l3 q3) ∧ w'.cell? ⟨w.heap.size + 2, 2, none⟩ = some (.bool aa3) ∧ w'.cell? ⟨w.heap.size + 2, 3, none⟩ = some (.slice pp3 ll3 qq3)) ∧ w'.cell? ⟨wq1.heap.size, 0, none⟩ = some (.bool b1) ∧ w'.cell? ⟨wq1.heap.size, 1, none⟩ = some (.slice o1 m1 c1) ∧ w'.cell? ⟨wq1.heap.size, 2, none⟩ = some (.bool bb1) ∧ w'.cell? ⟨wq1.heap.size, 3, none⟩ = some (.slice oo1 mm1 cc1)) ∧ w'.cell? ⟨v3.heap.size, 0, none⟩ = some (.bool b2) ∧ w'.cell? ⟨v3.heap.size, 1, none⟩ = some (.slice o2 m2 c2) ∧ w'.cell? ⟨v3.heap.size, 2, none⟩ = some (.bool bb2) ∧ w'.cell? ⟨v3.heap.size, 3, none⟩ = some (.slice oo2 mm2 cc2) ∧ w'.cell? ⟨v3.heap.size, 4, none⟩ = some (.bool b3) ∧ w'.cell? ⟨v3.heap.size, 5, none⟩ = some (.slice o3 m3 c3) ∧ w'.cell? ⟨v3.heap.size, 6, none⟩ = some (.bool bb3) ∧ w'.cell? ⟨v3.heap.size, 7, none⟩ = some (.slice oo3 mm3 cc3) ∧ w'.cell? ⟨v3.heap.size, 8, none⟩ = some (.bool b4) ∧ w'.cell? ⟨v3.heap.size, 9, none⟩ = some (.slice o4 m4 c4) ∧ w'.cell? ⟨v3.heap.size, 10, none⟩ = some (.bool bb4) ∧ w'.cell? ⟨v3.heap.size, 11, none⟩ = some (.slice oo4 mm4 cc4)) ((refine HS2.out _ ?_; first | assumption | exact Below.drew (by assumption))) (first
                | (clear tk1; go_at_call 38; refine (Compare_rv _ _ n1 d1 N3 D3 _ 8 _ ((VA.out _ hX.drew).mono (by omega)) (VE3.out _ hX.drew) M3.out (by omega)).mono ?_; rintro e u1 ⟨rfl, hb1⟩; have hY1 : Below W2.heap.size W2 u1 := hX.drew.trans (hb1.mono hX.size))
                | (clear tk2; go_at_call 38; refine (Compare_rv _ _ N3 D3 n2 d2 _ 8 _ (VE3.out _ hY1) ((VB.out _ hY1).mono (by omega)) M4.out (by omega)).mono ?_; rintro e u2 ⟨rfl, hb2⟩; have hY2 : Below W2.heap.size W2 u2 := hY1.trans (hb2.mono hY1.size)))
            obtain ⟨e3, he3⟩ : ∃ t, t = cmpI D D3 := ⟨_, rfl⟩
            obtain ⟨e4, he4⟩ : ∃ t, t = cmpI (N3 * N3) (N * N) := ⟨_, rfl⟩
            have h4 : ¬ e4 < 0 := by rw [he4]; have := HLe2.out.2; unfold cmpI; (repeat' split) <;> omega
            have h3 : e3 = -1 ∨ e3 = 0 := by rw [he3]; have := HLe2.out.1; unfold cmpI; (repeat' split) <;> omega
            have M5 := hid he3.symm; have M6 := hid he4.symm
            clear he3 he4 hX hY1 dq1 dq2
            go_upto_region 14 with (fail)
            have tk3 := hid trivial
            go_region_held3 (fun w' => ((w'.cell? ⟨w.heap.size, 0, none⟩ = some (.bool a1) ∧ w'.cell? ⟨w.heap.size, 1, none⟩ = some (.slice p1 l1 q1) ∧ w'.cell? ⟨w.heap.size, 2, none⟩ = some (.bool aa1) ∧ w'.cell? ⟨w.heap.size, 3, none⟩ = some (.slice pp1 ll1 qq1) ∧ w'.cell? ⟨w.heap.size + 1, 0, none⟩ = some (.bool a2) ∧ w'.cell? ⟨w.heap.size + 1, 1, none⟩ = some (.slice p2 l2 q2) ∧ w'.cell? ⟨w.heap.size + 1, 2, none⟩ = some (.bool aa2) ∧ w'.cell? ⟨w.heap.size + 1, 3, none⟩ = some (.slice pp2 ll2 qq2) ∧ w'.cell? ⟨w.heap.size + 2, 0, none⟩ = some (.bool a3) ∧ w'.cell? ⟨w.heap.size + 2, 1, none⟩ = some (.slice p3 l3 q3) ∧ w'.cell? ⟨w.heap.size + 2, 2, none⟩ = some (.bool aa3) ∧ w'.cell? ⟨w.heap.size + 2, 3, none⟩ = some (.slice pp3 ll3 qq3)) ∧ w'.cell? ⟨wq1.heap.size, 0, none⟩ = some (.bool b1) ∧ w'.cell? ⟨wq1.heap.size, 1, none⟩ = some (.slice o1 m1 c1) ∧ w'.cell? ⟨wq1.heap.size, 2, none⟩ = some (.bool bb1) ∧ w'.cell? ⟨wq1.heap.size, 3, none⟩ = some (.slice oo1 mm1 cc1)) ∧ w'.cell? ⟨v3.heap.size, 0, none⟩ = some (.bool b2) ∧ w'.cell? ⟨v3.heap.size, 1, none⟩ = some (.slice o2 m2 c2) ∧ w'.cell? ⟨v3.heap.size, 2, none⟩ = some (.bool bb2) ∧ w'.cell? ⟨v3.heap.size, 3, none⟩ = some (.slice oo2 mm2 cc2) ∧ w'.cell? ⟨v3.heap.size, 4, none⟩ = some (.bool b3) ∧ w'.cell? ⟨v3.heap.size, 5, none⟩ = some (.slice o3 m3 c3) ∧ w'.cell? ⟨v3.heap.size, 6, none⟩ = some (.bool bb3) ∧ w'.cell? ⟨v3.heap.size, 7, none⟩ = some (.slice oo3 mm3 cc3) ∧ w'.cell? ⟨v3.heap.size, 8, none⟩ = some (.bool b4) ∧ w'.cell? ⟨v3.heap.size, 9, none⟩ = some (.slice o4 m4 c4) ∧ w'.cell? ⟨v3.heap.size, 10, none⟩ = some (.bool bb4) ∧ w'.cell? ⟨v3.heap.size, 11, none⟩ = some (.slice oo4 mm4 cc4)) ((refine HS2.out _ ?_; first | assumption | exact Below.drew (by assumption))) (first
                | (clear tk3; go_at_call 48; refine (cmp_z _ _ D D3 e3 8 _ (VDd.out _ hY2.drew) (VE3d.out _ hY2.drew) M5.out (by omega)).mono ?_; rintro e u3 ⟨rfl, hb3⟩; have hY3 : Below W2.heap.size W2 u3 := hY2.drew.trans (hb3.mono hY2.size)))
            clear hY2
            go_upto_region 15 with (fail)
            have tk4 := hid trivial; have tk5 := hid trivial; have tk6 := hid trivial
            go_region_held3 (fun w' => ((w'.cell? ⟨w.heap.size, 0, none⟩ = some (.bool a1) ∧ w'.cell? ⟨w.heap.size, 1, none⟩ = some (.slice p1 l1 q1) ∧ w'.cell? ⟨w.heap.size, 2, none⟩ = some (.bool aa1) ∧ w'.cell? ⟨w.heap.size, 3, none⟩ = some (.slice pp1 ll1 qq1) ∧ w'.cell? ⟨w.heap.size + 1, 0, none⟩ = some (.bool a2) ∧ w'.cell? ⟨w.heap.size + 1, 1, none⟩ = some (.slice p2 l2 q2) ∧ w'.cell? ⟨w.heap.size + 1, 2, none⟩ = some (.bool aa2) ∧ w'.cell? ⟨w.heap.size + 1, 3, none⟩ = some (.slice pp2 ll2 qq2) ∧ w'.cell? ⟨w.heap.size + 2, 0, none⟩ = some (.bool a3) ∧ w'.cell? ⟨w.heap.size + 2, 1, none⟩ = some (.slice p3 l3 q3) ∧ w'.cell? ⟨w.heap.size + 2, 2, none⟩ = some (.bool aa3) ∧ w'.cell? ⟨w.heap.size + 2, 3, none⟩ = some (.slice pp3 ll3 qq3)) ∧ w'.cell? ⟨wq1.heap.size, 0, none⟩ = some (.bool b1) ∧ w'.cell? ⟨wq1.heap.size, 1, none⟩ = some (.slice o1 m1 c1) ∧ w'.cell? ⟨wq1.heap.size, 2, none⟩ = some (.bool bb1) ∧ w'.cell? ⟨wq1.heap.size, 3, none⟩ = some (.slice oo1 mm1 cc1)) ∧ w'.cell? ⟨v3.heap.size, 0, none⟩ = some (.bool b2) ∧ w'.cell? ⟨v3.heap.size, 1, none⟩ = some (.slice o2 m2 c2) ∧ w'.cell? ⟨v3.heap.size, 2, none⟩ = some (.bool bb2) ∧ w'.cell? ⟨v3.heap.size, 3, none⟩ = some (.slice oo2 mm2 cc2) ∧ w'.cell? ⟨v3.heap.size, 4, none⟩ = some (.bool b3) ∧ w'.cell? ⟨v3.heap.size, 5, none⟩ = some (.slice o3 m3 c3) ∧ w'.cell? ⟨v3.heap.size, 6, none⟩ = some (.bool bb3) ∧ w'.cell? ⟨v3.heap.size, 7, none⟩ = some (.slice oo3 mm3 cc3) ∧ w'.cell? ⟨v3.heap.size, 8, none⟩ = some (.bool b4) ∧ w'.cell? ⟨v3.heap.size, 9, none⟩ = some (.slice o4 m4 c4) ∧ w'.cell? ⟨v3.heap.size, 10, none⟩ = some (.bool bb4) ∧ w'.cell? ⟨v3.heap.size, 11, none⟩ = some (.slice oo4 mm4 cc4)) ((refine HS2.out _ ?_; first | assumption | exact Below.drew (by assumption))) (first
                | (clear tk4; go_at_call 43; refine (mul_z _ _ N3 N3 (N3 * N3) 8 8 18 _ (VE3n.out _ hY3.drew) (VE3n.out _ hY3.drew) rfl (by omega) (by omega) (by omega)).mono ?_; rintro e u4 ⟨b5, o5, m5, c5, rfl, H5, hb4⟩; have hY4 : Below W2.heap.size W2 u4 := hY3.drew.trans (hb4.mono hY3.size))
                | (clear tk5; go_at_call 43; refine (mul_z _ _ N N (N * N) 8 8 18 _ (VDn.out _ hY4) (VDn.out _ hY4) rfl (by omega) (by omega) (by omega)).mono ?_; rintro e u5 ⟨b6, o6, m6, c6, rfl, H6, hb5⟩; have hY5 : Below W2.heap.size W2 u5 := hY4.trans (hb5.mono hY4.size))
                | (clear tk6; go_at_call 48; refine (cmp_z _ _ (N3 * N3) (N * N) e4 18 _ (H5.out.below hb5 (Nat.le_refl _)) H6.out M6.out (by omega)).mono ?_; rintro e u6 ⟨rfl, hb6⟩; have hY6 : Below W2.heap.size W2 u6 := hY5.trans (hb6.mono hY5.size)))
            have HY6 := hid hY6
            clear hY3 hY4 hY5 hY6 M5 M6
            rcases h3 with rfl | rfl
            · go_wp2
              go_roundw
              case rel => exact ⟨2, by decide, rfl, HY6.out⟩
              case measure => simp [intOf]
            · go_wp2
              go_roundw
              case rel => exact ⟨2, by decide, rfl, HY6.out⟩
              case measure => simp [intOf]
      · obtain ⟨e1, he1⟩ : ∃ t, t = cmpI (n1 * D4) (N4 * d1) := ⟨_, rfl⟩
        obtain ⟨e2, he2⟩ : ∃ t, t = cmpI (N4 * d2) (n2 * D4) := ⟨_, rfl⟩
        have M3 := hid he1.symm; have M4 := hid he2.symm
        have HLe := hid (show ¬ 0 < e1 → ¬ 0 < e2 → D ≤ D4 ∧ N * N ≤ N4 * N4 by
          intro h1 h2
          refine HBt.out.least N4 D4 HL4.out.1 ?_ ?_
          · rw [he1] at h1; unfold cmpI at h1; revert h1; (repeat' split) <;> omega
          · rw [he2] at h2; unfold cmpI at h2; revert h2; (repeat' split) <;> omega)
        have r1 : e1 = -1 ∨ e1 = 0 ∨ e1 = 1 := by rw [he1]; exact cmp_range _ _
        have r2 : e2 = -1 ∨ e2 = 0 ∨ e2 = 1 := by rw [he2]; exact cmp_range _ _
        have R1 := hid r1; have R2 := hid r2
        clear he1 he2 r1 r2
        go_upto_region 13 with (fail)
        have tk1 := hid trivial
        by_cases h1 : 0 < e1
        · obtain rfl : e1 = 1 := by have := R1.out; omega
          clear M4 HLe h1 R1 R2
          have HKG : Hid (AllKeep [(false, (fun wq vq => vq = Value.agg #[Value.bool a1, Value.slice p1 l1 q1, Value.bool aa1, Value.slice pp1 ll1 qq1]), undef), (false, (fun wq vq => vq = Value.slice (some { block := v3.heap.size, off := 0 }) 3 3), undef), (false, (fun wq vq => vq = Value.int IntKind.i64 2), undef), (false, (fun wq vq => vq = .pointer (some ⟨v3.heap.size, 8, none⟩)), undef), (false, (fun wq vq => vq = .agg #[.bool b4, .slice o4 m4 c4, .bool bb4, .slice oo4 mm4 cc4]), undef), (false, (fun wq vq => vq = .int .i64 1), undef), (false, (fun wq vq => vq = .bool true), undef), (false, (fun wq vq => vq = .bool true), undef), (false, (fun wq vq => vq = undef), undef), (false, (fun wq vq => vq = undef), undef), (false, (fun wq vq => vq = undef), undef), (false, (fun wq vq => vq = undef), undef), (false, (fun wq vq => vq = undef), undef), (false, (fun wq vq => vq = undef), undef), (false, (fun wq vq => vq = undef), undef), (false, (fun wq vq => vq = .bool true), undef)]) := hid ⟨kcV _, kcV _, kcV _, kcV _, kcV _, kcV _, kcV _, kcV _, kcV _, kcV _, kcV _, kcV _, kcV _, kcV _, kcV _, kcV _, trivial⟩
          refine region_inv (by kernel_rfl) (fun L act w' => ∃ f0 f1 f2 f3 f4 f5 f6 f7 f8 f9 f10 f11 f12 f13 f14 f15, L = #[f0, f1, f2, f3, f4, f5, f6, f7, f8, f9, f10, f11, f12, f13, f14, f15] ∧ ∃ s74 s75 s76 s77 s78 s79 s80 s81 s82 s83 s84 s85 s86 s87 s88 s89, act = { tmps := #[Value.agg #[Value.bool a1, Value.slice p1 l1 q1, Value.bool aa1, Value.slice pp1 ll1 qq1], Value.agg #[Value.bool a2, Value.slice p2 l2 q2, Value.bool aa2, Value.slice pp2 ll2 qq2], Value.agg #[Value.bool a3, Value.slice p3 l3 q3, Value.bool aa3, Value.slice pp3 ll3 qq3], Value.pointer (some { block := w.heap.size, off := 0 }), Value.pointer (some { block := w.heap.size + 1, off := 0 }), Value.pointer (some { block := w.heap.size + 1 + 1, off := 0 }), u6, Value.bool true, Value.pointer (some { block := wq1.heap.size, off := 0 }), Value.int IntKind.i64 0, Value.slice (some { block := v3.heap.size, off := 0 }) 3 3, Value.int IntKind.i64 2, u12, u13, Value.bool true, Value.agg #[Value.bool a1, Value.slice p1 l1 q1, Value.bool aa1, Value.slice pp1 ll1 qq1], Value.int IntKind.i64 t1, Value.bool (decide (6 < t1)), Value.bool (decide (6 < t1)), Value.agg #[Value.bool a2, Value.slice p2 l2 q2, Value.bool aa2, Value.slice pp2 ll2 qq2], Value.int IntKind.i64 t2, Value.bool (decide (6 < t2)), Value.bool (decide (6 < t1) || decide (6 < t2)), Value.bool (decide (6 < t1) || decide (6 < t2)), Value.agg #[Value.bool a3, Value.slice p3 l3 q3, Value.bool aa3, Value.slice pp3 ll3 qq3], Value.int IntKind.i64 t3, Value.bool (decide (6 < t3)), Value.bool (decide (6 < t1) || decide (6 < t2) || decide (6 < t3)), Value.bool (decide (6 < t1) || decide (6 < t2) || decide (6 < t3)), Value.bool true, Value.bool false, Value.bool (decide (6 < t1) || decide (6 < t2) || decide (6 < t3)), undef, Value.tuple #[Value.agg #[Value.bool b1, Value.slice o1 m1 c1, Value.bool bb1, Value.slice oo1 mm1 cc1], Value.int IntKind.i64 0], Value.agg #[Value.bool a1, Value.slice p1 l1 q1, Value.bool aa1, Value.slice pp1 ll1 qq1], Value.agg #[Value.bool a2, Value.slice p2 l2 q2, Value.bool aa2, Value.slice pp2 ll2 qq2], Value.tuple #[Value.agg #[Value.bool b1, Value.slice o1 m1 c1, Value.bool bb1, Value.slice oo1 mm1 cc1], Value.int IntKind.i64 0], Value.agg #[Value.bool b1, Value.slice o1 m1 c1, Value.bool bb1, Value.slice oo1 mm1 cc1], Value.int IntKind.i64 0, Value.agg #[Value.bool a1, Value.slice p1 l1 q1, Value.bool aa1, Value.slice pp1 ll1 qq1], Value.agg #[Value.bool a2, Value.slice p2 l2 q2, Value.bool aa2, Value.slice pp2 ll2 qq2], Value.int IntKind.i64 cv, Value.bool (decide (0 < cv)), undef, undef, undef, undef, undef, Value.int IntKind.i64 0, Value.bool false, Value.bool false, Value.agg #[Value.bool a1, Value.slice p1 l1 q1, Value.bool aa1, Value.slice pp1 ll1 qq1], Value.agg #[Value.bool b1, Value.slice o1 m1 c1, Value.bool bb1, Value.slice oo1 mm1 cc1], Value.int IntKind.i64 c1v, Value.bool (decide (0 < c1v)), Value.bool (decide (0 < c1v)), Value.bool (decide (0 < c1v)), Value.agg #[Value.bool b1, Value.slice o1 m1 c1, Value.bool bb1, Value.slice oo1 mm1 cc1], Value.agg #[Value.bool a2, Value.slice p2 l2 q2, Value.bool aa2, Value.slice pp2 ll2 qq2], Value.int IntKind.i64 c2v, Value.bool (decide (0 < c2v)), Value.bool (decide (0 < c1v) || decide (0 < c2v)), Value.agg #[Value.bool a1, Value.slice p1 l1 q1, Value.bool aa1, Value.slice pp1 ll1 qq1], Value.agg #[Value.bool b2, Value.slice o2 m2 c2, Value.bool bb2, Value.slice oo2 mm2 cc2], Value.agg #[Value.bool a2, Value.slice p2 l2 q2, Value.bool aa2, Value.slice pp2 ll2 qq2], Value.agg #[Value.bool b3, Value.slice o3 m3 c3, Value.bool bb3, Value.slice oo3 mm3 cc3], Value.agg #[Value.bool a3, Value.slice p3 l3 q3, Value.bool aa3, Value.slice pp3 ll3 qq3], Value.agg #[Value.bool b4, Value.slice o4 m4 c4, Value.bool bb4, Value.slice oo4 mm4 cc4], Value.slice (some { block := v3.heap.size, off := 0 }) 3 3, Value.slice (some { block := v3.heap.size, off := 0 }) 3 3, Value.int IntKind.i64 3, Value.int IntKind.i64 2, Value.bool true, Value.int IntKind.i64 2, s74, s75, s76, s77, s78, s79, s80, s81, s82, s83, s84, s85, s86, s87, s88, s89, u90, u91, u92, u93, u94, u95, u96, u97, u98, u99, u100, u101, u102, u103, u104, u105, u106, u107, u108, u109, u110, u111, u112, u113, u114, u115, u116, u117, u118, u119, u120, u121, u122, u123, u124, u125, undef], defers := [] } ∧ RX W2.heap.size W2 [(f0, (fun wq vq => vq = Value.agg #[Value.bool a1, Value.slice p1 l1 q1, Value.bool aa1, Value.slice pp1 ll1 qq1]), s74), (f1, (fun wq vq => vq = Value.slice (some { block := v3.heap.size, off := 0 }) 3 3), s75), (f2, (fun wq vq => vq = Value.int IntKind.i64 2), s76), (f3, (fun wq vq => vq = .pointer (some ⟨v3.heap.size, 8, none⟩)), s77), (f4, (fun wq vq => vq = .agg #[.bool b4, .slice o4 m4 c4, .bool bb4, .slice oo4 mm4 cc4]), s78), (f5, (fun wq vq => vq = .int .i64 1), s79), (f6, (fun wq vq => vq = .bool true), s80), (f7, (fun wq vq => vq = .bool true), s81), (f8, (fun wq vq => vq = undef), s82), (f9, (fun wq vq => vq = undef), s83), (f10, (fun wq vq => vq = undef), s84), (f11, (fun wq vq => vq = undef), s85), (f12, (fun wq vq => vq = undef), s86), (f13, (fun wq vq => vq = undef), s87), (f14, (fun wq vq => vq = undef), s88), (f15, (fun wq vq => vq = .bool true), s89)] [] w') ?_ ?_ ?_
          · exact ⟨_, _, _, _, _, _, _, _, _, _, _, _, _, _, _, _, rfl, _, _, _, _, _, _, _, _, _, _, _, _, _, _, _, _, rfl, hX.drew, hX.size, ⟨nofun, nofun, nofun, nofun, nofun, nofun, nofun, nofun, nofun, nofun, nofun, nofun, nofun, nofun, nofun, nofun, trivial⟩, trivial, trivial⟩
          · rintro L act w' i hs ⟨f0, f1, f2, f3, f4, f5, f6, f7, f8, f9, f10, f11, f12, f13, f14, f15, rfl, s74, s75, s76, s77, s78, s79, s80, s81, s82, s83, s84, s85, s86, s87, s88, s89, rfl, J⟩ hi
            obtain ⟨hi, hn, hd⟩ := waits_spec (dep := [[], [], [], [1, 2], [3], [0, 4], [5], [6, 5], [7], [7], [8, 9, 7], [10, 7], [7], [11, 12, 7], [13, 7], [7, 14]]) (by kernel_rfl) hi
            have hiN : i < 16 := hi
            obtain ⟨⟨⟨k0, k1, k2, k3, k4, k5, k6, k7, k8, k9, k10, k11⟩, k12, k13, k14, k15⟩, k16, k17, k18, k19, k20, k21, k22, k23, k24, k25, k26, k27⟩ := HS2.out w' J.bel
            have HJ := hid J
            rcases (show i = 0 ∨ i = 1 ∨ i = 2 ∨ i = 3 ∨ i = 4 ∨ i = 5 ∨ i = 6 ∨ i = 7 ∨ i = 8 ∨ i = 9 ∨ i = 10 ∨ i = 11 ∨ i = 12 ∨ i = 13 ∨ i = 14 ∨ i = 15 by omega) with rfl | rfl | rfl | rfl | rfl | rfl | rfl | rfl | rfl | rfl | rfl | rfl | rfl | rfl | rfl | rfl
            · clear J hd hi hiN hn
              refine wpOp_step rfl (fun kq hKq => ?_)
              go_simp
              exact hKq _ _ ⟨true, f1, f2, f3, f4, f5, f6, f7, f8, f9, f10, f11, f12, f13, f14, f15, rfl, _, _, _, _, _, _, _, _, _, _, _, _, _, _, _, _, rfl, HJ.out.bel, HJ.out.siz, ⟨fun _ => rfl, HJ.out.vals.2.1, HJ.out.vals.2.2.1, HJ.out.vals.2.2.2.1, HJ.out.vals.2.2.2.2.1, HJ.out.vals.2.2.2.2.2.1, HJ.out.vals.2.2.2.2.2.2.1, HJ.out.vals.2.2.2.2.2.2.2.1, HJ.out.vals.2.2.2.2.2.2.2.2.1, HJ.out.vals.2.2.2.2.2.2.2.2.2.1, HJ.out.vals.2.2.2.2.2.2.2.2.2.2.1, HJ.out.vals.2.2.2.2.2.2.2.2.2.2.2.1, HJ.out.vals.2.2.2.2.2.2.2.2.2.2.2.2.1, HJ.out.vals.2.2.2.2.2.2.2.2.2.2.2.2.2.1, HJ.out.vals.2.2.2.2.2.2.2.2.2.2.2.2.2.2.1, HJ.out.vals.2.2.2.2.2.2.2.2.2.2.2.2.2.2.2.1, trivial⟩, trivial, HJ.out.ne⟩
            · clear J hd hi hiN hn
              refine wpOp_step rfl (fun kq hKq => ?_)
              go_simp
              exact hKq _ _ ⟨f0, true, f2, f3, f4, f5, f6, f7, f8, f9, f10, f11, f12, f13, f14, f15, rfl, _, _, _, _, _, _, _, _, _, _, _, _, _, _, _, _, rfl, HJ.out.bel, HJ.out.siz, ⟨HJ.out.vals.1, fun _ => rfl, HJ.out.vals.2.2.1, HJ.out.vals.2.2.2.1, HJ.out.vals.2.2.2.2.1, HJ.out.vals.2.2.2.2.2.1, HJ.out.vals.2.2.2.2.2.2.1, HJ.out.vals.2.2.2.2.2.2.2.1, HJ.out.vals.2.2.2.2.2.2.2.2.1, HJ.out.vals.2.2.2.2.2.2.2.2.2.1, HJ.out.vals.2.2.2.2.2.2.2.2.2.2.1, HJ.out.vals.2.2.2.2.2.2.2.2.2.2.2.1, HJ.out.vals.2.2.2.2.2.2.2.2.2.2.2.2.1, HJ.out.vals.2.2.2.2.2.2.2.2.2.2.2.2.2.1, HJ.out.vals.2.2.2.2.2.2.2.2.2.2.2.2.2.2.1, HJ.out.vals.2.2.2.2.2.2.2.2.2.2.2.2.2.2.2.1, trivial⟩, trivial, HJ.out.ne⟩
            · clear J hd hi hiN hn
              refine wpOp_step rfl (fun kq hKq => ?_)
              go_simp
              exact hKq _ _ ⟨f0, f1, true, f3, f4, f5, f6, f7, f8, f9, f10, f11, f12, f13, f14, f15, rfl, _, _, _, _, _, _, _, _, _, _, _, _, _, _, _, _, rfl, HJ.out.bel, HJ.out.siz, ⟨HJ.out.vals.1, HJ.out.vals.2.1, fun _ => rfl, HJ.out.vals.2.2.2.1, HJ.out.vals.2.2.2.2.1, HJ.out.vals.2.2.2.2.2.1, HJ.out.vals.2.2.2.2.2.2.1, HJ.out.vals.2.2.2.2.2.2.2.1, HJ.out.vals.2.2.2.2.2.2.2.2.1, HJ.out.vals.2.2.2.2.2.2.2.2.2.1, HJ.out.vals.2.2.2.2.2.2.2.2.2.2.1, HJ.out.vals.2.2.2.2.2.2.2.2.2.2.2.1, HJ.out.vals.2.2.2.2.2.2.2.2.2.2.2.2.1, HJ.out.vals.2.2.2.2.2.2.2.2.2.2.2.2.2.1, HJ.out.vals.2.2.2.2.2.2.2.2.2.2.2.2.2.2.1, HJ.out.vals.2.2.2.2.2.2.2.2.2.2.2.2.2.2.2.1, trivial⟩, trivial, HJ.out.ne⟩
            · have e75 : s75 = Value.slice (some { block := v3.heap.size, off := 0 }) 3 3 := J.vals.2.1 (hd 1 (by simp))
              subst e75
              have e76 : s76 = Value.int IntKind.i64 2 := J.vals.2.2.1 (hd 2 (by simp))
              subst e76
              clear J hd hi hiN hn
              refine wpOp_step rfl (fun kq hKq => ?_)
              go_simp
              exact hKq _ _ ⟨f0, f1, f2, true, f4, f5, f6, f7, f8, f9, f10, f11, f12, f13, f14, f15, rfl, _, _, _, _, _, _, _, _, _, _, _, _, _, _, _, _, rfl, HJ.out.bel, HJ.out.siz, ⟨HJ.out.vals.1, HJ.out.vals.2.1, HJ.out.vals.2.2.1, fun _ => rfl, HJ.out.vals.2.2.2.2.1, HJ.out.vals.2.2.2.2.2.1, HJ.out.vals.2.2.2.2.2.2.1, HJ.out.vals.2.2.2.2.2.2.2.1, HJ.out.vals.2.2.2.2.2.2.2.2.1, HJ.out.vals.2.2.2.2.2.2.2.2.2.1, HJ.out.vals.2.2.2.2.2.2.2.2.2.2.1, HJ.out.vals.2.2.2.2.2.2.2.2.2.2.2.1, HJ.out.vals.2.2.2.2.2.2.2.2.2.2.2.2.1, HJ.out.vals.2.2.2.2.2.2.2.2.2.2.2.2.2.1, HJ.out.vals.2.2.2.2.2.2.2.2.2.2.2.2.2.2.1, HJ.out.vals.2.2.2.2.2.2.2.2.2.2.2.2.2.2.2.1, trivial⟩, trivial, HJ.out.ne⟩
            · have e77 : s77 = .pointer (some ⟨v3.heap.size, 8, none⟩) := J.vals.2.2.2.1 (hd 3 (by simp))
              subst e77
              clear J hd hi hiN hn
              refine wpOp_step rfl (fun kq hKq => ?_)
              go_simp
              exact hKq _ _ ⟨f0, f1, f2, f3, true, f5, f6, f7, f8, f9, f10, f11, f12, f13, f14, f15, rfl, _, _, _, _, _, _, _, _, _, _, _, _, _, _, _, _, rfl, HJ.out.bel, HJ.out.siz, ⟨HJ.out.vals.1, HJ.out.vals.2.1, HJ.out.vals.2.2.1, HJ.out.vals.2.2.2.1, fun _ => rfl, HJ.out.vals.2.2.2.2.2.1, HJ.out.vals.2.2.2.2.2.2.1, HJ.out.vals.2.2.2.2.2.2.2.1, HJ.out.vals.2.2.2.2.2.2.2.2.1, HJ.out.vals.2.2.2.2.2.2.2.2.2.1, HJ.out.vals.2.2.2.2.2.2.2.2.2.2.1, HJ.out.vals.2.2.2.2.2.2.2.2.2.2.2.1, HJ.out.vals.2.2.2.2.2.2.2.2.2.2.2.2.1, HJ.out.vals.2.2.2.2.2.2.2.2.2.2.2.2.2.1, HJ.out.vals.2.2.2.2.2.2.2.2.2.2.2.2.2.2.1, HJ.out.vals.2.2.2.2.2.2.2.2.2.2.2.2.2.2.2.1, trivial⟩, trivial, HJ.out.ne⟩
            · obtain rfl : f5 = false := hn
              have e74 : s74 = Value.agg #[Value.bool a1, Value.slice p1 l1 q1, Value.bool aa1, Value.slice pp1 ll1 qq1] := J.vals.1 (hd 0 (by simp))
              subst e74
              have e78 : s78 = .agg #[.bool b4, .slice o4 m4 c4, .bool bb4, .slice oo4 mm4 cc4] := J.vals.2.2.2.2.1 (hd 4 (by simp))
              subst e78
              have hw := J.bel
              clear J hd hi hiN
              refine wpOp_step rfl (fun kq hKq => ?_)
              go_simp
              refine (Compare_rv _ _ n1 d1 N4 D4 _ 8 _ ((VA.out _ hw).mono (by omega)) (VE4.out _ hw) M3.out (by omega)).mono ?_
              rintro e wz ⟨rfl, hb⟩
              have J2 := RX.step HJ.out HKG.out hb
              exact hKq _ _ ⟨f0, f1, f2, f3, f4, true, f6, f7, f8, f9, f10, f11, f12, f13, f14, f15, rfl, _, _, _, _, _, _, _, _, _, _, _, _, _, _, _, _, rfl, J2.bel, J2.siz, ⟨J2.vals.1, J2.vals.2.1, J2.vals.2.2.1, J2.vals.2.2.2.1, J2.vals.2.2.2.2.1, fun _ => rfl, J2.vals.2.2.2.2.2.2.1, J2.vals.2.2.2.2.2.2.2.1, J2.vals.2.2.2.2.2.2.2.2.1, J2.vals.2.2.2.2.2.2.2.2.2.1, J2.vals.2.2.2.2.2.2.2.2.2.2.1, J2.vals.2.2.2.2.2.2.2.2.2.2.2.1, J2.vals.2.2.2.2.2.2.2.2.2.2.2.2.1, J2.vals.2.2.2.2.2.2.2.2.2.2.2.2.2.1, J2.vals.2.2.2.2.2.2.2.2.2.2.2.2.2.2.1, J2.vals.2.2.2.2.2.2.2.2.2.2.2.2.2.2.2.1, trivial⟩, trivial, J2.ne⟩
            · have e79 : s79 = .int .i64 1 := J.vals.2.2.2.2.2.1 (hd 5 (by simp))
              subst e79
              clear J hd hi hiN hn
              refine wpOp_step rfl (fun kq hKq => ?_)
              go_simp
              exact hKq _ _ ⟨f0, f1, f2, f3, f4, f5, true, f7, f8, f9, f10, f11, f12, f13, f14, f15, rfl, _, _, _, _, _, _, _, _, _, _, _, _, _, _, _, _, rfl, HJ.out.bel, HJ.out.siz, ⟨HJ.out.vals.1, HJ.out.vals.2.1, HJ.out.vals.2.2.1, HJ.out.vals.2.2.2.1, HJ.out.vals.2.2.2.2.1, HJ.out.vals.2.2.2.2.2.1, fun _ => rfl, HJ.out.vals.2.2.2.2.2.2.2.1, HJ.out.vals.2.2.2.2.2.2.2.2.1, HJ.out.vals.2.2.2.2.2.2.2.2.2.1, HJ.out.vals.2.2.2.2.2.2.2.2.2.2.1, HJ.out.vals.2.2.2.2.2.2.2.2.2.2.2.1, HJ.out.vals.2.2.2.2.2.2.2.2.2.2.2.2.1, HJ.out.vals.2.2.2.2.2.2.2.2.2.2.2.2.2.1, HJ.out.vals.2.2.2.2.2.2.2.2.2.2.2.2.2.2.1, HJ.out.vals.2.2.2.2.2.2.2.2.2.2.2.2.2.2.2.1, trivial⟩, trivial, HJ.out.ne⟩
            · have e80 : s80 = .bool true := J.vals.2.2.2.2.2.2.1 (hd 6 (by simp))
              subst e80
              clear J hd hi hiN hn
              refine wpOp_step rfl (fun kq hKq => ?_)
              go_simp
              exact hKq _ _ ⟨f0, f1, f2, f3, f4, f5, f6, true, f8, f9, f10, f11, f12, f13, f14, f15, rfl, _, _, _, _, _, _, _, _, _, _, _, _, _, _, _, _, rfl, HJ.out.bel, HJ.out.siz, ⟨HJ.out.vals.1, HJ.out.vals.2.1, HJ.out.vals.2.2.1, HJ.out.vals.2.2.2.1, HJ.out.vals.2.2.2.2.1, HJ.out.vals.2.2.2.2.2.1, HJ.out.vals.2.2.2.2.2.2.1, fun _ => rfl, HJ.out.vals.2.2.2.2.2.2.2.2.1, HJ.out.vals.2.2.2.2.2.2.2.2.2.1, HJ.out.vals.2.2.2.2.2.2.2.2.2.2.1, HJ.out.vals.2.2.2.2.2.2.2.2.2.2.2.1, HJ.out.vals.2.2.2.2.2.2.2.2.2.2.2.2.1, HJ.out.vals.2.2.2.2.2.2.2.2.2.2.2.2.2.1, HJ.out.vals.2.2.2.2.2.2.2.2.2.2.2.2.2.2.1, HJ.out.vals.2.2.2.2.2.2.2.2.2.2.2.2.2.2.2.1, trivial⟩, trivial, HJ.out.ne⟩
            · have e81 : s81 = .bool true := J.vals.2.2.2.2.2.2.2.1 (hd 7 (by simp))
              subst e81
              clear J hd hi hiN hn
              refine wpOp_step rfl (fun kq hKq => ?_)
              go_simp
              exact hKq _ _ ⟨f0, f1, f2, f3, f4, f5, f6, f7, true, f9, f10, f11, f12, f13, f14, f15, rfl, _, _, _, _, _, _, _, _, _, _, _, _, _, _, _, _, rfl, HJ.out.bel, HJ.out.siz, ⟨HJ.out.vals.1, HJ.out.vals.2.1, HJ.out.vals.2.2.1, HJ.out.vals.2.2.2.1, HJ.out.vals.2.2.2.2.1, HJ.out.vals.2.2.2.2.2.1, HJ.out.vals.2.2.2.2.2.2.1, HJ.out.vals.2.2.2.2.2.2.2.1, fun _ => rfl, HJ.out.vals.2.2.2.2.2.2.2.2.2.1, HJ.out.vals.2.2.2.2.2.2.2.2.2.2.1, HJ.out.vals.2.2.2.2.2.2.2.2.2.2.2.1, HJ.out.vals.2.2.2.2.2.2.2.2.2.2.2.2.1, HJ.out.vals.2.2.2.2.2.2.2.2.2.2.2.2.2.1, HJ.out.vals.2.2.2.2.2.2.2.2.2.2.2.2.2.2.1, HJ.out.vals.2.2.2.2.2.2.2.2.2.2.2.2.2.2.2.1, trivial⟩, trivial, HJ.out.ne⟩
            · have e81 : s81 = .bool true := J.vals.2.2.2.2.2.2.2.1 (hd 7 (by simp))
              subst e81
              clear J hd hi hiN hn
              refine wpOp_step rfl (fun kq hKq => ?_)
              go_simp
              exact hKq _ _ ⟨f0, f1, f2, f3, f4, f5, f6, f7, f8, true, f10, f11, f12, f13, f14, f15, rfl, _, _, _, _, _, _, _, _, _, _, _, _, _, _, _, _, rfl, HJ.out.bel, HJ.out.siz, ⟨HJ.out.vals.1, HJ.out.vals.2.1, HJ.out.vals.2.2.1, HJ.out.vals.2.2.2.1, HJ.out.vals.2.2.2.2.1, HJ.out.vals.2.2.2.2.2.1, HJ.out.vals.2.2.2.2.2.2.1, HJ.out.vals.2.2.2.2.2.2.2.1, HJ.out.vals.2.2.2.2.2.2.2.2.1, fun _ => rfl, HJ.out.vals.2.2.2.2.2.2.2.2.2.2.1, HJ.out.vals.2.2.2.2.2.2.2.2.2.2.2.1, HJ.out.vals.2.2.2.2.2.2.2.2.2.2.2.2.1, HJ.out.vals.2.2.2.2.2.2.2.2.2.2.2.2.2.1, HJ.out.vals.2.2.2.2.2.2.2.2.2.2.2.2.2.2.1, HJ.out.vals.2.2.2.2.2.2.2.2.2.2.2.2.2.2.2.1, trivial⟩, trivial, HJ.out.ne⟩
            · have e81 : s81 = .bool true := J.vals.2.2.2.2.2.2.2.1 (hd 7 (by simp))
              subst e81
              clear J hd hi hiN hn
              refine wpOp_step rfl (fun kq hKq => ?_)
              go_simp
              exact hKq _ _ ⟨f0, f1, f2, f3, f4, f5, f6, f7, f8, f9, true, f11, f12, f13, f14, f15, rfl, _, _, _, _, _, _, _, _, _, _, _, _, _, _, _, _, rfl, HJ.out.bel, HJ.out.siz, ⟨HJ.out.vals.1, HJ.out.vals.2.1, HJ.out.vals.2.2.1, HJ.out.vals.2.2.2.1, HJ.out.vals.2.2.2.2.1, HJ.out.vals.2.2.2.2.2.1, HJ.out.vals.2.2.2.2.2.2.1, HJ.out.vals.2.2.2.2.2.2.2.1, HJ.out.vals.2.2.2.2.2.2.2.2.1, HJ.out.vals.2.2.2.2.2.2.2.2.2.1, fun _ => rfl, HJ.out.vals.2.2.2.2.2.2.2.2.2.2.2.1, HJ.out.vals.2.2.2.2.2.2.2.2.2.2.2.2.1, HJ.out.vals.2.2.2.2.2.2.2.2.2.2.2.2.2.1, HJ.out.vals.2.2.2.2.2.2.2.2.2.2.2.2.2.2.1, HJ.out.vals.2.2.2.2.2.2.2.2.2.2.2.2.2.2.2.1, trivial⟩, trivial, HJ.out.ne⟩
            · have e81 : s81 = .bool true := J.vals.2.2.2.2.2.2.2.1 (hd 7 (by simp))
              subst e81
              clear J hd hi hiN hn
              refine wpOp_step rfl (fun kq hKq => ?_)
              go_simp
              exact hKq _ _ ⟨f0, f1, f2, f3, f4, f5, f6, f7, f8, f9, f10, true, f12, f13, f14, f15, rfl, _, _, _, _, _, _, _, _, _, _, _, _, _, _, _, _, rfl, HJ.out.bel, HJ.out.siz, ⟨HJ.out.vals.1, HJ.out.vals.2.1, HJ.out.vals.2.2.1, HJ.out.vals.2.2.2.1, HJ.out.vals.2.2.2.2.1, HJ.out.vals.2.2.2.2.2.1, HJ.out.vals.2.2.2.2.2.2.1, HJ.out.vals.2.2.2.2.2.2.2.1, HJ.out.vals.2.2.2.2.2.2.2.2.1, HJ.out.vals.2.2.2.2.2.2.2.2.2.1, HJ.out.vals.2.2.2.2.2.2.2.2.2.2.1, fun _ => rfl, HJ.out.vals.2.2.2.2.2.2.2.2.2.2.2.2.1, HJ.out.vals.2.2.2.2.2.2.2.2.2.2.2.2.2.1, HJ.out.vals.2.2.2.2.2.2.2.2.2.2.2.2.2.2.1, HJ.out.vals.2.2.2.2.2.2.2.2.2.2.2.2.2.2.2.1, trivial⟩, trivial, HJ.out.ne⟩
            · have e81 : s81 = .bool true := J.vals.2.2.2.2.2.2.2.1 (hd 7 (by simp))
              subst e81
              clear J hd hi hiN hn
              refine wpOp_step rfl (fun kq hKq => ?_)
              go_simp
              exact hKq _ _ ⟨f0, f1, f2, f3, f4, f5, f6, f7, f8, f9, f10, f11, true, f13, f14, f15, rfl, _, _, _, _, _, _, _, _, _, _, _, _, _, _, _, _, rfl, HJ.out.bel, HJ.out.siz, ⟨HJ.out.vals.1, HJ.out.vals.2.1, HJ.out.vals.2.2.1, HJ.out.vals.2.2.2.1, HJ.out.vals.2.2.2.2.1, HJ.out.vals.2.2.2.2.2.1, HJ.out.vals.2.2.2.2.2.2.1, HJ.out.vals.2.2.2.2.2.2.2.1, HJ.out.vals.2.2.2.2.2.2.2.2.1, HJ.out.vals.2.2.2.2.2.2.2.2.2.1, HJ.out.vals.2.2.2.2.2.2.2.2.2.2.1, HJ.out.vals.2.2.2.2.2.2.2.2.2.2.2.1, fun _ => rfl, HJ.out.vals.2.2.2.2.2.2.2.2.2.2.2.2.2.1, HJ.out.vals.2.2.2.2.2.2.2.2.2.2.2.2.2.2.1, HJ.out.vals.2.2.2.2.2.2.2.2.2.2.2.2.2.2.2.1, trivial⟩, trivial, HJ.out.ne⟩
            · have e81 : s81 = .bool true := J.vals.2.2.2.2.2.2.2.1 (hd 7 (by simp))
              subst e81
              clear J hd hi hiN hn
              refine wpOp_step rfl (fun kq hKq => ?_)
              go_simp
              exact hKq _ _ ⟨f0, f1, f2, f3, f4, f5, f6, f7, f8, f9, f10, f11, f12, true, f14, f15, rfl, _, _, _, _, _, _, _, _, _, _, _, _, _, _, _, _, rfl, HJ.out.bel, HJ.out.siz, ⟨HJ.out.vals.1, HJ.out.vals.2.1, HJ.out.vals.2.2.1, HJ.out.vals.2.2.2.1, HJ.out.vals.2.2.2.2.1, HJ.out.vals.2.2.2.2.2.1, HJ.out.vals.2.2.2.2.2.2.1, HJ.out.vals.2.2.2.2.2.2.2.1, HJ.out.vals.2.2.2.2.2.2.2.2.1, HJ.out.vals.2.2.2.2.2.2.2.2.2.1, HJ.out.vals.2.2.2.2.2.2.2.2.2.2.1, HJ.out.vals.2.2.2.2.2.2.2.2.2.2.2.1, HJ.out.vals.2.2.2.2.2.2.2.2.2.2.2.2.1, fun _ => rfl, HJ.out.vals.2.2.2.2.2.2.2.2.2.2.2.2.2.2.1, HJ.out.vals.2.2.2.2.2.2.2.2.2.2.2.2.2.2.2.1, trivial⟩, trivial, HJ.out.ne⟩
            · have e81 : s81 = .bool true := J.vals.2.2.2.2.2.2.2.1 (hd 7 (by simp))
              subst e81
              clear J hd hi hiN hn
              refine wpOp_step rfl (fun kq hKq => ?_)
              go_simp
              exact hKq _ _ ⟨f0, f1, f2, f3, f4, f5, f6, f7, f8, f9, f10, f11, f12, f13, true, f15, rfl, _, _, _, _, _, _, _, _, _, _, _, _, _, _, _, _, rfl, HJ.out.bel, HJ.out.siz, ⟨HJ.out.vals.1, HJ.out.vals.2.1, HJ.out.vals.2.2.1, HJ.out.vals.2.2.2.1, HJ.out.vals.2.2.2.2.1, HJ.out.vals.2.2.2.2.2.1, HJ.out.vals.2.2.2.2.2.2.1, HJ.out.vals.2.2.2.2.2.2.2.1, HJ.out.vals.2.2.2.2.2.2.2.2.1, HJ.out.vals.2.2.2.2.2.2.2.2.2.1, HJ.out.vals.2.2.2.2.2.2.2.2.2.2.1, HJ.out.vals.2.2.2.2.2.2.2.2.2.2.2.1, HJ.out.vals.2.2.2.2.2.2.2.2.2.2.2.2.1, HJ.out.vals.2.2.2.2.2.2.2.2.2.2.2.2.2.1, fun _ => rfl, HJ.out.vals.2.2.2.2.2.2.2.2.2.2.2.2.2.2.2.1, trivial⟩, trivial, HJ.out.ne⟩
            · have e81 : s81 = .bool true := J.vals.2.2.2.2.2.2.2.1 (hd 7 (by simp))
              subst e81
              have e88 : s88 = undef := J.vals.2.2.2.2.2.2.2.2.2.2.2.2.2.2.1 (hd 14 (by simp))
              subst e88
              clear J hd hi hiN hn
              refine wpOp_step rfl (fun kq hKq => ?_)
              go_simp
              exact hKq _ _ ⟨f0, f1, f2, f3, f4, f5, f6, f7, f8, f9, f10, f11, f12, f13, f14, true, rfl, _, _, _, _, _, _, _, _, _, _, _, _, _, _, _, _, rfl, HJ.out.bel, HJ.out.siz, ⟨HJ.out.vals.1, HJ.out.vals.2.1, HJ.out.vals.2.2.1, HJ.out.vals.2.2.2.1, HJ.out.vals.2.2.2.2.1, HJ.out.vals.2.2.2.2.2.1, HJ.out.vals.2.2.2.2.2.2.1, HJ.out.vals.2.2.2.2.2.2.2.1, HJ.out.vals.2.2.2.2.2.2.2.2.1, HJ.out.vals.2.2.2.2.2.2.2.2.2.1, HJ.out.vals.2.2.2.2.2.2.2.2.2.2.1, HJ.out.vals.2.2.2.2.2.2.2.2.2.2.2.1, HJ.out.vals.2.2.2.2.2.2.2.2.2.2.2.2.1, HJ.out.vals.2.2.2.2.2.2.2.2.2.2.2.2.2.1, HJ.out.vals.2.2.2.2.2.2.2.2.2.2.2.2.2.2.1, fun _ => rfl, trivial⟩, trivial, HJ.out.ne⟩
          rintro L act w' hs ⟨f0, f1, f2, f3, f4, f5, f6, f7, f8, f9, f10, f11, f12, f13, f14, f15, rfl, s74, s75, s76, s77, s78, s79, s80, s81, s82, s83, s84, s85, s86, s87, s88, s89, rfl, J⟩ hr
          have hd := early_done (by kernel_rfl) hs hr 16
          obtain rfl : f0 = true := hd 0 (by omega) (by simp)
          obtain rfl : f1 = true := hd 1 (by omega) (by simp)
          obtain rfl : f2 = true := hd 2 (by omega) (by simp)
          obtain rfl : f3 = true := hd 3 (by omega) (by simp)
          obtain rfl : f4 = true := hd 4 (by omega) (by simp)
          obtain rfl : f5 = true := hd 5 (by omega) (by simp)
          obtain rfl : f6 = true := hd 6 (by omega) (by simp)
          obtain rfl : f7 = true := hd 7 (by omega) (by simp)
          obtain rfl : f8 = true := hd 8 (by omega) (by simp)
          obtain rfl : f9 = true := hd 9 (by omega) (by simp)
          obtain rfl : f10 = true := hd 10 (by omega) (by simp)
          obtain rfl : f11 = true := hd 11 (by omega) (by simp)
          obtain rfl : f12 = true := hd 12 (by omega) (by simp)
          obtain rfl : f13 = true := hd 13 (by omega) (by simp)
          obtain rfl : f14 = true := hd 14 (by omega) (by simp)
          obtain rfl : f15 = true := hd 15 (by omega) (by simp)
          have e74 : s74 = Value.agg #[Value.bool a1, Value.slice p1 l1 q1, Value.bool aa1, Value.slice pp1 ll1 qq1] := J.vals.1 rfl
          subst e74
          have e75 : s75 = Value.slice (some { block := v3.heap.size, off := 0 }) 3 3 := J.vals.2.1 rfl
          subst e75
          have e76 : s76 = Value.int IntKind.i64 2 := J.vals.2.2.1 rfl
          subst e76
          have e77 : s77 = .pointer (some ⟨v3.heap.size, 8, none⟩) := J.vals.2.2.2.1 rfl
          subst e77
          have e78 : s78 = .agg #[.bool b4, .slice o4 m4 c4, .bool bb4, .slice oo4 mm4 cc4] := J.vals.2.2.2.2.1 rfl
          subst e78
          have e79 : s79 = .int .i64 1 := J.vals.2.2.2.2.2.1 rfl
          subst e79
          have e80 : s80 = .bool true := J.vals.2.2.2.2.2.2.1 rfl
          subst e80
          have e81 : s81 = .bool true := J.vals.2.2.2.2.2.2.2.1 rfl
          subst e81
          have e82 : s82 = undef := J.vals.2.2.2.2.2.2.2.2.1 rfl
          subst e82
          have e83 : s83 = undef := J.vals.2.2.2.2.2.2.2.2.2.1 rfl
          subst e83
          have e84 : s84 = undef := J.vals.2.2.2.2.2.2.2.2.2.2.1 rfl
          subst e84
          have e85 : s85 = undef := J.vals.2.2.2.2.2.2.2.2.2.2.2.1 rfl
          subst e85
          have e86 : s86 = undef := J.vals.2.2.2.2.2.2.2.2.2.2.2.2.1 rfl
          subst e86
          have e87 : s87 = undef := J.vals.2.2.2.2.2.2.2.2.2.2.2.2.2.1 rfl
          subst e87
          have e88 : s88 = undef := J.vals.2.2.2.2.2.2.2.2.2.2.2.2.2.2.1 rfl
          subst e88
          have e89 : s89 = .bool true := J.vals.2.2.2.2.2.2.2.2.2.2.2.2.2.2.2.1 rfl
          subst e89
          have hbel := J.bel
          have hsiz := J.siz
          clear hd hr hs J
          go_wp2
          go_roundw
          case rel => exact ⟨3, by decide, rfl, hbel⟩
          case measure => simp [intOf]
        · have tk2 := hid trivial
          have dq1 := decide_eq_false h1
          have H1 := hid h1
          clear h1
          by_cases h2 : 0 < e2
          · obtain rfl : e2 = 1 := by have := R2.out; omega
            clear HLe h2 R1 R2
            go_region_held3 (fun w' => ((w'.cell? ⟨w.heap.size, 0, none⟩ = some (.bool a1) ∧ w'.cell? ⟨w.heap.size, 1, none⟩ = some (.slice p1 l1 q1) ∧ w'.cell? ⟨w.heap.size, 2, none⟩ = some (.bool aa1) ∧ w'.cell? ⟨w.heap.size, 3, none⟩ = some (.slice pp1 ll1 qq1) ∧ w'.cell? ⟨w.heap.size + 1, 0, none⟩ = some (.bool a2) ∧ w'.cell? ⟨w.heap.size + 1, 1, none⟩ = some (.slice p2 l2 q2) ∧ w'.cell? ⟨w.heap.size + 1, 2, none⟩ = some (.bool aa2) ∧ w'.cell? ⟨w.heap.size + 1, 3, none⟩ = some (.slice pp2 ll2 qq2) ∧ w'.cell? ⟨w.heap.size + 2, 0, none⟩ = some (.bool a3) ∧ w'.cell? ⟨w.heap.size + 2, 1, none⟩ = some (.slice p3 l3 q3) ∧ w'.cell? ⟨w.heap.size + 2, 2, none⟩ = some (.bool aa3) ∧ w'.cell? ⟨w.heap.size + 2, 3, none⟩ = some (.slice pp3 ll3 qq3)) ∧ w'.cell? ⟨wq1.heap.size, 0, none⟩ = some (.bool b1) ∧ w'.cell? ⟨wq1.heap.size, 1, none⟩ = some (.slice o1 m1 c1) ∧ w'.cell? ⟨wq1.heap.size, 2, none⟩ = some (.bool bb1) ∧ w'.cell? ⟨wq1.heap.size, 3, none⟩ = some (.slice oo1 mm1 cc1)) ∧ w'.cell? ⟨v3.heap.size, 0, none⟩ = some (.bool b2) ∧ w'.cell? ⟨v3.heap.size, 1, none⟩ = some (.slice o2 m2 c2) ∧ w'.cell? ⟨v3.heap.size, 2, none⟩ = some (.bool bb2) ∧ w'.cell? ⟨v3.heap.size, 3, none⟩ = some (.slice oo2 mm2 cc2) ∧ w'.cell? ⟨v3.heap.size, 4, none⟩ = some (.bool b3) ∧ w'.cell? ⟨v3.heap.size, 5, none⟩ = some (.slice o3 m3 c3) ∧ w'.cell? ⟨v3.heap.size, 6, none⟩ = some (.bool bb3) ∧ w'.cell? ⟨v3.heap.size, 7, none⟩ = some (.slice oo3 mm3 cc3) ∧ w'.cell? ⟨v3.heap.size, 8, none⟩ = some (.bool b4) ∧ w'.cell? ⟨v3.heap.size, 9, none⟩ = some (.slice o4 m4 c4) ∧ w'.cell? ⟨v3.heap.size, 10, none⟩ = some (.bool bb4) ∧ w'.cell? ⟨v3.heap.size, 11, none⟩ = some (.slice oo4 mm4 cc4)) ((refine HS2.out _ ?_; first | assumption | exact Below.drew (by assumption))) (first
                | (clear tk1; go_at_call 38; refine (Compare_rv _ _ n1 d1 N4 D4 _ 8 _ ((VA.out _ hX.drew).mono (by omega)) (VE4.out _ hX.drew) M3.out (by omega)).mono ?_; rintro e u1 ⟨rfl, hb1⟩; have hY1 : Below W2.heap.size W2 u1 := hX.drew.trans (hb1.mono hX.size))
                | (clear tk2; go_at_call 38; refine (Compare_rv _ _ N4 D4 n2 d2 _ 8 _ (VE4.out _ hY1) ((VB.out _ hY1).mono (by omega)) M4.out (by omega)).mono ?_; rintro e u2 ⟨rfl, hb2⟩; have hY2 : Below W2.heap.size W2 u2 := hY1.trans (hb2.mono hY1.size)))
            go_wp2
            go_roundw
            case rel => exact ⟨3, by decide, rfl, hY2⟩
            case measure => simp [intOf]
          · have HLe2 := hid (HLe.out H1.out h2)
            have dq2 := decide_eq_false h2
            clear HLe h2
            go_region_held3 (fun w' => ((w'.cell? ⟨w.heap.size, 0, none⟩ = some (.bool a1) ∧ w'.cell? ⟨w.heap.size, 1, none⟩ = some (.slice p1 l1 q1) ∧ w'.cell? ⟨w.heap.size, 2, none⟩ = some (.bool aa1) ∧ w'.cell? ⟨w.heap.size, 3, none⟩ = some (.slice pp1 ll1 qq1) ∧ w'.cell? ⟨w.heap.size + 1, 0, none⟩ = some (.bool a2) ∧ w'.cell? ⟨w.heap.size + 1, 1, none⟩ = some (.slice p2 l2 q2) ∧ w'.cell? ⟨w.heap.size + 1, 2, none⟩ = some (.bool aa2) ∧ w'.cell? ⟨w.heap.size + 1, 3, none⟩ = some (.slice pp2 ll2 qq2) ∧ w'.cell? ⟨w.heap.size + 2, 0, none⟩ = some (.bool a3) ∧ w'.cell? ⟨w.heap.size + 2, 1, none⟩ = some (.slice p3 l3 q3) ∧ w'.cell? ⟨w.heap.size + 2, 2, none⟩ = some (.bool aa3) ∧ w'.cell? ⟨w.heap.size + 2, 3, none⟩ = some (.slice pp3 ll3 qq3)) ∧ w'.cell? ⟨wq1.heap.size, 0, none⟩ = some (.bool b1) ∧ w'.cell? ⟨wq1.heap.size, 1, none⟩ = some (.slice o1 m1 c1) ∧ w'.cell? ⟨wq1.heap.size, 2, none⟩ = some (.bool bb1) ∧ w'.cell? ⟨wq1.heap.size, 3, none⟩ = some (.slice oo1 mm1 cc1)) ∧ w'.cell? ⟨v3.heap.size, 0, none⟩ = some (.bool b2) ∧ w'.cell? ⟨v3.heap.size, 1, none⟩ = some (.slice o2 m2 c2) ∧ w'.cell? ⟨v3.heap.size, 2, none⟩ = some (.bool bb2) ∧ w'.cell? ⟨v3.heap.size, 3, none⟩ = some (.slice oo2 mm2 cc2) ∧ w'.cell? ⟨v3.heap.size, 4, none⟩ = some (.bool b3) ∧ w'.cell? ⟨v3.heap.size, 5, none⟩ = some (.slice o3 m3 c3) ∧ w'.cell? ⟨v3.heap.size, 6, none⟩ = some (.bool bb3) ∧ w'.cell? ⟨v3.heap.size, 7, none⟩ = some (.slice oo3 mm3 cc3) ∧ w'.cell? ⟨v3.heap.size, 8, none⟩ = some (.bool b4) ∧ w'.cell? ⟨v3.heap.size, 9, none⟩ = some (.slice o4 m4 c4) ∧ w'.cell? ⟨v3.heap.size, 10, none⟩ = some (.bool bb4) ∧ w'.cell? ⟨v3.heap.size, 11, none⟩ = some (.slice oo4 mm4 cc4)) ((refine HS2.out _ ?_; first | assumption | exact Below.drew (by assumption))) (first
                | (clear tk1; go_at_call 38; refine (Compare_rv _ _ n1 d1 N4 D4 _ 8 _ ((VA.out _ hX.drew).mono (by omega)) (VE4.out _ hX.drew) M3.out (by omega)).mono ?_; rintro e u1 ⟨rfl, hb1⟩; have hY1 : Below W2.heap.size W2 u1 := hX.drew.trans (hb1.mono hX.size))
                | (clear tk2; go_at_call 38; refine (Compare_rv _ _ N4 D4 n2 d2 _ 8 _ (VE4.out _ hY1) ((VB.out _ hY1).mono (by omega)) M4.out (by omega)).mono ?_; rintro e u2 ⟨rfl, hb2⟩; have hY2 : Below W2.heap.size W2 u2 := hY1.trans (hb2.mono hY1.size)))
            obtain ⟨e3, he3⟩ : ∃ t, t = cmpI D D4 := ⟨_, rfl⟩
            obtain ⟨e4, he4⟩ : ∃ t, t = cmpI (N4 * N4) (N * N) := ⟨_, rfl⟩
            have h4 : ¬ e4 < 0 := by rw [he4]; have := HLe2.out.2; unfold cmpI; (repeat' split) <;> omega
            have h3 : e3 = -1 ∨ e3 = 0 := by rw [he3]; have := HLe2.out.1; unfold cmpI; (repeat' split) <;> omega
            have M5 := hid he3.symm; have M6 := hid he4.symm
            clear he3 he4 hX hY1 dq1 dq2
            go_upto_region 14 with (fail)
            have tk3 := hid trivial
            go_region_held3 (fun w' => ((w'.cell? ⟨w.heap.size, 0, none⟩ = some (.bool a1) ∧ w'.cell? ⟨w.heap.size, 1, none⟩ = some (.slice p1 l1 q1) ∧ w'.cell? ⟨w.heap.size, 2, none⟩ = some (.bool aa1) ∧ w'.cell? ⟨w.heap.size, 3, none⟩ = some (.slice pp1 ll1 qq1) ∧ w'.cell? ⟨w.heap.size + 1, 0, none⟩ = some (.bool a2) ∧ w'.cell? ⟨w.heap.size + 1, 1, none⟩ = some (.slice p2 l2 q2) ∧ w'.cell? ⟨w.heap.size + 1, 2, none⟩ = some (.bool aa2) ∧ w'.cell? ⟨w.heap.size + 1, 3, none⟩ = some (.slice pp2 ll2 qq2) ∧ w'.cell? ⟨w.heap.size + 2, 0, none⟩ = some (.bool a3) ∧ w'.cell? ⟨w.heap.size + 2, 1, none⟩ = some (.slice p3 l3 q3) ∧ w'.cell? ⟨w.heap.size + 2, 2, none⟩ = some (.bool aa3) ∧ w'.cell? ⟨w.heap.size + 2, 3, none⟩ = some (.slice pp3 ll3 qq3)) ∧ w'.cell? ⟨wq1.heap.size, 0, none⟩ = some (.bool b1) ∧ w'.cell? ⟨wq1.heap.size, 1, none⟩ = some (.slice o1 m1 c1) ∧ w'.cell? ⟨wq1.heap.size, 2, none⟩ = some (.bool bb1) ∧ w'.cell? ⟨wq1.heap.size, 3, none⟩ = some (.slice oo1 mm1 cc1)) ∧ w'.cell? ⟨v3.heap.size, 0, none⟩ = some (.bool b2) ∧ w'.cell? ⟨v3.heap.size, 1, none⟩ = some (.slice o2 m2 c2) ∧ w'.cell? ⟨v3.heap.size, 2, none⟩ = some (.bool bb2) ∧ w'.cell? ⟨v3.heap.size, 3, none⟩ = some (.slice oo2 mm2 cc2) ∧ w'.cell? ⟨v3.heap.size, 4, none⟩ = some (.bool b3) ∧ w'.cell? ⟨v3.heap.size, 5, none⟩ = some (.slice o3 m3 c3) ∧ w'.cell? ⟨v3.heap.size, 6, none⟩ = some (.bool bb3) ∧ w'.cell? ⟨v3.heap.size, 7, none⟩ = some (.slice oo3 mm3 cc3) ∧ w'.cell? ⟨v3.heap.size, 8, none⟩ = some (.bool b4) ∧ w'.cell? ⟨v3.heap.size, 9, none⟩ = some (.slice o4 m4 c4) ∧ w'.cell? ⟨v3.heap.size, 10, none⟩ = some (.bool bb4) ∧ w'.cell? ⟨v3.heap.size, 11, none⟩ = some (.slice oo4 mm4 cc4)) ((refine HS2.out _ ?_; first | assumption | exact Below.drew (by assumption))) (first
                | (clear tk3; go_at_call 48; refine (cmp_z _ _ D D4 e3 8 _ (VDd.out _ hY2.drew) (VE4d.out _ hY2.drew) M5.out (by omega)).mono ?_; rintro e u3 ⟨rfl, hb3⟩; have hY3 : Below W2.heap.size W2 u3 := hY2.drew.trans (hb3.mono hY2.size)))
            clear hY2
            go_upto_region 15 with (fail)
            have tk4 := hid trivial; have tk5 := hid trivial; have tk6 := hid trivial
            go_region_held3 (fun w' => ((w'.cell? ⟨w.heap.size, 0, none⟩ = some (.bool a1) ∧ w'.cell? ⟨w.heap.size, 1, none⟩ = some (.slice p1 l1 q1) ∧ w'.cell? ⟨w.heap.size, 2, none⟩ = some (.bool aa1) ∧ w'.cell? ⟨w.heap.size, 3, none⟩ = some (.slice pp1 ll1 qq1) ∧ w'.cell? ⟨w.heap.size + 1, 0, none⟩ = some (.bool a2) ∧ w'.cell? ⟨w.heap.size + 1, 1, none⟩ = some (.slice p2 l2 q2) ∧ w'.cell? ⟨w.heap.size + 1, 2, none⟩ = some (.bool aa2) ∧ w'.cell? ⟨w.heap.size + 1, 3, none⟩ = some (.slice pp2 ll2 qq2) ∧ w'.cell? ⟨w.heap.size + 2, 0, none⟩ = some (.bool a3) ∧ w'.cell? ⟨w.heap.size + 2, 1, none⟩ = some (.slice p3 l3 q3) ∧ w'.cell? ⟨w.heap.size + 2, 2, none⟩ = some (.bool aa3) ∧ w'.cell? ⟨w.heap.size + 2, 3, none⟩ = some (.slice pp3 ll3 qq3)) ∧ w'.cell? ⟨wq1.heap.size, 0, none⟩ = some (.bool b1) ∧ w'.cell? ⟨wq1.heap.size, 1, none⟩ = some (.slice o1 m1 c1) ∧ w'.cell? ⟨wq1.heap.size, 2, none⟩ = some (.bool bb1) ∧ w'.cell? ⟨wq1.heap.size, 3, none⟩ = some (.slice oo1 mm1 cc1)) ∧ w'.cell? ⟨v3.heap.size, 0, none⟩ = some (.bool b2) ∧ w'.cell? ⟨v3.heap.size, 1, none⟩ = some (.slice o2 m2 c2) ∧ w'.cell? ⟨v3.heap.size, 2, none⟩ = some (.bool bb2) ∧ w'.cell? ⟨v3.heap.size, 3, none⟩ = some (.slice oo2 mm2 cc2) ∧ w'.cell? ⟨v3.heap.size, 4, none⟩ = some (.bool b3) ∧ w'.cell? ⟨v3.heap.size, 5, none⟩ = some (.slice o3 m3 c3) ∧ w'.cell? ⟨v3.heap.size, 6, none⟩ = some (.bool bb3) ∧ w'.cell? ⟨v3.heap.size, 7, none⟩ = some (.slice oo3 mm3 cc3) ∧ w'.cell? ⟨v3.heap.size, 8, none⟩ = some (.bool b4) ∧ w'.cell? ⟨v3.heap.size, 9, none⟩ = some (.slice o4 m4 c4) ∧ w'.cell? ⟨v3.heap.size, 10, none⟩ = some (.bool bb4) ∧ w'.cell? ⟨v3.heap.size, 11, none⟩ = some (.slice oo4 mm4 cc4)) ((refine HS2.out _ ?_; first | assumption | exact Below.drew (by assumption))) (first
                | (clear tk4; go_at_call 43; refine (mul_z _ _ N4 N4 (N4 * N4) 8 8 18 _ (VE4n.out _ hY3.drew) (VE4n.out _ hY3.drew) rfl (by omega) (by omega) (by omega)).mono ?_; rintro e u4 ⟨b5, o5, m5, c5, rfl, H5, hb4⟩; have hY4 : Below W2.heap.size W2 u4 := hY3.drew.trans (hb4.mono hY3.size))
                | (clear tk5; go_at_call 43; refine (mul_z _ _ N N (N * N) 8 8 18 _ (VDn.out _ hY4) (VDn.out _ hY4) rfl (by omega) (by omega) (by omega)).mono ?_; rintro e u5 ⟨b6, o6, m6, c6, rfl, H6, hb5⟩; have hY5 : Below W2.heap.size W2 u5 := hY4.trans (hb5.mono hY4.size))
                | (clear tk6; go_at_call 48; refine (cmp_z _ _ (N4 * N4) (N * N) e4 18 _ (H5.out.below hb5 (Nat.le_refl _)) H6.out M6.out (by omega)).mono ?_; rintro e u6 ⟨rfl, hb6⟩; have hY6 : Below W2.heap.size W2 u6 := hY5.trans (hb6.mono hY5.size)))
            have HY6 := hid hY6
            clear hY3 hY4 hY5 hY6 M5 M6
            rcases h3 with rfl | rfl
            · go_wp2
              go_roundw
              case rel => exact ⟨3, by decide, rfl, HY6.out⟩
              case measure => simp [intOf]
            · go_wp2
              go_roundw
              case rel => exact ⟨3, by decide, rfl, HY6.out⟩
              case measure => simp [intOf]
      · go_wp2
        go_ret
        exact ⟨rfl, HB2.out.trans (hX.mono HB2.out.size)⟩
end Go.Proofs.YtilpkocmdpofpaaGreatDoor
