/- Fractions: products, negation; exact.Times, exact.Minus. A region that draws its order and holds up to twelve values and one box for a struct of a bool and a slice: what holds between two of its operations. Written by gen_boxk.py. -/
import Derived.Test.YtilpkocmdpofpaaGreatDoorBk26
import Derived.Test.YtilpkocmdpofpaaGreatDoorBk11
import Derived.Test.YtilpkocmdpofpaaGreatDoorBk12
import Derived.Test.YtilpkocmdpofpaaGreatDoorBk18
/- Fractions: products, negation; exact.Times, exact.Minus. -/
namespace Go.Proofs.YtilpkocmdpofpaaGreatDoor
open Go.RowKit

set_option maxRecDepth 100000 in
set_option maxHeartbeats 1000000 in
theorem ftimes_any (u v : Value) (x y d1 d2 : Int) (Ka Kb : Nat) (w : World) (hu : Ft w u x d1 Ka) (hv : Ft w v y d2 Kb) (hKa : Ka ≤ 79) (hKb : Kb ≤ 79) :
    Calls Tryz.prog 93 #[u, v] w fun e w' => ∃ f, e = .returned f ∧ Ft w' f (x * y) (d1 * d2) (Ka + Kb) ∧ Below w.heap.size w w' := by
  obtain ⟨xb, xo, xm, xc, po, pm, pc, rfl, Hx, HP, Hxb⟩ := Ft.opened hu
  obtain ⟨yb, yo, ym, yc, qo, qm, qc, rfl, Hy, HQ, Hyb⟩ := Ft.opened hv
  clear hu hv
  obtain ⟨W0, hW0⟩ : ∃ W0, W0 = (((w.alloc (.cells #[.bool xb, .slice xo xm xc, .slice po pm pc] 86)).alloc (.cells #[.bool yb, .slice yo ym yc, .slice qo qm qc] 86)).alloc (.cells #[.bool false, .slice none 0 0, .slice none 0 0] 86)) := ⟨_, rfl⟩
  have hB0 : Below w.heap.size w W0 := by rw [hW0]; exact (((Below.refl _ _).alloc (Nat.le_refl _) _).alloc (by simp) _).alloc (by simp <;> omega) _
  have hz0 : W0.heap.size = w.heap.size + 3 := by rw [hW0]; simp
  have HS : Hid (∀ w', Below (w.heap.size + 2) W0 w' → w'.cell? ⟨w.heap.size, 0, none⟩ = some (.bool xb) ∧ w'.cell? ⟨w.heap.size, 1, none⟩ = some (.slice xo xm xc) ∧ w'.cell? ⟨w.heap.size, 2, none⟩ = some (.slice po pm pc) ∧ w'.cell? ⟨w.heap.size + 1, 0, none⟩ = some (.bool yb) ∧ w'.cell? ⟨w.heap.size + 1, 1, none⟩ = some (.slice yo ym yc) ∧ w'.cell? ⟨w.heap.size + 1, 2, none⟩ = some (.slice qo qm qc)) := hid (fun w' hb => by
    refine ⟨?_, ?_, ?_, ?_, ?_, ?_⟩ <;> (rw [hb.cell (by simp <;> omega), hW0]; simp [go_sem]))
  have HT : Hid (∀ w', Below (w.heap.size + 3) W0 w' → (w'.cell? ⟨w.heap.size + 2, 0, none⟩ = some (.bool false) ∧ w'.cell? ⟨w.heap.size + 2, 1, none⟩ = some (.slice none 0 0) ∧ w'.cell? ⟨w.heap.size + 2, 2, none⟩ = some (.slice none 0 0)) ∧ (w'.frozen? ⟨w.heap.size + 2, 0, none⟩ = false ∧ w'.frozen? ⟨w.heap.size + 2, 1, none⟩ = false ∧ w'.frozen? ⟨w.heap.size + 2, 2, none⟩ = false)) := hid (fun w' hb => by
    refine ⟨⟨?_, ?_, ?_⟩, ?_, ?_, ?_⟩ <;> (first | (rw [hb.cell (by simp <;> omega), hW0]; simp [go_sem]; done) | (rw [hb.frozen (by simp <;> omega), hW0]; simp [go_sem]; done)))
  have HB0 := hid hB0; have Hz0 := hid hz0; have HW := hid hW0
  clear hW0 hB0 hz0
  have HTi := hid (fun (w' : World) (hb : Below w.heap.size w w') => times_short _ _ x y Ka Kb w' (Hx.out w' hb) (Hy.out w' hb) hKa hKb)
  have HMu := hid (fun (w' : World) (hb : Below w.heap.size w w') => multiply_short _ _ d1 d2 Ka Kb w' (HP.out w' hb) (HQ.out w' hb) hKa hKb)
  have hbld : ∀ (b : Bool) (o o2 : Option Addr) (m c m2 c2 : Nat) (w : World), (Instr.build 86 #[(0, .agg #[.bool b, .slice o m c]), (1, .slice o2 m2 c2)]).run Tryz.prog w = .ok (.agg #[.bool b, .slice o m c, .slice o2 m2 c2]) w := fun b o o2 m c m2 c2 w => by kernel_rfl
  go_enter Tryz.func93, Tryz.ntmps93
  go_upto_region 1 with (fail)
  rw [← HW.out]
  go_region_held3 (fun w' => w'.cell? ⟨w.heap.size, 0, none⟩ = some (.bool xb) ∧ w'.cell? ⟨w.heap.size, 1, none⟩ = some (.slice xo xm xc) ∧ w'.cell? ⟨w.heap.size, 2, none⟩ = some (.slice po pm pc) ∧ w'.cell? ⟨w.heap.size + 1, 0, none⟩ = some (.bool yb) ∧ w'.cell? ⟨w.heap.size + 1, 1, none⟩ = some (.slice yo ym yc) ∧ w'.cell? ⟨w.heap.size + 1, 2, none⟩ = some (.slice qo qm qc)) ((refine HS.out _ ?_; repeat (first | assumption | exact Below.refl _ _ | exact (Below.refl _ _).drew | exact Below.drew (by assumption) | (refine Below.setCell ?_ (by simp) _)))) (first
    | (go_at_call 54; refine (HTi.out _ HB0.out.drew).mono ?_; rintro e w1 ⟨_, rfl, hv1, hb1⟩; obtain ⟨b2, o2, m2, c2, rfl, H2, H2s, H2b⟩ := It.opened hv1; have hX1 : Below W0.heap.size W0 w1 := (Below.refl _ _).drew.trans hb1; have hS1 : Below (w.heap.size + 2) W0 w1 := hX1.mono (by have := Hz0.out; omega))
    | (go_at_call 97; refine (HMu.out _ (HB0.out.trans (hX1.mono HB0.out.size))).mono ?_; rintro e w2 ⟨_, rfl, hv2, hb2⟩; obtain ⟨o3, m3, c3, rfl, H3⟩ := Nt.opened hv2; have hX2 : Below W0.heap.size W0 w2 := hX1.trans (hb2.mono hX1.size); have hS2 : Below (w.heap.size + 2) W0 w2 := hX2.mono (by have := Hz0.out; omega); obtain ⟨⟨hr0, hr1, hr2⟩, hf0, hf1, hf2⟩ := HT.out _ (hX2.mono (by have := Hz0.out; omega))))
  go_wp2
  have hz0 := Hz0.out; have hs1 := hX2.size
  have hw2 : Below w.heap.size w w2 := HB0.out.trans (hX2.mono HB0.out.size)
  refine bodyPost_ret (v := .agg #[.bool b2, .slice o2 m2 c2, .slice o3 m3 c3]) (by simp [results, Tryz.results93, go_sem, hr0, hr1, hr2]) rfl ⟨_, rfl, ?_, ((hw2.setCell (by simp <;> omega) _).setCell (by simp <;> omega) _).setCell (by simp <;> omega) _⟩
  refine ⟨_, _, by rw [H2b.out], ?_, ?_⟩
  · exact nt_keeps (((((Keeps.refl _ _).setCell (u := .bool false) hr0 (fun x h => (by cases h)) _).setCell (u := .slice none 0 0) (by simp [go_sem, hr1]) (fun x h => (by cases h)) _).setCell (u := .slice none 0 0) (by simp [go_sem, hr2]) (fun x h => (by cases h)) _)) (H2s.out _ hb2)
  · exact nt_keeps (((((Keeps.refl _ _).setCell (u := .bool false) hr0 (fun x h => (by cases h)) _).setCell (u := .slice none 0 0) (by simp [go_sem, hr1]) (fun x h => (by cases h)) _).setCell (u := .slice none 0 0) (by simp [go_sem, hr2]) (fun x h => (by cases h)) _)) (H3.out _ (Below.refl _ _))

set_option maxRecDepth 100000 in
set_option maxHeartbeats 1000000 in
theorem Times_any (u v : Value) (x1 y1 x2 y2 : Int) (K : Nat) (w : World) (hu : Ra w u x1 y1 K) (hv : Ra w v x2 y2 K) (hK : K ≤ 150) :
    Calls Tryz.prog 36 #[u, v] w (RetR w (lowN (rn x1 y1 * rn x2 y2) (rd y1 * rd y2)) (lowD (rn x1 y1 * rn x2 y2) (rd y1 * rd y2)) (2 * ((K + 1) / 2 + 1 + ((K + 1) / 2 + 1)))) := by
  have hR1 := fun (w' : World) (hb : Below w.heap.size w w') => readRatio_any u x1 y1 K w' (hu.below hb (Nat.le_refl _)) (by omega)
  have hR2 := fun (w' : World) (hb : Below w.heap.size w w') => readRatio_any v x2 y2 K w' (hv.below hb (Nat.le_refl _)) (by omega)
  obtain ⟨ab, ao, am, ac, bb, bo, bm, bc, rfl, _, _⟩ := Ra.opened hu
  obtain ⟨cb, co, cm, cc, db, d_o, dm, dc, rfl, _, _⟩ := Ra.opened hv
  have hd0 : 0 < rd y1 * rd y2 := Int.mul_pos (rd_pos y1) (rd_pos y2)
  have HR1 := hid hR1; have HR2 := hid hR2
  obtain ⟨z1, hz1⟩ : ∃ z1, z1 = rn x1 y1 := ⟨_, rfl⟩
  obtain ⟨z2, hz2⟩ : ∃ z2, z2 = rn x2 y2 := ⟨_, rfl⟩
  obtain ⟨e1', he1⟩ : ∃ d, d = rd y1 := ⟨_, rfl⟩
  obtain ⟨e2', he2⟩ : ∃ d, d = rd y2 := ⟨_, rfl⟩
  rw [← he1, ← he2] at hd0
  rw [← hz1, ← hz2, ← he1, ← he2]
  rw [← hz1, ← he1] at HR1
  rw [← hz2, ← he2] at HR2
  clear hR1 hR2 hu hv hz1 hz2 he1 he2
  obtain ⟨W0, hW0⟩ : ∃ W0, W0 = (((w.alloc (.cells #[.bool ab, .slice ao am ac, .bool bb, .slice bo bm bc] 26)).alloc (.cells #[.bool cb, .slice co cm cc, .bool db, .slice d_o dm dc] 26)).alloc (.cells #[.bool false, .slice none 0 0, .bool false, .slice none 0 0] 26)) := ⟨_, rfl⟩
  have hB0 : Below w.heap.size w W0 := by rw [hW0]; exact (((Below.refl _ _).alloc (Nat.le_refl _) _).alloc (by simp) _).alloc (by simp <;> omega) _
  have hz0 : W0.heap.size = w.heap.size + 3 := by rw [hW0]; simp
  have HS : Hid (∀ w', Below (w.heap.size + 2) W0 w' → w'.cell? ⟨w.heap.size, 0, none⟩ = some (.bool ab) ∧ w'.cell? ⟨w.heap.size, 1, none⟩ = some (.slice ao am ac) ∧ w'.cell? ⟨w.heap.size, 2, none⟩ = some (.bool bb) ∧ w'.cell? ⟨w.heap.size, 3, none⟩ = some (.slice bo bm bc) ∧ w'.cell? ⟨w.heap.size + 1, 0, none⟩ = some (.bool cb) ∧ w'.cell? ⟨w.heap.size + 1, 1, none⟩ = some (.slice co cm cc) ∧ w'.cell? ⟨w.heap.size + 1, 2, none⟩ = some (.bool db) ∧ w'.cell? ⟨w.heap.size + 1, 3, none⟩ = some (.slice d_o dm dc)) := hid (fun w' hb => by
    refine ⟨?_, ?_, ?_, ?_, ?_, ?_, ?_, ?_⟩ <;> (rw [hb.cell (by simp <;> omega), hW0]; simp [go_sem]))
  have HT : Hid (∀ w', Below (w.heap.size + 3) W0 w' → (w'.cell? ⟨w.heap.size + 2, 0, none⟩ = some (.bool false) ∧ w'.cell? ⟨w.heap.size + 2, 1, none⟩ = some (.slice none 0 0) ∧ w'.cell? ⟨w.heap.size + 2, 2, none⟩ = some (.bool false) ∧ w'.cell? ⟨w.heap.size + 2, 3, none⟩ = some (.slice none 0 0)) ∧ (w'.frozen? ⟨w.heap.size + 2, 0, none⟩ = false ∧ w'.frozen? ⟨w.heap.size + 2, 1, none⟩ = false ∧ w'.frozen? ⟨w.heap.size + 2, 2, none⟩ = false ∧ w'.frozen? ⟨w.heap.size + 2, 3, none⟩ = false)) := hid (fun w' hb => by
    refine ⟨⟨?_, ?_, ?_, ?_⟩, ?_, ?_, ?_, ?_⟩ <;> (first | (rw [hb.cell (by simp <;> omega), hW0]; simp [go_sem]; done) | (rw [hb.frozen (by simp <;> omega), hW0]; simp [go_sem]; done)))
  have HB0 := hid hB0; have Hz0 := hid hz0; have HW := hid hW0; have Hd0 := hid hd0
  clear hW0 hB0 hz0 hd0
  go_enter Tryz.func36, Tryz.ntmps36
  go_upto_region 1 with (fail)
  rw [← HW.out]
  go_region_held3 (fun w' => w'.cell? ⟨w.heap.size, 0, none⟩ = some (.bool ab) ∧ w'.cell? ⟨w.heap.size, 1, none⟩ = some (.slice ao am ac) ∧ w'.cell? ⟨w.heap.size, 2, none⟩ = some (.bool bb) ∧ w'.cell? ⟨w.heap.size, 3, none⟩ = some (.slice bo bm bc) ∧ w'.cell? ⟨w.heap.size + 1, 0, none⟩ = some (.bool cb) ∧ w'.cell? ⟨w.heap.size + 1, 1, none⟩ = some (.slice co cm cc) ∧ w'.cell? ⟨w.heap.size + 1, 2, none⟩ = some (.bool db) ∧ w'.cell? ⟨w.heap.size + 1, 3, none⟩ = some (.slice d_o dm dc)) ((refine HS.out _ ?_; repeat (first | assumption | exact Below.refl _ _ | exact (Below.refl _ _).drew | exact Below.drew (by assumption) | (refine Below.setCell ?_ (by simp) _)))) (first
    | (go_at_call_of 53 (ao); refine (HR1.out _ HB0.out.drew).mono ?_; rintro e w1 ⟨_, rfl, hf1, hb1⟩; obtain ⟨e1, o1, m1, c1, p1, n1, k1, rfl, H1, H1s, H1b⟩ := Ft.opened hf1; have hX1 : Below W0.heap.size W0 w1 := (Below.refl _ _).drew.trans hb1; have hY1 : Below (w.heap.size + 2) W0 w1 := hX1.mono (by have := Hz0.out; omega))
    | (go_at_call_of 53 (co); refine (HR2.out _ (HB0.out.trans (hX1.mono HB0.out.size))).mono ?_; rintro e w2 ⟨_, rfl, hf2, hb2⟩; obtain ⟨e2, o2, m2, c2, p2, n2, k2, rfl, H2, H2s, H2b⟩ := Ft.opened hf2; have hX2 : Below W0.heap.size W0 w2 := hX1.trans (hb2.mono hX1.size); have hY2 : Below (w.heap.size + 2) W0 w2 := hX2.mono (by have := Hz0.out; omega))
    | (go_at_call 93; refine (ftimes_any _ _ _ _ _ _ _ _ _ (Ft.below hf1 hb2 (Nat.le_refl _)) hf2 (by omega) (by omega)).mono ?_; rintro e w3 ⟨_, rfl, hf3, hb3⟩; obtain ⟨e3, o3, m3, c3, p3, n3, k3, rfl, H3, H3s, H3b⟩ := Ft.opened hf3; have hX3 : Below W0.heap.size W0 w3 := hX2.trans (hb3.mono hX2.size); have hY3 : Below (w.heap.size + 2) W0 w3 := hX3.mono (by have := Hz0.out; omega))
    | (go_at_call 67; refine (fracValue_any _ _ _ _ _ hf3 Hd0.out (by omega)).mono ?_; rintro e w4 ⟨_, rfl, hr4, hb4⟩; obtain ⟨e4, o4, m4, c4, e5, o5, m5, c5, rfl, H4, H5⟩ := FrR.opened hr4; have hX4 : Below W0.heap.size W0 w4 := hX3.trans (hb4.mono hX3.size); have hY4 : Below (w.heap.size + 2) W0 w4 := hX4.mono (by have := Hz0.out; omega); obtain ⟨⟨hr0, hr1, hr2, hr3⟩, hf0, hf1', hf2', hf3'⟩ := HT.out _ (hX4.mono (by have := Hz0.out; omega))))
  go_wp2
  have hz0 := Hz0.out; have hs3 := hX3.size
  have hw4 : Below w.heap.size w w4 := HB0.out.trans (hX4.mono HB0.out.size)
  have hlt : w.heap.size + 2 < w3.heap.size := by omega
  refine bodyPost_ret (v := .agg #[.bool e4, .slice o4 m4 c4, .bool e5, .slice o5 m5 c5]) (by simp [results, Tryz.results36, go_sem, hr0, hr1, hr2, hr3]) rfl ⟨_, rfl, ?_, (((hw4.setCell (by simp <;> omega) _).setCell (by simp <;> omega) _).setCell (by simp <;> omega) _).setCell (by simp <;> omega) _⟩
  refine ⟨_, _, _, _, rfl, ?_, ?_⟩
  · exact ((((H4.out.set hlt _).set hlt _).set hlt _).set hlt _).base (by omega)
  · exact ((((H5.out.set hlt _).set hlt _).set hlt _).set hlt _).base (by omega)


set_option maxRecDepth 100000 in
set_option maxHeartbeats 1000000 in
theorem fneg_any (u : Value) (x d : Int) (K : Nat) (w : World) (hu : Ft w u x d K) :
    Calls Tryz.prog 87 #[u] w fun e w' => ∃ f, e = .returned f ∧ Ft w' f (-x) d K ∧ Below w.heap.size w w' := by
  obtain ⟨xb, xo, xm, xc, po, pm, pc, rfl, Hx, HP, Hxb⟩ := Ft.opened hu
  clear hu
  obtain ⟨W0, hW0⟩ : ∃ W0, W0 = ((w.alloc (.cells #[.bool xb, .slice xo xm xc, .slice po pm pc] 86)).alloc (.cells #[.bool false, .slice none 0 0, .slice none 0 0] 86)) := ⟨_, rfl⟩
  have hB0 : Below w.heap.size w W0 := by rw [hW0]; exact ((Below.refl _ _).alloc (Nat.le_refl _) _).alloc (by simp) _
  have hz0 : W0.heap.size = w.heap.size + 2 := by rw [hW0]; simp
  have HS : Hid (∀ w', Below (w.heap.size + 1) W0 w' → w'.cell? ⟨w.heap.size, 0, none⟩ = some (.bool xb) ∧ w'.cell? ⟨w.heap.size, 1, none⟩ = some (.slice xo xm xc) ∧ w'.cell? ⟨w.heap.size, 2, none⟩ = some (.slice po pm pc)) := hid (fun w' hb => by
    refine ⟨?_, ?_, ?_⟩ <;> (rw [hb.cell (by simp <;> omega), hW0]; simp [go_sem]))
  have HT : Hid (∀ w', Below (w.heap.size + 2) W0 w' → (w'.cell? ⟨w.heap.size + 1, 0, none⟩ = some (.bool false) ∧ w'.cell? ⟨w.heap.size + 1, 1, none⟩ = some (.slice none 0 0) ∧ w'.cell? ⟨w.heap.size + 1, 2, none⟩ = some (.slice none 0 0)) ∧ (w'.frozen? ⟨w.heap.size + 1, 0, none⟩ = false ∧ w'.frozen? ⟨w.heap.size + 1, 1, none⟩ = false ∧ w'.frozen? ⟨w.heap.size + 1, 2, none⟩ = false)) := hid (fun w' hb => by
    refine ⟨⟨?_, ?_, ?_⟩, ?_, ?_, ?_⟩ <;> (first | (rw [hb.cell (by simp <;> omega), hW0]; simp [go_sem]; done) | (rw [hb.frozen (by simp <;> omega), hW0]; simp [go_sem]; done)))
  have HB0 := hid hB0; have Hz0 := hid hz0; have HW := hid hW0
  clear hW0 hB0 hz0
  have HNe := hid (fun (w' : World) (hb : Below w.heap.size w w') => negated_any _ x K w' (Hx.out w' hb))
  have hbld : ∀ (b : Bool) (o o2 : Option Addr) (m c m2 c2 : Nat) (w : World), (Instr.build 86 #[(0, .agg #[.bool b, .slice o m c]), (1, .slice o2 m2 c2)]).run Tryz.prog w = .ok (.agg #[.bool b, .slice o m c, .slice o2 m2 c2]) w := fun b o o2 m c m2 c2 w => by kernel_rfl
  go_enter Tryz.func87, Tryz.ntmps87
  go_upto_region 1 with (fail)
  rw [← HW.out]
  go_region_held3 (fun w' => w'.cell? ⟨w.heap.size, 0, none⟩ = some (.bool xb) ∧ w'.cell? ⟨w.heap.size, 1, none⟩ = some (.slice xo xm xc) ∧ w'.cell? ⟨w.heap.size, 2, none⟩ = some (.slice po pm pc)) ((refine HS.out _ ?_; repeat (first | assumption | exact Below.refl _ _ | exact (Below.refl _ _).drew | exact Below.drew (by assumption) | (refine Below.setCell ?_ (by simp) _)))) (first
    | (go_at_call 138; refine (HNe.out _ HB0.out.drew).mono ?_; rintro e w2 ⟨_, rfl, hv2, hb2⟩; obtain ⟨b2, o2, m2, c2, rfl, H2, H2s, H2b⟩ := It.opened hv2; have hX2 : Below W0.heap.size W0 w2 := (Below.refl _ _).drew.trans hb2; have hS2 : Below (w.heap.size + 1) W0 w2 := hX2.mono (by have := Hz0.out; omega); obtain ⟨⟨hr0, hr1, hr2⟩, hf0, hf1, hf2⟩ := HT.out _ (hX2.mono (by have := Hz0.out; omega))))
  go_wp2
  have hz0 := Hz0.out; have hs1 := hX2.size
  have hw2 : Below w.heap.size w w2 := HB0.out.trans (hX2.mono HB0.out.size)
  refine bodyPost_ret (v := .agg #[.bool b2, .slice o2 m2 c2, .slice po pm pc]) (by simp [results, Tryz.results87, go_sem, hr0, hr1, hr2]) rfl ⟨_, rfl, ?_, ((hw2.setCell (by simp <;> omega) _).setCell (by simp <;> omega) _).setCell (by simp <;> omega) _⟩
  refine ⟨_, _, by rw [H2b.out], ?_, ?_⟩
  · exact nt_keeps (((((Keeps.refl _ _).setCell (u := .bool false) hr0 (fun x h => (by cases h)) _).setCell (u := .slice none 0 0) (by simp [go_sem, hr1]) (fun x h => (by cases h)) _).setCell (u := .slice none 0 0) (by simp [go_sem, hr2]) (fun x h => (by cases h)) _)) (H2s.out _ (Below.refl _ _))
  · exact nt_keeps (((((Keeps.refl _ _).setCell (u := .bool false) hr0 (fun x h => (by cases h)) _).setCell (u := .slice none 0 0) (by simp [go_sem, hr1]) (fun x h => (by cases h)) _).setCell (u := .slice none 0 0) (by simp [go_sem, hr2]) (fun x h => (by cases h)) _)) (HP.out _ hw2)
end Go.Proofs.YtilpkocmdpofpaaGreatDoor

/- A region that draws its order and holds up to twelve values and one box for a struct of a bool and a slice: what holds between two of its operations. Written by gen_boxk.py. -/
namespace Go.Proofs.YtilpkocmdpofpaaGreatDoor
open Go.RowKit

theorem it_keepg (z : Int) (K : Nat) : KeepG .u64 (fun w v => It w v z K) := fun _ _ _ hk h => it_keeps hk h
def Kc (u : Value) (_ : World) (v : Value) : Prop := v = u
def Kt (_ : World) (_ : Value) : Prop := True
theorem kc_keep (u : Value) : KeepG .u64 (Kc u) := fun _ _ _ _ h => h
theorem kt_keep : KeepG .u64 Kt := fun _ _ _ _ h => h

/-- s points to a box that holds an integer of 64 bit digits. -/
def NewI (B : Nat) (w : World) (s : Value) (z : Int) (R : Nat) : Prop := ∃ p b o m c, s = .pointer (some ⟨p, 0, none⟩) ∧ B ≤ p ∧ w.cell? ⟨p, 0, none⟩ = some (.bool b) ∧ w.cell? ⟨p, 1, none⟩ = some (.slice o m c) ∧ It w (.agg #[.bool b, .slice o m c]) z R

structure BK (B : Nat) (W0 : World) (G0 G1 G2 G3 G4 G5 G6 G7 G8 G9 G10 G11 : World → Value → Prop) (b0 b1 b2 b3 b4 b5 b6 b7 b8 b9 b10 b11 : Bool) (s0 s1 s2 s3 s4 s5 s6 s7 s8 s9 s10 s11 : Value) (p1 q1 : Bool) (t1 x1 : Value) (w : World) : Prop where
  bel : Below B W0 w
  siz : B ≤ w.heap.size
  v0 : b0 = true → G0 w s0
  v1 : b1 = true → G1 w s1
  v2 : b2 = true → G2 w s2
  v3 : b3 = true → G3 w s3
  v4 : b4 = true → G4 w s4
  v5 : b5 = true → G5 w s5
  v6 : b6 = true → G6 w s6
  v7 : b7 = true → G7 w s7
  v8 : b8 = true → G8 w s8
  v9 : b9 = true → G9 w s9
  v10 : b10 = true → G10 w s10
  v11 : b11 = true → G11 w s11
  a1 : p1 = true → PtrAt .u64 B w t1 q1 x1
structure KK (G0 G1 G2 G3 G4 G5 G6 G7 G8 G9 G10 G11 : World → Value → Prop) : Prop where
  k0 : KeepG .u64 G0
  k1 : KeepG .u64 G1
  k2 : KeepG .u64 G2
  k3 : KeepG .u64 G3
  k4 : KeepG .u64 G4
  k5 : KeepG .u64 G5
  k6 : KeepG .u64 G6
  k7 : KeepG .u64 G7
  k8 : KeepG .u64 G8
  k9 : KeepG .u64 G9
  k10 : KeepG .u64 G10
  k11 : KeepG .u64 G11

section
variable {B : Nat} {W0 : World} {G0 G1 G2 G3 G4 G5 G6 G7 G8 G9 G10 G11 : World → Value → Prop} {b0 b1 b2 b3 b4 b5 b6 b7 b8 b9 b10 b11 : Bool} {s0 s1 s2 s3 s4 s5 s6 s7 s8 s9 s10 s11 : Value} {p1 q1 : Bool} {t1 x1 : Value} {w w' : World}
theorem BK.start (h : Below B W0 w) (hs : B ≤ w.heap.size) : BK B W0 G0 G1 G2 G3 G4 G5 G6 G7 G8 G9 G10 G11 false false false false false false false false false false false false s0 s1 s2 s3 s4 s5 s6 s7 s8 s9 s10 s11 false false t1 x1 w :=
  ⟨h, hs, nofun, nofun, nofun, nofun, nofun, nofun, nofun, nofun, nofun, nofun, nofun, nofun, nofun⟩
theorem BK.step (h : BK B W0 G0 G1 G2 G3 G4 G5 G6 G7 G8 G9 G10 G11 b0 b1 b2 b3 b4 b5 b6 b7 b8 b9 b10 b11 s0 s1 s2 s3 s4 s5 s6 s7 s8 s9 s10 s11 p1 q1 t1 x1 w) (k : KK G0 G1 G2 G3 G4 G5 G6 G7 G8 G9 G10 G11) (hb : Below w.heap.size w w') : BK B W0 G0 G1 G2 G3 G4 G5 G6 G7 G8 G9 G10 G11 b0 b1 b2 b3 b4 b5 b6 b7 b8 b9 b10 b11 s0 s1 s2 s3 s4 s5 s6 s7 s8 s9 s10 s11 p1 q1 t1 x1 w' := by
  have hk : Keeps .u64 w w' := Keeps.below hb (Nat.le_refl _)
  exact ⟨h.bel.trans (hb.mono h.siz), Nat.le_trans h.siz hb.size, fun e => k.k0 _ _ _ hk (h.v0 e), fun e => k.k1 _ _ _ hk (h.v1 e), fun e => k.k2 _ _ _ hk (h.v2 e), fun e => k.k3 _ _ _ hk (h.v3 e), fun e => k.k4 _ _ _ hk (h.v4 e), fun e => k.k5 _ _ _ hk (h.v5 e), fun e => k.k6 _ _ _ hk (h.v6 e), fun e => k.k7 _ _ _ hk (h.v7 e), fun e => k.k8 _ _ _ hk (h.v8 e), fun e => k.k9 _ _ _ hk (h.v9 e), fun e => k.k10 _ _ _ hk (h.v10 e), fun e => k.k11 _ _ _ hk (h.v11 e), fun e => (h.a1 e).below hb⟩
theorem BK.alloc1 (h : BK B W0 G0 G1 G2 G3 G4 G5 G6 G7 G8 G9 G10 G11 b0 b1 b2 b3 b4 b5 b6 b7 b8 b9 b10 b11 s0 s1 s2 s3 s4 s5 s6 s7 s8 s9 s10 s11 p1 false t1 x1 w) (k : KK G0 G1 G2 G3 G4 G5 G6 G7 G8 G9 G10 G11) (T : TypeId) :
    BK B W0 G0 G1 G2 G3 G4 G5 G6 G7 G8 G9 G10 G11 b0 b1 b2 b3 b4 b5 b6 b7 b8 b9 b10 b11 s0 s1 s2 s3 s4 s5 s6 s7 s8 s9 s10 s11 true false (.pointer (some ⟨w.heap.size, 0, none⟩)) x1 (w.alloc (.cells #[.bool false, .slice none 0 0] T)) := by
  have J := h.step k ((Below.refl w.heap.size w).alloc (Nat.le_refl _) (.cells #[.bool false, .slice none 0 0] T))
  exact ⟨J.bel, J.siz, J.v0, J.v1, J.v2, J.v3, J.v4, J.v5, J.v6, J.v7, J.v8, J.v9, J.v10, J.v11, fun _ => ptr_new .u64 B w T _ h.siz⟩
theorem BK.store1 {p : Nat} {u0 u1 : Value} (h : BK B W0 G0 G1 G2 G3 G4 G5 G6 G7 G8 G9 G10 G11 b0 b1 b2 b3 b4 b5 b6 b7 b8 b9 b10 b11 s0 s1 s2 s3 s4 s5 s6 s7 s8 s9 s10 s11 true q1 (.pointer (some ⟨p, 0, none⟩)) (.agg #[u0, u1]) w) (k : KK G0 G1 G2 G3 G4 G5 G6 G7 G8 G9 G10 G11) (m0 : ∀ x, u0 ≠ .int .u64 x) (m1 : ∀ x, u1 ≠ .int .u64 x) :
    BK B W0 G0 G1 G2 G3 G4 G5 G6 G7 G8 G9 G10 G11 b0 b1 b2 b3 b4 b5 b6 b7 b8 b9 b10 b11 s0 s1 s2 s3 s4 s5 s6 s7 s8 s9 s10 s11 true true (.pointer (some ⟨p, 0, none⟩)) (.agg #[u0, u1]) ((w.setCell ⟨p, 0, none⟩ u0).setCell ⟨p, 1, none⟩ u1) := by
  obtain ⟨p', v0, v1, e, hp, c0, c1, f0, f1, n0, n1, _⟩ := h.a1 rfl
  cases e
  have hk := keeps_two c0 c1 n0 n1 u0 u1
  have ht := two_cells c0 c1 u0 u1
  exact ⟨(h.bel.setCell hp _).setCell hp _, by simpa using h.siz, fun e => k.k0 _ _ _ hk (h.v0 e), fun e => k.k1 _ _ _ hk (h.v1 e), fun e => k.k2 _ _ _ hk (h.v2 e), fun e => k.k3 _ _ _ hk (h.v3 e), fun e => k.k4 _ _ _ hk (h.v4 e), fun e => k.k5 _ _ _ hk (h.v5 e), fun e => k.k6 _ _ _ hk (h.v6 e), fun e => k.k7 _ _ _ hk (h.v7 e), fun e => k.k8 _ _ _ hk (h.v8 e), fun e => k.k9 _ _ _ hk (h.v9 e), fun e => k.k10 _ _ _ hk (h.v10 e), fun e => k.k11 _ _ _ hk (h.v11 e), fun _ => ⟨p, u0, u1, rfl, hp, ht.1, ht.2, by simpa using f0, by simpa using f1, m0, m1, fun _ => rfl⟩⟩
end
end Go.Proofs.YtilpkocmdpofpaaGreatDoor
