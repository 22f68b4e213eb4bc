/- exact.readRatio where the denominator is not 0. (exact.fraction).plus where the denominators are the same. exact.join. exact.multiplyLimbs: the product lies in new memory. -/
import Derived.Test.YtilpkocmdpofpaaGreatDoorNb17
import Derived.Test.YtilpkocmdpofpaaGreatDoorNb23
import Derived.Test.YtilpkocmdpofpaaGreatDoorNb07
import Derived.Test.YtilpkocmdpofpaaGreatDoorNb09
import Derived.Test.YtilpkocmdpofpaaGreatDoorNb11
/- exact.readRatio where the denominator is not 0. -/
namespace Go.Proofs.YtilpkocmdpofpaaGreatDoor
open Go.RowKit

/-- A value that reads as a ratio of two integers. -/
def Ra (w : World) (v : Value) (x y : Int) (K : Nat) : Prop := ∃ b1 o1 m1 c1 b2 o2 m2 c2, v = .agg #[.bool b1, .slice o1 m1 c1, .bool b2, .slice o2 m2 c2] ∧ Ai w (.agg #[.bool b1, .slice o1 m1 c1]) x K ∧ Ai w (.agg #[.bool b2, .slice o2 m2 c2]) y K
theorem Ra.below {w w' : World} {v : Value} {x y : Int} {K B : Nat} (h : Ra w v x y K) (hb : Below B w w') (hB : w.heap.size ≤ B) : Ra w' v x y K := by
  obtain ⟨b1, o1, m1, c1, b2, o2, m2, c2, rfl, h1, h2⟩ := h
  exact ⟨b1, o1, m1, c1, b2, o2, m2, c2, rfl, h1.below hb hB, h2.below hb hB⟩
theorem Ra.opened {w : World} {v : Value} {x y : Int} {K : Nat} (h : Ra w v x y K) : ∃ b1 o1 m1 c1 b2 o2 m2 c2, v = .agg #[.bool b1, .slice o1 m1 c1, .bool b2, .slice o2 m2 c2] ∧ Hid (∀ w', Below w.heap.size w w' → Ai w' (.agg #[.bool b1, .slice o1 m1 c1]) x K) ∧ Hid (∀ w', Below w.heap.size w w' → Ai w' (.agg #[.bool b2, .slice o2 m2 c2]) y K) := by
  obtain ⟨b1, o1, m1, c1, b2, o2, m2, c2, rfl, h1, h2⟩ := h
  exact ⟨b1, o1, m1, c1, b2, o2, m2, c2, rfl, hid (fun _ hb => h1.below hb (Nat.le_refl _)), hid (fun _ hb => h2.below hb (Nat.le_refl _))⟩
theorem FrR.ra {w0 w : World} {v : Value} {x y : Int} {K : Nat} (h : FrR w0 w v x y K) : Ra w v x y K := by
  obtain ⟨b1, o1, m1, c1, b2, o2, m2, c2, rfl, h1, h2⟩ := FrR.opened h
  exact ⟨b1, o1, m1, c1, b2, o2, m2, c2, rfl, h1.out.ai, h2.out.ai⟩

set_option maxRecDepth 100000 in
set_option maxHeartbeats 1000000 in
theorem readRatio_ne (v : Value) (x y : Int) (K : Nat) (w : World) (hv : Ra w v x y K) (hy : y ≠ 0) (hK : K ≤ 1073741823) :
    Calls Tryz.prog 53 #[v] w fun e w' => ∃ f, e = .returned f ∧ Ft w' f (sgn (decide (x < 0) != decide (y < 0)) (x.natAbs : Int)) (y.natAbs : Int) ((K + 1) / 2) ∧ Below w.heap.size w w' := by
  obtain ⟨xb, xo, xm, xc, yb, yo, ym, yc, rfl, Hx, Hy⟩ := Ra.opened hv
  clear hv
  obtain ⟨W0, hW0⟩ : ∃ W0, W0 = ((w.alloc (.cells #[.bool xb, .slice xo xm xc, .bool yb, .slice yo ym yc] 26)).alloc (.cells #[.bool false, .slice none 0 0, .slice none 0 0] 86)) := ⟨_, rfl⟩
  have hB0 : Below w.heap.size w W0 := by rw [hW0]; exact ((Below.refl _ _).alloc (Nat.le_refl _) _).alloc (by simp) _
  have hz0 : W0.heap.size = w.heap.size + 2 := by rw [hW0]; simp
  have HS : Hid (∀ w', Below (w.heap.size + 1) W0 w' → w'.cell? ⟨w.heap.size, 0, none⟩ = some (.bool xb) ∧ w'.cell? ⟨w.heap.size, 1, none⟩ = some (.slice xo xm xc) ∧ w'.cell? ⟨w.heap.size, 2, none⟩ = some (.bool yb) ∧ w'.cell? ⟨w.heap.size, 3, none⟩ = some (.slice yo ym yc)) := hid (fun w' hb => by
    refine ⟨?_, ?_, ?_, ?_⟩ <;> (rw [hb.cell (by simp <;> omega), hW0]; simp [go_sem]))
  have HT : Hid (∀ w', Below (w.heap.size + 2) W0 w' → (w'.cell? ⟨w.heap.size + 1, 0, none⟩ = some (.bool false) ∧ w'.cell? ⟨w.heap.size + 1, 1, none⟩ = some (.slice none 0 0) ∧ w'.cell? ⟨w.heap.size + 1, 2, none⟩ = some (.slice none 0 0)) ∧ (w'.frozen? ⟨w.heap.size + 1, 0, none⟩ = false ∧ w'.frozen? ⟨w.heap.size + 1, 1, none⟩ = false ∧ w'.frozen? ⟨w.heap.size + 1, 2, none⟩ = false)) := hid (fun w' hb => by
    refine ⟨⟨?_, ?_, ?_⟩, ?_, ?_, ?_⟩ <;> (first | (rw [hb.cell (by simp <;> omega), hW0]; simp [go_sem]; done) | (rw [hb.frozen (by simp <;> omega), hW0]; simp [go_sem]; done)))
  have HB0 := hid hB0; have Hz0 := hid hz0; have HW := hid hW0
  clear hW0 hB0 hz0
  have hcy : cmpI y 0 ≠ 0 := by unfold cmpI; split <;> (try split) <;> omega
  obtain ⟨t, ht⟩ : ∃ t, t = cmpI y 0 := ⟨_, rfl⟩
  rw [← ht] at hcy
  have Ht := hid ht
  clear ht
  go_enter Tryz.func53, Tryz.ntmps53
  go_upto_region 1 with (fail)
  rw [← HW.out]
  obtain ⟨k0, k1, k2, k3⟩ := HS.out _ (Below.refl _ _)
  go_wp2_with fail
  refine (read_any _ y K _ (Hy.out _ HB0.out) (by omega)).mono ?_
  rintro e w1 ⟨_, rfl, hv1, hb1⟩
  obtain ⟨b1, o1, m1, c1, rfl, H1, H1s, H1b⟩ := It.opened hv1
  have hB1 : Below (w.heap.size + 2) W0 w1 := hb1.mono (by have := Hz0.out; omega)
  clear k0 k1 k2 k3 hv1 hb1
  go_wp2_with fail
  obtain ⟨W2, hW2⟩ : ∃ W2, W2 = w1.alloc (.cells #[.bool b1, .slice o1 m1 c1] 84) := ⟨_, rfl⟩
  have hal : Below w1.heap.size w1 W2 := by rw [hW2]; exact (Below.refl _ _).alloc (Nat.le_refl _) _
  have hz2 : W2.heap.size = w1.heap.size + 1 := by rw [hW2]; simp
  have hs1 := hB1.size
  have hB2 : Below (w.heap.size + 2) W0 W2 := hB1.trans (hal.mono (by have := Hz0.out; omega))
  have hbx := HS.out _ (hB2.mono (by omega))
  have hby0 : W2.cell? ⟨w1.heap.size, 0, none⟩ = some (.bool b1) := by rw [hW2]; simp [go_sem]
  have hby1 : W2.cell? ⟨w1.heap.size, 1, none⟩ = some (.slice o1 m1 c1) := by rw [hW2]; simp [go_sem]
  have HSS : Hid (∀ w', Kp W2.heap.size (w.heap.size + 1) W2 w' → w'.cell? ⟨w.heap.size, 0, none⟩ = some (.bool xb) ∧ w'.cell? ⟨w.heap.size, 1, none⟩ = some (.slice xo xm xc) ∧ w'.cell? ⟨w1.heap.size, 0, none⟩ = some (.bool b1) ∧ w'.cell? ⟨w1.heap.size, 1, none⟩ = some (.slice o1 m1 c1)) := hid (fun w' h => by
    have := Hz0.out
    exact ⟨(h.cell _ (by simp; omega) (by simp)).trans hbx.1, (h.cell _ (by simp; omega) (by simp)).trans hbx.2.1, (h.cell _ (by simp; omega) (by simp; omega)).trans hby0, (h.cell _ (by simp; omega) (by simp; omega)).trans hby1⟩)
  rw [← hW2]
  have HAL := hid hal; have HB2 := hid hB2; have Hz2 := hid hz2; have Hs1 := hid hs1
  clear hW2 hbx hby0 hby1 hal hB2 hz2 hs1 hB1
  refine (sign_any _ y _ _ (H1.out _ HAL.out)).mono ?_
  rintro e w3 ⟨rfl, hb3⟩
  rw [← Ht.out]
  have hw3 : Below w.heap.size w w3 := HB0.out.trans ((HB2.out.trans (hb3.mono HB2.out.size |>.mono (by have := Hz0.out; omega))).mono (by omega))
  go_wp2
  go_region_held3 (fun w' => w'.cell? ⟨w.heap.size, 0, none⟩ = some (.bool xb) ∧ w'.cell? ⟨w.heap.size, 1, none⟩ = some (.slice xo xm xc) ∧ w'.cell? ⟨w1.heap.size, 0, none⟩ = some (.bool b1) ∧ w'.cell? ⟨w1.heap.size, 1, none⟩ = some (.slice o1 m1 c1)) ((refine HSS.out _ ?_; repeat (first | assumption | exact Kp.of_below (by assumption) | exact Kp.of_below (Below.refl _ _) | exact Kp.of_below (Below.refl _ _).drew | exact Kp.of_below (Below.drew (by assumption)) | (refine Kp.set ?_ (by simp) _)))) (first
    | (go_at_call 72; refine (read_any _ x K _ (Hx.out _ hw3.drew) (by omega)).mono ?_; rintro e w4 ⟨_, rfl, hv4, hb4⟩; obtain ⟨b4, o4, m4, c4, rfl, H4, H4s, H4b⟩ := It.opened hv4; have hX4 : Below W2.heap.size W2 w4 := hb3.drew.trans (hb4.mono (by have := hb3.size; simp; omega)))
    | (go_at_call 106; refine (divided_any _ _ x y _ _ (H4.out _ (Below.refl _ _)) (H1.out _ (HAL.out.trans (hX4.mono HAL.out.size)))).mono ?_; rintro e w5 ⟨_, rfl, ⟨_, _, rfl, hn5, hd5⟩, hb5⟩; obtain ⟨o6, m6, c6, rfl, H6⟩ := Nt.opened hn5; obtain ⟨o7, m7, c7, rfl, H7⟩ := Nt.opened hd5; have hX5 : Below W2.heap.size W2 w5 := hX4.trans (hb5.mono hX4.size); obtain ⟨⟨hr0, hr1, hr2⟩, hf0, hf1, hf2⟩ := HT.out _ (HB2.out.trans (hX5.mono HB2.out.size |>.mono (by have := Hz0.out; omega)))))
  go_wp2
  have hz0 := Hz0.out; have hz2 := Hz2.out; have hs1 := Hs1.out; have hs5 := hX5.size
  have hw5 : Below w.heap.size w w5 := HB0.out.trans ((HB2.out.trans (hX5.mono (by omega))).mono (by omega))
  refine bodyPost_ret (v := .agg #[.bool (decide (sgn (decide (x < 0) != decide (y < 0)) (x.natAbs : Int) < 0)), .slice o6 m6 c6, .slice o7 m7 c7]) (by simp [results, Tryz.results53, go_sem, hr0, hr1, hr2]) rfl ⟨_, rfl, ?_, ((hw5.setCell (by simp <;> omega) _).setCell (by simp <;> omega) _).setCell (by simp <;> omega) _⟩
  refine ⟨_, _, rfl, ?_, ?_⟩
  · exact nt_keeps (((((Keeps.refl _ _).setCell (u := .bool false) hr0 (fun x h => (by cases h)) _).setCell (u := .slice none 0 0) (by simp [go_sem, hr1]) (fun x h => (by cases h)) _).setCell (u := .slice none 0 0) (by simp [go_sem, hr2]) (fun x h => (by cases h)) _)) (H6.out _ (Below.refl _ _))
  · exact nt_keeps (((((Keeps.refl _ _).setCell (u := .bool false) hr0 (fun x h => (by cases h)) _).setCell (u := .slice none 0 0) (by simp [go_sem, hr1]) (fun x h => (by cases h)) _).setCell (u := .slice none 0 0) (by simp [go_sem, hr2]) (fun x h => (by cases h)) _)) (H7.out _ (Below.refl _ _))
end Go.Proofs.YtilpkocmdpofpaaGreatDoor

/- (exact.fraction).plus where the denominators are the same. -/
namespace Go.Proofs.YtilpkocmdpofpaaGreatDoor
open Go.RowKit

theorem Ft.opened {w : World} {v : Value} {z d : Int} {K : Nat} (h : Ft w v z d K) : ∃ b o m c o2 m2 c2, v = .agg #[.bool b, .slice o m c, .slice o2 m2 c2] ∧ Hid (∀ w', Below w.heap.size w w' → It w' (.agg #[.bool b, .slice o m c]) z K) ∧ Hid (∀ w', Below w.heap.size w w' → Nt w' (.slice o2 m2 c2) d K) ∧ Hid (b = decide (z < 0)) := by
  obtain ⟨_, _, rfl, h1, h2⟩ := h
  obtain ⟨o, m, c, rfl, H1⟩ := Nt.opened h1
  obtain ⟨o2, m2, c2, rfl, H2⟩ := Nt.opened h2
  exact ⟨_, o, m, c, o2, m2, c2, rfl, hid (fun w' hb => ⟨_, rfl, H1.out w' hb⟩), H2, hid rfl⟩

set_option maxRecDepth 100000 in
set_option maxHeartbeats 1000000 in
theorem fplus_same (u v : Value) (x y d : Int) (K : Nat) (w : World) (hu : Ft w u x d K) (hv : Ft w v y d K) (hK : K ≤ 1073741823) :
    Calls Tryz.prog 92 #[u, v] w fun e w' => ∃ f, e = .returned f ∧ Ft w' f (x + y) d (K + 1) ∧ Below w.heap.size w w' := by
  obtain ⟨xb, xo, xm, xc, po, pm, pc, rfl, Hx, HP, Hxb⟩ := Ft.opened hu
  obtain ⟨yb, yo, ym, yc, qo, qm, qc, rfl, Hy, HQ, Hyb⟩ := Ft.opened hv
  clear hu hv
  obtain ⟨W0, hW0⟩ : ∃ W0, W0 = (((w.alloc (.cells #[.bool xb, .slice xo xm xc, .slice po pm pc] 86)).alloc (.cells #[.bool yb, .slice yo ym yc, .slice qo qm qc] 86)).alloc (.cells #[.bool false, .slice none 0 0, .slice none 0 0] 86)) := ⟨_, rfl⟩
  have hB0 : Below w.heap.size w W0 := by rw [hW0]; exact (((Below.refl _ _).alloc (Nat.le_refl _) _).alloc (by simp) _).alloc (by simp <;> omega) _
  have hz0 : W0.heap.size = w.heap.size + 3 := by rw [hW0]; simp
  have HS : Hid (∀ w', Below (w.heap.size + 2) W0 w' → w'.cell? ⟨w.heap.size, 0, none⟩ = some (.bool xb) ∧ w'.cell? ⟨w.heap.size, 1, none⟩ = some (.slice xo xm xc) ∧ w'.cell? ⟨w.heap.size, 2, none⟩ = some (.slice po pm pc) ∧ w'.cell? ⟨w.heap.size + 1, 0, none⟩ = some (.bool yb) ∧ w'.cell? ⟨w.heap.size + 1, 1, none⟩ = some (.slice yo ym yc) ∧ w'.cell? ⟨w.heap.size + 1, 2, none⟩ = some (.slice qo qm qc)) := hid (fun w' hb => by
    refine ⟨?_, ?_, ?_, ?_, ?_, ?_⟩ <;> (rw [hb.cell (by simp <;> omega), hW0]; simp [go_sem]))
  have HT : Hid (∀ w', Below (w.heap.size + 3) W0 w' → (w'.cell? ⟨w.heap.size + 2, 0, none⟩ = some (.bool false) ∧ w'.cell? ⟨w.heap.size + 2, 1, none⟩ = some (.slice none 0 0) ∧ w'.cell? ⟨w.heap.size + 2, 2, none⟩ = some (.slice none 0 0)) ∧ (w'.frozen? ⟨w.heap.size + 2, 0, none⟩ = false ∧ w'.frozen? ⟨w.heap.size + 2, 1, none⟩ = false ∧ w'.frozen? ⟨w.heap.size + 2, 2, none⟩ = false)) := hid (fun w' hb => by
    refine ⟨⟨?_, ?_, ?_⟩, ?_, ?_, ?_⟩ <;> (first | (rw [hb.cell (by simp <;> omega), hW0]; simp [go_sem]; done) | (rw [hb.frozen (by simp <;> omega), hW0]; simp [go_sem]; done)))
  have HB0 := hid hB0; have Hz0 := hid hz0; have HW := hid hW0
  clear hW0 hB0 hz0
  have HC := hid (fun (w' : World) (hb : Below w.heap.size w w') => by have h := compare_any _ _ d d K K w' (HP.out w' hb) (HQ.out w' hb); rw [show cmpI d d = 0 by unfold cmpI; simp] at h; exact h)
  have HPl := hid (fun (w' : World) (hb : Below w.heap.size w w') => plus_any _ _ x y K K (K + 1) w' (Hx.out w' hb) (Hy.out w' hb) (by omega) (by omega) (by omega) (by omega))
  have hbld : ∀ (b : Bool) (o o2 : Option Addr) (m c m2 c2 : Nat) (w : World), (Instr.build 86 #[(0, .agg #[.bool b, .slice o m c]), (1, .slice o2 m2 c2)]).run Tryz.prog w = .ok (.agg #[.bool b, .slice o m c, .slice o2 m2 c2]) w := fun b o o2 m c m2 c2 w => by kernel_rfl
  go_enter Tryz.func92, Tryz.ntmps92
  go_upto_region 1 with (fail)
  rw [← HW.out]
  obtain ⟨k0, k1, k2, k3, k4, k5⟩ := HS.out _ (Below.refl _ _)
  go_wp2_with fail
  refine (HC.out _ HB0.out).mono ?_
  rintro e w1 ⟨nq, rfl, h1⟩
  have hb1 : Below W0.heap.size W0 w1 := by rw [h1]; exact below_drewN (Below.refl _ _) nq
  have hB1 : Below w.heap.size w w1 := HB0.out.trans (hb1.mono HB0.out.size)
  have hS1 : Below (w.heap.size + 2) W0 w1 := hb1.mono (by have := Hz0.out; omega)
  have hT1 : Below (w.heap.size + 3) W0 w1 := hb1.mono (by have := Hz0.out; omega)
  clear h1 k0 k1 k2 k3 k4 k5
  go_wp2
  go_region_held3 (fun w' => w'.cell? ⟨w.heap.size, 0, none⟩ = some (.bool xb) ∧ w'.cell? ⟨w.heap.size, 1, none⟩ = some (.slice xo xm xc) ∧ w'.cell? ⟨w.heap.size, 2, none⟩ = some (.slice po pm pc) ∧ w'.cell? ⟨w.heap.size + 1, 0, none⟩ = some (.bool yb) ∧ w'.cell? ⟨w.heap.size + 1, 1, none⟩ = some (.slice yo ym yc) ∧ w'.cell? ⟨w.heap.size + 1, 2, none⟩ = some (.slice qo qm qc)) ((refine HS.out _ ?_; repeat (first | assumption | exact Below.refl _ _ | exact (Below.refl _ _).drew | exact Below.drew (by assumption) | (refine Below.setCell ?_ (by simp) _)))) (first
    | (go_at_call 107; refine (HPl.out _ hB1.drew).mono ?_; rintro e w2 ⟨_, rfl, hv2, hb2⟩; obtain ⟨b2, o2, m2, c2, rfl, H2, H2s, H2b⟩ := It.opened hv2; have hX2 : Below w1.heap.size w1 w2 := (Below.refl _ _).drew.trans hb2; have hS2 : Below (w.heap.size + 2) W0 w2 := hS1.trans (hX2.mono (by have := hT1.size; have := Hz0.out; omega)); obtain ⟨⟨hr0, hr1, hr2⟩, hf0, hf1, hf2⟩ := HT.out _ (hT1.trans (hX2.mono (by have := hT1.size; have := Hz0.out; omega)))))
  go_wp2
  have hz0 := Hz0.out; have hs1 := hT1.size
  have hw2 : Below w.heap.size w w2 := hB1.trans (hX2.mono hB1.size)
  refine bodyPost_ret (v := .agg #[.bool b2, .slice o2 m2 c2, .slice po pm pc]) (by simp [results, Tryz.results92, go_sem, hr0, hr1, hr2]) rfl ⟨_, rfl, ?_, ((hw2.setCell (by simp <;> omega) _).setCell (by simp <;> omega) _).setCell (by simp <;> omega) _⟩
  refine ⟨_, _, by rw [H2b.out], ?_, ?_⟩
  · exact nt_keeps (((((Keeps.refl _ _).setCell (u := .bool false) hr0 (fun x h => (by cases h)) _).setCell (u := .slice none 0 0) (by simp [go_sem, hr1]) (fun x h => (by cases h)) _).setCell (u := .slice none 0 0) (by simp [go_sem, hr2]) (fun x h => (by cases h)) _)) (H2s.out _ (Below.refl _ _))
  · exact (nt_keeps (((((Keeps.refl _ _).setCell (u := .bool false) hr0 (fun x h => (by cases h)) _).setCell (u := .slice none 0 0) (by simp [go_sem, hr1]) (fun x h => (by cases h)) _).setCell (u := .slice none 0 0) (by simp [go_sem, hr2]) (fun x h => (by cases h)) _)) (HP.out _ hw2)).mono (by omega)
end Go.Proofs.YtilpkocmdpofpaaGreatDoor

/- exact.join. -/
namespace Go.Proofs.YtilpkocmdpofpaaGreatDoor
open Go.RowKit

theorem join_done {w wr : World} {g h N : Nat} {R LA LB A1 : List Int} {cc : Int} (hdA : Dig B64 LA) (hdB : Dig B64 LB) (hA : LA.length ≤ N) (hB : LB.length + h ≤ N) (hR : R.length = N + 1) (hv : val B64 R = B64 ^ h * val B64 LB)
    (H : AddI w wr g [] R [] R.length (val B64 LA) A1 cc) : Row .u64 91 wr g A1 ∧ Dig B64 A1 ∧ val B64 A1 = val B64 LA + B64 ^ h * val B64 LB ∧ A1.length = N + 1 := by
  have hl : A1.length = N + 1 := by rw [H.len, hR]
  have e := H.eq
  rw [hv, hR] at e
  have h1 := val_lt B64_pos hdA
  have h2 := val_lt B64_pos hdB
  have h3 : B64 ^ LA.length ≤ B64 ^ N := pow_mono B64_pos hA
  have h5 : B64 ^ (h + LB.length) ≤ B64 ^ N := pow_mono B64_pos (by omega)
  have hp : 0 < B64 ^ h := Int.pow_pos B64_pos
  have h6 : B64 ^ h * val B64 LB ≤ B64 ^ h * B64 ^ LB.length := Int.mul_le_mul_of_nonneg_left (Int.le_of_lt h2) (Int.le_of_lt hp)
  rw [← Int.pow_add] at h6
  have h4 := val_nonneg B64_pos H.dig
  have hpN : 0 < B64 ^ N := Int.pow_pos B64_pos
  have hcc : cc = 0 := by
    rcases (show cc = 0 ∨ cc = 1 by have := H.c0; have := H.c1; omega) with h | h
    · exact h
    · subst h
      rw [Int.pow_succ] at e
      have : B64 ^ N * 2 ≤ B64 ^ N * B64 := Int.mul_le_mul_of_nonneg_left (by decide) (Int.le_of_lt hpN)
      omega
  subst hcc
  refine ⟨by simpa using H.row, H.dig, by simp at e; omega, hl⟩

set_option maxRecDepth 100000 in
set_option maxHeartbeats 2000000 in
theorem join_any (va vb : Value) (a b : Int) (Ka Kb t K : Nat) (w : World) (hA : Nt w va a Ka) (hB : Nt w vb b Kb) (hKa : Ka < K) (hKb : Kb + t < K) (hK : K ≤ 1073741824) :
    Calls Tryz.prog 144 #[va, vb, .int .i64 t] w (RetOwn w (a + B64 ^ t * b) K) := by
  obtain ⟨ao, ca, LA, rfl, hA⟩ := hA
  obtain ⟨bo, cb, LB, rfl, hB⟩ := hB
  obtain ⟨n, hn⟩ : ∃ n, n = LA.length := ⟨_, rfl⟩
  obtain ⟨m, hm⟩ : ∃ m, m = LB.length := ⟨_, rfl⟩
  have hnK : n < K := by have := hA.le; omega
  have hmK : m + t < K := by have := hB.le; omega
  rw [← hn, ← hm]
  obtain ⟨N, hN⟩ : ∃ N, N = max n (m + t) := ⟨_, rfl⟩
  have hNi : max (n : Int) ((m : Int) + (t : Int)) = (N : Int) := by omega
  have hNn : n ≤ N := by omega
  have hNm : m + t ≤ N := by omega
  have hNK : N < K := by omega
  have HA := hid hA; have HB := hid hB; have Hn := hid hn; have Hm := hid hm
  clear hA hB hn hm hN
  by_cases hcmp : (n : Int) < (m : Int) + (t : Int)
  all_goals
  obtain ⟨i0, hi, hz0, hz1, hz2⟩ := info_parts Tryz.info91
  go_enter Tryz.func144, Tryz.ntmps144
  go_wp2_with (at_make; refine wpList_make_row w rfl _ _ 82 rfl 91 i0 .u64 Tryz.underlying82 hi hz0 hz1 .i64 .i64 _ _ (N + 1) rfl rfl (by omega) (by omega) (by rw [hz2]; omega) (by unfold maxLen; omega) ?_)
  intro w1 hrow hg1
  have hg1b := grown_below hg1
  have HRB := hid (HB.out.rd.below hg1b (Nat.le_refl _))
  have HRA := hid (HA.out.rd.below hg1b (Nat.le_refl _))
  have hrow1 : Row .u64 91 w1 w.heap.size (List.replicate t 0 ++ List.replicate (N + 1 - t) 0 ++ []) := by
    rw [List.append_nil, List.replicate_append_replicate, show t + (N + 1 - t) = N + 1 by omega]; exact hrow
  have Hrow1 := hid hrow1
  have Hb1 := hid hg1b
  clear hrow hrow1 hg1 hg1b
  go_wp2_with ((with_reducible refine wpList_copy_row rfl _ _ _ _ rfl 91 Tryz.underlying82 Tryz.size91 .u64 91 w.heap.size (List.replicate t 0) (List.replicate (N + 1 - t) 0) [] LB t (N + 1 - t) m (N + 1 - t) bo cb rfl rfl (by simp) (by simp) Hm.out Hrow1.out HRB.out (by have := Hm.out; simp; omega) ?_))
  intro w2 hrow2 hg2
  have HneA := hid (HA.out.rd.ne (Nat.le_refl w.heap.size))
  have HRA2 := hid (HRA.out.keptNew hg2 HneA.out)
  obtain ⟨R, hR⟩ : ∃ R, R = List.replicate t (0 : Int) ++ (LB ++ List.replicate (N + 1 - t - LB.length) (0 : Int)) := ⟨_, rfl⟩
  rw [← hR] at hrow2
  have hRl : R.length = N + 1 := by have := Hm.out; rw [hR]; simp; omega
  have hRd : Dig B64 R := by
    rw [hR]
    exact (Dig.replicate B64_pos _).append (HB.out.dig.append (Dig.replicate B64_pos _))
  have hRv : val B64 R = B64 ^ t * val B64 LB := by
    rw [hR, val_append, val_append, val_replicate, List.length_replicate, val_replicate]; simp
  have hc := addTo_any w.heap.size [] R [] LA (N + 1) ca ao w2 (by simpa using hrow2) hRd HA.out.dig (by omega) (by omega) HRA2.out (by have := Hn.out; omega) HneA.out
  rw [show ([] : List Int).length = 0 from rfl, hRl, ← Hn.out] at hc
  have hdone := fun (w' : World) (A1 : List Int) (cc : Int) (HI : AddI w2 w' w.heap.size [] R [] R.length (val B64 LA) A1 cc) => join_done (N := N) HA.out.dig HB.out.dig (by have := Hn.out; omega) (by have := Hm.out; omega) hRl hRv HI
  rw [hRl, HA.out.eq, HB.out.eq] at hdone
  rw [HA.out.eq] at hc
  have Hc := hid hc; have Hd := hid hdone
  have Hb2 := hid (Hb1.out.grown hg2 Hb1.out.size (fun k e => by cases e; exact Nat.le_refl _))
  have Hg2 := hid hg2
  clear hc hdone hR hRl hRd hRv hrow2 hg2
  go_wp2_with (go_at_call 177; refine Hc.out.mono ?_; rintro e w3 ⟨A1, cc, rfl, HI⟩)
  obtain ⟨hrow3, hd3, hv3, hl3⟩ := Hd.out _ _ _ HI
  have hbel : Below w.heap.size w w3 := Hb2.out.grown HI.gr (by have := Hb2.out.size; omega) (fun k e => by cases e; exact Nat.le_refl _)
  have ht := trim64_any (some ⟨w.heap.size, 0, none⟩) (N + 1) A1 w3 (row_rd hrow3 (by omega) (by omega))
  rw [hl3] at ht
  have hres := own_row (B := w.heap.size) (c := N + 1) (K := K) hrow3 hd3 hv3 (by omega) (by omega) (by omega) (Nat.le_refl _)
  have HT := hid ht; have Hres := hid hres; have Hbel := hid hbel
  clear ht hres hbel hrow3 hd3 hv3 hl3 HI
  refine HT.out.mono ?_
  rintro e w4 ⟨rfl, rfl⟩
  go_wp2
  go_ret
  exact ⟨_, rfl, Hres.out, Hbel.out⟩

end Go.Proofs.YtilpkocmdpofpaaGreatDoor

/- exact.multiplyLimbs: the product lies in new memory. -/
namespace Go.Proofs.YtilpkocmdpofpaaGreatDoor
open Go.RowKit

set_option maxRecDepth 100000 in
set_option maxHeartbeats 2000000 in
theorem multiplyLimbs_own (va vb : Value) (a b : Int) (Ka Kb : Nat) (w : World) (hA : Nt w va a Ka) (hB : Nt w vb b Kb) (h1 : Ka ≤ 1073741824) (h2 : Kb ≤ 1073741824) :
    Calls Tryz.prog 143 #[va, vb] w (RetOwn w (a * b) (Ka + Kb)) := by
  obtain ⟨ao, ca, LA, rfl, hA⟩ := hA
  obtain ⟨bo, cb, LB, rfl, hB⟩ := hB
  obtain ⟨n, hn⟩ : ∃ n, n = LA.length := ⟨_, rfl⟩
  obtain ⟨m, hm⟩ : ∃ m, m = LB.length := ⟨_, rfl⟩
  have hn30 : n ≤ 1073741824 := by have := hA.le; omega
  have hm30 : m ≤ 1073741824 := by have := hB.le; omega
  rw [← hn, ← hm]
  have HA := hid hA; have HB := hid hB; have Hn := hid hn; have Hm := hid hm
  clear hA hB hn hm
  obtain ⟨i0, hi, hz0, hz1, hz2⟩ := info_parts Tryz.info91
  go_enter Tryz.func143, Tryz.ntmps143
  go_wp2_with (at_make; refine wpList_make_row w rfl _ _ 82 rfl 91 i0 .u64 Tryz.underlying82 hi hz0 hz1 .i64 .i64 _ _ (n + m) rfl rfl (by omega) (by omega) (by rw [hz2]; omega) (by unfold maxLen; omega) ?_)
  intro w1 hrow hg1
  have hb1 := grown_below hg1
  have H0 : LimbI w w1 w.heap.size LA LB 0 (List.replicate n 0) := by
    refine ⟨?_, grown_any hg1, by simp [Hn.out], Dig.replicate B64_pos _, by simp [val_replicate, val]⟩
    have e : List.replicate n (0 : Int) ++ List.replicate (LB.length - 0) 0 = List.replicate (n + m) 0 := by rw [List.replicate_append_replicate, Nat.sub_zero, ← Hm.out]
    rw [e]; exact hrow
  have HG1 := hid (HA.out.rd.ne (Nat.le_refl w.heap.size)); have HG2 := hid (HB.out.rd.ne (Nat.le_refl w.heap.size))
  clear hrow hg1
  go_wp2
  go_loopw [16] (fun iv wr => ∃ k : Nat, ∃ Q, k ≤ m ∧ iv = .int .i64 k ∧ LimbI w wr w.heap.size LA LB k Q ∧ Below w.heap.size w wr) (fun iv _ => m - (intOf iv).toNat)
  case atStart => exact ⟨0, _, Nat.zero_le _, rfl, H0, hb1⟩
  case round =>
    obtain ⟨k, Q, hk, rfl, H, hbr⟩ := hrel
    by_cases hlt : k < m
    · obtain ⟨b1, o1, rfl⟩ := HB.out.rd.adr (by have := Hm.out; omega)
      have hBk := (HB.out.rd.keptNew H.gr HG2.out).cell b1 o1 rfl k (by have := Hm.out; omega)
      have hAr := HA.out.rd.keptNew H.gr HG1.out
      have hy := HB.out.dig.at B64_pos k
      obtain ⟨y, hye⟩ : ∃ y, y = LB[k]?.getD 0 := ⟨_, rfl⟩
      rw [← hye] at hBk hy
      have hlP : (Q.take k).length = k := by rw [List.length_take, H.len]; omega
      have hlA : (Q.drop k).length = n := by rw [List.length_drop, H.len, Hn.out]; omega
      have hc := addProduct_any w.heap.size (Q.take k) (Q.drop k) (List.replicate (LB.length - k) 0) LA (n + m - k) ca ao y wr (by rw [List.take_append_drop]; exact H.row) (H.dig.drop k) HA.out.dig hy.1 hy.2 (by omega) (by omega) hAr (by rw [hlA, Hn.out]) HG1.out
      rw [hlP, hlA, ← Hn.out] at hc
      have hstep := fun (w1 : World) (A1 : List Int) (cc : Int) (hm : MulI wr w1 w.heap.size (Q.take k) (Q.drop k) (List.replicate (LB.length - k) 0) n (val B64 LA * y) A1 cc) => H.step (by have := Hm.out; omega) hye (by rw [hlA]; exact hm)
      rw [← Hn.out] at hstep
      have hcell := fun (w1 : World) (A1 : List Int) (cc : Int) (hm : MulI wr w1 w.heap.size (Q.take k) (Q.drop k) (List.replicate (LB.length - k) 0) n (val B64 LA * y) A1 cc) => (show (∃ u, w1.cell? ⟨w.heap.size, k + n, none⟩ = some (.int .u64 u)) ∧ w1.frozen? ⟨w.heap.size, k + n, none⟩ = false from
        ⟨⟨_, hm.row.cell (k + n) (by have e1 := hm.len; rw [hlA] at e1; have := Hm.out; simp only [List.length_append, List.length_replicate]; omega)⟩, hm.row.frozen _⟩)
      have HC := hid hc; have HSt := hid hstep; have HCe := hid hcell; have Hye := hid hye; have HH := hid H
      clear hc hstep hcell hye H hAr hlP hlA H0 hb1
      go_wp2_with (go_at_call 182; refine HC.out.mono ?_; rintro e w2 ⟨A1, cc, rfl, HI⟩; obtain ⟨⟨u, hu⟩, hf⟩ := HCe.out w2 A1 cc HI)
      go_roundw
      case rel => exact ⟨k + 1, _, by omega, by go_num, HSt.out w2 A1 cc HI, (hbr.grown HI.gr hbr.size (fun i e => by cases e; exact Nat.le_refl _)).setCell (Nat.le_refl _) _⟩
      case measure => simp [intOf]; omega
    · obtain rfl : k = m := by omega
      have hr := H.row
      have hv := H.eq
      have hl := H.len
      rw [← Hm.out, Nat.sub_self, List.replicate_zero, List.append_nil] at hr
      rw [Hm.out, List.take_length, HA.out.eq, HB.out.eq] at hv
      rw [← Hn.out] at hl
      have ht := trim64_any (some ⟨w.heap.size, 0, none⟩) (n + k) Q wr (row_rd hr (by omega) (by omega))
      rw [hl] at ht
      have hres := own_row (B := w.heap.size) (c := n + k) (K := Ka + Kb) hr H.dig hv (by omega) (by omega) (by have := HA.out.le; have := HB.out.le; have := Hn.out; have := Hm.out; omega) (Nat.le_refl _)
      have HT := hid ht; have Hres := hid hres
      clear ht hres hr hv hl H H0 hb1
      go_wp2_with (go_at_call 136; refine HT.out.mono ?_; rintro e w2 ⟨rfl, rfl⟩)
      go_ret
      exact ⟨_, rfl, Hres.out, hbr⟩

end Go.Proofs.YtilpkocmdpofpaaGreatDoor
