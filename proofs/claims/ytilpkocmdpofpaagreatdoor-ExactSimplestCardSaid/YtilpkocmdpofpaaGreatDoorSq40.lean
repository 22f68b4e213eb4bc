/- exact.Show of ratios whose lowest form has numbers closer to 0 than 100; over and shows of the laws. exact.Plus of two ratios whose denominators have the same size; over and shows of the laws. -/
import Derived.Test.YtilpkocmdpofpaaGreatDoorSq39
import Derived.Test.YtilpkocmdpofpaaGreatDoorSq27
/- exact.Show of ratios whose lowest form has numbers closer to 0 than 100; over and shows of the laws. -/
namespace Go.Proofs.YtilpkocmdpofpaaGreatDoor
open Go.RowKit

theorem tx_len (z : Int) (h : z.natAbs < 100) : (tx z).size ≤ 3 := by
  have := dec_len z.natAbs h
  unfold tx
  split
  · simp [ByteArray.size_append]; show 1 + (Lib.decDigits z.natAbs).length ≤ 3; omega
  · show (Lib.decDigits z.natAbs).length ≤ 3; omega

set_option maxRecDepth 100000 in
set_option maxHeartbeats 1000000 in
theorem Show_whole (v : Value) (x y N : Int) (K : Nat) (w : World) (hv : Ra w v x y K) (hy : y ≠ 0) (hK : K ≤ 1073741820)
    (hN : lowN (sgn (decide (x < 0) != decide (y < 0)) (x.natAbs : Int)) (y.natAbs : Int) = N) (hD : lowD (sgn (decide (x < 0) != decide (y < 0)) (x.natAbs : Int)) (y.natAbs : Int) = 1) (h0 : N ≠ 0) (h1 : N.natAbs < 100) :
    Calls Tryz.prog 17 #[v] w fun e w' => e = .returned (.string (tx N)) ∧ Below w.heap.size w w' := by
  have hRR := fun (w' : World) (hb : Below w.heap.size w w') => readRatio_ne v x y K w' (hv.below hb (Nat.le_refl _)) hy (by omega)
  obtain ⟨xb, xo, xm, xc, yb, yo, ym, yc, rfl, _, _⟩ := Ra.opened hv
  have HRR := hid hRR
  obtain ⟨s1, hs1⟩ : ∃ s1, s1 = tx N := ⟨_, rfl⟩
  have hz1 : s1.size ≤ 3 := by rw [hs1]; exact tx_len N h1
  have HT := hid (fun (v' : Value) (w' : World) (h : Ai w' v' N (2 * ((K + 1) / 2))) => by have := Text_any N _ v' w' h (by omega) h0 h1; rw [← hs1] at this; exact this)
  have H1 := hid (fun (z d : Int) (Kz : Nat) (f : Value) (w' : World) (h : Ft w' f z d Kz) (hd : 0 < d) (hk : Kz ≤ 1073741823) => fracValue_any f z d Kz w' h hd hk)
  rw [← hs1]
  have HO1 := hid (show decide (((1 : Int).natAbs : Int) = 1) = true from rfl)
  have HN := hid hN; have HD := hid hD; have Hy := hid hy
  clear hs1 hRR hv hN hD hy h0
  have hB0 : Below w.heap.size w (w.alloc (.cells #[.bool xb, .slice xo xm xc, .bool yb, .slice yo ym yc] 26)) := (Below.refl _ _).alloc (Nat.le_refl _) _
  have HB0 := hid hB0
  clear hB0
  go_enter Tryz.func17, Tryz.ntmps17
  go_wp2_with fail
  refine (HRR.out _ HB0.out).mono ?_
  rintro e w1 ⟨f, rfl, hf, hb1⟩
  have HB1 := hid (show Below w.heap.size w w1 from HB0.out.trans (hb1.mono (by simp)))
  clear hb1
  go_wp2_with fail
  refine (H1.out _ _ _ _ _ hf (by have := Hy.out; omega) (by omega)).mono ?_
  rintro e w2 ⟨_, rfl, hr, hb2⟩
  rw [HN.out, HD.out] at hr
  obtain ⟨b1, o1, m1, c1, b2, o2, m2, c2, rfl, HR1, HR2⟩ := FrR.opened hr
  have HB2 := hid (show Below w.heap.size w w2 from HB1.out.trans (hb2.mono HB1.out.size))
  clear hr hf hb2
  obtain ⟨W3, hW3⟩ : ∃ W3, W3 = w2.alloc (.cells #[.bool b1, .slice o1 m1 c1, .bool b2, .slice o2 m2 c2] 26) := ⟨_, rfl⟩
  have hal : Below w2.heap.size w2 W3 := by rw [hW3]; exact (Below.refl _ _).alloc (Nat.le_refl _) _
  have HS : Hid (∀ w', Below W3.heap.size W3 w' → w'.cell? ⟨w2.heap.size, 0, none⟩ = some (.bool b1) ∧ w'.cell? ⟨w2.heap.size, 1, none⟩ = some (.slice o1 m1 c1) ∧ w'.cell? ⟨w2.heap.size, 2, none⟩ = some (.bool b2) ∧ w'.cell? ⟨w2.heap.size, 3, none⟩ = some (.slice o2 m2 c2)) := hid (fun w' hb => by
    refine ⟨?_, ?_, ?_, ?_⟩ <;> (rw [hb.cell (by rw [hW3]; simp), hW3]; simp [go_sem]))
  have HAL := hid hal; have HW3 := hid hW3
  clear hal hW3
  go_wp2_with fail
  rw [← HW3.out]
  refine (HT.out _ _ (HR1.out.ai.below HAL.out (Nat.le_refl _))).mono ?_
  rintro e w4 ⟨rfl, hb4⟩
  obtain ⟨k0, k1, k2, k3⟩ := HS.out _ hb4
  have HB4 := hid (show Below w2.heap.size w2 w4 from HAL.out.trans (hb4.mono HAL.out.size))
  clear hb4
  go_wp2_with fail
  refine (read_any _ 1 _ _ (HR2.out.ai.below HB4.out (Nat.le_refl _)) (by omega)).mono ?_
  rintro e w5 ⟨_, rfl, hv5, hb5⟩
  obtain ⟨b5, o5, m5, c5, rfl, H5, H5s, H5b⟩ := It.opened hv5
  have HI := hid (fun w' hb => isOne_any _ _ _ w' (H5s.out w' hb))
  have HB5 := hid (show Below w2.heap.size w2 w5 from HB4.out.trans (hb5.mono HB4.out.size))
  clear hb5 hv5
  have hfld : ∀ w : World, (Instr.field 84 (.agg #[.bool b5, .slice o5 m5 c5]) 1).run Tryz.prog w = .ok (.slice o5 m5 c5) w := fun w => by kernel_rfl
  go_wp2_with fail
  refine (HI.out _ (Below.refl _ _)).mono ?_
  rintro e w6 ⟨rfl, h6⟩
  obtain rfl : w5 = w6 := h6.symm
  rw [HO1.out]
  go_wp2
  go_ret
  exact ⟨rfl, HB2.out.trans (HB5.out.mono HB2.out.size)⟩

set_option maxRecDepth 100000 in
set_option maxHeartbeats 1000000 in
theorem Show_quot (v : Value) (x y N D : Int) (K : Nat) (w : World) (hv : Ra w v x y K) (hy : y ≠ 0) (hK : K ≤ 1073741820)
    (hN : lowN (sgn (decide (x < 0) != decide (y < 0)) (x.natAbs : Int)) (y.natAbs : Int) = N) (hD : lowD (sgn (decide (x < 0) != decide (y < 0)) (x.natAbs : Int)) (y.natAbs : Int) = D) (h0 : N ≠ 0) (h1 : N.natAbs < 100) (d0 : 1 < D) (d1 : D < 100) :
    Calls Tryz.prog 17 #[v] w fun e w' => e = .returned (.string (tx N ++ ⟨#[47]⟩ ++ ⟨(Lib.decDigits D.natAbs).toArray⟩)) ∧ Below w.heap.size w w' := by
  have hRR := fun (w' : World) (hb : Below w.heap.size w w') => readRatio_ne v x y K w' (hv.below hb (Nat.le_refl _)) hy (by omega)
  obtain ⟨xb, xo, xm, xc, yb, yo, ym, yc, rfl, _, _⟩ := Ra.opened hv
  have HRR := hid hRR
  obtain ⟨s1, hs1⟩ : ∃ s1, s1 = tx N := ⟨_, rfl⟩
  have hz1 : s1.size ≤ 3 := by rw [hs1]; exact tx_len N h1
  have HT := hid (fun (v' : Value) (w' : World) (h : Ai w' v' N (2 * ((K + 1) / 2))) => by have := Text_any N _ v' w' h (by omega) h0 h1; rw [← hs1] at this; exact this)
  have H1 := hid (fun (z d : Int) (Kz : Nat) (f : Value) (w' : World) (h : Ft w' f z d Kz) (hd : 0 < d) (hk : Kz ≤ 1073741823) => fracValue_any f z d Kz w' h hd hk)
  rw [← hs1]
  obtain ⟨s2, hs2⟩ : ∃ s2 : ByteArray, s2 = ⟨(Lib.decDigits D.natAbs).toArray⟩ := ⟨_, rfl⟩
  have hz2 : s2.size ≤ 2 := by rw [hs2]; exact dec_len D.natAbs (by omega)
  have hq1 : ¬ 9223372036854775807 < s1.size + 1 := by omega
  have hq2 : ¬ 9223372036854775807 < s1.size + 1 + s2.size := by omega
  have HDD := hid (fun (v' : Value) (w' : World) (Kd : Nat) (h : Nt w' v' (D.natAbs : Int) Kd) => by have := decimals_one D.natAbs Kd v' w' h (by omega) (by omega); rw [← hs2] at this; exact this)
  rw [← hs2]
  have HO1 := hid (show decide ((D.natAbs : Int) = 1) = false from decide_eq_false (by omega))
  have HN := hid hN; have HD := hid hD; have Hy := hid hy
  clear hs1 hs2 hRR hv hN hD hy h0
  have hB0 : Below w.heap.size w (w.alloc (.cells #[.bool xb, .slice xo xm xc, .bool yb, .slice yo ym yc] 26)) := (Below.refl _ _).alloc (Nat.le_refl _) _
  have HB0 := hid hB0
  clear hB0
  go_enter Tryz.func17, Tryz.ntmps17
  go_wp2_with fail
  refine (HRR.out _ HB0.out).mono ?_
  rintro e w1 ⟨f, rfl, hf, hb1⟩
  have HB1 := hid (show Below w.heap.size w w1 from HB0.out.trans (hb1.mono (by simp)))
  clear hb1
  go_wp2_with fail
  refine (H1.out _ _ _ _ _ hf (by have := Hy.out; omega) (by omega)).mono ?_
  rintro e w2 ⟨_, rfl, hr, hb2⟩
  rw [HN.out, HD.out] at hr
  obtain ⟨b1, o1, m1, c1, b2, o2, m2, c2, rfl, HR1, HR2⟩ := FrR.opened hr
  have HB2 := hid (show Below w.heap.size w w2 from HB1.out.trans (hb2.mono HB1.out.size))
  clear hr hf hb2
  obtain ⟨W3, hW3⟩ : ∃ W3, W3 = w2.alloc (.cells #[.bool b1, .slice o1 m1 c1, .bool b2, .slice o2 m2 c2] 26) := ⟨_, rfl⟩
  have hal : Below w2.heap.size w2 W3 := by rw [hW3]; exact (Below.refl _ _).alloc (Nat.le_refl _) _
  have HS : Hid (∀ w', Below W3.heap.size W3 w' → w'.cell? ⟨w2.heap.size, 0, none⟩ = some (.bool b1) ∧ w'.cell? ⟨w2.heap.size, 1, none⟩ = some (.slice o1 m1 c1) ∧ w'.cell? ⟨w2.heap.size, 2, none⟩ = some (.bool b2) ∧ w'.cell? ⟨w2.heap.size, 3, none⟩ = some (.slice o2 m2 c2)) := hid (fun w' hb => by
    refine ⟨?_, ?_, ?_, ?_⟩ <;> (rw [hb.cell (by rw [hW3]; simp), hW3]; simp [go_sem]))
  have HAL := hid hal; have HW3 := hid hW3
  clear hal hW3
  go_wp2_with fail
  rw [← HW3.out]
  refine (HT.out _ _ (HR1.out.ai.below HAL.out (Nat.le_refl _))).mono ?_
  rintro e w4 ⟨rfl, hb4⟩
  obtain ⟨k0, k1, k2, k3⟩ := HS.out _ hb4
  have HB4 := hid (show Below w2.heap.size w2 w4 from HAL.out.trans (hb4.mono HAL.out.size))
  clear hb4
  go_wp2_with fail
  refine (read_any _ D _ _ (HR2.out.ai.below HB4.out (Nat.le_refl _)) (by omega)).mono ?_
  rintro e w5 ⟨_, rfl, hv5, hb5⟩
  obtain ⟨b5, o5, m5, c5, rfl, H5, H5s, H5b⟩ := It.opened hv5
  have HI := hid (fun w' hb => isOne_any _ _ _ w' (H5s.out w' hb))
  have HB5 := hid (show Below w2.heap.size w2 w5 from HB4.out.trans (hb5.mono HB4.out.size))
  clear hb5 hv5
  have hfld : ∀ w : World, (Instr.field 84 (.agg #[.bool b5, .slice o5 m5 c5]) 1).run Tryz.prog w = .ok (.slice o5 m5 c5) w := fun w => by kernel_rfl
  go_wp2_with fail
  refine (HI.out _ (Below.refl _ _)).mono ?_
  rintro e w6 ⟨rfl, h6⟩
  obtain rfl : w5 = w6 := h6.symm
  rw [HO1.out]
  go_wp2_with fail
  refine (HDD.out _ _ _ (H5s.out _ (Below.refl _ _))).mono ?_
  rintro e w7 ⟨rfl, hb7⟩
  go_wp2
  go_ret
  exact ⟨rfl, (HB2.out.trans (HB5.out.mono HB2.out.size)).trans (hb7.mono (HB2.out.trans (HB5.out.mono HB2.out.size)).size)⟩
end Go.Proofs.YtilpkocmdpofpaaGreatDoor

/- exact.Plus of two ratios whose denominators have the same size; over and shows of the laws. -/
namespace Go.Proofs.YtilpkocmdpofpaaGreatDoor
open Go.RowKit

theorem FrA.laid {w1 w w' : World} {v : Value} {z : Int} {K B : Nat} (h : FrA w1 w v z K) (hb : Below B w w') (hB : w.heap.size ≤ B) : FrA w1 w' v z K := by
  obtain ⟨s, rfl, h⟩ := h
  exact ⟨s, rfl, h.below hb hB⟩

set_option maxRecDepth 100000 in
set_option maxHeartbeats 1000000 in
theorem Plus_same (u v : Value) (x1 y1 x2 y2 : Int) (K : Nat) (w : World) (hu : Ra w u x1 y1 K) (hv : Ra w v x2 y2 K) (h1 : y1 ≠ 0) (h2 : y2 ≠ 0) (h12 : (y2.natAbs : Int) = (y1.natAbs : Int)) (hK : K ≤ 1073741800) :
    Calls Tryz.prog 35 #[u, v] w (RetR w (lowN (sgn (decide (x1 < 0) != decide (y1 < 0)) (x1.natAbs : Int) + sgn (decide (x2 < 0) != decide (y2 < 0)) (x2.natAbs : Int)) (y1.natAbs : Int)) (lowD (sgn (decide (x1 < 0) != decide (y1 < 0)) (x1.natAbs : Int) + sgn (decide (x2 < 0) != decide (y2 < 0)) (x2.natAbs : Int)) (y1.natAbs : Int)) (2 * ((K + 1) / 2 + 1))) := by
  have hR1 := fun (w' : World) (hb : Below w.heap.size w w') => readRatio_ne u x1 y1 K w' (hu.below hb (Nat.le_refl _)) h1 (by omega)
  have hR2 := fun (w' : World) (hb : Below w.heap.size w w') => by have h := readRatio_ne v x2 y2 K w' (hv.below hb (Nat.le_refl _)) h2 (by omega); rw [h12] at h; exact h
  obtain ⟨ab, ao, am, ac, bb, bo, bm, bc, rfl, _, _⟩ := Ra.opened hu
  obtain ⟨cb, co, cm, cc, db, d_o, dm, dc, rfl, _, _⟩ := Ra.opened hv
  have HR1 := hid hR1; have HR2 := hid hR2
  obtain ⟨z1, hz1⟩ : ∃ z1, z1 = sgn (decide (x1 < 0) != decide (y1 < 0)) (x1.natAbs : Int) := ⟨_, rfl⟩
  obtain ⟨z2, hz2⟩ : ∃ z2, z2 = sgn (decide (x2 < 0) != decide (y2 < 0)) (x2.natAbs : Int) := ⟨_, rfl⟩
  obtain ⟨d, hd⟩ : ∃ d, d = (y1.natAbs : Int) := ⟨_, rfl⟩
  have hd0 : 0 < d := by omega
  rw [← hz1, ← hz2, ← hd]
  rw [← hz1, ← hd] at HR1
  rw [← hz2, ← hd] at HR2
  clear hR1 hR2 hu hv hz1 hz2 hd h1 h2 h12
  obtain ⟨W0, hW0⟩ : ∃ W0, W0 = (((w.alloc (.cells #[.bool ab, .slice ao am ac, .bool bb, .slice bo bm bc] 26)).alloc (.cells #[.bool cb, .slice co cm cc, .bool db, .slice d_o dm dc] 26)).alloc (.cells #[.bool false, .slice none 0 0, .bool false, .slice none 0 0] 26)) := ⟨_, rfl⟩
  have hB0 : Below w.heap.size w W0 := by rw [hW0]; exact (((Below.refl _ _).alloc (Nat.le_refl _) _).alloc (by simp) _).alloc (by simp <;> omega) _
  have hz0 : W0.heap.size = w.heap.size + 3 := by rw [hW0]; simp
  have HS : Hid (∀ w', Below (w.heap.size + 2) W0 w' → w'.cell? ⟨w.heap.size, 0, none⟩ = some (.bool ab) ∧ w'.cell? ⟨w.heap.size, 1, none⟩ = some (.slice ao am ac) ∧ w'.cell? ⟨w.heap.size, 2, none⟩ = some (.bool bb) ∧ w'.cell? ⟨w.heap.size, 3, none⟩ = some (.slice bo bm bc) ∧ w'.cell? ⟨w.heap.size + 1, 0, none⟩ = some (.bool cb) ∧ w'.cell? ⟨w.heap.size + 1, 1, none⟩ = some (.slice co cm cc) ∧ w'.cell? ⟨w.heap.size + 1, 2, none⟩ = some (.bool db) ∧ w'.cell? ⟨w.heap.size + 1, 3, none⟩ = some (.slice d_o dm dc)) := hid (fun w' hb => by
    refine ⟨?_, ?_, ?_, ?_, ?_, ?_, ?_, ?_⟩ <;> (rw [hb.cell (by simp <;> omega), hW0]; simp [go_sem]))
  have HT : Hid (∀ w', Below (w.heap.size + 3) W0 w' → (w'.cell? ⟨w.heap.size + 2, 0, none⟩ = some (.bool false) ∧ w'.cell? ⟨w.heap.size + 2, 1, none⟩ = some (.slice none 0 0) ∧ w'.cell? ⟨w.heap.size + 2, 2, none⟩ = some (.bool false) ∧ w'.cell? ⟨w.heap.size + 2, 3, none⟩ = some (.slice none 0 0)) ∧ (w'.frozen? ⟨w.heap.size + 2, 0, none⟩ = false ∧ w'.frozen? ⟨w.heap.size + 2, 1, none⟩ = false ∧ w'.frozen? ⟨w.heap.size + 2, 2, none⟩ = false ∧ w'.frozen? ⟨w.heap.size + 2, 3, none⟩ = false)) := hid (fun w' hb => by
    refine ⟨⟨?_, ?_, ?_, ?_⟩, ?_, ?_, ?_, ?_⟩ <;> (first | (rw [hb.cell (by simp <;> omega), hW0]; simp [go_sem]; done) | (rw [hb.frozen (by simp <;> omega), hW0]; simp [go_sem]; done)))
  have HB0 := hid hB0; have Hz0 := hid hz0; have HW := hid hW0; have Hd0 := hid hd0
  clear hW0 hB0 hz0 hd0
  go_enter Tryz.func35, Tryz.ntmps35
  go_upto_region 1 with (fail)
  rw [← HW.out]
  go_region_held3 (fun w' => w'.cell? ⟨w.heap.size, 0, none⟩ = some (.bool ab) ∧ w'.cell? ⟨w.heap.size, 1, none⟩ = some (.slice ao am ac) ∧ w'.cell? ⟨w.heap.size, 2, none⟩ = some (.bool bb) ∧ w'.cell? ⟨w.heap.size, 3, none⟩ = some (.slice bo bm bc) ∧ w'.cell? ⟨w.heap.size + 1, 0, none⟩ = some (.bool cb) ∧ w'.cell? ⟨w.heap.size + 1, 1, none⟩ = some (.slice co cm cc) ∧ w'.cell? ⟨w.heap.size + 1, 2, none⟩ = some (.bool db) ∧ w'.cell? ⟨w.heap.size + 1, 3, none⟩ = some (.slice d_o dm dc)) ((refine HS.out _ ?_; repeat (first | assumption | exact Below.refl _ _ | exact (Below.refl _ _).drew | exact Below.drew (by assumption) | (refine Below.setCell ?_ (by simp) _)))) (first
    | (go_at_call_of 53 (ao); refine (HR1.out _ HB0.out.drew).mono ?_; rintro e w1 ⟨_, rfl, hf1, hb1⟩; obtain ⟨e1, o1, m1, c1, p1, n1, k1, rfl, H1, H1s, H1b⟩ := Ft.opened hf1; have hX1 : Below W0.heap.size W0 w1 := (Below.refl _ _).drew.trans hb1; have hY1 : Below (w.heap.size + 2) W0 w1 := hX1.mono (by have := Hz0.out; omega))
    | (go_at_call_of 53 (co); refine (HR2.out _ (HB0.out.trans (hX1.mono HB0.out.size))).mono ?_; rintro e w2 ⟨_, rfl, hf2, hb2⟩; obtain ⟨e2, o2, m2, c2, p2, n2, k2, rfl, H2, H2s, H2b⟩ := Ft.opened hf2; have hX2 : Below W0.heap.size W0 w2 := hX1.trans (hb2.mono hX1.size); have hY2 : Below (w.heap.size + 2) W0 w2 := hX2.mono (by have := Hz0.out; omega))
    | (go_at_call 92; refine (fplus_same _ _ _ _ _ _ _ (Ft.below hf1 hb2 (Nat.le_refl _)) hf2 (by omega)).mono ?_; rintro e w3 ⟨_, rfl, hf3, hb3⟩; obtain ⟨e3, o3, m3, c3, p3, n3, k3, rfl, H3, H3s, H3b⟩ := Ft.opened hf3; have hX3 : Below W0.heap.size W0 w3 := hX2.trans (hb3.mono hX2.size); have hY3 : Below (w.heap.size + 2) W0 w3 := hX3.mono (by have := Hz0.out; omega))
    | (go_at_call 67; refine (fracValue_any _ _ _ _ _ hf3 Hd0.out (by omega)).mono ?_; rintro e w4 ⟨_, rfl, hr4, hb4⟩; obtain ⟨e4, o4, m4, c4, e5, o5, m5, c5, rfl, H4, H5⟩ := FrR.opened hr4; have hX4 : Below W0.heap.size W0 w4 := hX3.trans (hb4.mono hX3.size); have hY4 : Below (w.heap.size + 2) W0 w4 := hX4.mono (by have := Hz0.out; omega); obtain ⟨⟨hr0, hr1, hr2, hr3⟩, hf0, hf1', hf2', hf3'⟩ := HT.out _ (hX4.mono (by have := Hz0.out; omega))))
  go_wp2
  have hz0 := Hz0.out; have hs3 := hX3.size
  have hw4 : Below w.heap.size w w4 := HB0.out.trans (hX4.mono HB0.out.size)
  have hlt : w.heap.size + 2 < w3.heap.size := by omega
  refine bodyPost_ret (v := .agg #[.bool e4, .slice o4 m4 c4, .bool e5, .slice o5 m5 c5]) (by simp [results, Tryz.results35, go_sem, hr0, hr1, hr2, hr3]) rfl ⟨_, rfl, ?_, (((hw4.setCell (by simp <;> omega) _).setCell (by simp <;> omega) _).setCell (by simp <;> omega) _).setCell (by simp <;> omega) _⟩
  refine ⟨_, _, _, _, rfl, ?_, ?_⟩
  · exact ((((H4.out.set hlt _).set hlt _).set hlt _).set hlt _).base (by omega)
  · exact ((((H5.out.set hlt _).set hlt _).set hlt _).set hlt _).base (by omega)

set_option maxRecDepth 100000 in
set_option maxHeartbeats 1000000 in
theorem lover_any (n d : Int) (w : World) (n0 : -9223372036854775808 ≤ n) (n1 : n < 9223372036854775808) (d0 : -9223372036854775808 ≤ d) (d1 : d < 9223372036854775808) (hd : d ≠ 0) :
    Calls Tryz.prog 27 #[.int .i64 n, .int .i64 d] w (RetR w (lowN (sgn (decide (n < 0) != decide (d < 0)) (n.natAbs : Int)) (d.natAbs : Int)) (lowD (sgn (decide (n < 0) != decide (d < 0)) (n.natAbs : Int)) (d.natAbs : Int)) 2) := by
  have HO := hid (fun w' => Over_any n d w' n0 n1 d0 d1 hd)
  obtain ⟨N, hN⟩ : ∃ N, N = lowN (sgn (decide (n < 0) != decide (d < 0)) (n.natAbs : Int)) (d.natAbs : Int) := ⟨_, rfl⟩
  obtain ⟨D, hD⟩ : ∃ D, D = lowD (sgn (decide (n < 0) != decide (d < 0)) (n.natAbs : Int)) (d.natAbs : Int) := ⟨_, rfl⟩
  rw [← hN, ← hD] at HO ⊢
  clear n0 n1 d0 d1 hd hN hD
  obtain ⟨W0, hW0⟩ : ∃ W0, W0 = (w.alloc (.cells #[.bool false, .slice none 0 0, .bool false, .slice none 0 0] 26)) := ⟨_, rfl⟩
  have hB0 : Below w.heap.size w W0 := by rw [hW0]; exact (Below.refl _ _).alloc (Nat.le_refl _) _
  have hz0 : W0.heap.size = w.heap.size + 1 := by rw [hW0]; simp
  have HT : Hid (∀ w', Below W0.heap.size W0 w' → (w'.cell? ⟨w.heap.size, 0, none⟩ = some (.bool false) ∧ w'.cell? ⟨w.heap.size, 1, none⟩ = some (.slice none 0 0) ∧ w'.cell? ⟨w.heap.size, 2, none⟩ = some (.bool false) ∧ w'.cell? ⟨w.heap.size, 3, none⟩ = some (.slice none 0 0)) ∧ (w'.frozen? ⟨w.heap.size, 0, none⟩ = false ∧ w'.frozen? ⟨w.heap.size, 1, none⟩ = false ∧ w'.frozen? ⟨w.heap.size, 2, none⟩ = false ∧ w'.frozen? ⟨w.heap.size, 3, none⟩ = false)) := hid (fun w' hb => by
    refine ⟨⟨?_, ?_, ?_, ?_⟩, ?_, ?_, ?_, ?_⟩ <;> (first | (rw [hb.cell (by rw [hz0]; simp), hW0]; simp [go_sem]; done) | (rw [hb.frozen (by rw [hz0]; simp), hW0]; simp [go_sem]; done)))
  have HB0 := hid hB0; have Hz0 := hid hz0; have HW := hid hW0
  clear hW0 hB0 hz0
  go_enter Tryz.func27, Tryz.ntmps27
  go_wp2_with fail
  rw [← HW.out]
  refine (HO.out _).mono ?_
  rintro e w1 ⟨f, rfl, hf, hb1⟩
  obtain ⟨e4, o4, m4, c4, e5, o5, m5, c5, rfl, H4, H5⟩ := FrR.opened hf
  have hs1 := hb1.size
  obtain ⟨W2, hW2⟩ : ∃ W2, W2 = w1.alloc (.cells #[.bool e4, .slice o4 m4 c4, .bool e5, .slice o5 m5 c5] 26) := ⟨_, rfl⟩
  have hal : Below w1.heap.size w1 W2 := by rw [hW2]; exact (Below.refl _ _).alloc (Nat.le_refl _) _
  have hX2 : Below W0.heap.size W0 W2 := hb1.trans (hal.mono hb1.size)
  have hw2 : Below w.heap.size w W2 := HB0.out.trans (hX2.mono HB0.out.size)
  have hlt : w.heap.size < W2.heap.size := by have := hX2.size; have := Hz0.out; omega
  have hlt' : w.heap.size < W0.heap.size := by have := Hz0.out; omega
  obtain ⟨⟨hr0, hr1, hr2, hr3⟩, hf0, hf1, hf2, hf3⟩ := HT.out _ hX2
  have q0 : W2.cell? ⟨w1.heap.size, 0, none⟩ = some (.bool e4) := by rw [hW2]; simp [go_sem]
  have q1 : W2.cell? ⟨w1.heap.size, 1, none⟩ = some (.slice o4 m4 c4) := by rw [hW2]; simp [go_sem]
  have q2 : W2.cell? ⟨w1.heap.size, 2, none⟩ = some (.bool e5) := by rw [hW2]; simp [go_sem]
  have q3 : W2.cell? ⟨w1.heap.size, 3, none⟩ = some (.slice o5 m5 c5) := by rw [hW2]; simp [go_sem]
  have HW2 := hid hW2; have HA := hid hal
  clear hf hW2 hal hs1
  go_upto_region 2 with (fail)
  rw [← HW2.out]
  go_wp2
  refine bodyPost_ret (v := .agg #[.bool e4, .slice o4 m4 c4, .bool e5, .slice o5 m5 c5]) (by simp [results, Tryz.results27, go_sem, hr0, hr1, hr2, hr3]) rfl ⟨_, rfl, ?_, (((hw2.setCell (by simp <;> omega) _).setCell (by simp <;> omega) _).setCell (by simp <;> omega) _).setCell (by simp <;> omega) _⟩
  have hb : w.heap.size ≤ W0.heap.size := by have := Hz0.out; omega
  refine ⟨_, _, _, _, rfl, ?_, ?_⟩
  · exact (((((H4.out.laid HA.out (Nat.le_refl _)).set hlt' _).set hlt' _).set hlt' _).set hlt' _).base hb
  · exact (((((H5.out.laid HA.out (Nat.le_refl _)).set hlt' _).set hlt' _).set hlt' _).set hlt' _).base hb

set_option maxRecDepth 100000 in
set_option maxHeartbeats 1000000 in
theorem shows_whole (v : Value) (x y N : Int) (K : Nat) (s : ByteArray) (w : World) (hv : Ra w v x y K) (hy : y ≠ 0) (hK : K ≤ 1073741820)
    (hN : lowN (sgn (decide (x < 0) != decide (y < 0)) (x.natAbs : Int)) (y.natAbs : Int) = N) (hD : lowD (sgn (decide (x < 0) != decide (y < 0)) (x.natAbs : Int)) (y.natAbs : Int) = 1) (h0 : N ≠ 0) (h1 : N.natAbs < 100) (hs : tx N = s) :
    Calls Tryz.prog 25 #[v, .string s] w fun e w' => e = .returned (.bool true) ∧ Below w.heap.size w w' := by
  have HSh := hid (fun (w' : World) (hb : Below w.heap.size w w') => by have h := Show_whole v x y N K w' (hv.below hb (Nat.le_refl _)) hy hK hN hD h0 h1; rw [hs] at h; exact h)
  obtain ⟨ab, ao, am, ac, bb, bo, bm, bc, rfl, _, _⟩ := Ra.opened hv
  clear hv hy hK hN hD h0 h1 hs
  have HB0 := hid (show Below w.heap.size w (w.alloc (.cells #[.bool ab, .slice ao am ac, .bool bb, .slice bo bm bc] 26)) from (Below.refl _ _).alloc (Nat.le_refl _) _)
  go_enter Tryz.func25, Tryz.ntmps25
  go_wp2_with fail
  refine (HSh.out _ HB0.out).mono ?_
  rintro e w1 ⟨rfl, hb1⟩
  go_wp2
  go_ret
  exact ⟨by simp, HB0.out.trans (hb1.mono HB0.out.size)⟩

set_option maxRecDepth 100000 in
set_option maxHeartbeats 1000000 in
theorem shows_quot (v : Value) (x y N D : Int) (K : Nat) (s : ByteArray) (w : World) (hv : Ra w v x y K) (hy : y ≠ 0) (hK : K ≤ 1073741820)
    (hN : lowN (sgn (decide (x < 0) != decide (y < 0)) (x.natAbs : Int)) (y.natAbs : Int) = N) (hD : lowD (sgn (decide (x < 0) != decide (y < 0)) (x.natAbs : Int)) (y.natAbs : Int) = D) (h0 : N ≠ 0) (h1 : N.natAbs < 100) (d0 : 1 < D) (d1 : D < 100) (hs : tx N ++ ⟨#[47]⟩ ++ ⟨(Lib.decDigits D.natAbs).toArray⟩ = s) :
    Calls Tryz.prog 25 #[v, .string s] w fun e w' => e = .returned (.bool true) ∧ Below w.heap.size w w' := by
  have HSh := hid (fun (w' : World) (hb : Below w.heap.size w w') => by have h := Show_quot v x y N D K w' (hv.below hb (Nat.le_refl _)) hy hK hN hD h0 h1 d0 d1; rw [hs] at h; exact h)
  obtain ⟨ab, ao, am, ac, bb, bo, bm, bc, rfl, _, _⟩ := Ra.opened hv
  clear hv hy hK hN hD h0 h1 hs d0 d1
  have HB0 := hid (show Below w.heap.size w (w.alloc (.cells #[.bool ab, .slice ao am ac, .bool bb, .slice bo bm bc] 26)) from (Below.refl _ _).alloc (Nat.le_refl _) _)
  go_enter Tryz.func25, Tryz.ntmps25
  go_wp2_with fail
  refine (HSh.out _ HB0.out).mono ?_
  rintro e w1 ⟨rfl, hb1⟩
  go_wp2
  go_ret
  exact ⟨by simp, HB0.out.trans (hb1.mono HB0.out.size)⟩
end Go.Proofs.YtilpkocmdpofpaaGreatDoor
