/- exact.Plus of two ratios whose denominators have the same size; over and shows of the laws. alive of the outright laws: true. The law ExactRing, its walk. Written by gen_ring.py. Contracts of Div, Gcd and Of in one form; the numbers of the law ExactDivision. Floors of ratios. -/
import Derived.Test.YtilpkocmdpofpaaGreatDoorNb24
import Derived.Test.YtilpkocmdpofpaaGreatDoorNb27
import Derived.Test.YtilpkocmdpofpaaGreatDoorNb31
import Derived.Test.YtilpkocmdpofpaaGreatDoorNb16
/- exact.Plus of two ratios whose denominators have the same size; over and shows of the laws. -/
namespace Go.Proofs.YtilpkocmdpofpaaGreatDoor
open Go.RowKit

theorem FrA.laid {w1 w w' : World} {v : Value} {z : Int} {K B : Nat} (h : FrA w1 w v z K) (hb : Below B w w') (hB : w.heap.size ≤ B) : FrA w1 w' v z K := by
  obtain ⟨s, rfl, h⟩ := h
  exact ⟨s, rfl, h.below hb hB⟩

set_option maxRecDepth 100000 in
set_option maxHeartbeats 1000000 in
theorem Plus_same (u v : Value) (x1 y1 x2 y2 : Int) (K : Nat) (w : World) (hu : Ra w u x1 y1 K) (hv : Ra w v x2 y2 K) (h1 : y1 ≠ 0) (h2 : y2 ≠ 0) (h12 : (y2.natAbs : Int) = (y1.natAbs : Int)) (hK : K ≤ 1073741800) :
    Calls Tryz.prog 35 #[u, v] w (RetR w (lowN (sgn (decide (x1 < 0) != decide (y1 < 0)) (x1.natAbs : Int) + sgn (decide (x2 < 0) != decide (y2 < 0)) (x2.natAbs : Int)) (y1.natAbs : Int)) (lowD (sgn (decide (x1 < 0) != decide (y1 < 0)) (x1.natAbs : Int) + sgn (decide (x2 < 0) != decide (y2 < 0)) (x2.natAbs : Int)) (y1.natAbs : Int)) (2 * ((K + 1) / 2 + 1))) := by
  have hR1 := fun (w' : World) (hb : Below w.heap.size w w') => readRatio_ne u x1 y1 K w' (hu.below hb (Nat.le_refl _)) h1 (by omega)
  have hR2 := fun (w' : World) (hb : Below w.heap.size w w') => by have h := readRatio_ne v x2 y2 K w' (hv.below hb (Nat.le_refl _)) h2 (by omega); rw [h12] at h; exact h
  obtain ⟨ab, ao, am, ac, bb, bo, bm, bc, rfl, _, _⟩ := Ra.opened hu
  obtain ⟨cb, co, cm, cc, db, d_o, dm, dc, rfl, _, _⟩ := Ra.opened hv
  have HR1 := hid hR1; have HR2 := hid hR2
  obtain ⟨z1, hz1⟩ : ∃ z1, z1 = sgn (decide (x1 < 0) != decide (y1 < 0)) (x1.natAbs : Int) := ⟨_, rfl⟩
  obtain ⟨z2, hz2⟩ : ∃ z2, z2 = sgn (decide (x2 < 0) != decide (y2 < 0)) (x2.natAbs : Int) := ⟨_, rfl⟩
  obtain ⟨d, hd⟩ : ∃ d, d = (y1.natAbs : Int) := ⟨_, rfl⟩
  have hd0 : 0 < d := by omega
  rw [← hz1, ← hz2, ← hd]
  rw [← hz1, ← hd] at HR1
  rw [← hz2, ← hd] at HR2
  clear hR1 hR2 hu hv hz1 hz2 hd h1 h2 h12
  obtain ⟨W0, hW0⟩ : ∃ W0, W0 = (((w.alloc (.cells #[.bool ab, .slice ao am ac, .bool bb, .slice bo bm bc] 26)).alloc (.cells #[.bool cb, .slice co cm cc, .bool db, .slice d_o dm dc] 26)).alloc (.cells #[.bool false, .slice none 0 0, .bool false, .slice none 0 0] 26)) := ⟨_, rfl⟩
  have hB0 : Below w.heap.size w W0 := by rw [hW0]; exact (((Below.refl _ _).alloc (Nat.le_refl _) _).alloc (by simp) _).alloc (by simp <;> omega) _
  have hz0 : W0.heap.size = w.heap.size + 3 := by rw [hW0]; simp
  have HS : Hid (∀ w', Below (w.heap.size + 2) W0 w' → w'.cell? ⟨w.heap.size, 0, none⟩ = some (.bool ab) ∧ w'.cell? ⟨w.heap.size, 1, none⟩ = some (.slice ao am ac) ∧ w'.cell? ⟨w.heap.size, 2, none⟩ = some (.bool bb) ∧ w'.cell? ⟨w.heap.size, 3, none⟩ = some (.slice bo bm bc) ∧ w'.cell? ⟨w.heap.size + 1, 0, none⟩ = some (.bool cb) ∧ w'.cell? ⟨w.heap.size + 1, 1, none⟩ = some (.slice co cm cc) ∧ w'.cell? ⟨w.heap.size + 1, 2, none⟩ = some (.bool db) ∧ w'.cell? ⟨w.heap.size + 1, 3, none⟩ = some (.slice d_o dm dc)) := hid (fun w' hb => by
    refine ⟨?_, ?_, ?_, ?_, ?_, ?_, ?_, ?_⟩ <;> (rw [hb.cell (by simp <;> omega), hW0]; simp [go_sem]))
  have HT : Hid (∀ w', Below (w.heap.size + 3) W0 w' → (w'.cell? ⟨w.heap.size + 2, 0, none⟩ = some (.bool false) ∧ w'.cell? ⟨w.heap.size + 2, 1, none⟩ = some (.slice none 0 0) ∧ w'.cell? ⟨w.heap.size + 2, 2, none⟩ = some (.bool false) ∧ w'.cell? ⟨w.heap.size + 2, 3, none⟩ = some (.slice none 0 0)) ∧ (w'.frozen? ⟨w.heap.size + 2, 0, none⟩ = false ∧ w'.frozen? ⟨w.heap.size + 2, 1, none⟩ = false ∧ w'.frozen? ⟨w.heap.size + 2, 2, none⟩ = false ∧ w'.frozen? ⟨w.heap.size + 2, 3, none⟩ = false)) := hid (fun w' hb => by
    refine ⟨⟨?_, ?_, ?_, ?_⟩, ?_, ?_, ?_, ?_⟩ <;> (first | (rw [hb.cell (by simp <;> omega), hW0]; simp [go_sem]; done) | (rw [hb.frozen (by simp <;> omega), hW0]; simp [go_sem]; done)))
  have HB0 := hid hB0; have Hz0 := hid hz0; have HW := hid hW0; have Hd0 := hid hd0
  clear hW0 hB0 hz0 hd0
  go_enter Tryz.func35, Tryz.ntmps35
  go_upto_region 1 with (fail)
  rw [← HW.out]
  go_region_held3 (fun w' => w'.cell? ⟨w.heap.size, 0, none⟩ = some (.bool ab) ∧ w'.cell? ⟨w.heap.size, 1, none⟩ = some (.slice ao am ac) ∧ w'.cell? ⟨w.heap.size, 2, none⟩ = some (.bool bb) ∧ w'.cell? ⟨w.heap.size, 3, none⟩ = some (.slice bo bm bc) ∧ w'.cell? ⟨w.heap.size + 1, 0, none⟩ = some (.bool cb) ∧ w'.cell? ⟨w.heap.size + 1, 1, none⟩ = some (.slice co cm cc) ∧ w'.cell? ⟨w.heap.size + 1, 2, none⟩ = some (.bool db) ∧ w'.cell? ⟨w.heap.size + 1, 3, none⟩ = some (.slice d_o dm dc)) ((refine HS.out _ ?_; repeat (first | assumption | exact Below.refl _ _ | exact (Below.refl _ _).drew | exact Below.drew (by assumption) | (refine Below.setCell ?_ (by simp) _)))) (first
    | (go_at_call_of 53 (ao); refine (HR1.out _ HB0.out.drew).mono ?_; rintro e w1 ⟨_, rfl, hf1, hb1⟩; obtain ⟨e1, o1, m1, c1, p1, n1, k1, rfl, H1, H1s, H1b⟩ := Ft.opened hf1; have hX1 : Below W0.heap.size W0 w1 := (Below.refl _ _).drew.trans hb1; have hY1 : Below (w.heap.size + 2) W0 w1 := hX1.mono (by have := Hz0.out; omega))
    | (go_at_call_of 53 (co); refine (HR2.out _ (HB0.out.trans (hX1.mono HB0.out.size))).mono ?_; rintro e w2 ⟨_, rfl, hf2, hb2⟩; obtain ⟨e2, o2, m2, c2, p2, n2, k2, rfl, H2, H2s, H2b⟩ := Ft.opened hf2; have hX2 : Below W0.heap.size W0 w2 := hX1.trans (hb2.mono hX1.size); have hY2 : Below (w.heap.size + 2) W0 w2 := hX2.mono (by have := Hz0.out; omega))
    | (go_at_call 92; refine (fplus_same _ _ _ _ _ _ _ (Ft.below hf1 hb2 (Nat.le_refl _)) hf2 (by omega)).mono ?_; rintro e w3 ⟨_, rfl, hf3, hb3⟩; obtain ⟨e3, o3, m3, c3, p3, n3, k3, rfl, H3, H3s, H3b⟩ := Ft.opened hf3; have hX3 : Below W0.heap.size W0 w3 := hX2.trans (hb3.mono hX2.size); have hY3 : Below (w.heap.size + 2) W0 w3 := hX3.mono (by have := Hz0.out; omega))
    | (go_at_call 67; refine (fracValue_any _ _ _ _ _ hf3 Hd0.out (by omega)).mono ?_; rintro e w4 ⟨_, rfl, hr4, hb4⟩; obtain ⟨e4, o4, m4, c4, e5, o5, m5, c5, rfl, H4, H5⟩ := FrR.opened hr4; have hX4 : Below W0.heap.size W0 w4 := hX3.trans (hb4.mono hX3.size); have hY4 : Below (w.heap.size + 2) W0 w4 := hX4.mono (by have := Hz0.out; omega); obtain ⟨⟨hr0, hr1, hr2, hr3⟩, hf0, hf1', hf2', hf3'⟩ := HT.out _ (hX4.mono (by have := Hz0.out; omega))))
  go_wp2
  have hz0 := Hz0.out; have hs3 := hX3.size
  have hw4 : Below w.heap.size w w4 := HB0.out.trans (hX4.mono HB0.out.size)
  have hlt : w.heap.size + 2 < w3.heap.size := by omega
  refine bodyPost_ret (v := .agg #[.bool e4, .slice o4 m4 c4, .bool e5, .slice o5 m5 c5]) (by simp [results, Tryz.results35, go_sem, hr0, hr1, hr2, hr3]) rfl ⟨_, rfl, ?_, (((hw4.setCell (by simp <;> omega) _).setCell (by simp <;> omega) _).setCell (by simp <;> omega) _).setCell (by simp <;> omega) _⟩
  refine ⟨_, _, _, _, rfl, ?_, ?_⟩
  · exact ((((H4.out.set hlt _).set hlt _).set hlt _).set hlt _).base (by omega)
  · exact ((((H5.out.set hlt _).set hlt _).set hlt _).set hlt _).base (by omega)

set_option maxRecDepth 100000 in
set_option maxHeartbeats 1000000 in
theorem lover_any (n d : Int) (w : World) (n0 : -9223372036854775808 ≤ n) (n1 : n < 9223372036854775808) (d0 : -9223372036854775808 ≤ d) (d1 : d < 9223372036854775808) (hd : d ≠ 0) :
    Calls Tryz.prog 27 #[.int .i64 n, .int .i64 d] w (RetR w (lowN (sgn (decide (n < 0) != decide (d < 0)) (n.natAbs : Int)) (d.natAbs : Int)) (lowD (sgn (decide (n < 0) != decide (d < 0)) (n.natAbs : Int)) (d.natAbs : Int)) 2) := by
  have HO := hid (fun w' => Over_any n d w' n0 n1 d0 d1 hd)
  obtain ⟨N, hN⟩ : ∃ N, N = lowN (sgn (decide (n < 0) != decide (d < 0)) (n.natAbs : Int)) (d.natAbs : Int) := ⟨_, rfl⟩
  obtain ⟨D, hD⟩ : ∃ D, D = lowD (sgn (decide (n < 0) != decide (d < 0)) (n.natAbs : Int)) (d.natAbs : Int) := ⟨_, rfl⟩
  rw [← hN, ← hD] at HO ⊢
  clear n0 n1 d0 d1 hd hN hD
  obtain ⟨W0, hW0⟩ : ∃ W0, W0 = (w.alloc (.cells #[.bool false, .slice none 0 0, .bool false, .slice none 0 0] 26)) := ⟨_, rfl⟩
  have hB0 : Below w.heap.size w W0 := by rw [hW0]; exact (Below.refl _ _).alloc (Nat.le_refl _) _
  have hz0 : W0.heap.size = w.heap.size + 1 := by rw [hW0]; simp
  have HT : Hid (∀ w', Below W0.heap.size W0 w' → (w'.cell? ⟨w.heap.size, 0, none⟩ = some (.bool false) ∧ w'.cell? ⟨w.heap.size, 1, none⟩ = some (.slice none 0 0) ∧ w'.cell? ⟨w.heap.size, 2, none⟩ = some (.bool false) ∧ w'.cell? ⟨w.heap.size, 3, none⟩ = some (.slice none 0 0)) ∧ (w'.frozen? ⟨w.heap.size, 0, none⟩ = false ∧ w'.frozen? ⟨w.heap.size, 1, none⟩ = false ∧ w'.frozen? ⟨w.heap.size, 2, none⟩ = false ∧ w'.frozen? ⟨w.heap.size, 3, none⟩ = false)) := hid (fun w' hb => by
    refine ⟨⟨?_, ?_, ?_, ?_⟩, ?_, ?_, ?_, ?_⟩ <;> (first | (rw [hb.cell (by rw [hz0]; simp), hW0]; simp [go_sem]; done) | (rw [hb.frozen (by rw [hz0]; simp), hW0]; simp [go_sem]; done)))
  have HB0 := hid hB0; have Hz0 := hid hz0; have HW := hid hW0
  clear hW0 hB0 hz0
  go_enter Tryz.func27, Tryz.ntmps27
  go_wp2_with fail
  rw [← HW.out]
  refine (HO.out _).mono ?_
  rintro e w1 ⟨f, rfl, hf, hb1⟩
  obtain ⟨e4, o4, m4, c4, e5, o5, m5, c5, rfl, H4, H5⟩ := FrR.opened hf
  have hs1 := hb1.size
  obtain ⟨W2, hW2⟩ : ∃ W2, W2 = w1.alloc (.cells #[.bool e4, .slice o4 m4 c4, .bool e5, .slice o5 m5 c5] 26) := ⟨_, rfl⟩
  have hal : Below w1.heap.size w1 W2 := by rw [hW2]; exact (Below.refl _ _).alloc (Nat.le_refl _) _
  have hX2 : Below W0.heap.size W0 W2 := hb1.trans (hal.mono hb1.size)
  have hw2 : Below w.heap.size w W2 := HB0.out.trans (hX2.mono HB0.out.size)
  have hlt : w.heap.size < W2.heap.size := by have := hX2.size; have := Hz0.out; omega
  have hlt' : w.heap.size < W0.heap.size := by have := Hz0.out; omega
  obtain ⟨⟨hr0, hr1, hr2, hr3⟩, hf0, hf1, hf2, hf3⟩ := HT.out _ hX2
  have q0 : W2.cell? ⟨w1.heap.size, 0, none⟩ = some (.bool e4) := by rw [hW2]; simp [go_sem]
  have q1 : W2.cell? ⟨w1.heap.size, 1, none⟩ = some (.slice o4 m4 c4) := by rw [hW2]; simp [go_sem]
  have q2 : W2.cell? ⟨w1.heap.size, 2, none⟩ = some (.bool e5) := by rw [hW2]; simp [go_sem]
  have q3 : W2.cell? ⟨w1.heap.size, 3, none⟩ = some (.slice o5 m5 c5) := by rw [hW2]; simp [go_sem]
  have HW2 := hid hW2; have HA := hid hal
  clear hf hW2 hal hs1
  go_upto_region 2 with (fail)
  rw [← HW2.out]
  go_wp2
  refine bodyPost_ret (v := .agg #[.bool e4, .slice o4 m4 c4, .bool e5, .slice o5 m5 c5]) (by simp [results, Tryz.results27, go_sem, hr0, hr1, hr2, hr3]) rfl ⟨_, rfl, ?_, (((hw2.setCell (by simp <;> omega) _).setCell (by simp <;> omega) _).setCell (by simp <;> omega) _).setCell (by simp <;> omega) _⟩
  have hb : w.heap.size ≤ W0.heap.size := by have := Hz0.out; omega
  refine ⟨_, _, _, _, rfl, ?_, ?_⟩
  · exact (((((H4.out.laid HA.out (Nat.le_refl _)).set hlt' _).set hlt' _).set hlt' _).set hlt' _).base hb
  · exact (((((H5.out.laid HA.out (Nat.le_refl _)).set hlt' _).set hlt' _).set hlt' _).set hlt' _).base hb

set_option maxRecDepth 100000 in
set_option maxHeartbeats 1000000 in
theorem shows_whole (v : Value) (x y N : Int) (K : Nat) (s : ByteArray) (w : World) (hv : Ra w v x y K) (hy : y ≠ 0) (hK : K ≤ 1073741820)
    (hN : lowN (sgn (decide (x < 0) != decide (y < 0)) (x.natAbs : Int)) (y.natAbs : Int) = N) (hD : lowD (sgn (decide (x < 0) != decide (y < 0)) (x.natAbs : Int)) (y.natAbs : Int) = 1) (h0 : N ≠ 0) (h1 : N.natAbs < 100) (hs : tx N = s) :
    Calls Tryz.prog 25 #[v, .string s] w fun e w' => e = .returned (.bool true) ∧ Below w.heap.size w w' := by
  have HSh := hid (fun (w' : World) (hb : Below w.heap.size w w') => by have h := Show_whole v x y N K w' (hv.below hb (Nat.le_refl _)) hy hK hN hD h0 h1; rw [hs] at h; exact h)
  obtain ⟨ab, ao, am, ac, bb, bo, bm, bc, rfl, _, _⟩ := Ra.opened hv
  clear hv hy hK hN hD h0 h1 hs
  have HB0 := hid (show Below w.heap.size w (w.alloc (.cells #[.bool ab, .slice ao am ac, .bool bb, .slice bo bm bc] 26)) from (Below.refl _ _).alloc (Nat.le_refl _) _)
  go_enter Tryz.func25, Tryz.ntmps25
  go_wp2_with fail
  refine (HSh.out _ HB0.out).mono ?_
  rintro e w1 ⟨rfl, hb1⟩
  go_wp2
  go_ret
  exact ⟨by simp, HB0.out.trans (hb1.mono HB0.out.size)⟩

set_option maxRecDepth 100000 in
set_option maxHeartbeats 1000000 in
theorem shows_quot (v : Value) (x y N D : Int) (K : Nat) (s : ByteArray) (w : World) (hv : Ra w v x y K) (hy : y ≠ 0) (hK : K ≤ 1073741820)
    (hN : lowN (sgn (decide (x < 0) != decide (y < 0)) (x.natAbs : Int)) (y.natAbs : Int) = N) (hD : lowD (sgn (decide (x < 0) != decide (y < 0)) (x.natAbs : Int)) (y.natAbs : Int) = D) (h0 : N ≠ 0) (h1 : N.natAbs < 100) (d0 : 1 < D) (d1 : D < 100) (hs : tx N ++ ⟨#[47]⟩ ++ ⟨(Lib.decDigits D.natAbs).toArray⟩ = s) :
    Calls Tryz.prog 25 #[v, .string s] w fun e w' => e = .returned (.bool true) ∧ Below w.heap.size w w' := by
  have HSh := hid (fun (w' : World) (hb : Below w.heap.size w w') => by have h := Show_quot v x y N D K w' (hv.below hb (Nat.le_refl _)) hy hK hN hD h0 h1 d0 d1; rw [hs] at h; exact h)
  obtain ⟨ab, ao, am, ac, bb, bo, bm, bc, rfl, _, _⟩ := Ra.opened hv
  clear hv hy hK hN hD h0 h1 hs d0 d1
  have HB0 := hid (show Below w.heap.size w (w.alloc (.cells #[.bool ab, .slice ao am ac, .bool bb, .slice bo bm bc] 26)) from (Below.refl _ _).alloc (Nat.le_refl _) _)
  go_enter Tryz.func25, Tryz.ntmps25
  go_wp2_with fail
  refine (HSh.out _ HB0.out).mono ?_
  rintro e w1 ⟨rfl, hb1⟩
  go_wp2
  go_ret
  exact ⟨by simp, HB0.out.trans (hb1.mono HB0.out.size)⟩
end Go.Proofs.YtilpkocmdpofpaaGreatDoor

/- alive of the outright laws: true. -/
namespace Go.Proofs.YtilpkocmdpofpaaGreatDoor
open Go.RowKit

theorem tx4 : tx (-4) = ⟨#[45, 52]⟩ := by
  unfold tx
  rw [if_pos (by decide), show (-4 : Int).natAbs = 4 from rfl, Lib.decDigits, dif_pos (by decide)]
  rfl
theorem tx1 : tx (-1) = ⟨#[45, 49]⟩ := by
  unfold tx
  rw [if_pos (by decide), show (-1 : Int).natAbs = 1 from rfl, Lib.decDigits, dif_pos (by decide)]
  rfl
theorem tx32 : tx (-3) ++ ⟨#[47]⟩ ++ ⟨(Lib.decDigits (2 : Int).natAbs).toArray⟩ = ⟨#[45, 51, 47, 50]⟩ := by
  unfold tx
  rw [if_pos (by decide), show (-3 : Int).natAbs = 3 from rfl, show (2 : Int).natAbs = 2 from rfl, Lib.decDigits, dif_pos (by decide), Lib.decDigits, dif_pos (by decide)]
  rfl
theorem lw1 : lowN (sgn (decide ((6 : Int) < 0) != decide ((-4 : Int) < 0)) ((6 : Int).natAbs : Int)) ((-4 : Int).natAbs : Int) = -3 ∧ lowD (sgn (decide ((6 : Int) < 0) != decide ((-4 : Int) < 0)) ((6 : Int).natAbs : Int)) ((-4 : Int).natAbs : Int) = 2 := ⟨by kernel_rfl, by kernel_rfl⟩
theorem lw2 : lowN (sgn (decide ((-3 : Int) < 0) != decide ((2 : Int) < 0)) ((-3 : Int).natAbs : Int)) ((2 : Int).natAbs : Int) = -3 ∧ lowD (sgn (decide ((-3 : Int) < 0) != decide ((2 : Int) < 0)) ((-3 : Int).natAbs : Int)) ((2 : Int).natAbs : Int) = 2 := ⟨by kernel_rfl, by kernel_rfl⟩
theorem lw3 : lowN (sgn (decide ((1 : Int) < 0) != decide ((2 : Int) < 0)) ((1 : Int).natAbs : Int)) ((2 : Int).natAbs : Int) = 1 ∧ lowD (sgn (decide ((1 : Int) < 0) != decide ((2 : Int) < 0)) ((1 : Int).natAbs : Int)) ((2 : Int).natAbs : Int) = 2 := ⟨by kernel_rfl, by kernel_rfl⟩
theorem lw4 : lowN (sgn (decide ((-1 : Int) < 0) != decide ((1 : Int) < 0)) ((-1 : Int).natAbs : Int)) ((1 : Int).natAbs : Int) = -1 ∧ lowD (sgn (decide ((-1 : Int) < 0) != decide ((1 : Int) < 0)) ((-1 : Int).natAbs : Int)) ((1 : Int).natAbs : Int) = 1 := ⟨by kernel_rfl, by kernel_rfl⟩
theorem lw5 : lowN (sgn (decide ((-3 : Int) < 0) != decide ((2 : Int) < 0)) ((-3 : Int).natAbs : Int) + sgn (decide ((1 : Int) < 0) != decide ((2 : Int) < 0)) ((1 : Int).natAbs : Int)) ((2 : Int).natAbs : Int) = -1 ∧ lowD (sgn (decide ((-3 : Int) < 0) != decide ((2 : Int) < 0)) ((-3 : Int).natAbs : Int) + sgn (decide ((1 : Int) < 0) != decide ((2 : Int) < 0)) ((1 : Int).natAbs : Int)) ((2 : Int).natAbs : Int) = 1 := ⟨by kernel_rfl, by kernel_rfl⟩
theorem dv1 : Int.fdiv 7 (-2) = -4 ∧ Int.fmod 7 (-2) = -1 := ⟨by decide, by decide⟩

/-- The contracts that alive's walk uses, at its numbers. -/
theorem al_div (u v : Value) (w : World) (hu : Ai w u 7 2) (hv : Ai w v (-2) 2) : Calls Tryz.prog 21 #[u, v] w (RetAA w (-4) (-1) 6 2 0) := by
  have h := Div_any u v 7 (-2) 2 w hu hv (by decide) (by omega)
  rw [dv1.1, dv1.2] at h
  exact h
theorem al_over (w : World) : Calls Tryz.prog 27 #[.int .i64 6, .int .i64 (-4)] w (RetR w (-3) 2 2) := by
  have h := lover_any 6 (-4) w (by omega) (by omega) (by omega) (by omega) (by decide)
  rw [lw1.1, lw1.2] at h
  exact h
theorem al_over2 (w : World) : Calls Tryz.prog 27 #[.int .i64 1, .int .i64 2] w (RetR w 1 2 2) := by
  have h := lover_any 1 2 w (by omega) (by omega) (by omega) (by omega) (by decide)
  rw [lw3.1, lw3.2] at h
  exact h
theorem al_text4 (v : Value) (w : World) (h : Ai w v (-4) 6) : Calls Tryz.prog 23 #[v] w fun e w' => e = .returned (.string ⟨#[45, 52]⟩) ∧ Below w.heap.size w w' := by
  have h := Text_any (-4) 6 v w h (by omega) (by decide) (by decide)
  rw [tx4] at h
  exact h
theorem al_text1 (v : Value) (w : World) (h : Ai w v (-1) 2) : Calls Tryz.prog 23 #[v] w fun e w' => e = .returned (.string ⟨#[45, 49]⟩) ∧ Below w.heap.size w w' := by
  have h := Text_any (-1) 2 v w h (by omega) (by decide) (by decide)
  rw [tx1] at h
  exact h
theorem al_shows (v : Value) (w : World) (h : Ra w v (-3) 2 2) : Calls Tryz.prog 25 #[v, .string ⟨#[45, 51, 47, 50]⟩] w fun e w' => e = .returned (.bool true) ∧ Below w.heap.size w w' :=
  shows_quot v (-3) 2 (-3) 2 2 _ w h (by decide) (by omega) lw2.1 lw2.2 (by decide) (by decide) (by decide) (by decide) tx32
theorem al_plus (u v : Value) (w : World) (hu : Ra w u (-3) 2 2) (hv : Ra w v 1 2 2) : Calls Tryz.prog 35 #[u, v] w (RetR w (-1) 1 4) := by
  have h := Plus_same u v (-3) 2 1 2 2 w hu hv (by decide) (by decide) rfl (by omega)
  rw [lw5.1, lw5.2] at h
  exact h
theorem al_shows1 (v : Value) (w : World) (h : Ra w v (-1) 1 4) : Calls Tryz.prog 25 #[v, .string ⟨#[45, 49]⟩] w fun e w' => e = .returned (.bool true) ∧ Below w.heap.size w w' :=
  shows_whole v (-1) 1 (-1) 4 _ w h (by decide) (by omega) lw4.1 lw4.2 (by decide) (by decide) tx1

set_option maxRecDepth 100000 in
set_option maxHeartbeats 1000000 in
theorem alive_any (w : World) : Calls Tryz.prog 33 #[] w fun e w' => e = .returned (.bool true) ∧ Below w.heap.size w w' := by
  go_enter Tryz.func33, Tryz.ntmps33
  go_wp2_with fail
  refine (of_any 7 _ (by omega) (by omega)).mono ?_
  rintro e w1 ⟨_, rfl, hv1, hb1⟩
  obtain ⟨b1, o1, m1, c1, rfl, H1⟩ := FrA.opened hv1
  clear hv1
  go_wp2_with fail
  refine (of_any (-2) _ (by omega) (by omega)).mono ?_
  rintro e w2 ⟨_, rfl, hv2, hb2⟩
  obtain ⟨b2, o2, m2, c2, rfl, H2⟩ := FrA.opened hv2
  clear hv2
  have HB2 := hid (show Below w.heap.size w w2 from hb1.trans (hb2.mono hb1.size))
  have hA1 := hid (H1.out.ai.below hb2 (Nat.le_refl _))
  clear hb1 hb2
  go_wp2_with fail
  refine (al_div _ _ _ hA1.out H2.out.ai).mono ?_
  rintro e w3 ⟨_, _, rfl, hq, hr, hb3⟩
  obtain ⟨qb, qo, qm, qc, rfl, HQ⟩ := FrA.opened hq
  obtain ⟨rb, ro, rm, rc, rfl, HR⟩ := FrA.opened hr
  have HB3 := hid (show Below w.heap.size w w3 from HB2.out.trans (hb3.mono HB2.out.size))
  clear hq hr hb3
  go_upto_region 2 with (fail)
  obtain ⟨W4, hW4⟩ : ∃ W4, W4 = ((w3.alloc (.cells #[.bool qb, .slice qo qm qc] 24)).alloc (.cells #[.bool rb, .slice ro rm rc] 24)) := ⟨_, rfl⟩
  have hb4 : Below w3.heap.size w3 W4 := by rw [hW4]; exact ((Below.refl _ _).alloc (Nat.le_refl _) _).alloc (by simp) _
  have hz4 : W4.heap.size = w3.heap.size + 2 := by rw [hW4]; simp
  have HS : Hid (∀ w', Below W4.heap.size W4 w' → w'.cell? ⟨w3.heap.size, 0, none⟩ = some (.bool qb) ∧ w'.cell? ⟨w3.heap.size, 1, none⟩ = some (.slice qo qm qc) ∧ w'.cell? ⟨w3.heap.size + 1, 0, none⟩ = some (.bool rb) ∧ w'.cell? ⟨w3.heap.size + 1, 1, none⟩ = some (.slice ro rm rc)) := hid (fun w' hb => by
    refine ⟨?_, ?_, ?_, ?_⟩ <;> (rw [hb.cell (by rw [hz4]; simp), hW4]; simp [go_sem]))
  have HB4 := hid (show Below w.heap.size w W4 from HB3.out.trans (hb4.mono HB3.out.size))
  have hQ4 := hid (HQ.out.ai.below hb4 (Nat.le_refl _)); have hR4 := hid (HR.out.ai.below hb4 (Nat.le_refl _))
  have HW4 := hid hW4; have Hz4 := hid hz4
  clear hW4 hb4 hz4
  rw [← HW4.out]
  go_wp2_with fail
  refine (al_over _).mono ?_
  rintro e w5 ⟨_, rfl, hl, hb5⟩
  obtain ⟨lb, lo, lm, lc, kb, ko, km, kc, rfl, HL, HK⟩ := FrR.opened hl
  have hl5 := FrR.ra hl
  obtain ⟨W6, hW6⟩ : ∃ W6, W6 = w5.alloc (.cells #[.bool lb, .slice lo lm lc, .bool kb, .slice ko km kc] 26) := ⟨_, rfl⟩
  have hb6 : Below w5.heap.size w5 W6 := by rw [hW6]; exact (Below.refl _ _).alloc (Nat.le_refl _) _
  have hz6 : W6.heap.size = w5.heap.size + 1 := by rw [hW6]; simp
  have hX6 : Below W4.heap.size W4 W6 := hb5.trans (hb6.mono hb5.size)
  have HS6 : Hid (∀ w', Below W6.heap.size W6 w' → w'.cell? ⟨w3.heap.size, 0, none⟩ = some (.bool qb) ∧ w'.cell? ⟨w3.heap.size, 1, none⟩ = some (.slice qo qm qc) ∧ w'.cell? ⟨w3.heap.size + 1, 0, none⟩ = some (.bool rb) ∧ w'.cell? ⟨w3.heap.size + 1, 1, none⟩ = some (.slice ro rm rc) ∧ w'.cell? ⟨w5.heap.size, 0, none⟩ = some (.bool lb) ∧ w'.cell? ⟨w5.heap.size, 1, none⟩ = some (.slice lo lm lc) ∧ w'.cell? ⟨w5.heap.size, 2, none⟩ = some (.bool kb) ∧ w'.cell? ⟨w5.heap.size, 3, none⟩ = some (.slice ko km kc)) := hid (fun w' hb => by
    obtain ⟨s0, s1, s2, s3⟩ := HS.out _ (hX6.trans (hb.mono hX6.size))
    refine ⟨s0, s1, s2, s3, ?_, ?_, ?_, ?_⟩ <;> (rw [hb.cell (by rw [hz6]; simp), hW6]; simp [go_sem]))
  have HB6 := hid (show Below w.heap.size w W6 from HB4.out.trans (hX6.mono HB4.out.size))
  have HQ6 := hid (fun (w' : World) (hb : Below W6.heap.size W6 w') => al_text4 _ w' ((hQ4.out.below hX6 (Nat.le_refl _)).below hb (Nat.le_refl _)))
  have HR6 := hid (fun (w' : World) (hb : Below W6.heap.size W6 w') => al_text1 _ w' ((hR4.out.below hX6 (Nat.le_refl _)).below hb (Nat.le_refl _)))
  have HL6 := hid (fun (w' : World) (hb : Below W6.heap.size W6 w') => (hl5.below hb6 (Nat.le_refl _)).below hb (Nat.le_refl _))
  have HW6 := hid hW6
  clear hW6 hb6 hz6 hX6 hl hl5 hb5
  go_upto_region 3 with (fail)
  rw [← HW6.out]
  go_region_held3 (fun w' => w'.cell? ⟨w3.heap.size, 0, none⟩ = some (.bool qb) ∧ w'.cell? ⟨w3.heap.size, 1, none⟩ = some (.slice qo qm qc) ∧ w'.cell? ⟨w3.heap.size + 1, 0, none⟩ = some (.bool rb) ∧ w'.cell? ⟨w3.heap.size + 1, 1, none⟩ = some (.slice ro rm rc) ∧ w'.cell? ⟨w5.heap.size, 0, none⟩ = some (.bool lb) ∧ w'.cell? ⟨w5.heap.size, 1, none⟩ = some (.slice lo lm lc) ∧ w'.cell? ⟨w5.heap.size, 2, none⟩ = some (.bool kb) ∧ w'.cell? ⟨w5.heap.size, 3, none⟩ = some (.slice ko km kc)) ((refine HS6.out _ ?_; repeat (first | assumption | exact Below.refl _ _ | exact (Below.refl _ _).drew | exact Below.drew (by assumption)))) (first
    | (go_at_call_of 23 (qo); refine (HQ6.out _ (Below.refl _ _).drew).mono ?_; rintro e w7 ⟨rfl, hb7⟩; have hX7 : Below W6.heap.size W6 w7 := (Below.refl _ _).drew.trans hb7)
    | (go_at_call_of 23 (ro); refine (HR6.out _ hX7).mono ?_; rintro e w8 ⟨rfl, hb8⟩; have hX8 : Below W6.heap.size W6 w8 := hX7.trans (hb8.mono hX7.size))
    | (go_at_call_of 25 (lo); refine (al_shows _ _ (HL6.out _ hX8)).mono ?_; rintro e w9 ⟨rfl, hb9⟩; have hX9 : Below W6.heap.size W6 w9 := hX8.trans (hb9.mono hX8.size))
    | (go_at_call 27; refine (al_over2 _).mono ?_; rintro e w10 ⟨_, rfl, hl10, hb10⟩; obtain ⟨tb, t_o, tm, tc, ub, uo, um, uc, rfl, _, _⟩ := FrR.opened hl10; have hX10 : Below W6.heap.size W6 w10 := hX9.trans (hb10.mono hX9.size))
    | (go_at_call 35; refine (al_plus _ _ _ (HL6.out _ hX10) (FrR.ra hl10)).mono ?_; rintro e w11 ⟨_, rfl, hl11, hb11⟩; obtain ⟨sb, so, sm, sc, vb, vo, vm, vc, rfl, _, _⟩ := FrR.opened hl11; have hX11 : Below W6.heap.size W6 w11 := hX10.trans (hb11.mono hX10.size))
    | (go_at_call_of 25 (so); refine (al_shows1 _ _ (FrR.ra hl11)).mono ?_; rintro e w12 ⟨rfl, hb12⟩; have hX12 : Below W6.heap.size W6 w12 := hX11.trans (hb12.mono hX11.size)))
  go_wp2
  go_ret
  exact ⟨rfl, HB6.out.trans (hX12.mono HB6.out.size)⟩
end Go.Proofs.YtilpkocmdpofpaaGreatDoor

/- The law ExactRing, its walk. Written by gen_ring.py. -/
namespace Go.Proofs.YtilpkocmdpofpaaGreatDoor
open Go.RowKit

theorem cmp_lt' {x y : Int} (h : x < y) : cmpI x y = -1 := by unfold cmpI; (repeat' split) <;> omega
theorem cmp_gt' {x y : Int} (h : y < x) : cmpI x y = 1 := by unfold cmpI; (repeat' split) <;> omega
theorem cmp_eq' (x : Int) : cmpI x x = 0 := by unfold cmpI; simp
end Go.Proofs.YtilpkocmdpofpaaGreatDoor

/- Contracts of Div, Gcd and Of in one form; the numbers of the law ExactDivision. -/
namespace Go.Proofs.YtilpkocmdpofpaaGreatDoor
open Go.RowKit

/-- The call hands back two integers, open, and an error. -/
def RetZZI (w : World) (q r err : Int) (Rq Rr : Nat) (e : Ending) (w' : World) : Prop := ∃ b o m c b2 o2 m2 c2, e = .returned (.tuple #[.agg #[.bool b, .slice o m c], .agg #[.bool b2, .slice o2 m2 c2], .int .i64 err]) ∧ Hid (Ai w' (.agg #[.bool b, .slice o m c]) q Rq) ∧ Hid (Ai w' (.agg #[.bool b2, .slice o2 m2 c2]) r Rr) ∧ Below w.heap.size w w'
theorem div_z (u v : Value) (x y q r : Int) (K R : Nat) (w : World) (hu : Ai w u x K) (hv : Ai w v y K) (hy : y ≠ 0) (hq : x.fdiv y = q) (hr : x.fmod y = r) (hK : K ≤ 1000) (hR : K + 5 ≤ R) : Calls Tryz.prog 21 #[u, v] w (RetZZI w q r 0 R R) := by
  subst hq; subst hr
  refine (Div_any u v x y K w hu hv hy (by omega)).mono ?_
  rintro e w' ⟨v1, v2, rfl, h1, h2, hb⟩
  obtain ⟨b, o, m, c, rfl, H1⟩ := FrA.opened h1
  obtain ⟨b2, o2, m2, c2, rfl, H2⟩ := FrA.opened h2
  exact ⟨b, o, m, c, b2, o2, m2, c2, rfl, hid (H1.out.ai.mono (by omega)), hid (H2.out.ai.mono (by omega)), hb⟩
theorem ai_nil (w : World) (K : Nat) : Ai w (.agg #[.bool false, .slice none 0 0]) 0 K := ⟨false, none, 0, [], rfl, Rd.nil _ _, fun _ h => (nomatch h), Nat.zero_le _, rfl⟩
theorem div_z0 (u v : Value) (x : Int) (K R : Nat) (w : World) (hu : Ai w u x K) (hv : Ai w v 0 K) (hK : K ≤ 1000) : Calls Tryz.prog 21 #[u, v] w (RetZZI w 0 0 10 R R) := by
  refine (Div_zero u v x K w hu hv (by omega)).mono ?_
  rintro e w' ⟨rfl, hb⟩
  exact ⟨_, _, _, _, _, _, _, _, rfl, hid (ai_nil _ _), hid (ai_nil _ _), hb⟩
theorem fmod_pos {x y : Int} (h : 0 < y) : 0 ≤ x.fmod y ∧ x.fmod y < y := by
  rw [Int.fmod_eq_emod_of_nonneg x (by omega)]
  exact ⟨Int.emod_nonneg _ (by omega), Int.emod_lt_of_pos _ h⟩
theorem fmod_neg' {x y : Int} (h : y < 0) : x.fmod y ≤ 0 ∧ y < x.fmod y := by
  have e := Int.neg_fmod_neg x y
  have := fmod_pos (x := -x) (y := -y) (by omega)
  omega

/-- The numbers of the law where the divisor is not 0. -/
structure DivN (x y z q r s t4 X Y g : Int) : Prop where
  dq : x.fdiv y = q
  dr : x.fmod y = r
  s0 : cmpI y 0 = s
  s1 : -1 ≤ s
  s2 : s ≤ 1
  back : q * y + r = x
  rs : cmpI (r * s) 0 = t4
  t0 : 0 ≤ t4
  lt : cmpI (r * s) (y * s) = -1
  X0 : x * z = X
  Y0 : y * z = Y
  g0 : (Int.gcd X Y : Int) = g
theorem divN (x y z : Int) (hy : y ≠ 0) : ∃ q r s t4 X Y g, DivN x y z q r s t4 X Y g := by
  refine ⟨x.fdiv y, x.fmod y, cmpI y 0, cmpI (x.fmod y * cmpI y 0) 0, x * z, y * z, _, rfl, rfl, rfl, (cmpI_bd y 0).1, (cmpI_bd y 0).2, ?_, rfl, ?_, ?_, rfl, rfl, rfl⟩
  · have := Int.mul_fdiv_add_fmod x y
    rw [Int.mul_comm] at this
    exact this
  · rcases Int.lt_or_lt_of_ne hy with h | h
    · have h1 := (fmod_neg' (x := x) h).1
      rw [cmp_lt' h]
      have h2 : 0 ≤ x.fmod y * -1 := by omega
      rcases Int.lt_or_eq_of_le h2 with h3 | h3
      · rw [cmp_gt' h3]; decide
      · rw [← h3, cmp_eq']; decide
    · have h1 := (fmod_pos (x := x) h).1
      rw [cmp_gt' h]
      have h2 : 0 ≤ x.fmod y * 1 := by omega
      rcases Int.lt_or_eq_of_le h2 with h3 | h3
      · rw [cmp_gt' h3]; decide
      · rw [← h3, cmp_eq']; decide
  · rcases Int.lt_or_lt_of_ne hy with h | h
    · have h1 := (fmod_neg' (x := x) h).2
      rw [cmp_lt' h]
      exact cmp_lt' (by omega)
    · have h1 := (fmod_pos (x := x) h).2
      rw [cmp_gt' h]
      exact cmp_lt' (by omega)
end Go.Proofs.YtilpkocmdpofpaaGreatDoor

/- Floors of ratios. -/
namespace Go.Proofs.YtilpkocmdpofpaaGreatDoor
open Go.RowKit

theorem fdiv_le (x : Int) {y : Int} (hy : 0 < y) : x.fdiv y * y ≤ x ∧ x < (x.fdiv y + 1) * y := by
  rw [Int.fdiv_eq_ediv_of_nonneg _ (Int.le_of_lt hy)]
  exact ⟨Int.ediv_mul_le _ (by omega), Int.lt_ediv_add_one_mul_self _ hy⟩
theorem fdiv_is {x y q : Int} (h1 : q * y ≤ x) (h2 : x < (q + 1) * y) : x.fdiv y = q := by
  have e : (q + 1) * y = q * y + y := by rw [Int.add_mul, Int.one_mul]
  exact (fdiv_uniq (r := x - q * y) (by omega) (Or.inl ⟨by omega, by omega⟩)).1
theorem fdiv_ratio {a b c e : Int} (hb : 0 < b) (he : 0 < e) (h : a * e = c * b) : a.fdiv b = c.fdiv e := by
  obtain ⟨h1, h2⟩ := fdiv_le c he
  refine fdiv_is ?_ ?_
  · refine Int.le_of_mul_le_mul_right (a := e) ?_ he
    have := Int.mul_le_mul_of_nonneg_right h1 (Int.le_of_lt hb)
    rw [h]; grind
  · refine Int.lt_of_mul_lt_mul_right (a := e) ?_ (Int.le_of_lt he)
    have := Int.mul_lt_mul_of_pos_right h2 hb
    rw [h]; grind
end Go.Proofs.YtilpkocmdpofpaaGreatDoor
