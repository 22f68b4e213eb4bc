/- exact.Plus of two ratios whose denominators have the same size; over and shows of the laws. Quotients rounded down, and their rests: plain facts. exact.integer: over (the quotient rounded down, and its rest). Written by gen_iover.py. -/
import Derived.Test.YtahbkcebifkniaaGreatDoorDv14
import Derived.Test.YtahbkcebifkniaaGreatDoorDv03
import Derived.Deep.RegionHeld3
import Derived.Deep.DeepCutAuto
import Derived.Test.YtahbkcebifkniaaGreatDoorDv10
import Derived.Test.YtahbkcebifkniaaGreatDoorDv05
/- exact.Plus of two ratios whose denominators have the same size; over and shows of the laws. -/
namespace Go.Proofs.YtahbkcebifkniaaGreatDoor
open Go.RowKit

theorem FrA.laid {w1 w w' : World} {v : Value} {z : Int} {K B : Nat} (h : FrA w1 w v z K) (hb : Below B w w') (hB : w.heap.size ≤ B) : FrA w1 w' v z K := by
  obtain ⟨s, rfl, h⟩ := h
  exact ⟨s, rfl, h.below hb hB⟩

set_option maxRecDepth 100000 in
set_option maxHeartbeats 1000000 in
theorem Plus_same (u v : Value) (x1 y1 x2 y2 : Int) (K : Nat) (w : World) (hu : Ra w u x1 y1 K) (hv : Ra w v x2 y2 K) (h1 : y1 ≠ 0) (h2 : y2 ≠ 0) (h12 : (y2.natAbs : Int) = (y1.natAbs : Int)) (hK : K ≤ 1073741800) :
    Calls Tryz.prog 19 #[u, v] w (RetR w (lowN (sgn (decide (x1 < 0) != decide (y1 < 0)) (x1.natAbs : Int) + sgn (decide (x2 < 0) != decide (y2 < 0)) (x2.natAbs : Int)) (y1.natAbs : Int)) (lowD (sgn (decide (x1 < 0) != decide (y1 < 0)) (x1.natAbs : Int) + sgn (decide (x2 < 0) != decide (y2 < 0)) (x2.natAbs : Int)) (y1.natAbs : Int)) (2 * ((K + 1) / 2 + 1))) := by
  have hR1 := fun (w' : World) (hb : Below w.heap.size w w') => readRatio_ne u x1 y1 K w' (hu.below hb (Nat.le_refl _)) h1 (by omega)
  have hR2 := fun (w' : World) (hb : Below w.heap.size w w') => by have h := readRatio_ne v x2 y2 K w' (hv.below hb (Nat.le_refl _)) h2 (by omega); rw [h12] at h; exact h
  obtain ⟨ab, ao, am, ac, bb, bo, bm, bc, rfl, _, _⟩ := Ra.opened hu
  obtain ⟨cb, co, cm, cc, db, d_o, dm, dc, rfl, _, _⟩ := Ra.opened hv
  have HR1 := hid hR1; have HR2 := hid hR2
  obtain ⟨z1, hz1⟩ : ∃ z1, z1 = sgn (decide (x1 < 0) != decide (y1 < 0)) (x1.natAbs : Int) := ⟨_, rfl⟩
  obtain ⟨z2, hz2⟩ : ∃ z2, z2 = sgn (decide (x2 < 0) != decide (y2 < 0)) (x2.natAbs : Int) := ⟨_, rfl⟩
  obtain ⟨d, hd⟩ : ∃ d, d = (y1.natAbs : Int) := ⟨_, rfl⟩
  have hd0 : 0 < d := by omega
  rw [← hz1, ← hz2, ← hd]
  rw [← hz1, ← hd] at HR1
  rw [← hz2, ← hd] at HR2
  clear hR1 hR2 hu hv hz1 hz2 hd h1 h2 h12
  obtain ⟨W0, hW0⟩ : ∃ W0, W0 = (((w.alloc (.cells #[.bool ab, .slice ao am ac, .bool bb, .slice bo bm bc] 37)).alloc (.cells #[.bool cb, .slice co cm cc, .bool db, .slice d_o dm dc] 37)).alloc (.cells #[.bool false, .slice none 0 0, .bool false, .slice none 0 0] 37)) := ⟨_, rfl⟩
  have hB0 : Below w.heap.size w W0 := by rw [hW0]; exact (((Below.refl _ _).alloc (Nat.le_refl _) _).alloc (by simp) _).alloc (by simp <;> omega) _
  have hz0 : W0.heap.size = w.heap.size + 3 := by rw [hW0]; simp
  have HS : Hid (∀ w', Below (w.heap.size + 2) W0 w' → w'.cell? ⟨w.heap.size, 0, none⟩ = some (.bool ab) ∧ w'.cell? ⟨w.heap.size, 1, none⟩ = some (.slice ao am ac) ∧ w'.cell? ⟨w.heap.size, 2, none⟩ = some (.bool bb) ∧ w'.cell? ⟨w.heap.size, 3, none⟩ = some (.slice bo bm bc) ∧ w'.cell? ⟨w.heap.size + 1, 0, none⟩ = some (.bool cb) ∧ w'.cell? ⟨w.heap.size + 1, 1, none⟩ = some (.slice co cm cc) ∧ w'.cell? ⟨w.heap.size + 1, 2, none⟩ = some (.bool db) ∧ w'.cell? ⟨w.heap.size + 1, 3, none⟩ = some (.slice d_o dm dc)) := hid (fun w' hb => by
    refine ⟨?_, ?_, ?_, ?_, ?_, ?_, ?_, ?_⟩ <;> (rw [hb.cell (by simp <;> omega), hW0]; simp [go_sem]))
  have HT : Hid (∀ w', Below (w.heap.size + 3) W0 w' → (w'.cell? ⟨w.heap.size + 2, 0, none⟩ = some (.bool false) ∧ w'.cell? ⟨w.heap.size + 2, 1, none⟩ = some (.slice none 0 0) ∧ w'.cell? ⟨w.heap.size + 2, 2, none⟩ = some (.bool false) ∧ w'.cell? ⟨w.heap.size + 2, 3, none⟩ = some (.slice none 0 0)) ∧ (w'.frozen? ⟨w.heap.size + 2, 0, none⟩ = false ∧ w'.frozen? ⟨w.heap.size + 2, 1, none⟩ = false ∧ w'.frozen? ⟨w.heap.size + 2, 2, none⟩ = false ∧ w'.frozen? ⟨w.heap.size + 2, 3, none⟩ = false)) := hid (fun w' hb => by
    refine ⟨⟨?_, ?_, ?_, ?_⟩, ?_, ?_, ?_, ?_⟩ <;> (first | (rw [hb.cell (by simp <;> omega), hW0]; simp [go_sem]; done) | (rw [hb.frozen (by simp <;> omega), hW0]; simp [go_sem]; done)))
  have HB0 := hid hB0; have Hz0 := hid hz0; have HW := hid hW0; have Hd0 := hid hd0
  clear hW0 hB0 hz0 hd0
  go_enter Tryz.func19, Tryz.ntmps19
  go_upto_region 1 with (fail)
  rw [← HW.out]
  go_region_held3 (fun w' => w'.cell? ⟨w.heap.size, 0, none⟩ = some (.bool ab) ∧ w'.cell? ⟨w.heap.size, 1, none⟩ = some (.slice ao am ac) ∧ w'.cell? ⟨w.heap.size, 2, none⟩ = some (.bool bb) ∧ w'.cell? ⟨w.heap.size, 3, none⟩ = some (.slice bo bm bc) ∧ w'.cell? ⟨w.heap.size + 1, 0, none⟩ = some (.bool cb) ∧ w'.cell? ⟨w.heap.size + 1, 1, none⟩ = some (.slice co cm cc) ∧ w'.cell? ⟨w.heap.size + 1, 2, none⟩ = some (.bool db) ∧ w'.cell? ⟨w.heap.size + 1, 3, none⟩ = some (.slice d_o dm dc)) ((refine HS.out _ ?_; repeat (first | assumption | exact Below.refl _ _ | exact (Below.refl _ _).drew | exact Below.drew (by assumption) | (refine Below.setCell ?_ (by simp) _)))) (first
    | (go_at_call_of 41 (ao); refine (HR1.out _ HB0.out.drew).mono ?_; rintro e w1 ⟨_, rfl, hf1, hb1⟩; obtain ⟨e1, o1, m1, c1, p1, n1, k1, rfl, H1, H1s, H1b⟩ := Ft.opened hf1; have hX1 : Below W0.heap.size W0 w1 := (Below.refl _ _).drew.trans hb1; have hY1 : Below (w.heap.size + 2) W0 w1 := hX1.mono (by have := Hz0.out; omega))
    | (go_at_call_of 41 (co); refine (HR2.out _ (HB0.out.trans (hX1.mono HB0.out.size))).mono ?_; rintro e w2 ⟨_, rfl, hf2, hb2⟩; obtain ⟨e2, o2, m2, c2, p2, n2, k2, rfl, H2, H2s, H2b⟩ := Ft.opened hf2; have hX2 : Below W0.heap.size W0 w2 := hX1.trans (hb2.mono hX1.size); have hY2 : Below (w.heap.size + 2) W0 w2 := hX2.mono (by have := Hz0.out; omega))
    | (go_at_call 42; refine (fplus_same _ _ _ _ _ _ _ (Ft.below hf1 hb2 (Nat.le_refl _)) hf2 (by omega)).mono ?_; rintro e w3 ⟨_, rfl, hf3, hb3⟩; obtain ⟨e3, o3, m3, c3, p3, n3, k3, rfl, H3, H3s, H3b⟩ := Ft.opened hf3; have hX3 : Below W0.heap.size W0 w3 := hX2.trans (hb3.mono hX2.size); have hY3 : Below (w.heap.size + 2) W0 w3 := hX3.mono (by have := Hz0.out; omega))
    | (go_at_call 43; refine (fracValue_any _ _ _ _ _ hf3 Hd0.out (by omega)).mono ?_; rintro e w4 ⟨_, rfl, hr4, hb4⟩; obtain ⟨e4, o4, m4, c4, e5, o5, m5, c5, rfl, H4, H5⟩ := FrR.opened hr4; have hX4 : Below W0.heap.size W0 w4 := hX3.trans (hb4.mono hX3.size); have hY4 : Below (w.heap.size + 2) W0 w4 := hX4.mono (by have := Hz0.out; omega); obtain ⟨⟨hr0, hr1, hr2, hr3⟩, hf0, hf1', hf2', hf3'⟩ := HT.out _ (hX4.mono (by have := Hz0.out; omega))))
  go_wp2
  have hz0 := Hz0.out; have hs3 := hX3.size
  have hw4 : Below w.heap.size w w4 := HB0.out.trans (hX4.mono HB0.out.size)
  have hlt : w.heap.size + 2 < w3.heap.size := by omega
  refine bodyPost_ret (v := .agg #[.bool e4, .slice o4 m4 c4, .bool e5, .slice o5 m5 c5]) (by simp [results, Tryz.results19, go_sem, hr0, hr1, hr2, hr3]) rfl ⟨_, rfl, ?_, (((hw4.setCell (by simp <;> omega) _).setCell (by simp <;> omega) _).setCell (by simp <;> omega) _).setCell (by simp <;> omega) _⟩
  refine ⟨_, _, _, _, rfl, ?_, ?_⟩
  · exact ((((H4.out.set hlt _).set hlt _).set hlt _).set hlt _).base (by omega)
  · exact ((((H5.out.set hlt _).set hlt _).set hlt _).set hlt _).base (by omega)

set_option maxRecDepth 100000 in
set_option maxHeartbeats 1000000 in
theorem lover_any (n d : Int) (w : World) (n0 : -9223372036854775808 ≤ n) (n1 : n < 9223372036854775808) (d0 : -9223372036854775808 ≤ d) (d1 : d < 9223372036854775808) (hd : d ≠ 0) :
    Calls Tryz.prog 25 #[.int .i64 n, .int .i64 d] w (RetR w (lowN (sgn (decide (n < 0) != decide (d < 0)) (n.natAbs : Int)) (d.natAbs : Int)) (lowD (sgn (decide (n < 0) != decide (d < 0)) (n.natAbs : Int)) (d.natAbs : Int)) 2) := by
  have HO := hid (fun w' => Over_any n d w' n0 n1 d0 d1 hd)
  obtain ⟨N, hN⟩ : ∃ N, N = lowN (sgn (decide (n < 0) != decide (d < 0)) (n.natAbs : Int)) (d.natAbs : Int) := ⟨_, rfl⟩
  obtain ⟨D, hD⟩ : ∃ D, D = lowD (sgn (decide (n < 0) != decide (d < 0)) (n.natAbs : Int)) (d.natAbs : Int) := ⟨_, rfl⟩
  rw [← hN, ← hD] at HO ⊢
  clear n0 n1 d0 d1 hd hN hD
  obtain ⟨W0, hW0⟩ : ∃ W0, W0 = (w.alloc (.cells #[.bool false, .slice none 0 0, .bool false, .slice none 0 0] 37)) := ⟨_, rfl⟩
  have hB0 : Below w.heap.size w W0 := by rw [hW0]; exact (Below.refl _ _).alloc (Nat.le_refl _) _
  have hz0 : W0.heap.size = w.heap.size + 1 := by rw [hW0]; simp
  have HT : Hid (∀ w', Below W0.heap.size W0 w' → (w'.cell? ⟨w.heap.size, 0, none⟩ = some (.bool false) ∧ w'.cell? ⟨w.heap.size, 1, none⟩ = some (.slice none 0 0) ∧ w'.cell? ⟨w.heap.size, 2, none⟩ = some (.bool false) ∧ w'.cell? ⟨w.heap.size, 3, none⟩ = some (.slice none 0 0)) ∧ (w'.frozen? ⟨w.heap.size, 0, none⟩ = false ∧ w'.frozen? ⟨w.heap.size, 1, none⟩ = false ∧ w'.frozen? ⟨w.heap.size, 2, none⟩ = false ∧ w'.frozen? ⟨w.heap.size, 3, none⟩ = false)) := hid (fun w' hb => by
    refine ⟨⟨?_, ?_, ?_, ?_⟩, ?_, ?_, ?_, ?_⟩ <;> (first | (rw [hb.cell (by rw [hz0]; simp), hW0]; simp [go_sem]; done) | (rw [hb.frozen (by rw [hz0]; simp), hW0]; simp [go_sem]; done)))
  have HB0 := hid hB0; have Hz0 := hid hz0; have HW := hid hW0
  clear hW0 hB0 hz0
  go_enter Tryz.func25, Tryz.ntmps25
  go_wp2_with fail
  rw [← HW.out]
  refine (HO.out _).mono ?_
  rintro e w1 ⟨f, rfl, hf, hb1⟩
  obtain ⟨e4, o4, m4, c4, e5, o5, m5, c5, rfl, H4, H5⟩ := FrR.opened hf
  have hs1 := hb1.size
  obtain ⟨W2, hW2⟩ : ∃ W2, W2 = w1.alloc (.cells #[.bool e4, .slice o4 m4 c4, .bool e5, .slice o5 m5 c5] 37) := ⟨_, rfl⟩
  have hal : Below w1.heap.size w1 W2 := by rw [hW2]; exact (Below.refl _ _).alloc (Nat.le_refl _) _
  have hX2 : Below W0.heap.size W0 W2 := hb1.trans (hal.mono hb1.size)
  have hw2 : Below w.heap.size w W2 := HB0.out.trans (hX2.mono HB0.out.size)
  have hlt : w.heap.size < W2.heap.size := by have := hX2.size; have := Hz0.out; omega
  have hlt' : w.heap.size < W0.heap.size := by have := Hz0.out; omega
  obtain ⟨⟨hr0, hr1, hr2, hr3⟩, hf0, hf1, hf2, hf3⟩ := HT.out _ hX2
  have q0 : W2.cell? ⟨w1.heap.size, 0, none⟩ = some (.bool e4) := by rw [hW2]; simp [go_sem]
  have q1 : W2.cell? ⟨w1.heap.size, 1, none⟩ = some (.slice o4 m4 c4) := by rw [hW2]; simp [go_sem]
  have q2 : W2.cell? ⟨w1.heap.size, 2, none⟩ = some (.bool e5) := by rw [hW2]; simp [go_sem]
  have q3 : W2.cell? ⟨w1.heap.size, 3, none⟩ = some (.slice o5 m5 c5) := by rw [hW2]; simp [go_sem]
  have HW2 := hid hW2; have HA := hid hal
  clear hf hW2 hal hs1
  go_upto_region 2 with (fail)
  rw [← HW2.out]
  go_wp2
  refine bodyPost_ret (v := .agg #[.bool e4, .slice o4 m4 c4, .bool e5, .slice o5 m5 c5]) (by simp [results, Tryz.results25, go_sem, hr0, hr1, hr2, hr3]) rfl ⟨_, rfl, ?_, (((hw2.setCell (by simp <;> omega) _).setCell (by simp <;> omega) _).setCell (by simp <;> omega) _).setCell (by simp <;> omega) _⟩
  have hb : w.heap.size ≤ W0.heap.size := by have := Hz0.out; omega
  refine ⟨_, _, _, _, rfl, ?_, ?_⟩
  · exact (((((H4.out.laid HA.out (Nat.le_refl _)).set hlt' _).set hlt' _).set hlt' _).set hlt' _).base hb
  · exact (((((H5.out.laid HA.out (Nat.le_refl _)).set hlt' _).set hlt' _).set hlt' _).set hlt' _).base hb

set_option maxRecDepth 100000 in
set_option maxHeartbeats 1000000 in
theorem shows_whole (v : Value) (x y N : Int) (K : Nat) (s : ByteArray) (w : World) (hv : Ra w v x y K) (hy : y ≠ 0) (hK : K ≤ 1073741820)
    (hN : lowN (sgn (decide (x < 0) != decide (y < 0)) (x.natAbs : Int)) (y.natAbs : Int) = N) (hD : lowD (sgn (decide (x < 0) != decide (y < 0)) (x.natAbs : Int)) (y.natAbs : Int) = 1) (h0 : N ≠ 0) (h1 : N.natAbs < 100) (hs : tx N = s) :
    Calls Tryz.prog 27 #[v, .string s] w fun e w' => e = .returned (.bool true) ∧ Below w.heap.size w w' := by
  have HSh := hid (fun (w' : World) (hb : Below w.heap.size w w') => by have h := Show_whole v x y N K w' (hv.below hb (Nat.le_refl _)) hy hK hN hD h0 h1; rw [hs] at h; exact h)
  obtain ⟨ab, ao, am, ac, bb, bo, bm, bc, rfl, _, _⟩ := Ra.opened hv
  clear hv hy hK hN hD h0 h1 hs
  have HB0 := hid (show Below w.heap.size w (w.alloc (.cells #[.bool ab, .slice ao am ac, .bool bb, .slice bo bm bc] 37)) from (Below.refl _ _).alloc (Nat.le_refl _) _)
  go_enter Tryz.func27, Tryz.ntmps27
  go_wp2_with fail
  refine (HSh.out _ HB0.out).mono ?_
  rintro e w1 ⟨rfl, hb1⟩
  go_wp2
  go_ret
  exact ⟨by simp, HB0.out.trans (hb1.mono HB0.out.size)⟩

set_option maxRecDepth 100000 in
set_option maxHeartbeats 1000000 in
theorem shows_quot (v : Value) (x y N D : Int) (K : Nat) (s : ByteArray) (w : World) (hv : Ra w v x y K) (hy : y ≠ 0) (hK : K ≤ 1073741820)
    (hN : lowN (sgn (decide (x < 0) != decide (y < 0)) (x.natAbs : Int)) (y.natAbs : Int) = N) (hD : lowD (sgn (decide (x < 0) != decide (y < 0)) (x.natAbs : Int)) (y.natAbs : Int) = D) (h0 : N ≠ 0) (h1 : N.natAbs < 100) (d0 : 1 < D) (d1 : D < 100) (hs : tx N ++ ⟨#[47]⟩ ++ ⟨(Lib.decDigits D.natAbs).toArray⟩ = s) :
    Calls Tryz.prog 27 #[v, .string s] w fun e w' => e = .returned (.bool true) ∧ Below w.heap.size w w' := by
  have HSh := hid (fun (w' : World) (hb : Below w.heap.size w w') => by have h := Show_quot v x y N D K w' (hv.below hb (Nat.le_refl _)) hy hK hN hD h0 h1 d0 d1; rw [hs] at h; exact h)
  obtain ⟨ab, ao, am, ac, bb, bo, bm, bc, rfl, _, _⟩ := Ra.opened hv
  clear hv hy hK hN hD h0 h1 hs d0 d1
  have HB0 := hid (show Below w.heap.size w (w.alloc (.cells #[.bool ab, .slice ao am ac, .bool bb, .slice bo bm bc] 37)) from (Below.refl _ _).alloc (Nat.le_refl _) _)
  go_enter Tryz.func27, Tryz.ntmps27
  go_wp2_with fail
  refine (HSh.out _ HB0.out).mono ?_
  rintro e w1 ⟨rfl, hb1⟩
  go_wp2
  go_ret
  exact ⟨by simp, HB0.out.trans (hb1.mono HB0.out.size)⟩
end Go.Proofs.YtahbkcebifkniaaGreatDoor

/- Quotients rounded down, and their rests: plain facts. -/
namespace Go.Proofs.YtahbkcebifkniaaGreatDoor

theorem fdiv_uniq {x y q r : Int} (e : x = q * y + r) (h : (0 ≤ r ∧ r < y) ∨ (y < r ∧ r ≤ 0)) : x.fdiv y = q ∧ x.fmod y = r := by
  rcases h with ⟨h0, h1⟩ | ⟨h0, h1⟩
  · have hy : 0 < y := by omega
    rw [Int.fdiv_eq_ediv_of_nonneg _ (Int.le_of_lt hy), Int.fmod_eq_emod_of_nonneg _ (Int.le_of_lt hy)]
    exact (Int.ediv_emod_unique hy).2 ⟨by rw [e, Int.mul_comm]; omega, h0, h1⟩
  · have hy : 0 < -y := by omega
    have hq : x.fdiv y = q := by
      rw [← Int.neg_fdiv_neg, Int.fdiv_eq_ediv_of_nonneg _ (Int.le_of_lt hy)]
      exact ((Int.ediv_emod_unique (a := -x) (r := -r) (q := q) hy).2 ⟨by rw [e, Int.mul_comm q y, Int.neg_mul]; omega, by omega, by omega⟩).1
    refine ⟨hq, ?_⟩
    rw [Int.fmod_def, hq, e, Int.mul_comm]
    omega
theorem abs_div (x y : Int) (hy : y ≠ 0) : (x.natAbs : Int) = (x.natAbs : Int) / (y.natAbs : Int) * (y.natAbs : Int) + (x.natAbs : Int) % (y.natAbs : Int) ∧ 0 ≤ (x.natAbs : Int) % (y.natAbs : Int) ∧ (x.natAbs : Int) % (y.natAbs : Int) < (y.natAbs : Int) := by
  have h : (0 : Int) < (y.natAbs : Int) := by omega
  refine ⟨?_, Int.emod_nonneg _ (by omega), Int.emod_lt_of_pos _ h⟩
  have := Int.emod_add_mul_ediv (x.natAbs : Int) (y.natAbs : Int)
  rw [Int.mul_comm ((x.natAbs : Int) / (y.natAbs : Int))]
  omega
theorem fdiv_same (x y : Int) (hy : y ≠ 0) (hs : decide (x < 0) = decide (y < 0)) : sgn false ((x.natAbs : Int) / (y.natAbs : Int)) = x.fdiv y ∧ sgn (decide (x < 0)) ((x.natAbs : Int) % (y.natAbs : Int)) = x.fmod y := by
  obtain ⟨e, h0, h1⟩ := abs_div x y hy
  generalize (x.natAbs : Int) / (y.natAbs : Int) = q at *
  generalize (x.natAbs : Int) % (y.natAbs : Int) = r at *
  by_cases hx : x < 0
  · have hy2 : y < 0 := by simpa [hx] using hs.symm
    have ea : (x.natAbs : Int) = -x := by omega
    have eb : (y.natAbs : Int) = -y := by omega
    rw [ea, eb] at e
    rw [eb] at h1
    have h := fdiv_uniq (x := x) (y := y) (q := q) (r := -r) (by rw [Int.mul_neg] at e; omega) (Or.inr ⟨by omega, by omega⟩)
    simp only [sgn, hx, decide_true, if_true, h.1, h.2]
    simp
  · have hy2 : ¬ y < 0 := by simpa [hx] using hs.symm
    have ea : (x.natAbs : Int) = x := by omega
    have eb : (y.natAbs : Int) = y := by omega
    rw [ea, eb] at e
    rw [eb] at h1
    have h := fdiv_uniq (x := x) (y := y) (q := q) (r := r) (by omega) (Or.inl ⟨by omega, by omega⟩)
    simp [sgn, hx, h.1, h.2]
theorem fdiv_even (x y : Int) (hy : y ≠ 0) (hs : decide (x < 0) ≠ decide (y < 0)) (hr : (x.natAbs : Int) % (y.natAbs : Int) = 0) : sgn true ((x.natAbs : Int) / (y.natAbs : Int)) = x.fdiv y ∧ sgn (decide (x < 0)) ((x.natAbs : Int) % (y.natAbs : Int)) = x.fmod y := by
  obtain ⟨e, h0, h1⟩ := abs_div x y hy
  rw [hr] at e ⊢
  generalize (x.natAbs : Int) / (y.natAbs : Int) = q at *
  by_cases hx : x < 0
  · have hy2 : ¬ y < 0 := by simpa [hx] using hs
    have ea : (x.natAbs : Int) = -x := by omega
    have eb : (y.natAbs : Int) = y := by omega
    rw [ea, eb] at e
    have h := fdiv_uniq (x := x) (y := y) (q := -q) (r := 0) (by rw [Int.neg_mul]; omega) (Or.inl ⟨by omega, by omega⟩)
    simp [sgn, h.1, h.2]
  · have hy2 : y < 0 := by simpa [hx] using hs
    have ea : (x.natAbs : Int) = x := by omega
    have eb : (y.natAbs : Int) = -y := by omega
    rw [ea, eb] at e
    have h := fdiv_uniq (x := x) (y := y) (q := -q) (r := 0) (by rw [Int.neg_mul]; rw [Int.mul_neg] at e; omega) (Or.inr ⟨by omega, by omega⟩)
    simp [sgn, h.1, h.2]
theorem fdiv_floor (x y : Int) (hy : y ≠ 0) (hs : decide (x < 0) ≠ decide (y < 0)) (hr : (x.natAbs : Int) % (y.natAbs : Int) ≠ 0) :
    sgn true ((x.natAbs : Int) / (y.natAbs : Int) + 1) = x.fdiv y ∧ sgn (decide (y < 0)) ((y.natAbs : Int) - (x.natAbs : Int) % (y.natAbs : Int)) = x.fmod y := by
  obtain ⟨e, h0, h1⟩ := abs_div x y hy
  generalize (x.natAbs : Int) / (y.natAbs : Int) = q at *
  generalize (x.natAbs : Int) % (y.natAbs : Int) = r at *
  by_cases hx : x < 0
  · have hy2 : ¬ y < 0 := by simpa [hx] using hs
    have ea : (x.natAbs : Int) = -x := by omega
    have eb : (y.natAbs : Int) = y := by omega
    rw [ea, eb] at e
    rw [eb] at h1 ⊢
    have h := fdiv_uniq (x := x) (y := y) (q := -(q + 1)) (r := y - r) (by rw [Int.neg_mul, Int.add_mul]; omega) (Or.inl ⟨by omega, by omega⟩)
    simp [sgn, h.1, h.2, hy2]
  · have hy2 : y < 0 := by simpa [hx] using hs
    have ea : (x.natAbs : Int) = x := by omega
    have eb : (y.natAbs : Int) = -y := by omega
    rw [ea, eb] at e
    rw [eb] at h1 ⊢
    have h := fdiv_uniq (x := x) (y := y) (q := -(q + 1)) (r := y + r) (by rw [Int.neg_mul, Int.add_mul]; rw [Int.mul_neg] at e; omega) (Or.inr ⟨by omega, by omega⟩)
    simp [sgn, h.1, h.2, hy2]
    omega
end Go.Proofs.YtahbkcebifkniaaGreatDoor

/- exact.integer: over (the quotient rounded down, and its rest). Written by gen_iover.py. -/
namespace Go.Proofs.YtahbkcebifkniaaGreatDoor
open Go.RowKit

/-- A result of over: both numbers. -/
def RetII (w : World) (q r : Int) (Kq Kr : Nat) (e : Ending) (w' : World) : Prop := ∃ v1 v2, e = .returned (.tuple #[v1, v2]) ∧ It w' v1 q Kq ∧ It w' v2 r Kr ∧ Below w.heap.size w w'

theorem ntKeeps {z : Int} {K : Nat} {w w' : World} {v : Value} (hk : Keeps .u64 w w') (h : Nt w v z K) : Nt w' v z K := by
  obtain ⟨ao, c, L, rfl, h⟩ := h
  exact ⟨ao, c, L, rfl, h.rd.keeps hk, h.dig, h.nrm, h.eq, h.le⟩
theorem it_keeps {z : Int} {K : Nat} {w w' : World} {v : Value} (hk : Keeps .u64 w w') (h : It w v z K) : It w' v z K := by
  obtain ⟨s, rfl, h⟩ := h
  exact ⟨s, rfl, ntKeeps hk h⟩
theorem sgn_zero (b : Bool) : sgn b 0 = 0 := by cases b <;> rfl
theorem Nt.len0 {w : World} {ao : Option Addr} {m c : Nat} {n : Int} {K : Nat} (h : Nt w (.slice ao m c) n K) : m = 0 ↔ n = 0 := by
  obtain ⟨ao', c', L, e, hl⟩ := h
  obtain ⟨_, rfl, _⟩ := Value.slice.inj e
  exact hl.zero_iff

set_option maxRecDepth 100000 in
set_option maxHeartbeats 4000000 in
theorem over_same (u v : Value) (x y : Int) (K : Nat) (w : World) (hu : It w u x K) (hv : It w v y K) (hy : y ≠ 0) (hK : K ≤ 1073741820) (hs : decide (x < 0) = decide (y < 0)) :
    Calls Tryz.prog 37 #[u, v] w (RetII w (x.fdiv y) (x.fmod y) (K + 2) K) := by
  obtain ⟨xb, xo, xm, xc, rfl, Hx, Hxs, Hxb⟩ := It.opened hu
  obtain ⟨yb, yo, ym, yc, rfl, Hy, Hys, Hyb⟩ := It.opened hv
  have hy0 : (0 : Int) < (y.natAbs : Int) := by omega
  have hb : xb = yb := by rw [Hxb.out, Hyb.out, hs]
  subst hb
  have he := fdiv_same x y hy hs
  rw [hs] at he
  have HE := hid he
  clear he
  clear hu hv
  go_enter Tryz.func37, Tryz.ntmps37
  go_upto_region 1 with (fail)
  obtain ⟨W0, hW0⟩ : ∃ W0, W0 = ((((w.alloc (.cells #[.bool xb, .slice xo xm xc] 51)).alloc (.cells #[.bool xb, .slice yo ym yc] 51)).alloc (.cells #[.bool false, .slice none 0 0] 51)).alloc (.cells #[.bool false, .slice none 0 0] 51)) := ⟨_, rfl⟩
  have hB0 : Below w.heap.size w W0 := by rw [hW0]; exact ((((Below.refl _ _).alloc (by simp <;> omega) _).alloc (by simp <;> omega) _).alloc (by simp <;> omega) _).alloc (by simp <;> omega) _
  have hz0 : W0.heap.size = w.heap.size + 4 := by rw [hW0]; simp
  have HS : Hid (∀ w', Below (w.heap.size + 2) W0 w' → w'.cell? ⟨w.heap.size, 0, none⟩ = some (.bool xb) ∧ w'.cell? ⟨w.heap.size, 1, none⟩ = some (.slice xo xm xc) ∧ w'.cell? ⟨w.heap.size + 1, 0, none⟩ = some (.bool xb) ∧ w'.cell? ⟨w.heap.size + 1, 1, none⟩ = some (.slice yo ym yc)) := hid (fun w' hb => by
    refine ⟨?_, ?_, ?_, ?_⟩ <;> (first | (rw [hb.cell (by simp <;> omega), hW0]; simp [go_sem]; done) | (rw [hb.frozen (by simp <;> omega), hW0]; simp [go_sem]; done)))
  have HT : Hid (∀ w', Below (w.heap.size + 4) W0 w' → (w'.cell? ⟨w.heap.size + 2, 0, none⟩ = some (.bool false) ∧ w'.cell? ⟨w.heap.size + 2, 1, none⟩ = some (.slice none 0 0) ∧ w'.frozen? ⟨w.heap.size + 2, 0, none⟩ = false ∧ w'.frozen? ⟨w.heap.size + 2, 1, none⟩ = false) ∧ (w'.cell? ⟨w.heap.size + 3, 0, none⟩ = some (.bool false) ∧ w'.cell? ⟨w.heap.size + 3, 1, none⟩ = some (.slice none 0 0) ∧ w'.frozen? ⟨w.heap.size + 3, 0, none⟩ = false ∧ w'.frozen? ⟨w.heap.size + 3, 1, none⟩ = false)) := hid (fun w' hb => by
    refine ⟨⟨?_, ?_, ?_, ?_⟩, ?_, ?_, ?_, ?_⟩ <;> (first | (rw [hb.cell (by simp <;> omega), hW0]; simp [go_sem]; done) | (rw [hb.frozen (by simp <;> omega), hW0]; simp [go_sem]; done)))
  rw [← hW0]
  clear hW0
  obtain ⟨k0, k1, k2, k3⟩ := HS.out _ (Below.refl _ _)
  go_wp2_with fail
  refine (divide_any _ _ _ _ K K _ (Hxs.out _ hB0) (Hys.out _ hB0) hy0 (by omega)).mono ?_
  rintro e w1 ⟨_, _, rfl, hq, hr, hb1⟩
  obtain ⟨qo, qm, qc, rfl, Hq⟩ := Nt.opened hq
  obtain ⟨ro, rm, rc, rfl, Hr⟩ := Nt.opened hr
  have hB1 : Below (w.heap.size + 4) W0 w1 := hb1.mono (by omega)
  have hB1s : Below (w.heap.size + 2) W0 w1 := hB1.mono (by omega)
  clear hq hr hb1 k0 k1 k2 k3
  obtain ⟨k0, k1, k2, k3⟩ := HS.out _ hB1s
  go_wp2
  clear k0 k1 k2 k3
  go_region_held3 (fun w' => w'.cell? ⟨w.heap.size, 0, none⟩ = some (.bool xb) ∧ w'.cell? ⟨w.heap.size, 1, none⟩ = some (.slice xo xm xc) ∧ w'.cell? ⟨w.heap.size + 1, 0, none⟩ = some (.bool xb) ∧ w'.cell? ⟨w.heap.size + 1, 1, none⟩ = some (.slice yo ym yc)) ((refine HS.out _ ?_; repeat (first | assumption | exact Below.refl _ _ | exact (Below.refl _ _).drew | exact Below.drew (by assumption) | (refine Below.setCell ?_ (by simp) _)))) (first
    | (go_at_call_of 38 (qo); refine (signed_any false _ _ K _ (Hq.out _ ((Below.refl _ _).drew))).mono ?_; rintro e w2 ⟨_, rfl, hv2, hb2⟩; obtain ⟨b2, o2, m2, c2, rfl, H2, H2s, H2b⟩ := It.opened hv2; have hB2 : Below (w.heap.size + 4) W0 w2 := hB1.drew.trans (hb2.mono (by have := hB1.size; simp; omega)); have hB2s : Below (w.heap.size + 2) W0 w2 := hB2.mono (by omega))
    | (go_at_call_of 38 (ro); refine (signed_any xb _ _ K _ (Hr.out _ ((Below.refl _ _).drew.trans (hb2.mono (Nat.le_refl _))))).mono ?_; rintro e w3 ⟨_, rfl, hv3, hb3⟩; obtain ⟨b3, o3, m3, c3, rfl, H3, H3s, H3b⟩ := It.opened hv3; have hB3 : Below (w.heap.size + 4) W0 w3 := hB2.trans (hb3.mono (by have := hB2.size; omega)); have hB3s : Below (w.heap.size + 2) W0 w3 := hB3.mono (by omega); obtain ⟨⟨hr0, hr1, hr2, hr3⟩, hs0, hs1, hs2, hs3⟩ := HT.out _ hB3))
  go_wp2
  have hbel : Below w.heap.size w w3 := hB0.trans (hB3.mono (by omega))
  have h23 := H2.out w3 hb3
  have h33 := H3.out w3 (Below.refl _ _)
  refine bodyPost_ret (v := .tuple #[.agg #[.bool b2, .slice o2 m2 c2], .agg #[.bool b3, .slice o3 m3 c3]]) (by simp [results, Tryz.results37, go_sem, hr0, hr1, hs0, hs1]) rfl ⟨_, _, rfl, ?_, ?_, (((hbel.setCell (by simp <;> omega) _).setCell (by simp <;> omega) _).setCell (by simp <;> omega) _).setCell (by simp <;> omega) _⟩
  · rw [← HE.out.1]
    exact It.mono (it_keeps ((((((Keeps.refl _ _).setCell (u := .bool false) hr0 (fun x h => (by cases h)) _).setCell (u := .slice none 0 0) (by simp [go_sem, hr1]) (fun x h => (by cases h)) _).setCell (u := .bool false) (by simp [go_sem, hs0]) (fun x h => (by cases h)) _).setCell (u := .slice none 0 0) (by simp [go_sem, hs1]) (fun x h => (by cases h)) _)) h23) (by omega)
  · rw [← HE.out.2, ← Hyb.out]
    exact it_keeps ((((((Keeps.refl _ _).setCell (u := .bool false) hr0 (fun x h => (by cases h)) _).setCell (u := .slice none 0 0) (by simp [go_sem, hr1]) (fun x h => (by cases h)) _).setCell (u := .bool false) (by simp [go_sem, hs0]) (fun x h => (by cases h)) _).setCell (u := .slice none 0 0) (by simp [go_sem, hs1]) (fun x h => (by cases h)) _)) h33

set_option maxRecDepth 100000 in
set_option maxHeartbeats 4000000 in
theorem over_even (u v : Value) (x y : Int) (K : Nat) (w : World) (hu : It w u x K) (hv : It w v y K) (hy : y ≠ 0) (hK : K ≤ 1073741820) (hs : decide (x < 0) ≠ decide (y < 0)) (hrr : (x.natAbs : Int) % (y.natAbs : Int) = 0) :
    Calls Tryz.prog 37 #[u, v] w (RetII w (x.fdiv y) (x.fmod y) (K + 2) K) := by
  obtain ⟨xb, xo, xm, xc, rfl, Hx, Hxs, Hxb⟩ := It.opened hu
  obtain ⟨yb, yo, ym, yc, rfl, Hy, Hys, Hyb⟩ := It.opened hv
  have hy0 : (0 : Int) < (y.natAbs : Int) := by omega
  have hb : (xb == yb) = false := by rw [beq_eq_false_iff_ne, Hxb.out, Hyb.out]; exact hs
  have hb' : ¬ xb = yb := by simpa using hb
  have hbn : (xb != yb) = true := by simpa using hb'
  have HR0 := hid hrr
  have he := fdiv_even x y hy hs hrr
  rw [hrr, sgn_zero] at he
  have he' : sgn true ((x.natAbs : Int) / (y.natAbs : Int)) = x.fdiv y ∧ sgn (decide (y < 0)) ((x.natAbs : Int) % (y.natAbs : Int)) = x.fmod y := ⟨he.1, by rw [hrr, sgn_zero]; exact he.2⟩
  have HE := hid he'
  clear he he' hrr
  clear hu hv
  go_enter Tryz.func37, Tryz.ntmps37
  go_upto_region 1 with (fail)
  obtain ⟨W0, hW0⟩ : ∃ W0, W0 = ((((w.alloc (.cells #[.bool xb, .slice xo xm xc] 51)).alloc (.cells #[.bool yb, .slice yo ym yc] 51)).alloc (.cells #[.bool false, .slice none 0 0] 51)).alloc (.cells #[.bool false, .slice none 0 0] 51)) := ⟨_, rfl⟩
  have hB0 : Below w.heap.size w W0 := by rw [hW0]; exact ((((Below.refl _ _).alloc (by simp <;> omega) _).alloc (by simp <;> omega) _).alloc (by simp <;> omega) _).alloc (by simp <;> omega) _
  have hz0 : W0.heap.size = w.heap.size + 4 := by rw [hW0]; simp
  have HS : Hid (∀ w', Below (w.heap.size + 2) W0 w' → w'.cell? ⟨w.heap.size, 0, none⟩ = some (.bool xb) ∧ w'.cell? ⟨w.heap.size, 1, none⟩ = some (.slice xo xm xc) ∧ w'.cell? ⟨w.heap.size + 1, 0, none⟩ = some (.bool yb) ∧ w'.cell? ⟨w.heap.size + 1, 1, none⟩ = some (.slice yo ym yc)) := hid (fun w' hb => by
    refine ⟨?_, ?_, ?_, ?_⟩ <;> (first | (rw [hb.cell (by simp <;> omega), hW0]; simp [go_sem]; done) | (rw [hb.frozen (by simp <;> omega), hW0]; simp [go_sem]; done)))
  have HT : Hid (∀ w', Below (w.heap.size + 4) W0 w' → (w'.cell? ⟨w.heap.size + 2, 0, none⟩ = some (.bool false) ∧ w'.cell? ⟨w.heap.size + 2, 1, none⟩ = some (.slice none 0 0) ∧ w'.frozen? ⟨w.heap.size + 2, 0, none⟩ = false ∧ w'.frozen? ⟨w.heap.size + 2, 1, none⟩ = false) ∧ (w'.cell? ⟨w.heap.size + 3, 0, none⟩ = some (.bool false) ∧ w'.cell? ⟨w.heap.size + 3, 1, none⟩ = some (.slice none 0 0) ∧ w'.frozen? ⟨w.heap.size + 3, 0, none⟩ = false ∧ w'.frozen? ⟨w.heap.size + 3, 1, none⟩ = false)) := hid (fun w' hb => by
    refine ⟨⟨?_, ?_, ?_, ?_⟩, ?_, ?_, ?_, ?_⟩ <;> (first | (rw [hb.cell (by simp <;> omega), hW0]; simp [go_sem]; done) | (rw [hb.frozen (by simp <;> omega), hW0]; simp [go_sem]; done)))
  rw [← hW0]
  clear hW0
  obtain ⟨k0, k1, k2, k3⟩ := HS.out _ (Below.refl _ _)
  go_wp2_with fail
  refine (divide_any _ _ _ _ K K _ (Hxs.out _ hB0) (Hys.out _ hB0) hy0 (by omega)).mono ?_
  rintro e w1 ⟨_, _, rfl, hq, hr, hb1⟩
  obtain ⟨qo, qm, qc, rfl, Hq⟩ := Nt.opened hq
  obtain ⟨ro, rm, rc, rfl, Hr⟩ := Nt.opened hr
  have hB1 : Below (w.heap.size + 4) W0 w1 := hb1.mono (by omega)
  have hB1s : Below (w.heap.size + 2) W0 w1 := hB1.mono (by omega)
  have hrm : rm = 0 := hr.len0.2 HR0.out
  subst hrm
  clear hq hr hb1 k0 k1 k2 k3
  obtain ⟨k0, k1, k2, k3⟩ := HS.out _ hB1s
  go_wp2
  clear k0 k1 k2 k3
  go_region_held3 (fun w' => w'.cell? ⟨w.heap.size, 0, none⟩ = some (.bool xb) ∧ w'.cell? ⟨w.heap.size, 1, none⟩ = some (.slice xo xm xc) ∧ w'.cell? ⟨w.heap.size + 1, 0, none⟩ = some (.bool yb) ∧ w'.cell? ⟨w.heap.size + 1, 1, none⟩ = some (.slice yo ym yc)) ((refine HS.out _ ?_; repeat (first | assumption | exact Below.refl _ _ | exact (Below.refl _ _).drew | exact Below.drew (by assumption) | (refine Below.setCell ?_ (by simp) _)))) (first
    | (go_at_call_of 38 (qo); refine (signed_any true _ _ K _ (Hq.out _ ((Below.refl _ _).drew))).mono ?_; rintro e w2 ⟨_, rfl, hv2, hb2⟩; obtain ⟨b2, o2, m2, c2, rfl, H2, H2s, H2b⟩ := It.opened hv2; have hB2 : Below (w.heap.size + 4) W0 w2 := hB1.drew.trans (hb2.mono (by have := hB1.size; simp; omega)); have hB2s : Below (w.heap.size + 2) W0 w2 := hB2.mono (by omega))
    | (go_at_call_of 38 (ro); refine (signed_any yb _ _ K _ (Hr.out _ ((Below.refl _ _).drew.trans (hb2.mono (Nat.le_refl _))))).mono ?_; rintro e w3 ⟨_, rfl, hv3, hb3⟩; obtain ⟨b3, o3, m3, c3, rfl, H3, H3s, H3b⟩ := It.opened hv3; have hB3 : Below (w.heap.size + 4) W0 w3 := hB2.trans (hb3.mono (by have := hB2.size; omega)); have hB3s : Below (w.heap.size + 2) W0 w3 := hB3.mono (by omega); obtain ⟨⟨hr0, hr1, hr2, hr3⟩, hs0, hs1, hs2, hs3⟩ := HT.out _ hB3))
  go_wp2
  have hbel : Below w.heap.size w w3 := hB0.trans (hB3.mono (by omega))
  have h23 := H2.out w3 hb3
  have h33 := H3.out w3 (Below.refl _ _)
  refine bodyPost_ret (v := .tuple #[.agg #[.bool b2, .slice o2 m2 c2], .agg #[.bool b3, .slice o3 m3 c3]]) (by simp [results, Tryz.results37, go_sem, hr0, hr1, hs0, hs1]) rfl ⟨_, _, rfl, ?_, ?_, (((hbel.setCell (by simp <;> omega) _).setCell (by simp <;> omega) _).setCell (by simp <;> omega) _).setCell (by simp <;> omega) _⟩
  · rw [← HE.out.1]
    exact It.mono (it_keeps ((((((Keeps.refl _ _).setCell (u := .bool false) hr0 (fun x h => (by cases h)) _).setCell (u := .slice none 0 0) (by simp [go_sem, hr1]) (fun x h => (by cases h)) _).setCell (u := .bool false) (by simp [go_sem, hs0]) (fun x h => (by cases h)) _).setCell (u := .slice none 0 0) (by simp [go_sem, hs1]) (fun x h => (by cases h)) _)) h23) (by omega)
  · rw [← HE.out.2, ← Hyb.out]
    exact it_keeps ((((((Keeps.refl _ _).setCell (u := .bool false) hr0 (fun x h => (by cases h)) _).setCell (u := .slice none 0 0) (by simp [go_sem, hr1]) (fun x h => (by cases h)) _).setCell (u := .bool false) (by simp [go_sem, hs0]) (fun x h => (by cases h)) _).setCell (u := .slice none 0 0) (by simp [go_sem, hs1]) (fun x h => (by cases h)) _)) h33

set_option maxRecDepth 100000 in
set_option maxHeartbeats 4000000 in
theorem over_floor (u v : Value) (x y : Int) (K : Nat) (w : World) (hu : It w u x K) (hv : It w v y K) (hy : y ≠ 0) (hK : K ≤ 1073741820) (hs : decide (x < 0) ≠ decide (y < 0)) (hrr : (x.natAbs : Int) % (y.natAbs : Int) ≠ 0) :
    Calls Tryz.prog 37 #[u, v] w (RetII w (x.fdiv y) (x.fmod y) (K + 2) K) := by
  obtain ⟨xb, xo, xm, xc, rfl, Hx, Hxs, Hxb⟩ := It.opened hu
  obtain ⟨yb, yo, ym, yc, rfl, Hy, Hys, Hyb⟩ := It.opened hv
  have hy0 : (0 : Int) < (y.natAbs : Int) := by omega
  have hb : (xb == yb) = false := by rw [beq_eq_false_iff_ne, Hxb.out, Hyb.out]; exact hs
  have hb' : ¬ xb = yb := by simpa using hb
  have hbn : (xb != yb) = true := by simpa using hb'
  have HR0 := hid hrr
  have HE := hid (fdiv_floor x y hy hs hrr)
  have HRL := hid (abs_div x y hy).2.2
  clear hrr
  clear hu hv
  go_enter Tryz.func37, Tryz.ntmps37
  go_upto_region 1 with (fail)
  obtain ⟨W0, hW0⟩ : ∃ W0, W0 = ((((w.alloc (.cells #[.bool xb, .slice xo xm xc] 51)).alloc (.cells #[.bool yb, .slice yo ym yc] 51)).alloc (.cells #[.bool false, .slice none 0 0] 51)).alloc (.cells #[.bool false, .slice none 0 0] 51)) := ⟨_, rfl⟩
  have hB0 : Below w.heap.size w W0 := by rw [hW0]; exact ((((Below.refl _ _).alloc (by simp <;> omega) _).alloc (by simp <;> omega) _).alloc (by simp <;> omega) _).alloc (by simp <;> omega) _
  have hz0 : W0.heap.size = w.heap.size + 4 := by rw [hW0]; simp
  have HS : Hid (∀ w', Below (w.heap.size + 2) W0 w' → w'.cell? ⟨w.heap.size, 0, none⟩ = some (.bool xb) ∧ w'.cell? ⟨w.heap.size, 1, none⟩ = some (.slice xo xm xc) ∧ w'.cell? ⟨w.heap.size + 1, 0, none⟩ = some (.bool yb) ∧ w'.cell? ⟨w.heap.size + 1, 1, none⟩ = some (.slice yo ym yc)) := hid (fun w' hb => by
    refine ⟨?_, ?_, ?_, ?_⟩ <;> (first | (rw [hb.cell (by simp <;> omega), hW0]; simp [go_sem]; done) | (rw [hb.frozen (by simp <;> omega), hW0]; simp [go_sem]; done)))
  have HT : Hid (∀ w', Below (w.heap.size + 4) W0 w' → (w'.cell? ⟨w.heap.size + 2, 0, none⟩ = some (.bool false) ∧ w'.cell? ⟨w.heap.size + 2, 1, none⟩ = some (.slice none 0 0) ∧ w'.frozen? ⟨w.heap.size + 2, 0, none⟩ = false ∧ w'.frozen? ⟨w.heap.size + 2, 1, none⟩ = false) ∧ (w'.cell? ⟨w.heap.size + 3, 0, none⟩ = some (.bool false) ∧ w'.cell? ⟨w.heap.size + 3, 1, none⟩ = some (.slice none 0 0) ∧ w'.frozen? ⟨w.heap.size + 3, 0, none⟩ = false ∧ w'.frozen? ⟨w.heap.size + 3, 1, none⟩ = false)) := hid (fun w' hb => by
    refine ⟨⟨?_, ?_, ?_, ?_⟩, ?_, ?_, ?_, ?_⟩ <;> (first | (rw [hb.cell (by simp <;> omega), hW0]; simp [go_sem]; done) | (rw [hb.frozen (by simp <;> omega), hW0]; simp [go_sem]; done)))
  rw [← hW0]
  clear hW0
  obtain ⟨k0, k1, k2, k3⟩ := HS.out _ (Below.refl _ _)
  go_wp2_with fail
  refine (divide_any _ _ _ _ K K _ (Hxs.out _ hB0) (Hys.out _ hB0) hy0 (by omega)).mono ?_
  rintro e w1 ⟨_, _, rfl, hq, hr, hb1⟩
  obtain ⟨qo, qm, qc, rfl, Hq⟩ := Nt.opened hq
  obtain ⟨ro, rm, rc, rfl, Hr⟩ := Nt.opened hr
  have hB1 : Below (w.heap.size + 4) W0 w1 := hb1.mono (by omega)
  have hB1s : Below (w.heap.size + 2) W0 w1 := hB1.mono (by omega)
  have hrm : 0 < rm := by
    rcases Nat.eq_zero_or_pos rm with h | h
    · exact absurd (hr.len0.1 h) HR0.out
    · exact h
  have hrm2 : (0 : Int) < (rm : Int) := by omega
  have hB1a := hB1s.alloc (by have := hB1.size; omega) (.cells #[.int .u64 1] 61 (0, 0))
  clear hq hr hb1 k0 k1 k2 k3
  obtain ⟨k0, k1, k2, k3⟩ := HS.out _ hB1s
  go_wp2
  clear k0 k1 k2 k3
  go_region_held3 (fun w' => w'.cell? ⟨w.heap.size, 0, none⟩ = some (.bool xb) ∧ w'.cell? ⟨w.heap.size, 1, none⟩ = some (.slice xo xm xc) ∧ w'.cell? ⟨w.heap.size + 1, 0, none⟩ = some (.bool yb) ∧ w'.cell? ⟨w.heap.size + 1, 1, none⟩ = some (.slice yo ym yc)) ((refine HS.out _ ?_; repeat (first | assumption | exact Below.refl _ _ | exact (Below.refl _ _).drew | exact Below.drew (by assumption) | (refine Below.setCell ?_ (by simp) _)))) (first
    | (go_at_call 53; refine (add_any _ _ _ 1 K 1 (K + 2) _ (Hq.out _ ((Below.refl _ _).alloc (Nat.le_refl _) _).drew) ((one_row _).below ((Below.refl _ _).drew) (Nat.le_refl _)) (by omega) (by omega) (by omega) (by omega)).mono ?_; rintro e w2 ⟨_, rfl, hv2, hb2⟩; obtain ⟨o2, m2, c2, rfl, H2⟩ := Nt.opened hv2; have hB2 : Below (w.heap.size + 4) W0 w2 := (hB1.alloc (by have := hB1.size; simp; omega) _).drew.trans (hb2.mono (by have := hB1.size; simp; omega)); have hB2s : Below (w.heap.size + 2) W0 w2 := hB2.mono (by omega); have hC2 : Below w1.heap.size w1 w2 := ((Below.refl _ _).alloc (Nat.le_refl _) _).drew.trans (hb2.mono (by simp)))
    | (go_at_call 54; refine (subtract_any _ _ _ _ K K _ (Hys.out _ (hB0.trans (hB2.mono (by omega)))) (Hr.out _ hC2) (by omega) (Int.le_of_lt HRL.out)).mono ?_; rintro e w3 ⟨_, rfl, hv3, hb3⟩; obtain ⟨o3, m3, c3, rfl, H3⟩ := Nt.opened hv3; have hB3 : Below (w.heap.size + 4) W0 w3 := hB2.trans (hb3.mono (by have := hB2.size; omega)); have hB3s : Below (w.heap.size + 2) W0 w3 := hB3.mono (by omega); have HH2 := hid (fun w' (hb : Below w3.heap.size w3 w') => H2.out w' (hb3.trans (hb.mono hb3.size)))))
  obtain ⟨k0, k1, k2, k3⟩ := HS.out _ hB3s
  clear hv2 hv3 hb2 hb3 hC2 H2 hB2 hB2s
  go_wp2
  clear k0 k1 k2 k3
  go_region_held3 (fun w' => w'.cell? ⟨w.heap.size, 0, none⟩ = some (.bool xb) ∧ w'.cell? ⟨w.heap.size, 1, none⟩ = some (.slice xo xm xc) ∧ w'.cell? ⟨w.heap.size + 1, 0, none⟩ = some (.bool yb) ∧ w'.cell? ⟨w.heap.size + 1, 1, none⟩ = some (.slice yo ym yc)) ((refine HS.out _ ?_; repeat (first | assumption | exact Below.refl _ _ | exact (Below.refl _ _).drew | exact Below.drew (by assumption) | (refine Below.setCell ?_ (by simp) _)))) (first
    | (go_at_call_of 38 (o2); refine (signed_any true _ _ (K + 2) _ (HH2.out _ ((Below.refl _ _).drew))).mono ?_; rintro e w4 ⟨_, rfl, hv4, hb4⟩; obtain ⟨b4, o4, m4, c4, rfl, H4, H4s, H4b⟩ := It.opened hv4; have hB4 : Below (w.heap.size + 4) W0 w4 := hB3.drew.trans (hb4.mono (by have := hB3.size; simp; omega)); have hB4s : Below (w.heap.size + 2) W0 w4 := hB4.mono (by omega))
    | (go_at_call_of 38 (o3); refine (signed_any yb _ _ K _ (H3.out _ ((Below.refl _ _).drew.trans (hb4.mono (Nat.le_refl _))))).mono ?_; rintro e w5 ⟨_, rfl, hv5, hb5⟩; obtain ⟨b5, o5, m5, c5, rfl, H5, H5s, H5b⟩ := It.opened hv5; have hB5 : Below (w.heap.size + 4) W0 w5 := hB4.trans (hb5.mono (by have := hB4.size; omega)); have hB5s : Below (w.heap.size + 2) W0 w5 := hB5.mono (by omega); obtain ⟨⟨hr0, hr1, hr2, hr3⟩, hs0, hs1, hs2, hs3⟩ := HT.out _ hB5))
  go_wp2
  have hbel : Below w.heap.size w w5 := hB0.trans (hB5.mono (by omega))
  have h23 := H4.out w5 hb5
  have h33 := H5.out w5 (Below.refl _ _)
  refine bodyPost_ret (v := .tuple #[.agg #[.bool b4, .slice o4 m4 c4], .agg #[.bool b5, .slice o5 m5 c5]]) (by simp [results, Tryz.results37, go_sem, hr0, hr1, hs0, hs1]) rfl ⟨_, _, rfl, ?_, ?_, (((hbel.setCell (by simp <;> omega) _).setCell (by simp <;> omega) _).setCell (by simp <;> omega) _).setCell (by simp <;> omega) _⟩
  · rw [← HE.out.1]
    exact It.mono (it_keeps ((((((Keeps.refl _ _).setCell (u := .bool false) hr0 (fun x h => (by cases h)) _).setCell (u := .slice none 0 0) (by simp [go_sem, hr1]) (fun x h => (by cases h)) _).setCell (u := .bool false) (by simp [go_sem, hs0]) (fun x h => (by cases h)) _).setCell (u := .slice none 0 0) (by simp [go_sem, hs1]) (fun x h => (by cases h)) _)) h23) (by omega)
  · rw [← HE.out.2, ← Hyb.out]
    exact it_keeps ((((((Keeps.refl _ _).setCell (u := .bool false) hr0 (fun x h => (by cases h)) _).setCell (u := .slice none 0 0) (by simp [go_sem, hr1]) (fun x h => (by cases h)) _).setCell (u := .bool false) (by simp [go_sem, hs0]) (fun x h => (by cases h)) _).setCell (u := .slice none 0 0) (by simp [go_sem, hs1]) (fun x h => (by cases h)) _)) h33

theorem over_any (u v : Value) (x y : Int) (K : Nat) (w : World) (hu : It w u x K) (hv : It w v y K) (hy : y ≠ 0) (hK : K ≤ 1073741820) :
    Calls Tryz.prog 37 #[u, v] w (RetII w (x.fdiv y) (x.fmod y) (K + 2) K) := by
  by_cases hs : decide (x < 0) = decide (y < 0)
  · exact over_same u v x y K w hu hv hy hK hs
  · by_cases hr : (x.natAbs : Int) % (y.natAbs : Int) = 0
    · exact over_even u v x y K w hu hv hy hK hs hr
    · exact over_floor u v x y K w hu hv hy hK hs hr

end Go.Proofs.YtahbkcebifkniaaGreatDoor
