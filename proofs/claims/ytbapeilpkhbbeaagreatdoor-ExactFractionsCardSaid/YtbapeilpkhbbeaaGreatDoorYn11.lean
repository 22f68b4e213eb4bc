/- exact.integer: value, negated, plus; exact.Normal, Neg, Add, Sub. Written by gen_int2.py. exact.Normal, Neg, Add, Sub. Written by gen_int3.py. exact.multiplyLimbs. exact.multiply of factors of fewer than 80 limbs. exact.integer: times; exact.Mul, Sign, sign. Written by gen_int4.py. -/
import Derived.Test.YtbapeilpkhbbeaaGreatDoorYn10
import Derived.Test.YtbapeilpkhbbeaaGreatDoorYn05
/- exact.integer: value, negated, plus; exact.Normal, Neg, Add, Sub. Written by gen_int2.py. -/
namespace Go.Proofs.YtbapeilpkhbbeaaGreatDoor
open Go.RowKit

theorem sgn_diff (x y : Int) (hs : decide (x < 0) ≠ decide (y < 0)) : sgn (decide (x < 0)) ((x.natAbs : Int) - (y.natAbs : Int)) = x + y := by
  by_cases h1 : x < 0
  · by_cases h2 : y < 0
    · simp [h1, h2] at hs
    · rw [decide_eq_true h1]; show -((x.natAbs : Int) - (y.natAbs : Int)) = x + y; omega
  · by_cases h2 : y < 0
    · rw [decide_eq_false h1]; show (x.natAbs : Int) - (y.natAbs : Int) = x + y; omega
    · simp [h1, h2] at hs

set_option maxRecDepth 100000 in
set_option maxHeartbeats 4000000 in
theorem value_any (v : Value) (z : Int) (K : Nat) (w : World) (h : It w v z K) (hK : K ≤ 1073741824) :
    Calls Tryz.prog 74 #[v] w (RetA w z (2 * K)) := by
  obtain ⟨xb, xo, xm, xc, rfl, Hx, Hxs, Hxb⟩ := It.opened h
  go_enter Tryz.func74, Tryz.ntmps74
  go_wp2
  obtain ⟨W0, hW0⟩ : ∃ W0, W0 = ((w.alloc (.cells #[.bool xb, .slice xo xm xc] 56)).alloc (.cells #[.bool false, .slice none 0 0] 24)) := ⟨_, rfl⟩
  have hB0 : Below w.heap.size w W0 := by rw [hW0]; exact ((Below.refl _ _).alloc (by simp <;> omega) _).alloc (by simp <;> omega) _
  have hz0 : W0.heap.size = w.heap.size + 2 := by rw [hW0]; simp
  have HS : Hid (∀ w', Below (w.heap.size + 1) W0 w' → w'.cell? ⟨w.heap.size, 0, none⟩ = some (.bool xb) ∧ w'.cell? ⟨w.heap.size, 1, none⟩ = some (.slice xo xm xc)) := hid (fun w' hb => by
    refine ⟨?_, ?_⟩ <;> (first | (rw [hb.cell (by simp <;> omega), hW0]; simp [go_sem]; done) | (rw [hb.frozen (by simp <;> omega), hW0]; simp [go_sem]; done)))
  have HT : Hid (∀ w', Below (w.heap.size + 2) W0 w' → w'.cell? ⟨w.heap.size + 1, 0, none⟩ = some (.bool false) ∧ w'.cell? ⟨w.heap.size + 1, 1, none⟩ = some (.slice none 0 0) ∧ w'.frozen? ⟨w.heap.size + 1, 0, none⟩ = false ∧ w'.frozen? ⟨w.heap.size + 1, 1, none⟩ = false) := hid (fun w' hb => by
    refine ⟨?_, ?_, ?_, ?_⟩ <;> (first | (rw [hb.cell (by simp <;> omega), hW0]; simp [go_sem]; done) | (rw [hb.frozen (by simp <;> omega), hW0]; simp [go_sem]; done)))
  rw [← hW0]
  clear hW0
  go_region_held3 (fun w' => w'.cell? ⟨w.heap.size, 0, none⟩ = some (.bool xb) ∧ w'.cell? ⟨w.heap.size, 1, none⟩ = some (.slice xo xm xc)) ((refine HS.out _ ?_; first | assumption | exact Below.refl _ _ | exact (Below.refl _ _).drew | exact ((hB1.mono (Nat.le_succ _)).setCell (Nat.le_refl _) _).setCell (Nat.le_refl _) _)) (first
    | (go_at_call 121; refine (words_any _ _ _ _ (Hxs.out _ hB0.drew) hK).mono ?_; rintro e w1 ⟨v1, rfl, hv1, hb1⟩; obtain ⟨o1, m1, c1, rfl, HV⟩ := FrW.opened hv1; have hB1 : Below (w.heap.size + 2) W0 w1 := ((Below.refl _ _).drew).trans (hb1.mono (by simp; omega)); have hB1s := hB1.mono (Nat.le_succ _); obtain ⟨hr0, hr1, hr2, hr3⟩ := HT.out _ hB1))
  go_wp2
  have hbel : Below w.heap.size w w1 := hB0.trans (hB1.mono (by omega))
  refine bodyPost_ret (v := .agg #[.bool xb, .slice o1 m1 c1]) (by simp [results, Tryz.results74, go_sem, hr0, hr1]) rfl ⟨_, rfl, ?_, (hbel.setCell (by simp <;> omega) _).setCell (by simp <;> omega) _⟩
  rw [Hxb.out]
  exact ⟨_, rfl, ((HV.out.set (by simp; omega) _).set (by simp; omega) _).base (by simp; omega)⟩

set_option maxRecDepth 100000 in
set_option maxHeartbeats 4000000 in
theorem plus_same (u v : Value) (x y : Int) (Kx Ky K : Nat) (w : World) (hu : It w u x Kx) (hv : It w v y Ky) (hKx : Kx ≤ 1073741824) (hKy : Ky ≤ 1073741824) (h1 : Kx < K) (h2 : Ky < K) (hs : decide (x < 0) = decide (y < 0)) :
    Calls Tryz.prog 55 #[u, v] w (RetI w (x + y) K) := by
  obtain ⟨xb, xo, xm, xc, rfl, Hx, Hxs, Hxb⟩ := It.opened hu
  obtain ⟨yb, yo, ym, yc, rfl, Hy, Hys, Hyb⟩ := It.opened hv
  have hb : yb = xb := by rw [Hxb.out, Hyb.out, hs]
  subst hb
  have Hs := hid hs
  clear hs hu hv
  go_enter Tryz.func55, Tryz.ntmps55
  go_wp2
  obtain ⟨W0, hW0⟩ : ∃ W0, W0 = (((w.alloc (.cells #[.bool yb, .slice xo xm xc] 56)).alloc (.cells #[.bool yb, .slice yo ym yc] 56)).alloc (.cells #[.bool false, .slice none 0 0] 56)) := ⟨_, rfl⟩
  have hB0 : Below w.heap.size w W0 := by rw [hW0]; exact (((Below.refl _ _).alloc (by simp <;> omega) _).alloc (by simp <;> omega) _).alloc (by simp <;> omega) _
  have hz0 : W0.heap.size = w.heap.size + 3 := by rw [hW0]; simp
  have HS : Hid (∀ w', Below (w.heap.size + 2) W0 w' → w'.cell? ⟨w.heap.size, 0, none⟩ = some (.bool yb) ∧ w'.cell? ⟨w.heap.size, 1, none⟩ = some (.slice xo xm xc) ∧ w'.cell? ⟨w.heap.size + 1, 0, none⟩ = some (.bool yb) ∧ w'.cell? ⟨w.heap.size + 1, 1, none⟩ = some (.slice yo ym yc)) := hid (fun w' hb => by
    refine ⟨?_, ?_, ?_, ?_⟩ <;> (first | (rw [hb.cell (by simp <;> omega), hW0]; simp [go_sem]; done) | (rw [hb.frozen (by simp <;> omega), hW0]; simp [go_sem]; done)))
  have HT : Hid (∀ w', Below (w.heap.size + 3) W0 w' → w'.cell? ⟨w.heap.size + 2, 0, none⟩ = some (.bool false) ∧ w'.cell? ⟨w.heap.size + 2, 1, none⟩ = some (.slice none 0 0) ∧ w'.frozen? ⟨w.heap.size + 2, 0, none⟩ = false ∧ w'.frozen? ⟨w.heap.size + 2, 1, none⟩ = false) := hid (fun w' hb => by
    refine ⟨?_, ?_, ?_, ?_⟩ <;> (first | (rw [hb.cell (by simp <;> omega), hW0]; simp [go_sem]; done) | (rw [hb.frozen (by simp <;> omega), hW0]; simp [go_sem]; done)))
  rw [← hW0]
  clear hW0
  go_region_held3 (fun w' => w'.cell? ⟨w.heap.size, 0, none⟩ = some (.bool yb) ∧ w'.cell? ⟨w.heap.size, 1, none⟩ = some (.slice xo xm xc) ∧ w'.cell? ⟨w.heap.size + 1, 0, none⟩ = some (.bool yb) ∧ w'.cell? ⟨w.heap.size + 1, 1, none⟩ = some (.slice yo ym yc)) ((refine HS.out _ ?_; first | assumption | exact Below.refl _ _ | exact (Below.refl _ _).drew | exact ((hB2.mono (Nat.le_succ _)).setCell (Nat.le_refl _) _).setCell (Nat.le_refl _) _)) (first
    | (go_at_call 98; refine (add_any _ _ _ _ _ _ K _ (Hxs.out _ hB0.drew) (Hys.out _ hB0.drew) hKx hKy h1 h2).mono ?_; rintro e w1 ⟨v1, rfl, hv1, hb1⟩; have hB1 : Below (w.heap.size + 3) W0 w1 := ((Below.refl _ _).drew).trans (hb1.mono (by simp; omega)); have hB1s := hB1.mono (Nat.le_succ _))
    | (go_at_call 21; refine (signed_any yb v1 _ _ _ hv1).mono ?_; rintro e w2 ⟨_, rfl, ⟨_, rfl, qo, qc, QL, rfl, hq⟩, hb2⟩; have hB2 : Below (w.heap.size + 3) W0 w2 := hB1.trans (hb2.mono (by have := hB1.size; omega)); have hB2s := hB2.mono (Nat.le_succ _); obtain ⟨hr0, hr1, hr2, hr3⟩ := HT.out _ hB2))
  go_wp2
  have hbel : Below w.heap.size w w2 := hB0.trans (hB2.mono (by omega))
  refine bodyPost_ret (v := .agg #[.bool (decide (sgn yb ((x.natAbs : Int) + (y.natAbs : Int)) < 0)), .slice qo QL.length qc]) (by simp [results, Tryz.results55, go_sem, hr0, hr1]) rfl ⟨_, rfl, ?_, (hbel.setCell (by simp <;> omega) _).setCell (by simp <;> omega) _⟩
  have e : sgn yb ((x.natAbs : Int) + (y.natAbs : Int)) = (x + y) := by rw [Hyb.out]; have := Hs.out; unfold sgn; by_cases h : y < 0 <;> simp [h] at this ⊢ <;> omega
  have hfin : It w2 (.agg #[.bool (decide (sgn yb ((x.natAbs : Int) + (y.natAbs : Int)) < 0)), .slice qo QL.length qc]) (x + y) K := by
    rw [← e]; exact ⟨_, rfl, qo, qc, QL, rfl, hq.rd, hq.dig, hq.nrm, hq.eq, Nat.le_trans hq.le (by omega)⟩
  exact (hfin.set hr0 (fun x h => (by cases h)) _).set (u := .slice none 0 0) (by simp [go_sem, hr1]) (fun x h => (by cases h)) _

set_option maxRecDepth 100000 in
set_option maxHeartbeats 4000000 in
theorem plus_keep (u v : Value) (x y : Int) (Kx Ky K : Nat) (w : World) (hu : It w u x Kx) (hv : It w v y Ky) (hKx : Kx ≤ 1073741824) (_hKy : Ky ≤ 1073741824) (h1 : Kx < K) (_h2 : Ky < K) (hs : decide (x < 0) ≠ decide (y < 0)) (hc : y.natAbs ≤ x.natAbs) :
    Calls Tryz.prog 55 #[u, v] w (RetI w (x + y) K) := by
  obtain ⟨xb, xo, xm, xc, rfl, Hx, Hxs, Hxb⟩ := It.opened hu
  obtain ⟨yb, yo, ym, yc, rfl, Hy, Hys, Hyb⟩ := It.opened hv
  have hb : xb ≠ yb := by rw [Hxb.out, Hyb.out]; exact hs
  have hb1 : (xb == yb) = false := by simpa using hb
  have hcm : 0 ≤ cmpI (x.natAbs : Int) (y.natAbs : Int) := (by unfold cmpI; split <;> (try split) <;> omega)
  obtain ⟨cm, hcm'⟩ : ∃ cm, cm = cmpI (x.natAbs : Int) (y.natAbs : Int) := ⟨_, rfl⟩
  rw [← hcm'] at hcm
  have Hcm := hid hcm'
  have Hs := hid hs; have Hc := hid hc
  clear hs hu hv hc hcm'
  go_enter Tryz.func55, Tryz.ntmps55
  go_wp2_with fail
  refine (compare_any _ _ _ _ Kx Ky _ (Hxs.out _ (by repeat (first | exact Below.refl _ _ | refine Below.alloc ?_ (by simp <;> omega) _))) (Hys.out _ (by repeat (first | exact Below.refl _ _ | refine Below.alloc ?_ (by simp <;> omega) _)))).mono ?_
  rintro e w' ⟨nq, rfl, rfl⟩
  rw [← Hcm.out]
  go_wp2
  obtain ⟨W0, hW0⟩ : ∃ W0, W0 = (((w.alloc (.cells #[.bool xb, .slice xo xm xc] 56)).alloc (.cells #[.bool yb, .slice yo ym yc] 56)).alloc (.cells #[.bool false, .slice none 0 0] 56)).drewN nq := ⟨_, rfl⟩
  have hB0 : Below w.heap.size w W0 := by rw [hW0]; exact below_drewN ((((Below.refl _ _).alloc (by simp <;> omega) _).alloc (by simp <;> omega) _).alloc (by simp <;> omega) _) nq
  have hz0 : W0.heap.size = w.heap.size + 3 := by rw [hW0]; simp
  have HS : Hid (∀ w', Below (w.heap.size + 2) W0 w' → w'.cell? ⟨w.heap.size, 0, none⟩ = some (.bool xb) ∧ w'.cell? ⟨w.heap.size, 1, none⟩ = some (.slice xo xm xc) ∧ w'.cell? ⟨w.heap.size + 1, 0, none⟩ = some (.bool yb) ∧ w'.cell? ⟨w.heap.size + 1, 1, none⟩ = some (.slice yo ym yc)) := hid (fun w' hb => by
    refine ⟨?_, ?_, ?_, ?_⟩ <;> (first | (rw [hb.cell (by simp <;> omega), hW0]; simp [go_sem]; done) | (rw [hb.frozen (by simp <;> omega), hW0]; simp [go_sem]; done)))
  have HT : Hid (∀ w', Below (w.heap.size + 3) W0 w' → w'.cell? ⟨w.heap.size + 2, 0, none⟩ = some (.bool false) ∧ w'.cell? ⟨w.heap.size + 2, 1, none⟩ = some (.slice none 0 0) ∧ w'.frozen? ⟨w.heap.size + 2, 0, none⟩ = false ∧ w'.frozen? ⟨w.heap.size + 2, 1, none⟩ = false) := hid (fun w' hb => by
    refine ⟨?_, ?_, ?_, ?_⟩ <;> (first | (rw [hb.cell (by simp <;> omega), hW0]; simp [go_sem]; done) | (rw [hb.frozen (by simp <;> omega), hW0]; simp [go_sem]; done)))
  rw [← hW0]
  clear hW0
  go_region_held3 (fun w' => w'.cell? ⟨w.heap.size, 0, none⟩ = some (.bool xb) ∧ w'.cell? ⟨w.heap.size, 1, none⟩ = some (.slice xo xm xc) ∧ w'.cell? ⟨w.heap.size + 1, 0, none⟩ = some (.bool yb) ∧ w'.cell? ⟨w.heap.size + 1, 1, none⟩ = some (.slice yo ym yc)) ((refine HS.out _ ?_; first | assumption | exact Below.refl _ _ | exact (Below.refl _ _).drew | exact ((hB2.mono (Nat.le_succ _)).setCell (Nat.le_refl _) _).setCell (Nat.le_refl _) _)) (first
    | (go_at_call 100; refine (subtract_any _ _ _ _ Kx Ky _ (Hxs.out _ hB0.drew) (Hys.out _ hB0.drew) hKx (by have := Hc.out; omega)).mono ?_; rintro e w1 ⟨v1, rfl, hv1, hb1⟩; have hB1 : Below (w.heap.size + 3) W0 w1 := ((Below.refl _ _).drew).trans (hb1.mono (by simp; omega)); have hB1s := hB1.mono (Nat.le_succ _))
    | (go_at_call 21; refine (signed_any xb v1 _ _ _ hv1).mono ?_; rintro e w2 ⟨_, rfl, ⟨_, rfl, qo, qc, QL, rfl, hq⟩, hb2⟩; have hB2 : Below (w.heap.size + 3) W0 w2 := hB1.trans (hb2.mono (by have := hB1.size; omega)); have hB2s := hB2.mono (Nat.le_succ _); obtain ⟨hr0, hr1, hr2, hr3⟩ := HT.out _ hB2))
  go_wp2
  have hbel : Below w.heap.size w w2 := hB0.trans (hB2.mono (by omega))
  refine bodyPost_ret (v := .agg #[.bool (decide (sgn xb ((x.natAbs : Int) - (y.natAbs : Int)) < 0)), .slice qo QL.length qc]) (by simp [results, Tryz.results55, go_sem, hr0, hr1]) rfl ⟨_, rfl, ?_, (hbel.setCell (by simp <;> omega) _).setCell (by simp <;> omega) _⟩
  have e : sgn xb ((x.natAbs : Int) - (y.natAbs : Int)) = (x + y) := by rw [Hxb.out]; exact sgn_diff x y Hs.out
  have hfin : It w2 (.agg #[.bool (decide (sgn xb ((x.natAbs : Int) - (y.natAbs : Int)) < 0)), .slice qo QL.length qc]) (x + y) K := by
    rw [← e]; exact ⟨_, rfl, qo, qc, QL, rfl, hq.rd, hq.dig, hq.nrm, hq.eq, Nat.le_trans hq.le (by omega)⟩
  exact (hfin.set hr0 (fun x h => (by cases h)) _).set (u := .slice none 0 0) (by simp [go_sem, hr1]) (fun x h => (by cases h)) _

set_option maxRecDepth 100000 in
set_option maxHeartbeats 4000000 in
theorem plus_swap (u v : Value) (x y : Int) (Kx Ky K : Nat) (w : World) (hu : It w u x Kx) (hv : It w v y Ky) (_hKx : Kx ≤ 1073741824) (hKy : Ky ≤ 1073741824) (_h1 : Kx < K) (h2 : Ky < K) (hs : decide (x < 0) ≠ decide (y < 0)) (hc : x.natAbs < y.natAbs) :
    Calls Tryz.prog 55 #[u, v] w (RetI w (x + y) K) := by
  obtain ⟨xb, xo, xm, xc, rfl, Hx, Hxs, Hxb⟩ := It.opened hu
  obtain ⟨yb, yo, ym, yc, rfl, Hy, Hys, Hyb⟩ := It.opened hv
  have hb : xb ≠ yb := by rw [Hxb.out, Hyb.out]; exact hs
  have hb1 : (xb == yb) = false := by simpa using hb
  have hcm : cmpI (x.natAbs : Int) (y.natAbs : Int) < 0 := (by rw [cmpI_lt (by omega)]; decide)
  obtain ⟨cm, hcm'⟩ : ∃ cm, cm = cmpI (x.natAbs : Int) (y.natAbs : Int) := ⟨_, rfl⟩
  rw [← hcm'] at hcm
  have Hcm := hid hcm'
  have Hs := hid hs; have Hc := hid hc
  clear hs hu hv hc hcm'
  go_enter Tryz.func55, Tryz.ntmps55
  go_wp2_with fail
  refine (compare_any _ _ _ _ Kx Ky _ (Hxs.out _ (by repeat (first | exact Below.refl _ _ | refine Below.alloc ?_ (by simp <;> omega) _))) (Hys.out _ (by repeat (first | exact Below.refl _ _ | refine Below.alloc ?_ (by simp <;> omega) _)))).mono ?_
  rintro e w' ⟨nq, rfl, rfl⟩
  rw [← Hcm.out]
  obtain ⟨W0, hW0⟩ : ∃ W0, W0 = (((w.alloc (.cells #[.bool xb, .slice xo xm xc] 56)).alloc (.cells #[.bool yb, .slice yo ym yc] 56)).alloc (.cells #[.bool false, .slice none 0 0] 56)).drewN nq := ⟨_, rfl⟩
  rw [← hW0]
  obtain ⟨k0, k1, k2, k3, k4, k5, f0, f1, f2, f3, f4, f5⟩ : W0.cell? ⟨w.heap.size, 0, none⟩ = some (.bool xb) ∧ W0.cell? ⟨w.heap.size, 1, none⟩ = some (.slice xo xm xc) ∧ W0.cell? ⟨w.heap.size + 1, 0, none⟩ = some (.bool yb) ∧ W0.cell? ⟨w.heap.size + 1, 1, none⟩ = some (.slice yo ym yc) ∧ W0.cell? ⟨w.heap.size + 2, 0, none⟩ = some (.bool false) ∧ W0.cell? ⟨w.heap.size + 2, 1, none⟩ = some (.slice none 0 0) ∧ W0.frozen? ⟨w.heap.size, 0, none⟩ = false ∧ W0.frozen? ⟨w.heap.size, 1, none⟩ = false ∧ W0.frozen? ⟨w.heap.size + 1, 0, none⟩ = false ∧ W0.frozen? ⟨w.heap.size + 1, 1, none⟩ = false ∧ W0.frozen? ⟨w.heap.size + 2, 0, none⟩ = false ∧ W0.frozen? ⟨w.heap.size + 2, 1, none⟩ = false := by
    rw [hW0]; refine ⟨?_, ?_, ?_, ?_, ?_, ?_, ?_, ?_, ?_, ?_, ?_, ?_⟩ <;> first | (rw [cell_drewN]; simp [go_sem]; done) | (simp [go_sem]; done)
  have hb00 : Below w.heap.size w W0 := by rw [hW0]; exact below_drewN ((((Below.refl _ _).alloc (by simp <;> omega) _).alloc (by simp <;> omega) _).alloc (by simp <;> omega) _) nq
  have hz00 : W0.heap.size = w.heap.size + 3 := by rw [hW0]; simp
  clear hW0
  go_wp2
  obtain ⟨W1, hW1⟩ : ∃ W1, W1 = ((((W0.setCell ⟨w.heap.size, 0, none⟩ (.bool yb)).setCell ⟨w.heap.size, 1, none⟩ (.slice yo ym yc)).setCell ⟨w.heap.size + 1, 0, none⟩ (.bool xb)).setCell ⟨w.heap.size + 1, 1, none⟩ (.slice xo xm xc)) := ⟨_, rfl⟩
  have hB0 : Below w.heap.size w W1 := by rw [hW1]; exact (((hb00.setCell (by simp <;> omega) _).setCell (by simp <;> omega) _).setCell (by simp <;> omega) _).setCell (by simp <;> omega) _
  have hz0 : W1.heap.size = w.heap.size + 3 := by rw [hW1]; simp [hz00]
  have HS : Hid (∀ w', Below (w.heap.size + 2) W1 w' → w'.cell? ⟨w.heap.size, 0, none⟩ = some (.bool yb) ∧ w'.cell? ⟨w.heap.size, 1, none⟩ = some (.slice yo ym yc) ∧ w'.cell? ⟨w.heap.size + 1, 0, none⟩ = some (.bool xb) ∧ w'.cell? ⟨w.heap.size + 1, 1, none⟩ = some (.slice xo xm xc)) := hid (fun w' hb => by
    refine ⟨?_, ?_, ?_, ?_⟩ <;> (first | (rw [hb.cell (by simp <;> omega), hW1]; simp [go_sem, *]; done) | (rw [hb.frozen (by simp <;> omega), hW1]; simp [go_sem, *]; done)))
  have HT : Hid (∀ w', Below (w.heap.size + 3) W1 w' → w'.cell? ⟨w.heap.size + 2, 0, none⟩ = some (.bool false) ∧ w'.cell? ⟨w.heap.size + 2, 1, none⟩ = some (.slice none 0 0) ∧ w'.frozen? ⟨w.heap.size + 2, 0, none⟩ = false ∧ w'.frozen? ⟨w.heap.size + 2, 1, none⟩ = false) := hid (fun w' hb => by
    refine ⟨?_, ?_, ?_, ?_⟩ <;> (first | (rw [hb.cell (by simp <;> omega), hW1]; simp [go_sem, *]; done) | (rw [hb.frozen (by simp <;> omega), hW1]; simp [go_sem, *]; done)))
  rw [← hW1]
  clear hW1 k0 k1 k2 k3 k4 k5 f0 f1 f2 f3 f4 f5
  go_region_held3 (fun w' => w'.cell? ⟨w.heap.size, 0, none⟩ = some (.bool yb) ∧ w'.cell? ⟨w.heap.size, 1, none⟩ = some (.slice yo ym yc) ∧ w'.cell? ⟨w.heap.size + 1, 0, none⟩ = some (.bool xb) ∧ w'.cell? ⟨w.heap.size + 1, 1, none⟩ = some (.slice xo xm xc)) ((refine HS.out _ ?_; first | assumption | exact Below.refl _ _ | exact (Below.refl _ _).drew | exact ((hB2.mono (Nat.le_succ _)).setCell (Nat.le_refl _) _).setCell (Nat.le_refl _) _)) (first
    | (go_at_call 100; refine (subtract_any _ _ _ _ Ky Kx _ (Hys.out _ hB0.drew) (Hxs.out _ hB0.drew) hKy (by have := Hc.out; omega)).mono ?_; rintro e w1 ⟨v1, rfl, hv1, hb1⟩; have hB1 : Below (w.heap.size + 3) W1 w1 := ((Below.refl _ _).drew).trans (hb1.mono (by simp; omega)); have hB1s := hB1.mono (Nat.le_succ _))
    | (go_at_call 21; refine (signed_any yb v1 _ _ _ hv1).mono ?_; rintro e w2 ⟨_, rfl, ⟨_, rfl, qo, qc, QL, rfl, hq⟩, hb2⟩; have hB2 : Below (w.heap.size + 3) W1 w2 := hB1.trans (hb2.mono (by have := hB1.size; omega)); have hB2s := hB2.mono (Nat.le_succ _); obtain ⟨hr0, hr1, hr2, hr3⟩ := HT.out _ hB2))
  go_wp2
  have hbel : Below w.heap.size w w2 := hB0.trans (hB2.mono (by omega))
  refine bodyPost_ret (v := .agg #[.bool (decide (sgn yb ((y.natAbs : Int) - (x.natAbs : Int)) < 0)), .slice qo QL.length qc]) (by simp [results, Tryz.results55, go_sem, hr0, hr1]) rfl ⟨_, rfl, ?_, (hbel.setCell (by simp <;> omega) _).setCell (by simp <;> omega) _⟩
  have e : sgn yb ((y.natAbs : Int) - (x.natAbs : Int)) = (x + y) := by rw [Hyb.out]; rw [Int.add_comm]; exact sgn_diff y x (Ne.symm Hs.out)
  have hfin : It w2 (.agg #[.bool (decide (sgn yb ((y.natAbs : Int) - (x.natAbs : Int)) < 0)), .slice qo QL.length qc]) (x + y) K := by
    rw [← e]; exact ⟨_, rfl, qo, qc, QL, rfl, hq.rd, hq.dig, hq.nrm, hq.eq, Nat.le_trans hq.le (by omega)⟩
  exact (hfin.set hr0 (fun x h => (by cases h)) _).set (u := .slice none 0 0) (by simp [go_sem, hr1]) (fun x h => (by cases h)) _

theorem plus_any (u v : Value) (x y : Int) (Kx Ky K : Nat) (w : World) (hu : It w u x Kx) (hv : It w v y Ky) (hKx : Kx ≤ 1073741824) (hKy : Ky ≤ 1073741824) (h1 : Kx < K) (h2 : Ky < K) :
    Calls Tryz.prog 55 #[u, v] w (RetI w (x + y) K) := by
  by_cases hs : decide (x < 0) = decide (y < 0)
  · exact plus_same u v x y Kx Ky K w hu hv hKx hKy h1 h2 hs
  · by_cases hc : y.natAbs ≤ x.natAbs
    · exact plus_keep u v x y Kx Ky K w hu hv hKx hKy h1 h2 hs hc
    · exact plus_swap u v x y Kx Ky K w hu hv hKx hKy h1 h2 hs (by omega)

end Go.Proofs.YtbapeilpkhbbeaaGreatDoor

/- exact.Normal, Neg, Add, Sub. Written by gen_int3.py. -/
namespace Go.Proofs.YtbapeilpkhbbeaaGreatDoor
open Go.RowKit

theorem FrA.set {w1 w : World} {v : Value} {z : Int} {K : Nat} (h : FrA w1 w v z K) {a : Addr} (ha : a.block < w1.heap.size) (u : Value) : FrA w1 (w.setCell a u) v z K := by
  obtain ⟨s, rfl, h⟩ := h; exact ⟨s, rfl, h.set ha u⟩

end Go.Proofs.YtbapeilpkhbbeaaGreatDoor

/- exact.multiplyLimbs. -/
namespace Go.Proofs.YtbapeilpkhbbeaaGreatDoor
open Go.RowKit

/-- After k limbs of the second factor: Q is the product so far. -/
structure LimbI (w wr : World) (g : Nat) (LA LB : List Int) (k : Nat) (Q : List Int) : Prop where
  row : Row .u64 63 wr g (Q ++ List.replicate (LB.length - k) 0)
  gr : w.grownBy wr (some g)
  len : Q.length = LA.length + k
  dig : Dig B64 Q
  eq : val B64 Q = val B64 LA * val B64 (LB.take k)

theorem LimbI.step {w wr w1 : World} {g : Nat} {LA LB Q A1 : List Int} {k : Nat} {cc y : Int} (h : LimbI w wr g LA LB k Q) (hk : k < LB.length) (hy : y = LB[k]?.getD 0)
    (hm : MulI wr w1 g (Q.take k) (Q.drop k) (List.replicate (LB.length - k) 0) (Q.drop k).length (val B64 LA * y) A1 cc) :
    LimbI w (w1.setCell ⟨g, k + LA.length, none⟩ (.int .u64 cc)) g LA LB (k + 1) (Q.take k ++ A1 ++ [cc]) := by
  have hl1 : A1.length = LA.length := by rw [hm.len, List.length_drop, h.len]; omega
  have hlP : (Q.take k).length = k := by rw [List.length_take, h.len]; omega
  have hr := hm.row.set (k + LA.length) cc
  have hz : LB.length - k = (LB.length - (k + 1)) + 1 := by omega
  rw [hz, List.replicate_succ, List.set_append_right _ _ (by simp [hlP, hl1]), show k + LA.length - (Q.take k ++ A1).length = 0 by simp [hlP, hl1], List.set_cons_zero] at hr
  refine ⟨by simpa [List.append_assoc] using hr, grown_trans (grown_trans h.gr hm.gr) (grown_set _ _ _ _), by simp [hlP, hl1]; omega, ((h.dig.take k).append hm.dig).append (Dig.cons hm.c0 hm.c1 (Dig.nil _)), ?_⟩
  have e := hm.eq
  have ld : (Q.drop k).length = LA.length := by rw [List.length_drop, h.len]; omega
  rw [ld] at e
  rw [List.append_assoc, val_append, val_snoc, hlP, hl1, e, val_take_succ B64 LB k hk, ← hy]
  have e2 := val_append B64 (Q.take k) (Q.drop k)
  rw [List.take_append_drop, hlP, h.eq] at e2
  grind

set_option maxRecDepth 100000 in
set_option maxHeartbeats 2000000 in
theorem multiplyLimbs_any (va vb : Value) (a b : Int) (Ka Kb : Nat) (w : World) (hA : Nt w va a Ka) (hB : Nt w vb b Kb) (h1 : Ka ≤ 1073741824) (h2 : Kb ≤ 1073741824) :
    Calls Tryz.prog 94 #[va, vb] w (RetN w (a * b) (Ka + Kb)) := by
  obtain ⟨ao, ca, LA, rfl, hA⟩ := hA
  obtain ⟨bo, cb, LB, rfl, hB⟩ := hB
  obtain ⟨n, hn⟩ : ∃ n, n = LA.length := ⟨_, rfl⟩
  obtain ⟨m, hm⟩ : ∃ m, m = LB.length := ⟨_, rfl⟩
  have hn30 : n ≤ 1073741824 := by have := hA.le; omega
  have hm30 : m ≤ 1073741824 := by have := hB.le; omega
  rw [← hn, ← hm]
  have HA := hid hA; have HB := hid hB; have Hn := hid hn; have Hm := hid hm
  clear hA hB hn hm
  obtain ⟨i0, hi, hz0, hz1, hz2⟩ := info_parts Tryz.info63
  go_enter Tryz.func94, Tryz.ntmps94
  go_wp2_with (at_make; refine wpList_make_row w rfl _ _ 54 rfl 63 i0 .u64 Tryz.underlying54 hi hz0 hz1 .i64 .i64 _ _ (n + m) rfl rfl (by omega) (by omega) (by rw [hz2]; omega) (by unfold maxLen; omega) ?_)
  intro w1 hrow hg1
  have hb1 := grown_below hg1
  have H0 : LimbI w w1 w.heap.size LA LB 0 (List.replicate n 0) := by
    refine ⟨?_, grown_any hg1, by simp [Hn.out], Dig.replicate B64_pos _, by simp [val_replicate, val]⟩
    have e : List.replicate n (0 : Int) ++ List.replicate (LB.length - 0) 0 = List.replicate (n + m) 0 := by rw [List.replicate_append_replicate, Nat.sub_zero, ← Hm.out]
    rw [e]; exact hrow
  have HG1 := hid (HA.out.rd.ne (Nat.le_refl w.heap.size)); have HG2 := hid (HB.out.rd.ne (Nat.le_refl w.heap.size))
  clear hrow hg1
  go_wp2
  go_loopw [16] (fun iv wr => ∃ k : Nat, ∃ Q, k ≤ m ∧ iv = .int .i64 k ∧ LimbI w wr w.heap.size LA LB k Q ∧ Below w.heap.size w wr) (fun iv _ => m - (intOf iv).toNat)
  case atStart => exact ⟨0, _, Nat.zero_le _, rfl, H0, hb1⟩
  case round =>
    obtain ⟨k, Q, hk, rfl, H, hbr⟩ := hrel
    by_cases hlt : k < m
    · obtain ⟨b1, o1, rfl⟩ := HB.out.rd.adr (by have := Hm.out; omega)
      have hBk := (HB.out.rd.keptNew H.gr HG2.out).cell b1 o1 rfl k (by have := Hm.out; omega)
      have hAr := HA.out.rd.keptNew H.gr HG1.out
      have hy := HB.out.dig.at B64_pos k
      obtain ⟨y, hye⟩ : ∃ y, y = LB[k]?.getD 0 := ⟨_, rfl⟩
      rw [← hye] at hBk hy
      have hlP : (Q.take k).length = k := by rw [List.length_take, H.len]; omega
      have hlA : (Q.drop k).length = n := by rw [List.length_drop, H.len, Hn.out]; omega
      have hc := addProduct_any w.heap.size (Q.take k) (Q.drop k) (List.replicate (LB.length - k) 0) LA (n + m - k) ca ao y wr (by rw [List.take_append_drop]; exact H.row) (H.dig.drop k) HA.out.dig hy.1 hy.2 (by omega) (by omega) hAr (by rw [hlA, Hn.out]) HG1.out
      rw [hlP, hlA, ← Hn.out] at hc
      have hstep := fun (w1 : World) (A1 : List Int) (cc : Int) (hm : MulI wr w1 w.heap.size (Q.take k) (Q.drop k) (List.replicate (LB.length - k) 0) n (val B64 LA * y) A1 cc) => H.step (by have := Hm.out; omega) hye (by rw [hlA]; exact hm)
      rw [← Hn.out] at hstep
      have hcell := fun (w1 : World) (A1 : List Int) (cc : Int) (hm : MulI wr w1 w.heap.size (Q.take k) (Q.drop k) (List.replicate (LB.length - k) 0) n (val B64 LA * y) A1 cc) => (show (∃ u, w1.cell? ⟨w.heap.size, k + n, none⟩ = some (.int .u64 u)) ∧ w1.frozen? ⟨w.heap.size, k + n, none⟩ = false from
        ⟨⟨_, hm.row.cell (k + n) (by have e1 := hm.len; rw [hlA] at e1; have := Hm.out; simp only [List.length_append, List.length_replicate]; omega)⟩, hm.row.frozen _⟩)
      have HC := hid hc; have HSt := hid hstep; have HCe := hid hcell; have Hye := hid hye; have HH := hid H
      clear hc hstep hcell hye H hAr hlP hlA H0 hb1
      go_wp2_with (go_at_call 126; refine HC.out.mono ?_; rintro e w2 ⟨A1, cc, rfl, HI⟩; obtain ⟨⟨u, hu⟩, hf⟩ := HCe.out w2 A1 cc HI)
      go_roundw
      case rel => exact ⟨k + 1, _, by omega, by go_num, HSt.out w2 A1 cc HI, (hbr.grown HI.gr hbr.size (fun i e => by cases e; exact Nat.le_refl _)).setCell (Nat.le_refl _) _⟩
      case measure => simp [intOf]; omega
    · obtain rfl : k = m := by omega
      have hr := H.row
      have hv := H.eq
      have hl := H.len
      rw [← Hm.out, Nat.sub_self, List.replicate_zero, List.append_nil] at hr
      rw [Hm.out, List.take_length, HA.out.eq, HB.out.eq] at hv
      rw [← Hn.out] at hl
      have ht := trim64_any (some ⟨w.heap.size, 0, none⟩) (n + k) Q wr (row_rd hr (by omega) (by omega))
      rw [hl] at ht
      have hres := nt_row (c := n + k) (K := Ka + Kb) hr H.dig hv (by omega) (by omega) (by have := HA.out.le; have := HB.out.le; have := Hn.out; have := Hm.out; omega)
      have HT := hid ht; have Hres := hid hres
      clear ht hres hr hv hl H H0 hb1
      go_wp2_with (go_at_call 96; refine HT.out.mono ?_; rintro e w2 ⟨rfl, rfl⟩)
      go_ret
      exact ⟨_, rfl, Hres.out, hbr⟩

end Go.Proofs.YtbapeilpkhbbeaaGreatDoor

/- exact.multiply of factors of fewer than 80 limbs. -/
namespace Go.Proofs.YtbapeilpkhbbeaaGreatDoor
open Go.RowKit

set_option maxRecDepth 100000 in
set_option maxHeartbeats 2000000 in
theorem multiply_short (va vb : Value) (a b : Int) (Ka Kb : Nat) (w : World) (hA : Nt w va a Ka) (hB : Nt w vb b Kb) (h1 : Ka ≤ 79) (h2 : Kb ≤ 79) :
    Calls Tryz.prog 53 #[va, vb] w (RetN w (a * b) (Ka + Kb)) := by
  have hC := multiplyLimbs_any va vb a b Ka Kb w hA hB (by omega) (by omega)
  have hC' := multiplyLimbs_any vb va b a Kb Ka w hB hA (by omega) (by omega)
  obtain ⟨ao, ca, LA, rfl, hA⟩ := hA
  obtain ⟨bo, cb, LB, rfl, hB⟩ := hB
  obtain ⟨n, hn⟩ : ∃ n, n = LA.length := ⟨_, rfl⟩
  obtain ⟨m, hm⟩ : ∃ m, m = LB.length := ⟨_, rfl⟩
  have hn80 : n < 80 := by have := hA.le; omega
  have hm80 : m < 80 := by have := hB.le; omega
  rw [← hn, ← hm] at hC hC' ⊢
  have HC := hid hC; have HC' := hid hC'
  clear hA hB hC hC' hn hm
  by_cases hlt : n < m
  · go_enter Tryz.func53, Tryz.ntmps53
    go_wp2_with fail
    refine HC'.out.mono ?_
    rintro e w' ⟨v, rfl, hv, hb⟩
    go_wp2
    go_ret
    exact ⟨v, rfl, by rw [Int.mul_comm, Nat.add_comm]; exact hv, hb⟩
  · go_enter Tryz.func53, Tryz.ntmps53
    go_wp2_with fail
    refine HC.out.mono ?_
    rintro e w' ⟨v, rfl, hv, hb⟩
    go_wp2
    go_ret
    exact ⟨v, rfl, hv, hb⟩

end Go.Proofs.YtbapeilpkhbbeaaGreatDoor

/- exact.integer: times; exact.Mul, Sign, sign. Written by gen_int4.py. -/
namespace Go.Proofs.YtbapeilpkhbbeaaGreatDoor
open Go.RowKit

theorem sgn_mul (x y : Int) : sgn (decide (x < 0) != decide (y < 0)) ((x.natAbs : Int) * (y.natAbs : Int)) = x * y := by
  have hx : (x.natAbs : Int) = if x < 0 then -x else x := by split <;> omega
  have hy : (y.natAbs : Int) = if y < 0 then -y else y := by split <;> omega
  rw [hx, hy]
  by_cases h1 : x < 0 <;> by_cases h2 : y < 0 <;> simp [h1, h2, sgn, Int.neg_mul, Int.mul_neg]

set_option maxRecDepth 100000 in
set_option maxHeartbeats 4000000 in
theorem times_short (u v : Value) (x y : Int) (Kx Ky : Nat) (w : World) (hu : It w u x Kx) (hv : It w v y Ky) (hKx : Kx ≤ 79) (hKy : Ky ≤ 79) :
    Calls Tryz.prog 20 #[u, v] w (RetI w (x * y) (Kx + Ky)) := by
  obtain ⟨xb, xo, xm, xc, rfl, Hx, Hxs, Hxb⟩ := It.opened hu
  obtain ⟨yb, yo, ym, yc, rfl, Hy, Hys, Hyb⟩ := It.opened hv
  go_enter Tryz.func20, Tryz.ntmps20
  go_wp2
  obtain ⟨W0, hW0⟩ : ∃ W0, W0 = (((w.alloc (.cells #[.bool xb, .slice xo xm xc] 56)).alloc (.cells #[.bool yb, .slice yo ym yc] 56)).alloc (.cells #[.bool false, .slice none 0 0] 56)) := ⟨_, rfl⟩
  have hB0 : Below w.heap.size w W0 := by rw [hW0]; exact (((Below.refl _ _).alloc (by simp <;> omega) _).alloc (by simp <;> omega) _).alloc (by simp <;> omega) _
  have hz0 : W0.heap.size = w.heap.size + 3 := by rw [hW0]; simp
  have HS : Hid (∀ w', Below (w.heap.size + 2) W0 w' → w'.cell? ⟨w.heap.size, 0, none⟩ = some (.bool xb) ∧ w'.cell? ⟨w.heap.size, 1, none⟩ = some (.slice xo xm xc) ∧ w'.cell? ⟨w.heap.size + 1, 0, none⟩ = some (.bool yb) ∧ w'.cell? ⟨w.heap.size + 1, 1, none⟩ = some (.slice yo ym yc)) := hid (fun w' hb => by
    refine ⟨?_, ?_, ?_, ?_⟩ <;> (first | (rw [hb.cell (by simp <;> omega), hW0]; simp [go_sem]; done) | (rw [hb.frozen (by simp <;> omega), hW0]; simp [go_sem]; done)))
  have HT : Hid (∀ w', Below (w.heap.size + 3) W0 w' → w'.cell? ⟨w.heap.size + 2, 0, none⟩ = some (.bool false) ∧ w'.cell? ⟨w.heap.size + 2, 1, none⟩ = some (.slice none 0 0) ∧ w'.frozen? ⟨w.heap.size + 2, 0, none⟩ = false ∧ w'.frozen? ⟨w.heap.size + 2, 1, none⟩ = false) := hid (fun w' hb => by
    refine ⟨?_, ?_, ?_, ?_⟩ <;> (first | (rw [hb.cell (by simp <;> omega), hW0]; simp [go_sem]; done) | (rw [hb.frozen (by simp <;> omega), hW0]; simp [go_sem]; done)))
  rw [← hW0]
  clear hW0
  go_region_held3 (fun w' => w'.cell? ⟨w.heap.size, 0, none⟩ = some (.bool xb) ∧ w'.cell? ⟨w.heap.size, 1, none⟩ = some (.slice xo xm xc) ∧ w'.cell? ⟨w.heap.size + 1, 0, none⟩ = some (.bool yb) ∧ w'.cell? ⟨w.heap.size + 1, 1, none⟩ = some (.slice yo ym yc)) ((refine HS.out _ ?_; first | assumption | exact Below.refl _ _ | exact (Below.refl _ _).drew | exact ((hB2.mono (Nat.le_succ _)).setCell (Nat.le_refl _) _).setCell (Nat.le_refl _) _)) (first
    | (go_at_call 53; refine (multiply_short _ _ _ _ Kx Ky _ (Hxs.out _ hB0.drew) (Hys.out _ hB0.drew) hKx hKy).mono ?_; rintro e w1 ⟨_, rfl, hv1, hb1⟩; obtain ⟨o1, m1, c1, rfl, H1⟩ := Nt.opened hv1; have hB1 : Below (w.heap.size + 3) W0 w1 := ((Below.refl _ _).drew).trans (hb1.mono (by simp; omega)); have hB1s := hB1.mono (Nat.le_succ _))
    | (go_at_call 21; refine (signed_any (xb != yb) _ _ _ _ (H1.out _ (Below.refl _ _))).mono ?_; rintro e w2 ⟨_, rfl, hv2, hb2⟩; obtain ⟨b2, o2, m2, c2, rfl, H2, H2s, H2b⟩ := It.opened hv2; have hB2 : Below (w.heap.size + 3) W0 w2 := hB1.trans (hb2.mono (by have := hB1.size; omega)); have hB2s := hB2.mono (Nat.le_succ _); obtain ⟨hr0, hr1, hr2, hr3⟩ := HT.out _ hB2))
  go_wp2
  have hbel : Below w.heap.size w w2 := hB0.trans (hB2.mono (by omega))
  refine bodyPost_ret (v := .agg #[.bool b2, .slice o2 m2 c2]) (by simp [results, Tryz.results20, go_sem, hr0, hr1]) rfl ⟨_, rfl, ?_, (hbel.setCell (by simp <;> omega) _).setCell (by simp <;> omega) _⟩
  have e : sgn (xb != yb) ((x.natAbs : Int) * (y.natAbs : Int)) = x * y := by rw [Hxb.out, Hyb.out]; exact sgn_mul x y
  rw [← e]
  exact ((H2.out _ (Below.refl _ _)).set hr0 (fun x h => (by cases h)) _).set (u := .slice none 0 0) (by simp [go_sem, hr1]) (fun x h => (by cases h)) _

end Go.Proofs.YtbapeilpkhbbeaaGreatDoor
