/- exact.integer: value, negated, plus; exact.Normal, Neg, Add, Sub. Written by gen_int2.py. exact.Normal, Neg, Add, Sub. Written by gen_int3.py. exact.addProduct: it adds a product to a row. exact.multiplyLimbs. exact.multiply of factors of fewer than 80 limbs. exact.integer: times; exact.Mul, Sign, sign. Written by gen_int4.py. Lehmer's steps of a common divisor: plain arithmetic. -/
import Derived.Test.YtbapeilpkhbbeaaGreatRn04
import Derived.Test.YtbapeilpkhbbeaaGreatRn02
import Derived.Test.YtbapeilpkhbbeaaGreatRn01
/- exact.integer: value, negated, plus; exact.Normal, Neg, Add, Sub. Written by gen_int2.py. -/
namespace Go.Proofs.YtbapeilpkhbbeaaGreat
open Go.RowKit

theorem sgn_diff (x y : Int) (hs : decide (x < 0) ≠ decide (y < 0)) : sgn (decide (x < 0)) ((x.natAbs : Int) - (y.natAbs : Int)) = x + y := by
  by_cases h1 : x < 0
  · by_cases h2 : y < 0
    · simp [h1, h2] at hs
    · rw [decide_eq_true h1]; show -((x.natAbs : Int) - (y.natAbs : Int)) = x + y; omega
  · by_cases h2 : y < 0
    · rw [decide_eq_false h1]; show (x.natAbs : Int) - (y.natAbs : Int) = x + y; omega
    · simp [h1, h2] at hs

set_option maxRecDepth 100000 in
set_option maxHeartbeats 4000000 in
theorem value_any (v : Value) (z : Int) (K : Nat) (w : World) (h : It w v z K) (hK : K ≤ 1073741824) :
    Calls Tryz.prog 76 #[v] w (RetA w z (2 * K)) := by
  obtain ⟨xb, xo, xm, xc, rfl, Hx, Hxs, Hxb⟩ := It.opened h
  go_enter Tryz.func76, Tryz.ntmps76
  go_wp2
  obtain ⟨W0, hW0⟩ : ∃ W0, W0 = ((w.alloc (.cells #[.bool xb, .slice xo xm xc] 78)).alloc (.cells #[.bool false, .slice none 0 0] 24)) := ⟨_, rfl⟩
  have hB0 : Below w.heap.size w W0 := by rw [hW0]; exact ((Below.refl _ _).alloc (by simp <;> omega) _).alloc (by simp <;> omega) _
  have hz0 : W0.heap.size = w.heap.size + 2 := by rw [hW0]; simp
  have HS : Hid (∀ w', Below (w.heap.size + 1) W0 w' → w'.cell? ⟨w.heap.size, 0, none⟩ = some (.bool xb) ∧ w'.cell? ⟨w.heap.size, 1, none⟩ = some (.slice xo xm xc)) := hid (fun w' hb => by
    refine ⟨?_, ?_⟩ <;> (first | (rw [hb.cell (by simp <;> omega), hW0]; simp [go_sem]; done) | (rw [hb.frozen (by simp <;> omega), hW0]; simp [go_sem]; done)))
  have HT : Hid (∀ w', Below (w.heap.size + 2) W0 w' → w'.cell? ⟨w.heap.size + 1, 0, none⟩ = some (.bool false) ∧ w'.cell? ⟨w.heap.size + 1, 1, none⟩ = some (.slice none 0 0) ∧ w'.frozen? ⟨w.heap.size + 1, 0, none⟩ = false ∧ w'.frozen? ⟨w.heap.size + 1, 1, none⟩ = false) := hid (fun w' hb => by
    refine ⟨?_, ?_, ?_, ?_⟩ <;> (first | (rw [hb.cell (by simp <;> omega), hW0]; simp [go_sem]; done) | (rw [hb.frozen (by simp <;> omega), hW0]; simp [go_sem]; done)))
  rw [← hW0]
  clear hW0
  go_region_held3 (fun w' => w'.cell? ⟨w.heap.size, 0, none⟩ = some (.bool xb) ∧ w'.cell? ⟨w.heap.size, 1, none⟩ = some (.slice xo xm xc)) ((refine HS.out _ ?_; first | assumption | exact Below.refl _ _ | exact (Below.refl _ _).drew | exact ((hB1.mono (Nat.le_succ _)).setCell (Nat.le_refl _) _).setCell (Nat.le_refl _) _)) (first
    | (go_at_call 112; refine (words_any _ _ _ _ (Hxs.out _ hB0.drew) hK).mono ?_; rintro e w1 ⟨v1, rfl, hv1, hb1⟩; obtain ⟨o1, m1, c1, rfl, HV⟩ := FrW.opened hv1; have hB1 : Below (w.heap.size + 2) W0 w1 := ((Below.refl _ _).drew).trans (hb1.mono (by simp; omega)); have hB1s := hB1.mono (Nat.le_succ _); obtain ⟨hr0, hr1, hr2, hr3⟩ := HT.out _ hB1))
  go_wp2
  have hbel : Below w.heap.size w w1 := hB0.trans (hB1.mono (by omega))
  refine bodyPost_ret (v := .agg #[.bool xb, .slice o1 m1 c1]) (by simp [results, Tryz.results76, go_sem, hr0, hr1]) rfl ⟨_, rfl, ?_, (hbel.setCell (by simp <;> omega) _).setCell (by simp <;> omega) _⟩
  rw [Hxb.out]
  exact ⟨_, rfl, ((HV.out.set (by simp; omega) _).set (by simp; omega) _).base (by simp; omega)⟩

set_option maxRecDepth 100000 in
set_option maxHeartbeats 4000000 in
theorem plus_same (u v : Value) (x y : Int) (Kx Ky K : Nat) (w : World) (hu : It w u x Kx) (hv : It w v y Ky) (hKx : Kx ≤ 1073741824) (hKy : Ky ≤ 1073741824) (h1 : Kx < K) (h2 : Ky < K) (hs : decide (x < 0) = decide (y < 0)) :
    Calls Tryz.prog 98 #[u, v] w (RetI w (x + y) K) := by
  obtain ⟨xb, xo, xm, xc, rfl, Hx, Hxs, Hxb⟩ := It.opened hu
  obtain ⟨yb, yo, ym, yc, rfl, Hy, Hys, Hyb⟩ := It.opened hv
  have hb : yb = xb := by rw [Hxb.out, Hyb.out, hs]
  subst hb
  have Hs := hid hs
  clear hs hu hv
  go_enter Tryz.func98, Tryz.ntmps98
  go_wp2
  obtain ⟨W0, hW0⟩ : ∃ W0, W0 = (((w.alloc (.cells #[.bool yb, .slice xo xm xc] 78)).alloc (.cells #[.bool yb, .slice yo ym yc] 78)).alloc (.cells #[.bool false, .slice none 0 0] 78)) := ⟨_, rfl⟩
  have hB0 : Below w.heap.size w W0 := by rw [hW0]; exact (((Below.refl _ _).alloc (by simp <;> omega) _).alloc (by simp <;> omega) _).alloc (by simp <;> omega) _
  have hz0 : W0.heap.size = w.heap.size + 3 := by rw [hW0]; simp
  have HS : Hid (∀ w', Below (w.heap.size + 2) W0 w' → w'.cell? ⟨w.heap.size, 0, none⟩ = some (.bool yb) ∧ w'.cell? ⟨w.heap.size, 1, none⟩ = some (.slice xo xm xc) ∧ w'.cell? ⟨w.heap.size + 1, 0, none⟩ = some (.bool yb) ∧ w'.cell? ⟨w.heap.size + 1, 1, none⟩ = some (.slice yo ym yc)) := hid (fun w' hb => by
    refine ⟨?_, ?_, ?_, ?_⟩ <;> (first | (rw [hb.cell (by simp <;> omega), hW0]; simp [go_sem]; done) | (rw [hb.frozen (by simp <;> omega), hW0]; simp [go_sem]; done)))
  have HT : Hid (∀ w', Below (w.heap.size + 3) W0 w' → w'.cell? ⟨w.heap.size + 2, 0, none⟩ = some (.bool false) ∧ w'.cell? ⟨w.heap.size + 2, 1, none⟩ = some (.slice none 0 0) ∧ w'.frozen? ⟨w.heap.size + 2, 0, none⟩ = false ∧ w'.frozen? ⟨w.heap.size + 2, 1, none⟩ = false) := hid (fun w' hb => by
    refine ⟨?_, ?_, ?_, ?_⟩ <;> (first | (rw [hb.cell (by simp <;> omega), hW0]; simp [go_sem]; done) | (rw [hb.frozen (by simp <;> omega), hW0]; simp [go_sem]; done)))
  rw [← hW0]
  clear hW0
  go_region_held3 (fun w' => w'.cell? ⟨w.heap.size, 0, none⟩ = some (.bool yb) ∧ w'.cell? ⟨w.heap.size, 1, none⟩ = some (.slice xo xm xc) ∧ w'.cell? ⟨w.heap.size + 1, 0, none⟩ = some (.bool yb) ∧ w'.cell? ⟨w.heap.size + 1, 1, none⟩ = some (.slice yo ym yc)) ((refine HS.out _ ?_; first | assumption | exact Below.refl _ _ | exact (Below.refl _ _).drew | exact ((hB2.mono (Nat.le_succ _)).setCell (Nat.le_refl _) _).setCell (Nat.le_refl _) _)) (first
    | (go_at_call 119; refine (add_any _ _ _ _ _ _ K _ (Hxs.out _ hB0.drew) (Hys.out _ hB0.drew) hKx hKy h1 h2).mono ?_; rintro e w1 ⟨v1, rfl, hv1, hb1⟩; have hB1 : Below (w.heap.size + 3) W0 w1 := ((Below.refl _ _).drew).trans (hb1.mono (by simp; omega)); have hB1s := hB1.mono (Nat.le_succ _))
    | (go_at_call 82; refine (signed_any yb v1 _ _ _ hv1).mono ?_; rintro e w2 ⟨_, rfl, ⟨_, rfl, qo, qc, QL, rfl, hq⟩, hb2⟩; have hB2 : Below (w.heap.size + 3) W0 w2 := hB1.trans (hb2.mono (by have := hB1.size; omega)); have hB2s := hB2.mono (Nat.le_succ _); obtain ⟨hr0, hr1, hr2, hr3⟩ := HT.out _ hB2))
  go_wp2
  have hbel : Below w.heap.size w w2 := hB0.trans (hB2.mono (by omega))
  refine bodyPost_ret (v := .agg #[.bool (decide (sgn yb ((x.natAbs : Int) + (y.natAbs : Int)) < 0)), .slice qo QL.length qc]) (by simp [results, Tryz.results98, go_sem, hr0, hr1]) rfl ⟨_, rfl, ?_, (hbel.setCell (by simp <;> omega) _).setCell (by simp <;> omega) _⟩
  have e : sgn yb ((x.natAbs : Int) + (y.natAbs : Int)) = (x + y) := by rw [Hyb.out]; have := Hs.out; unfold sgn; by_cases h : y < 0 <;> simp [h] at this ⊢ <;> omega
  have hfin : It w2 (.agg #[.bool (decide (sgn yb ((x.natAbs : Int) + (y.natAbs : Int)) < 0)), .slice qo QL.length qc]) (x + y) K := by
    rw [← e]; exact ⟨_, rfl, qo, qc, QL, rfl, hq.rd, hq.dig, hq.nrm, hq.eq, Nat.le_trans hq.le (by omega)⟩
  exact (hfin.set hr0 (fun x h => (by cases h)) _).set (u := .slice none 0 0) (by simp [go_sem, hr1]) (fun x h => (by cases h)) _

set_option maxRecDepth 100000 in
set_option maxHeartbeats 4000000 in
theorem plus_keep (u v : Value) (x y : Int) (Kx Ky K : Nat) (w : World) (hu : It w u x Kx) (hv : It w v y Ky) (hKx : Kx ≤ 1073741824) (_hKy : Ky ≤ 1073741824) (h1 : Kx < K) (_h2 : Ky < K) (hs : decide (x < 0) ≠ decide (y < 0)) (hc : y.natAbs ≤ x.natAbs) :
    Calls Tryz.prog 98 #[u, v] w (RetI w (x + y) K) := by
  obtain ⟨xb, xo, xm, xc, rfl, Hx, Hxs, Hxb⟩ := It.opened hu
  obtain ⟨yb, yo, ym, yc, rfl, Hy, Hys, Hyb⟩ := It.opened hv
  have hb : xb ≠ yb := by rw [Hxb.out, Hyb.out]; exact hs
  have hb1 : (xb == yb) = false := by simpa using hb
  have hcm : 0 ≤ cmpI (x.natAbs : Int) (y.natAbs : Int) := (by unfold cmpI; split <;> (try split) <;> omega)
  obtain ⟨cm, hcm'⟩ : ∃ cm, cm = cmpI (x.natAbs : Int) (y.natAbs : Int) := ⟨_, rfl⟩
  rw [← hcm'] at hcm
  have Hcm := hid hcm'
  have Hs := hid hs; have Hc := hid hc
  clear hs hu hv hc hcm'
  go_enter Tryz.func98, Tryz.ntmps98
  go_wp2_with fail
  refine (compare_any _ _ _ _ Kx Ky _ (Hxs.out _ (by repeat (first | exact Below.refl _ _ | refine Below.alloc ?_ (by simp <;> omega) _))) (Hys.out _ (by repeat (first | exact Below.refl _ _ | refine Below.alloc ?_ (by simp <;> omega) _)))).mono ?_
  rintro e w' ⟨nq, rfl, rfl⟩
  rw [← Hcm.out]
  go_wp2
  obtain ⟨W0, hW0⟩ : ∃ W0, W0 = (((w.alloc (.cells #[.bool xb, .slice xo xm xc] 78)).alloc (.cells #[.bool yb, .slice yo ym yc] 78)).alloc (.cells #[.bool false, .slice none 0 0] 78)).drewN nq := ⟨_, rfl⟩
  have hB0 : Below w.heap.size w W0 := by rw [hW0]; exact below_drewN ((((Below.refl _ _).alloc (by simp <;> omega) _).alloc (by simp <;> omega) _).alloc (by simp <;> omega) _) nq
  have hz0 : W0.heap.size = w.heap.size + 3 := by rw [hW0]; simp
  have HS : Hid (∀ w', Below (w.heap.size + 2) W0 w' → w'.cell? ⟨w.heap.size, 0, none⟩ = some (.bool xb) ∧ w'.cell? ⟨w.heap.size, 1, none⟩ = some (.slice xo xm xc) ∧ w'.cell? ⟨w.heap.size + 1, 0, none⟩ = some (.bool yb) ∧ w'.cell? ⟨w.heap.size + 1, 1, none⟩ = some (.slice yo ym yc)) := hid (fun w' hb => by
    refine ⟨?_, ?_, ?_, ?_⟩ <;> (first | (rw [hb.cell (by simp <;> omega), hW0]; simp [go_sem]; done) | (rw [hb.frozen (by simp <;> omega), hW0]; simp [go_sem]; done)))
  have HT : Hid (∀ w', Below (w.heap.size + 3) W0 w' → w'.cell? ⟨w.heap.size + 2, 0, none⟩ = some (.bool false) ∧ w'.cell? ⟨w.heap.size + 2, 1, none⟩ = some (.slice none 0 0) ∧ w'.frozen? ⟨w.heap.size + 2, 0, none⟩ = false ∧ w'.frozen? ⟨w.heap.size + 2, 1, none⟩ = false) := hid (fun w' hb => by
    refine ⟨?_, ?_, ?_, ?_⟩ <;> (first | (rw [hb.cell (by simp <;> omega), hW0]; simp [go_sem]; done) | (rw [hb.frozen (by simp <;> omega), hW0]; simp [go_sem]; done)))
  rw [← hW0]
  clear hW0
  go_region_held3 (fun w' => w'.cell? ⟨w.heap.size, 0, none⟩ = some (.bool xb) ∧ w'.cell? ⟨w.heap.size, 1, none⟩ = some (.slice xo xm xc) ∧ w'.cell? ⟨w.heap.size + 1, 0, none⟩ = some (.bool yb) ∧ w'.cell? ⟨w.heap.size + 1, 1, none⟩ = some (.slice yo ym yc)) ((refine HS.out _ ?_; first | assumption | exact Below.refl _ _ | exact (Below.refl _ _).drew | exact ((hB2.mono (Nat.le_succ _)).setCell (Nat.le_refl _) _).setCell (Nat.le_refl _) _)) (first
    | (go_at_call 124; refine (subtract_any _ _ _ _ Kx Ky _ (Hxs.out _ hB0.drew) (Hys.out _ hB0.drew) hKx (by have := Hc.out; omega)).mono ?_; rintro e w1 ⟨v1, rfl, hv1, hb1⟩; have hB1 : Below (w.heap.size + 3) W0 w1 := ((Below.refl _ _).drew).trans (hb1.mono (by simp; omega)); have hB1s := hB1.mono (Nat.le_succ _))
    | (go_at_call 82; refine (signed_any xb v1 _ _ _ hv1).mono ?_; rintro e w2 ⟨_, rfl, ⟨_, rfl, qo, qc, QL, rfl, hq⟩, hb2⟩; have hB2 : Below (w.heap.size + 3) W0 w2 := hB1.trans (hb2.mono (by have := hB1.size; omega)); have hB2s := hB2.mono (Nat.le_succ _); obtain ⟨hr0, hr1, hr2, hr3⟩ := HT.out _ hB2))
  go_wp2
  have hbel : Below w.heap.size w w2 := hB0.trans (hB2.mono (by omega))
  refine bodyPost_ret (v := .agg #[.bool (decide (sgn xb ((x.natAbs : Int) - (y.natAbs : Int)) < 0)), .slice qo QL.length qc]) (by simp [results, Tryz.results98, go_sem, hr0, hr1]) rfl ⟨_, rfl, ?_, (hbel.setCell (by simp <;> omega) _).setCell (by simp <;> omega) _⟩
  have e : sgn xb ((x.natAbs : Int) - (y.natAbs : Int)) = (x + y) := by rw [Hxb.out]; exact sgn_diff x y Hs.out
  have hfin : It w2 (.agg #[.bool (decide (sgn xb ((x.natAbs : Int) - (y.natAbs : Int)) < 0)), .slice qo QL.length qc]) (x + y) K := by
    rw [← e]; exact ⟨_, rfl, qo, qc, QL, rfl, hq.rd, hq.dig, hq.nrm, hq.eq, Nat.le_trans hq.le (by omega)⟩
  exact (hfin.set hr0 (fun x h => (by cases h)) _).set (u := .slice none 0 0) (by simp [go_sem, hr1]) (fun x h => (by cases h)) _

set_option maxRecDepth 100000 in
set_option maxHeartbeats 4000000 in
theorem plus_swap (u v : Value) (x y : Int) (Kx Ky K : Nat) (w : World) (hu : It w u x Kx) (hv : It w v y Ky) (_hKx : Kx ≤ 1073741824) (hKy : Ky ≤ 1073741824) (_h1 : Kx < K) (h2 : Ky < K) (hs : decide (x < 0) ≠ decide (y < 0)) (hc : x.natAbs < y.natAbs) :
    Calls Tryz.prog 98 #[u, v] w (RetI w (x + y) K) := by
  obtain ⟨xb, xo, xm, xc, rfl, Hx, Hxs, Hxb⟩ := It.opened hu
  obtain ⟨yb, yo, ym, yc, rfl, Hy, Hys, Hyb⟩ := It.opened hv
  have hb : xb ≠ yb := by rw [Hxb.out, Hyb.out]; exact hs
  have hb1 : (xb == yb) = false := by simpa using hb
  have hcm : cmpI (x.natAbs : Int) (y.natAbs : Int) < 0 := (by rw [cmpI_lt (by omega)]; decide)
  obtain ⟨cm, hcm'⟩ : ∃ cm, cm = cmpI (x.natAbs : Int) (y.natAbs : Int) := ⟨_, rfl⟩
  rw [← hcm'] at hcm
  have Hcm := hid hcm'
  have Hs := hid hs; have Hc := hid hc
  clear hs hu hv hc hcm'
  go_enter Tryz.func98, Tryz.ntmps98
  go_wp2_with fail
  refine (compare_any _ _ _ _ Kx Ky _ (Hxs.out _ (by repeat (first | exact Below.refl _ _ | refine Below.alloc ?_ (by simp <;> omega) _))) (Hys.out _ (by repeat (first | exact Below.refl _ _ | refine Below.alloc ?_ (by simp <;> omega) _)))).mono ?_
  rintro e w' ⟨nq, rfl, rfl⟩
  rw [← Hcm.out]
  obtain ⟨W0, hW0⟩ : ∃ W0, W0 = (((w.alloc (.cells #[.bool xb, .slice xo xm xc] 78)).alloc (.cells #[.bool yb, .slice yo ym yc] 78)).alloc (.cells #[.bool false, .slice none 0 0] 78)).drewN nq := ⟨_, rfl⟩
  rw [← hW0]
  obtain ⟨k0, k1, k2, k3, k4, k5, f0, f1, f2, f3, f4, f5⟩ : W0.cell? ⟨w.heap.size, 0, none⟩ = some (.bool xb) ∧ W0.cell? ⟨w.heap.size, 1, none⟩ = some (.slice xo xm xc) ∧ W0.cell? ⟨w.heap.size + 1, 0, none⟩ = some (.bool yb) ∧ W0.cell? ⟨w.heap.size + 1, 1, none⟩ = some (.slice yo ym yc) ∧ W0.cell? ⟨w.heap.size + 2, 0, none⟩ = some (.bool false) ∧ W0.cell? ⟨w.heap.size + 2, 1, none⟩ = some (.slice none 0 0) ∧ W0.frozen? ⟨w.heap.size, 0, none⟩ = false ∧ W0.frozen? ⟨w.heap.size, 1, none⟩ = false ∧ W0.frozen? ⟨w.heap.size + 1, 0, none⟩ = false ∧ W0.frozen? ⟨w.heap.size + 1, 1, none⟩ = false ∧ W0.frozen? ⟨w.heap.size + 2, 0, none⟩ = false ∧ W0.frozen? ⟨w.heap.size + 2, 1, none⟩ = false := by
    rw [hW0]; refine ⟨?_, ?_, ?_, ?_, ?_, ?_, ?_, ?_, ?_, ?_, ?_, ?_⟩ <;> first | (rw [cell_drewN]; simp [go_sem]; done) | (simp [go_sem]; done)
  have hb00 : Below w.heap.size w W0 := by rw [hW0]; exact below_drewN ((((Below.refl _ _).alloc (by simp <;> omega) _).alloc (by simp <;> omega) _).alloc (by simp <;> omega) _) nq
  have hz00 : W0.heap.size = w.heap.size + 3 := by rw [hW0]; simp
  clear hW0
  go_wp2
  obtain ⟨W1, hW1⟩ : ∃ W1, W1 = ((((W0.setCell ⟨w.heap.size, 0, none⟩ (.bool yb)).setCell ⟨w.heap.size, 1, none⟩ (.slice yo ym yc)).setCell ⟨w.heap.size + 1, 0, none⟩ (.bool xb)).setCell ⟨w.heap.size + 1, 1, none⟩ (.slice xo xm xc)) := ⟨_, rfl⟩
  have hB0 : Below w.heap.size w W1 := by rw [hW1]; exact (((hb00.setCell (by simp <;> omega) _).setCell (by simp <;> omega) _).setCell (by simp <;> omega) _).setCell (by simp <;> omega) _
  have hz0 : W1.heap.size = w.heap.size + 3 := by rw [hW1]; simp [hz00]
  have HS : Hid (∀ w', Below (w.heap.size + 2) W1 w' → w'.cell? ⟨w.heap.size, 0, none⟩ = some (.bool yb) ∧ w'.cell? ⟨w.heap.size, 1, none⟩ = some (.slice yo ym yc) ∧ w'.cell? ⟨w.heap.size + 1, 0, none⟩ = some (.bool xb) ∧ w'.cell? ⟨w.heap.size + 1, 1, none⟩ = some (.slice xo xm xc)) := hid (fun w' hb => by
    refine ⟨?_, ?_, ?_, ?_⟩ <;> (first | (rw [hb.cell (by simp <;> omega), hW1]; simp [go_sem, *]; done) | (rw [hb.frozen (by simp <;> omega), hW1]; simp [go_sem, *]; done)))
  have HT : Hid (∀ w', Below (w.heap.size + 3) W1 w' → w'.cell? ⟨w.heap.size + 2, 0, none⟩ = some (.bool false) ∧ w'.cell? ⟨w.heap.size + 2, 1, none⟩ = some (.slice none 0 0) ∧ w'.frozen? ⟨w.heap.size + 2, 0, none⟩ = false ∧ w'.frozen? ⟨w.heap.size + 2, 1, none⟩ = false) := hid (fun w' hb => by
    refine ⟨?_, ?_, ?_, ?_⟩ <;> (first | (rw [hb.cell (by simp <;> omega), hW1]; simp [go_sem, *]; done) | (rw [hb.frozen (by simp <;> omega), hW1]; simp [go_sem, *]; done)))
  rw [← hW1]
  clear hW1 k0 k1 k2 k3 k4 k5 f0 f1 f2 f3 f4 f5
  go_region_held3 (fun w' => w'.cell? ⟨w.heap.size, 0, none⟩ = some (.bool yb) ∧ w'.cell? ⟨w.heap.size, 1, none⟩ = some (.slice yo ym yc) ∧ w'.cell? ⟨w.heap.size + 1, 0, none⟩ = some (.bool xb) ∧ w'.cell? ⟨w.heap.size + 1, 1, none⟩ = some (.slice xo xm xc)) ((refine HS.out _ ?_; first | assumption | exact Below.refl _ _ | exact (Below.refl _ _).drew | exact ((hB2.mono (Nat.le_succ _)).setCell (Nat.le_refl _) _).setCell (Nat.le_refl _) _)) (first
    | (go_at_call 124; refine (subtract_any _ _ _ _ Ky Kx _ (Hys.out _ hB0.drew) (Hxs.out _ hB0.drew) hKy (by have := Hc.out; omega)).mono ?_; rintro e w1 ⟨v1, rfl, hv1, hb1⟩; have hB1 : Below (w.heap.size + 3) W1 w1 := ((Below.refl _ _).drew).trans (hb1.mono (by simp; omega)); have hB1s := hB1.mono (Nat.le_succ _))
    | (go_at_call 82; refine (signed_any yb v1 _ _ _ hv1).mono ?_; rintro e w2 ⟨_, rfl, ⟨_, rfl, qo, qc, QL, rfl, hq⟩, hb2⟩; have hB2 : Below (w.heap.size + 3) W1 w2 := hB1.trans (hb2.mono (by have := hB1.size; omega)); have hB2s := hB2.mono (Nat.le_succ _); obtain ⟨hr0, hr1, hr2, hr3⟩ := HT.out _ hB2))
  go_wp2
  have hbel : Below w.heap.size w w2 := hB0.trans (hB2.mono (by omega))
  refine bodyPost_ret (v := .agg #[.bool (decide (sgn yb ((y.natAbs : Int) - (x.natAbs : Int)) < 0)), .slice qo QL.length qc]) (by simp [results, Tryz.results98, go_sem, hr0, hr1]) rfl ⟨_, rfl, ?_, (hbel.setCell (by simp <;> omega) _).setCell (by simp <;> omega) _⟩
  have e : sgn yb ((y.natAbs : Int) - (x.natAbs : Int)) = (x + y) := by rw [Hyb.out]; rw [Int.add_comm]; exact sgn_diff y x (Ne.symm Hs.out)
  have hfin : It w2 (.agg #[.bool (decide (sgn yb ((y.natAbs : Int) - (x.natAbs : Int)) < 0)), .slice qo QL.length qc]) (x + y) K := by
    rw [← e]; exact ⟨_, rfl, qo, qc, QL, rfl, hq.rd, hq.dig, hq.nrm, hq.eq, Nat.le_trans hq.le (by omega)⟩
  exact (hfin.set hr0 (fun x h => (by cases h)) _).set (u := .slice none 0 0) (by simp [go_sem, hr1]) (fun x h => (by cases h)) _

theorem plus_any (u v : Value) (x y : Int) (Kx Ky K : Nat) (w : World) (hu : It w u x Kx) (hv : It w v y Ky) (hKx : Kx ≤ 1073741824) (hKy : Ky ≤ 1073741824) (h1 : Kx < K) (h2 : Ky < K) :
    Calls Tryz.prog 98 #[u, v] w (RetI w (x + y) K) := by
  by_cases hs : decide (x < 0) = decide (y < 0)
  · exact plus_same u v x y Kx Ky K w hu hv hKx hKy h1 h2 hs
  · by_cases hc : y.natAbs ≤ x.natAbs
    · exact plus_keep u v x y Kx Ky K w hu hv hKx hKy h1 h2 hs hc
    · exact plus_swap u v x y Kx Ky K w hu hv hKx hKy h1 h2 hs (by omega)

end Go.Proofs.YtbapeilpkhbbeaaGreat

/- exact.Normal, Neg, Add, Sub. Written by gen_int3.py. -/
namespace Go.Proofs.YtbapeilpkhbbeaaGreat
open Go.RowKit

theorem FrA.set {w1 w : World} {v : Value} {z : Int} {K : Nat} (h : FrA w1 w v z K) {a : Addr} (ha : a.block < w1.heap.size) (u : Value) : FrA w1 (w.setCell a u) v z K := by
  obtain ⟨s, rfl, h⟩ := h; exact ⟨s, rfl, h.set ha u⟩

end Go.Proofs.YtbapeilpkhbbeaaGreat

/- exact.addProduct: it adds a product to a row. -/
namespace Go.Proofs.YtbapeilpkhbbeaaGreat
open Go.RowKit

theorem mul_le (x y : Int) (h0 : 0 ≤ x) (h1 : x < B64) (k0 : 0 ≤ y) (k1 : y < B64) : 0 ≤ x * y ∧ x * y ≤ 340282366920938463426481119284349108225 := by
  refine ⟨Int.mul_nonneg h0 k0, ?_⟩
  have a : x * y ≤ 18446744073709551615 * y := Int.mul_le_mul_of_nonneg_right (by unfold B64 at h1; omega) k0
  unfold B64 at k1; omega

/-- bits.Mul64, its two results under names. -/
theorem mul64_ex (x y : Int) (hx : 0 ≤ x) (hx' : x < B64) (hy : 0 ≤ y) (hy' : y < B64) (w : World) :
    Calls Tryz.prog 147 #[.int .u64 x, .int .u64 y] w fun e w' => ∃ hi lo, e = .returned (.tuple #[.int .u64 hi, .int .u64 lo]) ∧ (0 ≤ hi ∧ 0 ≤ lo ∧ lo < B64 ∧ hi ≤ 18446744073709551614 ∧ Hid (lo + B64 * hi = x * y)) ∧ w = w' := by
  refine (mul64 x y hx hx' hy hy' w).mono ?_
  rintro e w' ⟨rfl, rfl⟩
  have h := mul_le x y hx hx' hy hy'
  refine ⟨_, _, rfl, ⟨Int.ediv_nonneg h.1 (by decide), Int.emod_nonneg _ (by decide), Int.emod_lt_of_pos _ B64_pos, ?_, hid (Int.emod_add_mul_ediv _ _)⟩, rfl⟩
  have h2 := h.2
  unfold B64; omega

theorem add64_ex (x y c : Int) (hx : 0 ≤ x) (hx' : x < B64) (hy : 0 ≤ y) (hy' : y < B64) (hc0 : 0 ≤ c) (hc : c ≤ 1) :
    ∃ s d, (∀ w, (callFunc 148 #[.int .u64 x, .int .u64 y, .int .u64 c]).run Tryz.prog w = .ok (.value (.tuple #[.int .u64 s, .int .u64 d])) w) ∧ (0 ≤ s ∧ s < B64 ∧ 0 ≤ d ∧ d ≤ 1) ∧ s + B64 * d = x + y + c := by
  refine ⟨_, _, fun w => add64 x y c hx hy hc0 hc w, ⟨Int.emod_nonneg _ (by decide), Int.emod_lt_of_pos _ B64_pos, ?_, ?_⟩, Int.emod_add_mul_ediv _ _⟩
  · exact Int.ediv_nonneg (by omega) (by decide)
  · unfold B64 at *; omega

/-- What holds after k limbs. -/
structure MulI (w wr : World) (g : Nat) (P A S : List Int) (k : Nat) (m : Int) (A1 : List Int) (cc : Int) : Prop where
  len : A1.length = A.length
  dig : Dig B64 A1
  c0 : 0 ≤ cc
  c1 : cc < B64
  row : Row .u64 106 wr g (P ++ A1 ++ S)
  gr : w.grownBy wr (some g)
  eq : val B64 A1 + B64 ^ k * cc = val B64 A + m

theorem MulI.step {w wr : World} {g : Nat} {P A S : List Int} {k : Nat} {m : Int} {A1 : List Int} {cc : Int} (h : MulI w wr g P A S k m A1 cc) (p o d : Int) (h0 : 0 ≤ o) (h1 : o < B64) (d0 : 0 ≤ d) (d1 : d < B64) (he : o + B64 * d = A1[k]?.getD 0 + p + cc) (hk : k < A.length) :
    MulI w (wr.setCell ⟨g, P.length + k, none⟩ (.int .u64 o)) g P A S (k + 1) (m + B64 ^ k * p) (A1.set k o) d := by
  have hl : k < A1.length := by rw [h.len]; exact hk
  have hr := h.row.set (P.length + k) o
  rw [mid_set P A1 S k _ hl] at hr
  refine ⟨by simpa using h.len, h.dig.set k h0 h1, d0, d1, hr, grown_trans h.gr (grown_set _ _ _ _), ?_⟩
  rw [val_set _ _ _ _ hl, Int.pow_succ]
  have e := h.eq
  grind

end Go.Proofs.YtbapeilpkhbbeaaGreat

/- exact.multiplyLimbs. -/
namespace Go.Proofs.YtbapeilpkhbbeaaGreat
open Go.RowKit

/-- After k limbs of the second factor: Q is the product so far. -/
structure LimbI (w wr : World) (g : Nat) (LA LB : List Int) (k : Nat) (Q : List Int) : Prop where
  row : Row .u64 106 wr g (Q ++ List.replicate (LB.length - k) 0)
  gr : w.grownBy wr (some g)
  len : Q.length = LA.length + k
  dig : Dig B64 Q
  eq : val B64 Q = val B64 LA * val B64 (LB.take k)

theorem LimbI.step {w wr w1 : World} {g : Nat} {LA LB Q A1 : List Int} {k : Nat} {cc y : Int} (h : LimbI w wr g LA LB k Q) (hk : k < LB.length) (hy : y = LB[k]?.getD 0)
    (hm : MulI wr w1 g (Q.take k) (Q.drop k) (List.replicate (LB.length - k) 0) (Q.drop k).length (val B64 LA * y) A1 cc) :
    LimbI w (w1.setCell ⟨g, k + LA.length, none⟩ (.int .u64 cc)) g LA LB (k + 1) (Q.take k ++ A1 ++ [cc]) := by
  have hl1 : A1.length = LA.length := by rw [hm.len, List.length_drop, h.len]; omega
  have hlP : (Q.take k).length = k := by rw [List.length_take, h.len]; omega
  have hr := hm.row.set (k + LA.length) cc
  have hz : LB.length - k = (LB.length - (k + 1)) + 1 := by omega
  rw [hz, List.replicate_succ, List.set_append_right _ _ (by simp [hlP, hl1]), show k + LA.length - (Q.take k ++ A1).length = 0 by simp [hlP, hl1], List.set_cons_zero] at hr
  refine ⟨by simpa [List.append_assoc] using hr, grown_trans (grown_trans h.gr hm.gr) (grown_set _ _ _ _), by simp [hlP, hl1]; omega, ((h.dig.take k).append hm.dig).append (Dig.cons hm.c0 hm.c1 (Dig.nil _)), ?_⟩
  have e := hm.eq
  have ld : (Q.drop k).length = LA.length := by rw [List.length_drop, h.len]; omega
  rw [ld] at e
  rw [List.append_assoc, val_append, val_snoc, hlP, hl1, e, val_take_succ B64 LB k hk, ← hy]
  have e2 := val_append B64 (Q.take k) (Q.drop k)
  rw [List.take_append_drop, hlP, h.eq] at e2
  grind

end Go.Proofs.YtbapeilpkhbbeaaGreat

/- exact.multiply of factors of fewer than 80 limbs. -/
namespace Go.Proofs.YtbapeilpkhbbeaaGreat
open Go.RowKit

end Go.Proofs.YtbapeilpkhbbeaaGreat

/- exact.integer: times; exact.Mul, Sign, sign. Written by gen_int4.py. -/
namespace Go.Proofs.YtbapeilpkhbbeaaGreat
open Go.RowKit

theorem sgn_mul (x y : Int) : sgn (decide (x < 0) != decide (y < 0)) ((x.natAbs : Int) * (y.natAbs : Int)) = x * y := by
  have hx : (x.natAbs : Int) = if x < 0 then -x else x := by split <;> omega
  have hy : (y.natAbs : Int) = if y < 0 then -y else y := by split <;> omega
  rw [hx, hy]
  by_cases h1 : x < 0 <;> by_cases h2 : y < 0 <;> simp [h1, h2, sgn, Int.neg_mul, Int.mul_neg]

end Go.Proofs.YtbapeilpkhbbeaaGreat

/- Lehmer's steps of a common divisor: plain arithmetic. -/
namespace Go.Proofs.YtbapeilpkhbbeaaGreat

theorem leh_mul {u x D S : Int} (h0 : 0 ≤ u) (h1 : u ≤ D) (a0 : 0 ≤ x) (a1 : x < S) : 0 ≤ u * x ∧ u * x ≤ D * S - D := by
  refine ⟨Int.mul_nonneg h0 a0, ?_⟩
  have h2 : u * x ≤ D * x := Int.mul_le_mul_of_nonneg_right h1 a0
  have h3 : D * x ≤ D * (S - 1) := Int.mul_le_mul_of_nonneg_left (by omega) (by omega)
  rw [Int.mul_sub, Int.mul_one] at h3
  omega
theorem leh_pos {g u v x y D S : Int} (hg : g = 1 ∨ g = -1) (hu0 : 0 ≤ u) (hu : u ≤ D) (hv0 : 0 ≤ v) (hv : v ≤ D) (x0 : 0 ≤ x) (x1 : x < S) (y0 : 0 ≤ y) (y1 : y < S) : D ≤ D * S + g * (u * x - v * y) := by
  have h1 := leh_mul hu0 hu x0 x1
  have h2 := leh_mul hv0 hv y0 y1
  generalize u * x = p at *
  generalize v * y = q at *
  generalize D * S = r at *
  rcases hg with rfl | rfl
  · rw [Int.one_mul]; omega
  · rw [Int.neg_mul, Int.one_mul]; omega

/-- Some of Euclid's steps of a and b, told by their highest bits A and B. -/
structure LehN (a b A B : Int) (cnt a0 b0 a1 b1 hi lo : Int) : Prop where
  c0 : 0 ≤ cnt
  cb : cnt + 1 ≤ b0 + b1
  a00 : 0 ≤ a0
  b00 : 0 ≤ b0
  a10 : 0 ≤ a1
  b11 : 1 ≤ b1
  ab1 : a1 ≤ b1
  abs : a0 + a1 ≤ b0 + b1
  b0s : b0 < 4294967296
  b1s : b1 < 4294967296
  lo0 : 0 ≤ lo
  le : lo ≤ hi
  eA : b1 * hi + b0 * lo = A
  eB : a1 * hi + a0 * lo = B
  sg : ∃ g R0 R1 : Int, (g = 1 ∧ cnt % 2 = 0 ∨ g = -1 ∧ cnt % 2 = 1) ∧ R0 = g * (a0 * a - b0 * b) ∧ R1 = g * (b1 * b - a1 * a) ∧ hi = g * (a0 * A - b0 * B) ∧ lo = g * (b1 * B - a1 * A) ∧
    0 ≤ R1 ∧ (cnt = 0 ∧ R1 = b ∨ 0 < cnt ∧ R1 < R0 ∧ R0 ≤ b) ∧ Int.gcd R0 R1 = Int.gcd a b

theorem LehN.start {a b A B : Int} (hb : 0 ≤ b) (hB : 0 ≤ B) (hAB : B ≤ A) : LehN a b A B 0 1 0 0 1 A B :=
  ⟨by decide, by decide, by decide, by decide, by decide, by decide, by decide, by decide, by decide, by decide, hB, hAB, by omega, by omega, 1, a, b, .inl ⟨rfl, rfl⟩, by omega, by omega, by omega, by omega, hb, .inl ⟨rfl, rfl⟩, rfl⟩

theorem gcd_sub_mul (x y q : Int) : Int.gcd y (x - q * y) = Int.gcd x y := by
  apply Nat.dvd_antisymm
  · apply Int.dvd_gcd
    · have h1 := Int.gcd_dvd_left y (x - q * y)
      have h2 := Int.gcd_dvd_right y (x - q * y)
      have := Int.dvd_add h2 (Int.dvd_mul_of_dvd_right h1 (b := q))
      simpa using this
    · exact Int.gcd_dvd_left y (x - q * y)
  · apply Int.dvd_gcd
    · exact Int.gcd_dvd_right x y
    · exact Int.dvd_sub (Int.gcd_dvd_left x y) (Int.dvd_mul_of_dvd_right (Int.gcd_dvd_right x y))

/-- What the numbers of the next step are at most. -/
structure LehB (a0 b0 a1 b1 hi lo q rest a2 b2 : Int) : Prop where
  q1 : 1 ≤ q
  qh : q * lo ≤ hi
  r0 : 0 ≤ rest
  r1 : rest < lo
  a20 : 0 ≤ a2
  qa0 : 0 ≤ q * a1
  qa : q * a1 ≤ a2
  ab2 : a2 ≤ b2
  qb0 : 0 ≤ q * b1
  qb : q * b1 ≤ b2
  b21 : 1 ≤ b2
  bA : b2 * lo + b1 * rest = b1 * hi + b0 * lo
  bB : a2 * lo + a1 * rest = a1 * hi + a0 * lo

theorem LehN.bounds {a b A B cnt a0 b0 a1 b1 hi lo : Int} (H : LehN a b A B cnt a0 b0 a1 b1 hi lo) (hlo : 0 < lo) :
    LehB a0 b0 a1 b1 hi lo (hi / lo) (hi - hi / lo * lo) (a0 + hi / lo * a1) (b0 + hi / lo * b1) := by
  have e := Int.emod_add_mul_ediv hi lo
  have m0 := Int.emod_nonneg hi (show lo ≠ 0 by omega)
  have m1 := Int.emod_lt_of_pos hi hlo
  have q1 : 1 ≤ hi / lo := by
    have := Int.ediv_le_ediv hlo H.le
    rw [Int.ediv_self (by omega)] at this; exact this
  rw [Int.mul_comm lo] at e
  generalize hi / lo = q at *
  generalize hi % lo = m at *
  have ha := H.a10; have hb := H.b11; have h1 := H.ab1; have h2 := H.abs; have h3 := H.a00; have h4 := H.b00
  have f1 : 0 ≤ q * a1 := Int.mul_nonneg (by omega) ha
  have f2 : 0 ≤ q * b1 := Int.mul_nonneg (by omega) (by omega)
  have f3 : (q - 1) * a1 ≤ (q - 1) * b1 := Int.mul_le_mul_of_nonneg_left h1 (by omega)
  have f4 : 1 * 1 ≤ q * b1 := Int.mul_le_mul q1 hb (by decide) (by omega)
  rw [Int.sub_mul, Int.sub_mul, Int.one_mul, Int.one_mul] at f3
  refine ⟨q1, by omega, by omega, by omega, by omega, f1, by omega, by omega, f2, by omega, by omega, ?_, ?_⟩
  · have : hi - q * lo = m := by omega
    rw [← e]; grind
  · rw [← e]; grind

/-- A factor of what is small is small. -/
theorem leh_le {u x p A : Int} (hu : 0 ≤ u) (hx : 1 ≤ x) (hp : 0 ≤ p) (h : u * x + p = A) : u ≤ A := by
  have : u * 1 ≤ u * x := Int.mul_le_mul_of_nonneg_left hx hu
  omega

theorem LehB.fits {a0 b0 a1 b1 hi lo q rest a2 b2 A B : Int} (h : LehB a0 b0 a1 b1 hi lo q rest a2 b2) (hA : b1 * hi + b0 * lo = A) (hB : a1 * hi + a0 * lo = B) (hb1 : 1 ≤ b1) (ha1 : 0 ≤ a1) : b2 ≤ A ∧ a2 ≤ B ∧ (b2 ≤ rest → b1 + b2 ≤ A ∧ b2 * b2 ≤ A) := by
  have hlo : 1 ≤ lo := by have := h.r0; have := h.r1; omega
  have e1 := h.bA; have e2 := h.bB
  rw [hA] at e1; rw [hB] at e2
  have p1 : 0 ≤ b1 * rest := Int.mul_nonneg (by omega) h.r0
  have p2 : 0 ≤ a1 * rest := Int.mul_nonneg ha1 h.r0
  refine ⟨leh_le (by have := h.b21; omega) hlo p1 e1, leh_le h.a20 hlo p2 e2, fun hr => ?_⟩
  have hb2 := h.b21
  have g1 : b2 * 1 ≤ b2 * lo := Int.mul_le_mul_of_nonneg_left hlo (by omega)
  have g2 : b1 * 1 ≤ b1 * rest := Int.mul_le_mul_of_nonneg_left (by omega) (by omega)
  have g3 : b2 * b2 ≤ b2 * lo := Int.mul_le_mul_of_nonneg_left (by have := h.r1; omega) (by omega)
  constructor <;> omega

theorem sq_lt {x A : Int} (h : x * x ≤ A) (hA : A < 18446744073709551616) : x < 4294967296 := by
  by_cases h1 : x < 4294967296
  · exact h1
  · have : (4294967296 : Int) * 4294967296 ≤ x * x := Int.mul_le_mul (by omega) (by omega) (by decide) (by omega)
    omega

theorem LehN.next {a b A B S x y cnt a0 b0 a1 b1 hi lo q rest a2 b2 : Int} (H : LehN a b A B cnt a0 b0 a1 b1 hi lo) (h : LehB a0 b0 a1 b1 hi lo q rest a2 b2) (hr : rest = hi - q * lo) (h2 : a2 = a0 + q * a1) (h3 : b2 = b0 + q * b1)
    (ha : a = A * S + x) (hb : b = B * S + y) (x0 : 0 ≤ x) (x1 : x < S) (y0 : 0 ≤ y) (y1 : y < S) (hA : A < 18446744073709551616) (k1 : b2 ≤ rest) (k2 : b1 + b2 ≤ lo - rest) : LehN a b A B (cnt + 1) a1 b1 a2 b2 lo rest := by
  obtain ⟨g, R0, R1, hg, e0, e1, e2, e3, hp, hc, hgcd⟩ := H.sg
  have hg' : g = 1 ∨ g = -1 := by rcases hg with h | h; exact .inl h.1; exact .inr h.1
  have f := h.fits H.eA H.eB H.b11 H.a10
  have hsq := sq_lt (f.2.2 k1).2 hA
  have ab1 := H.ab1; have ab2 := h.ab2; have a10 := H.a10; have b11 := H.b11; have a20 := h.a20; have b21 := h.b21
  have w1 : R0 - q * R1 = rest * S + g * (a2 * x - b2 * y) := by
    rw [e0, e1, hr, e2, e3, ha, hb, h2, h3]; grind
  have w2 : R1 - (R0 - q * R1) = (lo - rest) * S + g * ((b1 + b2) * y - (a1 + a2) * x) := by
    rw [e0, e1, hr, e2, e3, ha, hb, h2, h3]; grind
  have p1 := leh_pos hg' a20 (by omega) (by omega) k1 x0 x1 y0 y1
  have p2 := leh_pos (D := lo - rest) hg' (by omega) k2 (show 0 ≤ a1 + a2 by omega) (by omega) y0 y1 x0 x1
  rw [← w1] at p1
  rw [← w2] at p2
  have r0 := h.r0; have r1 := h.r1
  refine ⟨by have := H.c0; omega, ?_, a10, by omega, a20, by omega, ab2, by omega, H.b1s, hsq, r0, by omega, by rw [h.bA]; exact H.eA, by rw [h.bB]; exact H.eB, -g, R1, R0 - q * R1, ?_, ?_, ?_, ?_, ?_, by omega, .inr ⟨by have := H.c0; omega, by omega, ?_⟩, ?_⟩
  · have h5 := H.cb; have h6 := h.qb; have h7 := h.q1
    have : 1 * b1 ≤ q * b1 := Int.mul_le_mul_of_nonneg_right h7 (by omega)
    omega
  · rcases hg with ⟨rfl, h⟩ | ⟨rfl, h⟩
    · right; exact ⟨rfl, by omega⟩
    · left; exact ⟨rfl, by omega⟩
  · rw [e1]; grind
  · rw [e0, e1, h2, h3]; grind
  · rw [e3]; grind
  · rw [hr, e2, e3, h2, h3]; grind
  · rcases hc with ⟨_, h⟩ | ⟨_, h, h'⟩ <;> omega
  · rw [← hgcd]; exact gcd_sub_mul R0 R1 q

end Go.Proofs.YtbapeilpkhbbeaaGreat
