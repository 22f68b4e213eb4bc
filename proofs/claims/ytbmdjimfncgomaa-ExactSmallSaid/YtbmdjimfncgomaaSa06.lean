/- exact.Normal, Neg, Add, Sub. Written by gen_int3.py. exact.addProduct: it adds a product to a row. exact.multiplyLimbs. exact.multiply of factors of fewer than 80 limbs. exact.integer: times; exact.Mul, Sign, sign. Written by gen_int4.py. The document's own integers: Mul. -/
import Derived.Test.YtbmdjimfncgomaaSa03
import Derived.Test.YtbmdjimfncgomaaSa01
import Derived.Test.YtbmdjimfncgomaaSa05
/- exact.Normal, Neg, Add, Sub. Written by gen_int3.py. -/
namespace Go.Proofs.Ytbmdjimfncgomaa
open Go.RowKit

theorem FrA.set {w1 w : World} {v : Value} {z : Int} {K : Nat} (h : FrA w1 w v z K) {a : Addr} (ha : a.block < w1.heap.size) (u : Value) : FrA w1 (w.setCell a u) v z K := by
  obtain ⟨s, rfl, h⟩ := h; exact ⟨s, rfl, h.set ha u⟩

set_option maxRecDepth 100000 in
set_option maxHeartbeats 4000000 in
theorem Add_any (u v : Value) (x y : Int) (Kx Ky K : Nat) (w : World) (hu : Ai w u x Kx) (hv : Ai w v y Ky) (hKx : Kx < K) (hKy : Ky < K) (hK : K ≤ 1073741824) :
    Calls Try.prog 10 #[u, v] w (RetA w (x + y) (2 * (K / 2 + 1))) := by
  obtain ⟨xb, xo, xm, xc, rfl, Hx⟩ := Ai.opened hu
  obtain ⟨yb, yo, ym, yc, rfl, Hy⟩ := Ai.opened hv
  go_enter Try.func10, Try.ntmps10
  go_wp2
  obtain ⟨W0, hW0⟩ : ∃ W0, W0 = (((w.alloc (.cells #[.bool xb, .slice xo xm xc] 24)).alloc (.cells #[.bool yb, .slice yo ym yc] 24)).alloc (.cells #[.bool false, .slice none 0 0] 24)) := ⟨_, rfl⟩
  have hB0 : Below w.heap.size w W0 := by rw [hW0]; exact (((Below.refl _ _).alloc (by simp <;> omega) _).alloc (by simp <;> omega) _).alloc (by simp <;> omega) _
  have hz0 : W0.heap.size = w.heap.size + 3 := by rw [hW0]; simp
  have HS : Hid (∀ w', Below (w.heap.size + 2) W0 w' → w'.cell? ⟨w.heap.size, 0, none⟩ = some (.bool xb) ∧ w'.cell? ⟨w.heap.size, 1, none⟩ = some (.slice xo xm xc) ∧ w'.cell? ⟨w.heap.size + 1, 0, none⟩ = some (.bool yb) ∧ w'.cell? ⟨w.heap.size + 1, 1, none⟩ = some (.slice yo ym yc)) := hid (fun w' hb => by
    refine ⟨?_, ?_, ?_, ?_⟩ <;> (first | (rw [hb.cell (by simp <;> omega), hW0]; simp [go_sem]; done) | (rw [hb.frozen (by simp <;> omega), hW0]; simp [go_sem]; done)))
  have HT : Hid (∀ w', Below (w.heap.size + 3) W0 w' → w'.cell? ⟨w.heap.size + 2, 0, none⟩ = some (.bool false) ∧ w'.cell? ⟨w.heap.size + 2, 1, none⟩ = some (.slice none 0 0) ∧ w'.frozen? ⟨w.heap.size + 2, 0, none⟩ = false ∧ w'.frozen? ⟨w.heap.size + 2, 1, none⟩ = false) := hid (fun w' hb => by
    refine ⟨?_, ?_, ?_, ?_⟩ <;> (first | (rw [hb.cell (by simp <;> omega), hW0]; simp [go_sem]; done) | (rw [hb.frozen (by simp <;> omega), hW0]; simp [go_sem]; done)))
  rw [← hW0]
  clear hW0
  go_region_held3 (fun w' => w'.cell? ⟨w.heap.size, 0, none⟩ = some (.bool xb) ∧ w'.cell? ⟨w.heap.size, 1, none⟩ = some (.slice xo xm xc) ∧ w'.cell? ⟨w.heap.size + 1, 0, none⟩ = some (.bool yb) ∧ w'.cell? ⟨w.heap.size + 1, 1, none⟩ = some (.slice yo ym yc)) ((refine HS.out _ ?_; first | assumption | exact Below.refl _ _ | exact (Below.refl _ _).drew | exact ((hB4.mono (Nat.le_succ _)).setCell (Nat.le_refl _) _).setCell (Nat.le_refl _) _)) (first
    | (go_at_call_of 45 (xo); refine (read_any _ x Kx _ (Hx.out _ hB0.drew) (by omega)).mono ?_; rintro e w1 ⟨_, rfl, hv1, hb1⟩; obtain ⟨b1, o1, m1, c1, rfl, H1, H1s, H1b⟩ := It.opened hv1; have hB1 : Below (w.heap.size + 3) W0 w1 := ((Below.refl _ _).drew).trans (hb1.mono (by simp; omega)); have hB1s := hB1.mono (Nat.le_succ _))
    | (go_at_call_of 45 (yo); refine (read_any _ y Ky _ (Hy.out _ (hB0.trans (hB1.mono (by omega)))) (by omega)).mono ?_; rintro e w2 ⟨_, rfl, hv2, hb2⟩; obtain ⟨b2, o2, m2, c2, rfl, H2, H2s, H2b⟩ := It.opened hv2; have hB2 : Below (w.heap.size + 3) W0 w2 := hB1.trans (hb2.mono (by have := hB1.size; omega)); have hB2s := hB2.mono (Nat.le_succ _))
    | (go_at_call 48; refine (plus_any _ _ x y ((Kx + 1) / 2) ((Ky + 1) / 2) (K / 2 + 1) _ (H1.out _ hb2) (H2.out _ (Below.refl _ _)) (by omega) (by omega) (by omega) (by omega)).mono ?_; rintro e w3 ⟨_, rfl, hv3, hb3⟩; obtain ⟨b3, o3, m3, c3, rfl, H3, H3s, H3b⟩ := It.opened hv3; have hB3 : Below (w.heap.size + 3) W0 w3 := hB2.trans (hb3.mono (by have := hB2.size; omega)); have hB3s := hB3.mono (Nat.le_succ _))
    | (go_at_call 46; refine (value_any _ _ _ _ (H3.out _ (Below.refl _ _)) (by omega)).mono ?_; rintro e w4 ⟨_, rfl, ⟨_, rfl, hv4⟩, hb4⟩; obtain ⟨o4, m4, c4, rfl, H4⟩ := FrW.opened hv4; have hB4 : Below (w.heap.size + 3) W0 w4 := hB3.trans (hb4.mono (by have := hB3.size; omega)); have hB4s := hB4.mono (Nat.le_succ _); obtain ⟨hr0, hr1, hr2, hr3⟩ := HT.out _ hB4))
  go_wp2
  have hbel : Below w.heap.size w w4 := hB0.trans (hB4.mono (by omega))
  refine bodyPost_ret (v := .agg #[.bool (decide ((x + y) < 0)), .slice o4 m4 c4]) (by simp [results, Try.results10, go_sem, hr0, hr1]) rfl ⟨_, rfl, ?_, (hbel.setCell (by simp <;> omega) _).setCell (by simp <;> omega) _⟩
  exact ⟨_, rfl, ((H4.out.set (by have := hB3.size; simp; omega) _).set (by have := hB3.size; simp; omega) _).base (by have := hB3.size; omega)⟩

set_option maxRecDepth 100000 in
set_option maxHeartbeats 4000000 in
theorem Sub_any (u v : Value) (x y : Int) (Kx Ky K : Nat) (w : World) (hu : Ai w u x Kx) (hv : Ai w v y Ky) (hKx : Kx < K) (hKy : Ky < K) (hK : K ≤ 1073741824) :
    Calls Try.prog 11 #[u, v] w (RetA w (x + -y) (2 * (K / 2 + 1))) := by
  obtain ⟨xb, xo, xm, xc, rfl, Hx⟩ := Ai.opened hu
  obtain ⟨yb, yo, ym, yc, rfl, Hy⟩ := Ai.opened hv
  go_enter Try.func11, Try.ntmps11
  go_wp2
  obtain ⟨W0, hW0⟩ : ∃ W0, W0 = (((w.alloc (.cells #[.bool xb, .slice xo xm xc] 24)).alloc (.cells #[.bool yb, .slice yo ym yc] 24)).alloc (.cells #[.bool false, .slice none 0 0] 24)) := ⟨_, rfl⟩
  have hB0 : Below w.heap.size w W0 := by rw [hW0]; exact (((Below.refl _ _).alloc (by simp <;> omega) _).alloc (by simp <;> omega) _).alloc (by simp <;> omega) _
  have hz0 : W0.heap.size = w.heap.size + 3 := by rw [hW0]; simp
  have HS : Hid (∀ w', Below (w.heap.size + 2) W0 w' → w'.cell? ⟨w.heap.size, 0, none⟩ = some (.bool xb) ∧ w'.cell? ⟨w.heap.size, 1, none⟩ = some (.slice xo xm xc) ∧ w'.cell? ⟨w.heap.size + 1, 0, none⟩ = some (.bool yb) ∧ w'.cell? ⟨w.heap.size + 1, 1, none⟩ = some (.slice yo ym yc)) := hid (fun w' hb => by
    refine ⟨?_, ?_, ?_, ?_⟩ <;> (first | (rw [hb.cell (by simp <;> omega), hW0]; simp [go_sem]; done) | (rw [hb.frozen (by simp <;> omega), hW0]; simp [go_sem]; done)))
  have HT : Hid (∀ w', Below (w.heap.size + 3) W0 w' → w'.cell? ⟨w.heap.size + 2, 0, none⟩ = some (.bool false) ∧ w'.cell? ⟨w.heap.size + 2, 1, none⟩ = some (.slice none 0 0) ∧ w'.frozen? ⟨w.heap.size + 2, 0, none⟩ = false ∧ w'.frozen? ⟨w.heap.size + 2, 1, none⟩ = false) := hid (fun w' hb => by
    refine ⟨?_, ?_, ?_, ?_⟩ <;> (first | (rw [hb.cell (by simp <;> omega), hW0]; simp [go_sem]; done) | (rw [hb.frozen (by simp <;> omega), hW0]; simp [go_sem]; done)))
  rw [← hW0]
  clear hW0
  go_region_held3 (fun w' => w'.cell? ⟨w.heap.size, 0, none⟩ = some (.bool xb) ∧ w'.cell? ⟨w.heap.size, 1, none⟩ = some (.slice xo xm xc) ∧ w'.cell? ⟨w.heap.size + 1, 0, none⟩ = some (.bool yb) ∧ w'.cell? ⟨w.heap.size + 1, 1, none⟩ = some (.slice yo ym yc)) ((refine HS.out _ ?_; first | assumption | exact Below.refl _ _ | exact (Below.refl _ _).drew | exact ((hB5.mono (Nat.le_succ _)).setCell (Nat.le_refl _) _).setCell (Nat.le_refl _) _)) (first
    | (go_at_call_of 45 (xo); refine (read_any _ x Kx _ (Hx.out _ hB0.drew) (by omega)).mono ?_; rintro e w1 ⟨_, rfl, hv1, hb1⟩; obtain ⟨b1, o1, m1, c1, rfl, H1, H1s, H1b⟩ := It.opened hv1; have hB1 : Below (w.heap.size + 3) W0 w1 := ((Below.refl _ _).drew).trans (hb1.mono (by simp; omega)); have hB1s := hB1.mono (Nat.le_succ _))
    | (go_at_call_of 45 (yo); refine (read_any _ y Ky _ (Hy.out _ (hB0.trans (hB1.mono (by omega)))) (by omega)).mono ?_; rintro e w2 ⟨_, rfl, hv2, hb2⟩; obtain ⟨b2, o2, m2, c2, rfl, H2, H2s, H2b⟩ := It.opened hv2; have hB2 : Below (w.heap.size + 3) W0 w2 := hB1.trans (hb2.mono (by have := hB1.size; omega)); have hB2s := hB2.mono (Nat.le_succ _))
    | (go_at_call 47; refine (negated_any _ y _ _ (H2.out _ (Below.refl _ _))).mono ?_; rintro e w3 ⟨_, rfl, hv3, hb3⟩; obtain ⟨b3, o3, m3, c3, rfl, H3, H3s, H3b⟩ := It.opened hv3; have hB3 : Below (w.heap.size + 3) W0 w3 := hB2.trans (hb3.mono (by have := hB2.size; omega)); have hB3s := hB3.mono (Nat.le_succ _))
    | (go_at_call 48; refine (plus_any _ _ x (-y) ((Kx + 1) / 2) ((Ky + 1) / 2) (K / 2 + 1) _ (H1.out _ (hb2.trans (hb3.mono hb2.size))) (H3.out _ (Below.refl _ _)) (by omega) (by omega) (by omega) (by omega)).mono ?_; rintro e w4 ⟨_, rfl, hv4, hb4⟩; obtain ⟨b4, o4, m4, c4, rfl, H4, H4s, H4b⟩ := It.opened hv4; have hB4 : Below (w.heap.size + 3) W0 w4 := hB3.trans (hb4.mono (by have := hB3.size; omega)); have hB4s := hB4.mono (Nat.le_succ _))
    | (go_at_call 46; refine (value_any _ _ _ _ (H4.out _ (Below.refl _ _)) (by omega)).mono ?_; rintro e w5 ⟨_, rfl, ⟨_, rfl, hv5⟩, hb5⟩; obtain ⟨o5, m5, c5, rfl, H5⟩ := FrW.opened hv5; have hB5 : Below (w.heap.size + 3) W0 w5 := hB4.trans (hb5.mono (by have := hB4.size; omega)); have hB5s := hB5.mono (Nat.le_succ _); obtain ⟨hr0, hr1, hr2, hr3⟩ := HT.out _ hB5))
  go_wp2
  have hbel : Below w.heap.size w w5 := hB0.trans (hB5.mono (by omega))
  refine bodyPost_ret (v := .agg #[.bool (decide ((x + -y) < 0)), .slice o5 m5 c5]) (by simp [results, Try.results11, go_sem, hr0, hr1]) rfl ⟨_, rfl, ?_, (hbel.setCell (by simp <;> omega) _).setCell (by simp <;> omega) _⟩
  exact ⟨_, rfl, ((H5.out.set (by have := hB4.size; simp; omega) _).set (by have := hB4.size; simp; omega) _).base (by have := hB4.size; omega)⟩

set_option maxRecDepth 100000 in
set_option maxHeartbeats 4000000 in
theorem Normal_any (u : Value) (x : Int) (Kx : Nat) (w : World) (hu : Ai w u x Kx) (hK : Kx ≤ 1073741824) :
    Calls Try.prog 8 #[u] w (RetA w x (2 * ((Kx + 1) / 2))) := by
  obtain ⟨xb, xo, xm, xc, rfl, Hx⟩ := Ai.opened hu
  go_enter Try.func8, Try.ntmps8
  go_wp2_with fail
  obtain ⟨W0, hW0⟩ : ∃ W0, W0 = ((w.alloc (.cells #[.bool xb, .slice xo xm xc] 24)).alloc (.cells #[.bool false, .slice none 0 0] 24)) := ⟨_, rfl⟩
  have hB0 : Below w.heap.size w W0 := by rw [hW0]; exact ((Below.refl _ _).alloc (by simp <;> omega) _).alloc (by simp <;> omega) _
  have hz0 : W0.heap.size = w.heap.size + 2 := by rw [hW0]; simp
  have _HS : Hid (∀ w', Below (w.heap.size + 1) W0 w' → w'.cell? ⟨w.heap.size, 0, none⟩ = some (.bool xb) ∧ w'.cell? ⟨w.heap.size, 1, none⟩ = some (.slice xo xm xc)) := hid (fun w' hb => by
    refine ⟨?_, ?_⟩ <;> (first | (rw [hb.cell (by simp <;> omega), hW0]; simp [go_sem]; done) | (rw [hb.frozen (by simp <;> omega), hW0]; simp [go_sem]; done)))
  have HT : Hid (∀ w', Below (w.heap.size + 2) W0 w' → w'.cell? ⟨w.heap.size + 1, 0, none⟩ = some (.bool false) ∧ w'.cell? ⟨w.heap.size + 1, 1, none⟩ = some (.slice none 0 0) ∧ w'.frozen? ⟨w.heap.size + 1, 0, none⟩ = false ∧ w'.frozen? ⟨w.heap.size + 1, 1, none⟩ = false) := hid (fun w' hb => by
    refine ⟨?_, ?_, ?_, ?_⟩ <;> (first | (rw [hb.cell (by simp <;> omega), hW0]; simp [go_sem]; done) | (rw [hb.frozen (by simp <;> omega), hW0]; simp [go_sem]; done)))
  rw [← hW0]
  clear hW0
  refine (read_any _ x Kx _ (Hx.out _ hB0) (by omega)).mono ?_
  rintro e w1 ⟨_, rfl, hv1, hb1⟩
  obtain ⟨b1, o1, m1, c1, rfl, H1, H1s, H1b⟩ := It.opened hv1
  have hB1 : Below (w.heap.size + 2) W0 w1 := (Below.refl _ W0).trans (hb1.mono (by omega))
  go_wp2_with fail
  refine (value_any _ _ _ _ (H1.out _ (Below.refl _ _)) (by omega)).mono ?_
  rintro e w2 ⟨_, rfl, ⟨_, rfl, hv2⟩, hb2⟩
  obtain ⟨o2, m2, c2, rfl, H2⟩ := FrW.opened hv2
  have hB2 : Below (w.heap.size + 2) W0 w2 := hB1.trans (hb2.mono (by have := hB1.size; omega))
  obtain ⟨hr0, hr1, hr2, hr3⟩ := HT.out _ hB2
  go_wp2
  have hbel : Below w.heap.size w w2 := hB0.trans (hB2.mono (by omega))
  refine bodyPost_ret (v := .agg #[.bool (decide (x < 0)), .slice o2 m2 c2]) (by simp [results, Try.results8, go_sem, hr0, hr1]) rfl ⟨_, rfl, ?_, (hbel.setCell (by simp <;> omega) _).setCell (by simp <;> omega) _⟩
  exact ⟨_, rfl, ((H2.out.set (by have := hB1.size; simp; omega) _).set (by have := hB1.size; simp; omega) _).base (by have := hB1.size; omega)⟩

set_option maxRecDepth 100000 in
set_option maxHeartbeats 4000000 in
theorem Neg_any (u : Value) (x : Int) (Kx : Nat) (w : World) (hu : Ai w u x Kx) (hK : Kx ≤ 1073741824) :
    Calls Try.prog 9 #[u] w (RetA w (-x) (2 * ((Kx + 1) / 2))) := by
  obtain ⟨xb, xo, xm, xc, rfl, Hx⟩ := Ai.opened hu
  go_enter Try.func9, Try.ntmps9
  go_wp2_with fail
  obtain ⟨W0, hW0⟩ : ∃ W0, W0 = ((w.alloc (.cells #[.bool xb, .slice xo xm xc] 24)).alloc (.cells #[.bool false, .slice none 0 0] 24)) := ⟨_, rfl⟩
  have hB0 : Below w.heap.size w W0 := by rw [hW0]; exact ((Below.refl _ _).alloc (by simp <;> omega) _).alloc (by simp <;> omega) _
  have hz0 : W0.heap.size = w.heap.size + 2 := by rw [hW0]; simp
  have _HS : Hid (∀ w', Below (w.heap.size + 1) W0 w' → w'.cell? ⟨w.heap.size, 0, none⟩ = some (.bool xb) ∧ w'.cell? ⟨w.heap.size, 1, none⟩ = some (.slice xo xm xc)) := hid (fun w' hb => by
    refine ⟨?_, ?_⟩ <;> (first | (rw [hb.cell (by simp <;> omega), hW0]; simp [go_sem]; done) | (rw [hb.frozen (by simp <;> omega), hW0]; simp [go_sem]; done)))
  have HT : Hid (∀ w', Below (w.heap.size + 2) W0 w' → w'.cell? ⟨w.heap.size + 1, 0, none⟩ = some (.bool false) ∧ w'.cell? ⟨w.heap.size + 1, 1, none⟩ = some (.slice none 0 0) ∧ w'.frozen? ⟨w.heap.size + 1, 0, none⟩ = false ∧ w'.frozen? ⟨w.heap.size + 1, 1, none⟩ = false) := hid (fun w' hb => by
    refine ⟨?_, ?_, ?_, ?_⟩ <;> (first | (rw [hb.cell (by simp <;> omega), hW0]; simp [go_sem]; done) | (rw [hb.frozen (by simp <;> omega), hW0]; simp [go_sem]; done)))
  rw [← hW0]
  clear hW0
  refine (read_any _ x Kx _ (Hx.out _ hB0) (by omega)).mono ?_
  rintro e w1 ⟨_, rfl, hv1, hb1⟩
  obtain ⟨b1, o1, m1, c1, rfl, H1, H1s, H1b⟩ := It.opened hv1
  have hB1 : Below (w.heap.size + 2) W0 w1 := (Below.refl _ W0).trans (hb1.mono (by omega))
  go_wp2_with fail
  refine (negated_any _ x _ _ (H1.out _ (Below.refl _ _))).mono ?_
  rintro e w2 ⟨_, rfl, hv2, hb2⟩
  obtain ⟨b2, o2, m2, c2, rfl, H2, H2s, H2b⟩ := It.opened hv2
  have hB2 : Below (w.heap.size + 2) W0 w2 := hB1.trans (hb2.mono (by have := hB1.size; omega))
  go_wp2_with fail
  refine (value_any _ _ _ _ (H2.out _ (Below.refl _ _)) (by omega)).mono ?_
  rintro e w3 ⟨_, rfl, ⟨_, rfl, hv3⟩, hb3⟩
  obtain ⟨o3, m3, c3, rfl, H3⟩ := FrW.opened hv3
  have hB3 : Below (w.heap.size + 2) W0 w3 := hB2.trans (hb3.mono (by have := hB2.size; omega))
  obtain ⟨hr0, hr1, hr2, hr3⟩ := HT.out _ hB3
  go_wp2
  have hbel : Below w.heap.size w w3 := hB0.trans (hB3.mono (by omega))
  refine bodyPost_ret (v := .agg #[.bool (decide ((-x) < 0)), .slice o3 m3 c3]) (by simp [results, Try.results9, go_sem, hr0, hr1]) rfl ⟨_, rfl, ?_, (hbel.setCell (by simp <;> omega) _).setCell (by simp <;> omega) _⟩
  exact ⟨_, rfl, ((H3.out.set (by have := hB2.size; simp; omega) _).set (by have := hB2.size; simp; omega) _).base (by have := hB2.size; omega)⟩

end Go.Proofs.Ytbmdjimfncgomaa

/- exact.addProduct: it adds a product to a row. -/
namespace Go.Proofs.Ytbmdjimfncgomaa
open Go.RowKit

theorem mul_le (x y : Int) (h0 : 0 ≤ x) (h1 : x < B64) (k0 : 0 ≤ y) (k1 : y < B64) : 0 ≤ x * y ∧ x * y ≤ 340282366920938463426481119284349108225 := by
  refine ⟨Int.mul_nonneg h0 k0, ?_⟩
  have a : x * y ≤ 18446744073709551615 * y := Int.mul_le_mul_of_nonneg_right (by unfold B64 at h1; omega) k0
  unfold B64 at k1; omega

/-- bits.Mul64, its two results under names. -/
theorem mul64_ex (x y : Int) (hx : 0 ≤ x) (hx' : x < B64) (hy : 0 ≤ y) (hy' : y < B64) (w : World) :
    Calls Try.prog 116 #[.int .u64 x, .int .u64 y] w fun e w' => ∃ hi lo, e = .returned (.tuple #[.int .u64 hi, .int .u64 lo]) ∧ (0 ≤ hi ∧ 0 ≤ lo ∧ lo < B64 ∧ hi ≤ 18446744073709551614 ∧ Hid (lo + B64 * hi = x * y)) ∧ w = w' := by
  refine (mul64 x y hx hx' hy hy' w).mono ?_
  rintro e w' ⟨rfl, rfl⟩
  have h := mul_le x y hx hx' hy hy'
  refine ⟨_, _, rfl, ⟨Int.ediv_nonneg h.1 (by decide), Int.emod_nonneg _ (by decide), Int.emod_lt_of_pos _ B64_pos, ?_, hid (Int.emod_add_mul_ediv _ _)⟩, rfl⟩
  have h2 := h.2
  unfold B64; omega

theorem add64_ex (x y c : Int) (hx : 0 ≤ x) (hx' : x < B64) (hy : 0 ≤ y) (hy' : y < B64) (hc0 : 0 ≤ c) (hc : c ≤ 1) :
    ∃ s d, (∀ w, (callFunc 113 #[.int .u64 x, .int .u64 y, .int .u64 c]).run Try.prog w = .ok (.value (.tuple #[.int .u64 s, .int .u64 d])) w) ∧ (0 ≤ s ∧ s < B64 ∧ 0 ≤ d ∧ d ≤ 1) ∧ s + B64 * d = x + y + c := by
  refine ⟨_, _, fun w => add64 x y c hx hy hc0 hc w, ⟨Int.emod_nonneg _ (by decide), Int.emod_lt_of_pos _ B64_pos, ?_, ?_⟩, Int.emod_add_mul_ediv _ _⟩
  · exact Int.ediv_nonneg (by omega) (by decide)
  · unfold B64 at *; omega

theorem mul_step {s x y cc hi lo l1 c1 o c2 : Int} (hs : 0 ≤ s ∧ s < B64) (hx : 0 ≤ x ∧ x < B64) (hy : 0 ≤ y ∧ y < B64) (hc : 0 ≤ cc ∧ cc < B64) (h1 : lo + B64 * hi = x * y) (h2 : l1 + B64 * c1 = lo + cc) (h3 : o + B64 * c2 = s + l1) (ho : 0 ≤ o) :
    hi + c1 + c2 ≤ 18446744073709551615 ∧ o + B64 * (hi + c1 + c2) = s + x * y + cc := by
  have h := (mul_le x y hx.1 hx.2 hy.1 hy.2).2
  generalize x * y = p at *
  unfold B64 at *
  constructor <;> omega

/-- What holds after k limbs. -/
structure MulI (w wr : World) (g : Nat) (P A S : List Int) (k : Nat) (m : Int) (A1 : List Int) (cc : Int) : Prop where
  len : A1.length = A.length
  dig : Dig B64 A1
  c0 : 0 ≤ cc
  c1 : cc < B64
  row : Row .u64 105 wr g (P ++ A1 ++ S)
  gr : w.grownBy wr (some g)
  eq : val B64 A1 + B64 ^ k * cc = val B64 A + m

theorem MulI.step {w wr : World} {g : Nat} {P A S : List Int} {k : Nat} {m : Int} {A1 : List Int} {cc : Int} (h : MulI w wr g P A S k m A1 cc) (p o d : Int) (h0 : 0 ≤ o) (h1 : o < B64) (d0 : 0 ≤ d) (d1 : d < B64) (he : o + B64 * d = A1[k]?.getD 0 + p + cc) (hk : k < A.length) :
    MulI w (wr.setCell ⟨g, P.length + k, none⟩ (.int .u64 o)) g P A S (k + 1) (m + B64 ^ k * p) (A1.set k o) d := by
  have hl : k < A1.length := by rw [h.len]; exact hk
  have hr := h.row.set (P.length + k) o
  rw [mid_set P A1 S k _ hl] at hr
  refine ⟨by simpa using h.len, h.dig.set k h0 h1, d0, d1, hr, grown_trans h.gr (grown_set _ _ _ _), ?_⟩
  rw [val_set _ _ _ _ hl, Int.pow_succ]
  have e := h.eq
  grind

set_option maxRecDepth 100000 in
set_option maxHeartbeats 2000000 in
theorem addProduct_any (g : Nat) (P A S M : List Int) (c bc : Nat) (bo : Option Addr) (x : Int) (w : World) (hrow : Row .u64 105 w g (P ++ A ++ S)) (hdA : Dig B64 A) (hdM : Dig B64 M) (hx0 : 0 ≤ x) (hx1 : x < B64)
    (hcA : A.length ≤ c) (_hcm : c ≤ 9223372036854775807) (hM : Rd w .u64 bo bc M) (hMA : M.length = A.length) (hne : 0 < M.length → ∀ b off, bo = some ⟨b, off, none⟩ → b ≠ g) :
    Calls Try.prog 115 #[.slice (some ⟨g, P.length, none⟩) A.length c, .slice bo M.length bc, .int .u64 x] w fun e w' => ∃ A1 cc, e = .returned (.int .u64 cc) ∧ MulI w w' g P A S A.length (val B64 M * x) A1 cc := by
  obtain ⟨off, hoff⟩ : ∃ off, off = P.length := ⟨_, rfl⟩
  obtain ⟨n, hn⟩ : ∃ n, n = A.length := ⟨_, rfl⟩
  have hnM : M.length = n := by omega
  have hmc := hM.cap; have hmm := hM.most
  rw [← hn] at hcA
  rw [hnM] at hmc
  have H0 : MulI w w g P A S 0 (val B64 (M.take 0) * x) A 0 := ⟨rfl, hdA, Int.le_refl 0, by decide, hrow, grown_refl _ _, by simp [val]⟩
  rw [hnM, ← hn, ← hoff]
  have Hoff := hid hoff; have Hn := hid hn; have Hm := hid hnM; have HdM := hid hdM; have Hne := hid hne; have HM := hid hM
  have Hx := hid (show 0 ≤ x ∧ x < B64 from ⟨hx0, hx1⟩)
  clear hoff hn hnM hdA hdM hne hrow hM hMA hx1
  go_enter Try.func115, Try.ntmps115
  go_wp2
  go_loopw [6, 18] (fun cv iv wr => ∃ k : Nat, ∃ A1 cc, k ≤ n ∧ iv = .int .i64 k ∧ cv = .int .u64 cc ∧ MulI w wr g P A S k (val B64 (M.take k) * x) A1 cc) (fun _ iv _ => n - (intOf iv).toNat)
  case atStart => exact ⟨0, A, 0, Nat.zero_le _, rfl, rfl, H0⟩
  case round =>
    obtain ⟨k, A1, cc, hk, rfl, rfl, H⟩ := hrel
    by_cases hlt : k < n
    · have hAk := H.row.cell (off + k) (by have := Hoff.out; have := Hn.out; have := H.len; simp; omega)
      have hfr := H.row.frozen (off + k)
      rw [Hoff.out, mid_get P A1 S k (by have := Hn.out; have := H.len; omega), ← Hoff.out] at hAk
      obtain ⟨b, o, rfl⟩ := HM.out.adr (by have := Hm.out; omega)
      have hMk := (HM.out.keptNew H.gr Hne.out).cell b o rfl k (by have := Hm.out; omega)
      have h0 := HdM.out.at B64_pos k
      have h1 := H.dig.at B64_pos k
      have c0 := H.c0; have c1 := H.c1
      have hv := val_take_succ B64 M k (by have := Hm.out; omega)
      have HST := hid (fun (o d : Int) => H.step (x * M[k]?.getD 0) o d)
      obtain ⟨s, hs⟩ : ∃ s, s = A1[k]?.getD 0 := ⟨_, rfl⟩
      obtain ⟨y, hy⟩ : ∃ y, y = M[k]?.getD 0 := ⟨_, rfl⟩
      rw [← hs] at hAk h1 HST; rw [← hy] at hMk h0 HST hv
      have Hs := hid hs; have Hy := hid hy; have Hh1 := hid h1; have Hh0 := hid h0; have Hc := hid (show 0 ≤ cc ∧ cc < B64 from ⟨c0, c1⟩); have Hv := hid hv
      clear H hs hy H0 h0 h1 c1 hv
      go_wp2_with fail
      refine (mul64_ex x y Hx.out.1 Hx.out.2 Hh0.out.1 Hh0.out.2 _).mono ?_
      rintro e w' ⟨hi, lo, rfl, ⟨hi0, lo0, lo1, hi1, HP⟩, rfl⟩
      obtain ⟨l1, d1, ha1, ⟨l10, l11, d10, d11⟩, hl1⟩ := add64_ex lo cc 0 lo0 lo1 Hc.out.1 Hc.out.2 (Int.le_refl 0) (by decide)
      obtain ⟨o2, d2, ha2, ⟨o20, o21, d20, d21⟩, ho2⟩ := add64_ex s l1 0 Hh1.out.1 Hh1.out.2 l10 l11 (Int.le_refl 0) (by decide)
      have hms := mul_step Hh1.out Hx.out Hh0.out Hc.out HP.out (by simpa using hl1) (by simpa using ho2) o20
      have hle := hms.1
      have HS := HST.out o2 (hi + d1 + d2) o20 o21 (by omega) (by unfold B64; omega) hms.2 (by have := Hn.out; omega)
      have hval : val B64 (M.take k) * x + B64 ^ k * (x * y) = val B64 (M.take (k + 1)) * x := by rw [Hv.out]; grind
      rw [hval, ← Hoff.out] at HS
      have HS' := hid HS
      clear HS hval hms hl1 ho2 HST lo1 l11 o21
      go_wp2
      go_roundw
      case rel => exact ⟨k + 1, _, _, by omega, by go_num, rfl, HS'.out⟩
      case measure => simp [intOf]; omega
    · obtain rfl : k = n := by omega
      have HT : MulI w wr g P A S k (val B64 M * x) A1 cc := by have := H; rwa [← Hm.out, List.take_length, Hm.out] at this
      clear H H0
      go_wp2
      go_ret
      exact ⟨A1, cc, rfl, HT⟩

end Go.Proofs.Ytbmdjimfncgomaa

/- exact.multiplyLimbs. -/
namespace Go.Proofs.Ytbmdjimfncgomaa
open Go.RowKit

/-- After k limbs of the second factor: Q is the product so far. -/
structure LimbI (w wr : World) (g : Nat) (LA LB : List Int) (k : Nat) (Q : List Int) : Prop where
  row : Row .u64 105 wr g (Q ++ List.replicate (LB.length - k) 0)
  gr : w.grownBy wr (some g)
  len : Q.length = LA.length + k
  dig : Dig B64 Q
  eq : val B64 Q = val B64 LA * val B64 (LB.take k)

theorem LimbI.step {w wr w1 : World} {g : Nat} {LA LB Q A1 : List Int} {k : Nat} {cc y : Int} (h : LimbI w wr g LA LB k Q) (hk : k < LB.length) (hy : y = LB[k]?.getD 0)
    (hm : MulI wr w1 g (Q.take k) (Q.drop k) (List.replicate (LB.length - k) 0) (Q.drop k).length (val B64 LA * y) A1 cc) :
    LimbI w (w1.setCell ⟨g, k + LA.length, none⟩ (.int .u64 cc)) g LA LB (k + 1) (Q.take k ++ A1 ++ [cc]) := by
  have hl1 : A1.length = LA.length := by rw [hm.len, List.length_drop, h.len]; omega
  have hlP : (Q.take k).length = k := by rw [List.length_take, h.len]; omega
  have hr := hm.row.set (k + LA.length) cc
  have hz : LB.length - k = (LB.length - (k + 1)) + 1 := by omega
  rw [hz, List.replicate_succ, List.set_append_right _ _ (by simp [hlP, hl1]), show k + LA.length - (Q.take k ++ A1).length = 0 by simp [hlP, hl1], List.set_cons_zero] at hr
  refine ⟨by simpa [List.append_assoc] using hr, grown_trans (grown_trans h.gr hm.gr) (grown_set _ _ _ _), by simp [hlP, hl1]; omega, ((h.dig.take k).append hm.dig).append (Dig.cons hm.c0 hm.c1 (Dig.nil _)), ?_⟩
  have e := hm.eq
  have ld : (Q.drop k).length = LA.length := by rw [List.length_drop, h.len]; omega
  rw [ld] at e
  rw [List.append_assoc, val_append, val_snoc, hlP, hl1, e, val_take_succ B64 LB k hk, ← hy]
  have e2 := val_append B64 (Q.take k) (Q.drop k)
  rw [List.take_append_drop, hlP, h.eq] at e2
  grind

set_option maxRecDepth 100000 in
set_option maxHeartbeats 2000000 in
theorem multiplyLimbs_any (va vb : Value) (a b : Int) (Ka Kb : Nat) (w : World) (hA : Nt w va a Ka) (hB : Nt w vb b Kb) (h1 : Ka ≤ 1073741824) (h2 : Kb ≤ 1073741824) :
    Calls Try.prog 103 #[va, vb] w (RetN w (a * b) (Ka + Kb)) := by
  obtain ⟨ao, ca, LA, rfl, hA⟩ := hA
  obtain ⟨bo, cb, LB, rfl, hB⟩ := hB
  obtain ⟨n, hn⟩ : ∃ n, n = LA.length := ⟨_, rfl⟩
  obtain ⟨m, hm⟩ : ∃ m, m = LB.length := ⟨_, rfl⟩
  have hn30 : n ≤ 1073741824 := by have := hA.le; omega
  have hm30 : m ≤ 1073741824 := by have := hB.le; omega
  rw [← hn, ← hm]
  have HA := hid hA; have HB := hid hB; have Hn := hid hn; have Hm := hid hm
  clear hA hB hn hm
  obtain ⟨i0, hi, hz0, hz1, hz2⟩ := info_parts Try.info105
  go_enter Try.func103, Try.ntmps103
  go_wp2_with (at_make; refine wpList_make_row w rfl _ _ 77 rfl 105 i0 .u64 Try.underlying77 hi hz0 hz1 .i64 .i64 _ _ (n + m) rfl rfl (by omega) (by omega) (by rw [hz2]; omega) (by unfold maxLen; omega) ?_)
  intro w1 hrow hg1
  have hb1 := grown_below hg1
  have H0 : LimbI w w1 w.heap.size LA LB 0 (List.replicate n 0) := by
    refine ⟨?_, grown_any hg1, by simp [Hn.out], Dig.replicate B64_pos _, by simp [val_replicate, val]⟩
    have e : List.replicate n (0 : Int) ++ List.replicate (LB.length - 0) 0 = List.replicate (n + m) 0 := by rw [List.replicate_append_replicate, Nat.sub_zero, ← Hm.out]
    rw [e]; exact hrow
  have HG1 := hid (HA.out.rd.ne (Nat.le_refl w.heap.size)); have HG2 := hid (HB.out.rd.ne (Nat.le_refl w.heap.size))
  clear hrow hg1
  go_wp2
  go_loopw [16] (fun iv wr => ∃ k : Nat, ∃ Q, k ≤ m ∧ iv = .int .i64 k ∧ LimbI w wr w.heap.size LA LB k Q ∧ Below w.heap.size w wr) (fun iv _ => m - (intOf iv).toNat)
  case atStart => exact ⟨0, _, Nat.zero_le _, rfl, H0, hb1⟩
  case round =>
    obtain ⟨k, Q, hk, rfl, H, hbr⟩ := hrel
    by_cases hlt : k < m
    · obtain ⟨b1, o1, rfl⟩ := HB.out.rd.adr (by have := Hm.out; omega)
      have hBk := (HB.out.rd.keptNew H.gr HG2.out).cell b1 o1 rfl k (by have := Hm.out; omega)
      have hAr := HA.out.rd.keptNew H.gr HG1.out
      have hy := HB.out.dig.at B64_pos k
      obtain ⟨y, hye⟩ : ∃ y, y = LB[k]?.getD 0 := ⟨_, rfl⟩
      rw [← hye] at hBk hy
      have hlP : (Q.take k).length = k := by rw [List.length_take, H.len]; omega
      have hlA : (Q.drop k).length = n := by rw [List.length_drop, H.len, Hn.out]; omega
      have hc := addProduct_any w.heap.size (Q.take k) (Q.drop k) (List.replicate (LB.length - k) 0) LA (n + m - k) ca ao y wr (by rw [List.take_append_drop]; exact H.row) (H.dig.drop k) HA.out.dig hy.1 hy.2 (by omega) (by omega) hAr (by rw [hlA, Hn.out]) HG1.out
      rw [hlP, hlA, ← Hn.out] at hc
      have hstep := fun (w1 : World) (A1 : List Int) (cc : Int) (hm : MulI wr w1 w.heap.size (Q.take k) (Q.drop k) (List.replicate (LB.length - k) 0) n (val B64 LA * y) A1 cc) => H.step (by have := Hm.out; omega) hye (by rw [hlA]; exact hm)
      rw [← Hn.out] at hstep
      have hcell := fun (w1 : World) (A1 : List Int) (cc : Int) (hm : MulI wr w1 w.heap.size (Q.take k) (Q.drop k) (List.replicate (LB.length - k) 0) n (val B64 LA * y) A1 cc) => (show (∃ u, w1.cell? ⟨w.heap.size, k + n, none⟩ = some (.int .u64 u)) ∧ w1.frozen? ⟨w.heap.size, k + n, none⟩ = false from
        ⟨⟨_, hm.row.cell (k + n) (by have e1 := hm.len; rw [hlA] at e1; have := Hm.out; simp only [List.length_append, List.length_replicate]; omega)⟩, hm.row.frozen _⟩)
      have HC := hid hc; have HSt := hid hstep; have HCe := hid hcell; have Hye := hid hye; have HH := hid H
      clear hc hstep hcell hye H hAr hlP hlA H0 hb1
      go_wp2_with (go_at_call 115; refine HC.out.mono ?_; rintro e w2 ⟨A1, cc, rfl, HI⟩; obtain ⟨⟨u, hu⟩, hf⟩ := HCe.out w2 A1 cc HI)
      go_roundw
      case rel => exact ⟨k + 1, _, by omega, by go_num, HSt.out w2 A1 cc HI, (hbr.grown HI.gr hbr.size (fun i e => by cases e; exact Nat.le_refl _)).setCell (Nat.le_refl _) _⟩
      case measure => simp [intOf]; omega
    · obtain rfl : k = m := by omega
      have hr := H.row
      have hv := H.eq
      have hl := H.len
      rw [← Hm.out, Nat.sub_self, List.replicate_zero, List.append_nil] at hr
      rw [Hm.out, List.take_length, HA.out.eq, HB.out.eq] at hv
      rw [← Hn.out] at hl
      have ht := trim64_any (some ⟨w.heap.size, 0, none⟩) (n + k) Q wr (row_rd hr (by omega) (by omega))
      rw [hl] at ht
      have hres := nt_row (c := n + k) (K := Ka + Kb) hr H.dig hv (by omega) (by omega) (by have := HA.out.le; have := HB.out.le; have := Hn.out; have := Hm.out; omega)
      have HT := hid ht; have Hres := hid hres
      clear ht hres hr hv hl H H0 hb1
      go_wp2_with (go_at_call 99; refine HT.out.mono ?_; rintro e w2 ⟨rfl, rfl⟩)
      go_ret
      exact ⟨_, rfl, Hres.out, hbr⟩

end Go.Proofs.Ytbmdjimfncgomaa

/- exact.multiply of factors of fewer than 80 limbs. -/
namespace Go.Proofs.Ytbmdjimfncgomaa
open Go.RowKit

set_option maxRecDepth 100000 in
set_option maxHeartbeats 2000000 in
theorem multiply_short (va vb : Value) (a b : Int) (Ka Kb : Nat) (w : World) (hA : Nt w va a Ka) (hB : Nt w vb b Kb) (h1 : Ka ≤ 79) (h2 : Kb ≤ 79) :
    Calls Try.prog 83 #[va, vb] w (RetN w (a * b) (Ka + Kb)) := by
  have hC := multiplyLimbs_any va vb a b Ka Kb w hA hB (by omega) (by omega)
  have hC' := multiplyLimbs_any vb va b a Kb Ka w hB hA (by omega) (by omega)
  obtain ⟨ao, ca, LA, rfl, hA⟩ := hA
  obtain ⟨bo, cb, LB, rfl, hB⟩ := hB
  obtain ⟨n, hn⟩ : ∃ n, n = LA.length := ⟨_, rfl⟩
  obtain ⟨m, hm⟩ : ∃ m, m = LB.length := ⟨_, rfl⟩
  have hn80 : n < 80 := by have := hA.le; omega
  have hm80 : m < 80 := by have := hB.le; omega
  rw [← hn, ← hm] at hC hC' ⊢
  have HC := hid hC; have HC' := hid hC'
  clear hA hB hC hC' hn hm
  by_cases hlt : n < m
  · go_enter Try.func83, Try.ntmps83
    go_wp2_with fail
    refine HC'.out.mono ?_
    rintro e w' ⟨v, rfl, hv, hb⟩
    go_wp2
    go_ret
    exact ⟨v, rfl, by rw [Int.mul_comm, Nat.add_comm]; exact hv, hb⟩
  · go_enter Try.func83, Try.ntmps83
    go_wp2_with fail
    refine HC.out.mono ?_
    rintro e w' ⟨v, rfl, hv, hb⟩
    go_wp2
    go_ret
    exact ⟨v, rfl, hv, hb⟩

end Go.Proofs.Ytbmdjimfncgomaa

/- exact.integer: times; exact.Mul, Sign, sign. Written by gen_int4.py. -/
namespace Go.Proofs.Ytbmdjimfncgomaa
open Go.RowKit

theorem sgn_mul (x y : Int) : sgn (decide (x < 0) != decide (y < 0)) ((x.natAbs : Int) * (y.natAbs : Int)) = x * y := by
  have hx : (x.natAbs : Int) = if x < 0 then -x else x := by split <;> omega
  have hy : (y.natAbs : Int) = if y < 0 then -y else y := by split <;> omega
  rw [hx, hy]
  by_cases h1 : x < 0 <;> by_cases h2 : y < 0 <;> simp [h1, h2, sgn, Int.neg_mul, Int.mul_neg]

set_option maxRecDepth 100000 in
set_option maxHeartbeats 4000000 in
theorem times_short (u v : Value) (x y : Int) (Kx Ky : Nat) (w : World) (hu : It w u x Kx) (hv : It w v y Ky) (hKx : Kx ≤ 79) (hKy : Ky ≤ 79) :
    Calls Try.prog 49 #[u, v] w (RetI w (x * y) (Kx + Ky)) := by
  obtain ⟨xb, xo, xm, xc, rfl, Hx, Hxs, Hxb⟩ := It.opened hu
  obtain ⟨yb, yo, ym, yc, rfl, Hy, Hys, Hyb⟩ := It.opened hv
  go_enter Try.func49, Try.ntmps49
  go_wp2
  obtain ⟨W0, hW0⟩ : ∃ W0, W0 = (((w.alloc (.cells #[.bool xb, .slice xo xm xc] 79)).alloc (.cells #[.bool yb, .slice yo ym yc] 79)).alloc (.cells #[.bool false, .slice none 0 0] 79)) := ⟨_, rfl⟩
  have hB0 : Below w.heap.size w W0 := by rw [hW0]; exact (((Below.refl _ _).alloc (by simp <;> omega) _).alloc (by simp <;> omega) _).alloc (by simp <;> omega) _
  have hz0 : W0.heap.size = w.heap.size + 3 := by rw [hW0]; simp
  have HS : Hid (∀ w', Below (w.heap.size + 2) W0 w' → w'.cell? ⟨w.heap.size, 0, none⟩ = some (.bool xb) ∧ w'.cell? ⟨w.heap.size, 1, none⟩ = some (.slice xo xm xc) ∧ w'.cell? ⟨w.heap.size + 1, 0, none⟩ = some (.bool yb) ∧ w'.cell? ⟨w.heap.size + 1, 1, none⟩ = some (.slice yo ym yc)) := hid (fun w' hb => by
    refine ⟨?_, ?_, ?_, ?_⟩ <;> (first | (rw [hb.cell (by simp <;> omega), hW0]; simp [go_sem]; done) | (rw [hb.frozen (by simp <;> omega), hW0]; simp [go_sem]; done)))
  have HT : Hid (∀ w', Below (w.heap.size + 3) W0 w' → w'.cell? ⟨w.heap.size + 2, 0, none⟩ = some (.bool false) ∧ w'.cell? ⟨w.heap.size + 2, 1, none⟩ = some (.slice none 0 0) ∧ w'.frozen? ⟨w.heap.size + 2, 0, none⟩ = false ∧ w'.frozen? ⟨w.heap.size + 2, 1, none⟩ = false) := hid (fun w' hb => by
    refine ⟨?_, ?_, ?_, ?_⟩ <;> (first | (rw [hb.cell (by simp <;> omega), hW0]; simp [go_sem]; done) | (rw [hb.frozen (by simp <;> omega), hW0]; simp [go_sem]; done)))
  rw [← hW0]
  clear hW0
  go_region_held3 (fun w' => w'.cell? ⟨w.heap.size, 0, none⟩ = some (.bool xb) ∧ w'.cell? ⟨w.heap.size, 1, none⟩ = some (.slice xo xm xc) ∧ w'.cell? ⟨w.heap.size + 1, 0, none⟩ = some (.bool yb) ∧ w'.cell? ⟨w.heap.size + 1, 1, none⟩ = some (.slice yo ym yc)) ((refine HS.out _ ?_; first | assumption | exact Below.refl _ _ | exact (Below.refl _ _).drew | exact ((hB2.mono (Nat.le_succ _)).setCell (Nat.le_refl _) _).setCell (Nat.le_refl _) _)) (first
    | (go_at_call 83; refine (multiply_short _ _ _ _ Kx Ky _ (Hxs.out _ hB0.drew) (Hys.out _ hB0.drew) hKx hKy).mono ?_; rintro e w1 ⟨_, rfl, hv1, hb1⟩; obtain ⟨o1, m1, c1, rfl, H1⟩ := Nt.opened hv1; have hB1 : Below (w.heap.size + 3) W0 w1 := ((Below.refl _ _).drew).trans (hb1.mono (by simp; omega)); have hB1s := hB1.mono (Nat.le_succ _))
    | (go_at_call 50; refine (signed_any (xb != yb) _ _ _ _ (H1.out _ (Below.refl _ _))).mono ?_; rintro e w2 ⟨_, rfl, hv2, hb2⟩; obtain ⟨b2, o2, m2, c2, rfl, H2, H2s, H2b⟩ := It.opened hv2; have hB2 : Below (w.heap.size + 3) W0 w2 := hB1.trans (hb2.mono (by have := hB1.size; omega)); have hB2s := hB2.mono (Nat.le_succ _); obtain ⟨hr0, hr1, hr2, hr3⟩ := HT.out _ hB2))
  go_wp2
  have hbel : Below w.heap.size w w2 := hB0.trans (hB2.mono (by omega))
  refine bodyPost_ret (v := .agg #[.bool b2, .slice o2 m2 c2]) (by simp [results, Try.results49, go_sem, hr0, hr1]) rfl ⟨_, rfl, ?_, (hbel.setCell (by simp <;> omega) _).setCell (by simp <;> omega) _⟩
  have e : sgn (xb != yb) ((x.natAbs : Int) * (y.natAbs : Int)) = x * y := by rw [Hxb.out, Hyb.out]; exact sgn_mul x y
  rw [← e]
  exact ((H2.out _ (Below.refl _ _)).set hr0 (fun x h => (by cases h)) _).set (u := .slice none 0 0) (by simp [go_sem, hr1]) (fun x h => (by cases h)) _

set_option maxRecDepth 100000 in
set_option maxHeartbeats 4000000 in
theorem Mul_short (u v : Value) (x y : Int) (Kx Ky K : Nat) (w : World) (hu : Ai w u x Kx) (hv : Ai w v y Ky) (hKx : Kx < K) (hKy : Ky < K) (hK : K ≤ 158) :
    Calls Try.prog 12 #[u, v] w (RetA w (x * y) (2 * ((Kx + 1) / 2 + (Ky + 1) / 2))) := by
  obtain ⟨xb, xo, xm, xc, rfl, Hx⟩ := Ai.opened hu
  obtain ⟨yb, yo, ym, yc, rfl, Hy⟩ := Ai.opened hv
  go_enter Try.func12, Try.ntmps12
  go_wp2
  obtain ⟨W0, hW0⟩ : ∃ W0, W0 = (((w.alloc (.cells #[.bool xb, .slice xo xm xc] 24)).alloc (.cells #[.bool yb, .slice yo ym yc] 24)).alloc (.cells #[.bool false, .slice none 0 0] 24)) := ⟨_, rfl⟩
  have hB0 : Below w.heap.size w W0 := by rw [hW0]; exact (((Below.refl _ _).alloc (by simp <;> omega) _).alloc (by simp <;> omega) _).alloc (by simp <;> omega) _
  have hz0 : W0.heap.size = w.heap.size + 3 := by rw [hW0]; simp
  have HS : Hid (∀ w', Below (w.heap.size + 2) W0 w' → w'.cell? ⟨w.heap.size, 0, none⟩ = some (.bool xb) ∧ w'.cell? ⟨w.heap.size, 1, none⟩ = some (.slice xo xm xc) ∧ w'.cell? ⟨w.heap.size + 1, 0, none⟩ = some (.bool yb) ∧ w'.cell? ⟨w.heap.size + 1, 1, none⟩ = some (.slice yo ym yc)) := hid (fun w' hb => by
    refine ⟨?_, ?_, ?_, ?_⟩ <;> (first | (rw [hb.cell (by simp <;> omega), hW0]; simp [go_sem]; done) | (rw [hb.frozen (by simp <;> omega), hW0]; simp [go_sem]; done)))
  have HT : Hid (∀ w', Below (w.heap.size + 3) W0 w' → w'.cell? ⟨w.heap.size + 2, 0, none⟩ = some (.bool false) ∧ w'.cell? ⟨w.heap.size + 2, 1, none⟩ = some (.slice none 0 0) ∧ w'.frozen? ⟨w.heap.size + 2, 0, none⟩ = false ∧ w'.frozen? ⟨w.heap.size + 2, 1, none⟩ = false) := hid (fun w' hb => by
    refine ⟨?_, ?_, ?_, ?_⟩ <;> (first | (rw [hb.cell (by simp <;> omega), hW0]; simp [go_sem]; done) | (rw [hb.frozen (by simp <;> omega), hW0]; simp [go_sem]; done)))
  rw [← hW0]
  clear hW0
  go_region_held3 (fun w' => w'.cell? ⟨w.heap.size, 0, none⟩ = some (.bool xb) ∧ w'.cell? ⟨w.heap.size, 1, none⟩ = some (.slice xo xm xc) ∧ w'.cell? ⟨w.heap.size + 1, 0, none⟩ = some (.bool yb) ∧ w'.cell? ⟨w.heap.size + 1, 1, none⟩ = some (.slice yo ym yc)) ((refine HS.out _ ?_; first | assumption | exact Below.refl _ _ | exact (Below.refl _ _).drew | exact ((hB4.mono (Nat.le_succ _)).setCell (Nat.le_refl _) _).setCell (Nat.le_refl _) _)) (first
    | (go_at_call_of 45 (xo); refine (read_any _ x Kx _ (Hx.out _ hB0.drew) (by omega)).mono ?_; rintro e w1 ⟨_, rfl, hv1, hb1⟩; obtain ⟨b1, o1, m1, c1, rfl, H1, H1s, H1b⟩ := It.opened hv1; have hB1 : Below (w.heap.size + 3) W0 w1 := ((Below.refl _ _).drew).trans (hb1.mono (by simp; omega)); have hB1s := hB1.mono (Nat.le_succ _))
    | (go_at_call_of 45 (yo); refine (read_any _ y Ky _ (Hy.out _ (hB0.trans (hB1.mono (by omega)))) (by omega)).mono ?_; rintro e w2 ⟨_, rfl, hv2, hb2⟩; obtain ⟨b2, o2, m2, c2, rfl, H2, H2s, H2b⟩ := It.opened hv2; have hB2 : Below (w.heap.size + 3) W0 w2 := hB1.trans (hb2.mono (by have := hB1.size; omega)); have hB2s := hB2.mono (Nat.le_succ _))
    | (go_at_call 49; refine (times_short _ _ x y ((Kx + 1) / 2) ((Ky + 1) / 2) _ (H1.out _ hb2) (H2.out _ (Below.refl _ _)) (by omega) (by omega)).mono ?_; rintro e w3 ⟨_, rfl, hv3, hb3⟩; obtain ⟨b3, o3, m3, c3, rfl, H3, H3s, H3b⟩ := It.opened hv3; have hB3 : Below (w.heap.size + 3) W0 w3 := hB2.trans (hb3.mono (by have := hB2.size; omega)); have hB3s := hB3.mono (Nat.le_succ _))
    | (go_at_call 46; refine (value_any _ _ _ _ (H3.out _ (Below.refl _ _)) (by omega)).mono ?_; rintro e w4 ⟨_, rfl, ⟨_, rfl, hv4⟩, hb4⟩; obtain ⟨o4, m4, c4, rfl, H4⟩ := FrW.opened hv4; have hB4 : Below (w.heap.size + 3) W0 w4 := hB3.trans (hb4.mono (by have := hB3.size; omega)); have hB4s := hB4.mono (Nat.le_succ _); obtain ⟨hr0, hr1, hr2, hr3⟩ := HT.out _ hB4))
  go_wp2
  have hbel : Below w.heap.size w w4 := hB0.trans (hB4.mono (by omega))
  refine bodyPost_ret (v := .agg #[.bool (decide ((x * y) < 0)), .slice o4 m4 c4]) (by simp [results, Try.results12, go_sem, hr0, hr1]) rfl ⟨_, rfl, ?_, (hbel.setCell (by simp <;> omega) _).setCell (by simp <;> omega) _⟩
  exact ⟨_, rfl, ((H4.out.set (by have := hB3.size; simp; omega) _).set (by have := hB3.size; simp; omega) _).base (by have := hB3.size; omega)⟩

end Go.Proofs.Ytbmdjimfncgomaa

/- The document's own integers: Mul. -/
namespace Go.Proofs.Ytbmdjimfncgomaa
open Go.RowKit

theorem val_take_any (B : Int) (M : List Int) (k : Nat) : val B (M.take (k + 1)) = val B (M.take k) + B ^ k * M[k]?.getD 0 := by
  by_cases hk : k < M.length
  · exact val_take_succ B M k hk
  · rw [List.take_of_length_le (by omega), List.take_of_length_le (by omega)]
    simp [Nat.le_of_not_lt hk]

/-- Behind k digits of the i-th row of a product. -/
structure MuI (W0 wr : World) (A B : List Int) (i k : Nat) (R : List Int) (c : Int) : Prop where
  row : Row .i64 3 wr W0.heap.size R
  len : R.length = A.length + B.length + 1
  dig : Dig R16 R
  c0 : 0 ≤ c
  c1 : c ≤ 65535
  eq : val R16 R + R16 ^ (i + k) * c = val R16 (A.take i) * val R16 B + R16 ^ i * (A[i]?.getD 0 * val R16 (B.take k))
  low : Below W0.heap.size W0 wr

theorem MuI.fits {W0 wr : World} {A B : List Int} {i k : Nat} {R : List Int} {c : Int} (H : MuI W0 wr A B i k R c) (hA : Dig R16 A) (hB : Dig R16 B) (hi : i < A.length) (hk : k < B.length ∨ 0 < c) : k ≤ B.length := by
  by_cases h : k ≤ B.length
  · exact h
  · exfalso
    have hc : 0 < c := by omega
    have e := H.eq
    rw [List.take_of_length_le (show B.length ≤ k by omega)] at e
    have e2 : val R16 (A.take i) * val R16 B + R16 ^ i * (A[i]?.getD 0 * val R16 B) = val R16 (A.take (i + 1)) * val R16 B := by
      rw [val_take_any R16 A i]; grind
    rw [e2] at e
    have h1 := val_lt R16_pos (hA.take (i + 1))
    rw [List.length_take, Nat.min_eq_left (by omega)] at h1
    have h2 := val_lt R16_pos hB
    have h3 := val_nonneg R16_pos hB
    have h4 := val_nonneg R16_pos (hA.take (i + 1))
    have h5 := val_nonneg R16_pos H.dig
    have h6 : val R16 (A.take (i + 1)) * val R16 B ≤ R16 ^ (i + 1) * R16 ^ B.length := Int.mul_le_mul (Int.le_of_lt h1) (Int.le_of_lt h2) h3 (Int.le_of_lt (Int.pow_pos R16_pos))
    rw [← Int.pow_add] at h6
    have h7 : R16 ^ (i + 1 + B.length) ≤ R16 ^ (i + k) := pow_mono R16_pos (by omega)
    have h8 : R16 ^ (i + k) * 1 ≤ R16 ^ (i + k) * c := Int.mul_le_mul_of_nonneg_left (by omega) (Int.le_of_lt (Int.pow_pos R16_pos))
    have h9 : val R16 (A.take (i + 1)) * val R16 B < R16 ^ (i + 1) * R16 ^ B.length ∨ val R16 B = 0 := by
      rcases Int.lt_or_eq_of_le h3 with h | h
      · left
        have a1 : val R16 (A.take (i + 1)) * val R16 B < R16 ^ (i + 1) * val R16 B := Int.mul_lt_mul_of_pos_right h1 h
        have a2 : R16 ^ (i + 1) * val R16 B ≤ R16 ^ (i + 1) * R16 ^ B.length := Int.mul_le_mul_of_nonneg_left (Int.le_of_lt h2) (Int.le_of_lt (Int.pow_pos R16_pos))
        omega
      · right; exact h.symm
    rw [← Int.pow_add] at h9
    have hp : (0 : Int) < R16 ^ (i + k) := Int.pow_pos R16_pos
    rcases h9 with h | h
    · omega
    · rw [h, Int.mul_zero] at e; omega

theorem MuI.step {W0 wr : World} {A B : List Int} {i k : Nat} {R : List Int} {c : Int} (H : MuI W0 wr A B i k R c) (hA : Dig R16 A) (hB : Dig R16 B) (hi : i < A.length) (hk : k ≤ B.length) (x y t n : Int) (hx : x = A[i]?.getD 0) (hy : y = B[k]?.getD 0) (ht : t = R[i + k]?.getD 0) (hn : n = t + x * y + c) :
    0 ≤ n ∧ n < 4294967296 ∧ MuI W0 (wr.setCell ⟨W0.heap.size, i + k, none⟩ (.int .i64 (n % 65536))) A B i (k + 1) (R.set (i + k) (n % 65536)) (n / 65536) := by
  have a := hA.at R16_pos i; have b := hB.at R16_pos k; have d := H.dig.at R16_pos (i + k)
  rw [← hx] at a; rw [← hy] at b; rw [← ht] at d
  unfold R16 at a b d
  have c0 := H.c0; have c1 := H.c1
  have p0 : 0 ≤ x * y := Int.mul_nonneg a.1 b.1
  have p1 : x * y ≤ 65535 * 65535 := Int.mul_le_mul (by omega) (by omega) b.1 (by decide)
  have n0 : 0 ≤ n := by omega
  have n1 : n < 4294967296 := by omega
  have hl : i + k < R.length := by rw [H.len]; omega
  refine ⟨n0, n1, ⟨H.row.set _ _, by simpa using H.len, H.dig.set _ (by omega) (by unfold R16; omega), by omega, by omega, ?_, H.low.setCell (Nat.le_refl _) _⟩⟩
  rw [val_set _ _ _ _ hl, val_take_any R16 B k, ← hx, ← hy, ← ht, show i + (k + 1) = i + k + 1 by omega, Int.pow_succ]
  have e := H.eq
  rw [← hx] at e
  have hd : n % 65536 + R16 * (n / 65536) = n := Int.emod_add_mul_ediv n 65536
  rw [Int.pow_add] at *
  generalize n % 65536 = lo at *
  generalize n / 65536 = hi2 at *
  generalize R16 ^ i = p at *
  generalize R16 ^ k = q at *
  generalize R16 = r at *
  grind

theorem MuI.drewN {W0 wr : World} {A B : List Int} {i k : Nat} {R : List Int} {c : Int} (H : MuI W0 wr A B i k R c) (n : Nat) : MuI W0 (wr.drewN n) A B i k R c := ⟨H.row, H.len, H.dig, H.c0, H.c1, H.eq, below_drewN H.low n⟩
theorem MuI.done {W0 wr : World} {A B : List Int} {i k : Nat} {R : List Int} (H : MuI W0 wr A B i k R 0) (hk : B.length ≤ k) : MuI W0 wr A B (i + 1) 0 R 0 := by
  refine ⟨H.row, H.len, H.dig, H.c0, H.c1, ?_, H.low⟩
  have e := H.eq
  rw [List.take_of_length_le hk] at e
  rw [val_take_any R16 A i]
  simp [val] at e ⊢
  rw [e]; grind

set_option maxRecDepth 100000 in
set_option maxHeartbeats 8000000 in
theorem rmul_any (u v : Value) (x y : Int) (Kx Ky : Nat) (w : World) (hu : Zt w u x Kx) (hv : Zt w v y Ky) (hKx : Kx ≤ 268435456) (hKy : Ky ≤ 268435456) :
    Calls Try.prog 17 #[u, v] w (RetZ w (x * y) (Kx + Ky + 1)) := by
  obtain ⟨_, rfl, ao, ca, A, rfl, hA⟩ := hu
  obtain ⟨_, rfl, bo, cb, B, rfl, hB⟩ := hv
  obtain ⟨n, hn⟩ : ∃ n, n = A.length := ⟨_, rfl⟩
  obtain ⟨m, hm⟩ : ∃ m, m = B.length := ⟨_, rfl⟩
  have hnK := hA.le; have hmK := hB.le
  have hdig := fun (w' : World) (hb : Below w.heap.size w w') (i : Nat) (hi : i ≤ 9223372036854775807) => digit_any bo cb i B w' (hB.rd.below hb (Nat.le_refl _)) hi
  rw [← hn] at hnK ⊢; rw [← hm] at hmK hdig ⊢
  obtain ⟨xb, hxb⟩ : ∃ xb, xb = decide (x < 0) := ⟨_, rfl⟩
  obtain ⟨yb, hyb⟩ : ∃ yb, yb = decide (y < 0) := ⟨_, rfl⟩
  rw [← hxb, ← hyb]
  have HA := hid hA; have HB := hid hB; have Hn := hid hn; have Hm := hid hm; have Hxb := hid hxb; have Hyb := hid hyb; have HDig := hid hdig
  clear hA hB hn hm hxb hyb hdig
  obtain ⟨i0, hi, hz0, hz1, hz2⟩ := info_parts Try.info3
  go_enter Try.func17, Try.ntmps17
  go_upto_region 1 with (fail)
  obtain ⟨W0, hW0⟩ : ∃ W0, W0 = (((w.alloc (.cells #[.bool xb, .slice ao n ca] 28)).alloc (.cells #[.bool yb, .slice bo m cb] 28)).alloc (.cells #[.bool false, .slice none 0 0] 28)) := ⟨_, rfl⟩
  have hB0 : Below w.heap.size w W0 := by rw [hW0]; exact (((Below.refl _ _).alloc (Nat.le_refl _) _).alloc (by simp) _).alloc (by simp; omega) _
  have hw0 : W0.heap.size = w.heap.size + 3 := by rw [hW0]; simp
  have HS : Hid (∀ w', Below W0.heap.size W0 w' → w'.cell? ⟨w.heap.size, 0, none⟩ = some (.bool xb) ∧ w'.cell? ⟨w.heap.size, 1, none⟩ = some (.slice ao n ca) ∧ w'.cell? ⟨w.heap.size + 1, 0, none⟩ = some (.bool yb) ∧ w'.cell? ⟨w.heap.size + 1, 1, none⟩ = some (.slice bo m cb)) := hid (fun w' hb => by
    refine ⟨?_, ?_, ?_, ?_⟩ <;> (rw [hb.cell (by rw [hw0]; simp <;> omega), hW0]; simp [go_sem]))
  have HT : Hid (∀ w', Below W0.heap.size W0 w' → w'.cell? ⟨w.heap.size + 2, 0, none⟩ = some (.bool false) ∧ w'.cell? ⟨w.heap.size + 2, 1, none⟩ = some (.slice none 0 0) ∧ w'.frozen? ⟨w.heap.size + 2, 0, none⟩ = false ∧ w'.frozen? ⟨w.heap.size + 2, 1, none⟩ = false) := hid (fun w' hb => by
    refine ⟨?_, ?_, ?_, ?_⟩ <;> (first | (rw [hb.cell (by rw [hw0]; simp <;> omega), hW0]; simp [go_sem]; done) | (rw [hb.frozen (by rw [hw0]; simp <;> omega), hW0]; simp [go_sem]; done)))
  rw [← hW0, show w.heap.size + 1 + 1 = w.heap.size + 2 from rfl]
  clear hW0
  obtain ⟨hs0, hs1, hs2, hs3⟩ := HS.out W0 (Below.refl _ _)
  have HB0 := hid hB0; have Hw0 := hid hw0
  clear hB0 hw0
  go_wp2_with (at_make; refine wpList_make_row W0 rfl _ _ 26 rfl 3 i0 .i64 Try.underlying26 hi hz0 hz1 .i64 .i64 _ _ (n + m + 1) rfl rfl (by omega) (by omega) (by rw [hz2]; omega) (by unfold maxLen; omega) ?_)
  intro w1 hrow hg1
  have hb1 := grown_below hg1
  have HI0 := hid (show MuI W0 w1 A B 0 0 (List.replicate (n + m + 1) 0) 0 from ⟨hrow, by simp [Hn.out, Hm.out], fun z hz => by rw [(List.mem_replicate.1 hz).2]; exact ⟨Int.le_refl 0, R16_pos⟩, Int.le_refl 0, by decide, by rw [val_rep0]; simp [val], hb1⟩)
  clear hrow hg1 hb1 hs0 hs1 hs2 hs3
  go_wp2
  go_loopw [6] (fun iv wr => ∃ i : Nat, ∃ R, i ≤ n ∧ iv = .int .i64 i ∧ MuI W0 wr A B i 0 R 0) (fun iv _ => n - (intOf iv).toNat)
  case atStart => exact ⟨0, _, Nat.zero_le _, rfl, HI0.out⟩
  case round =>
    obtain ⟨i, R, hi, rfl, H⟩ := hrel
    obtain ⟨hs0, hs1, hs2, hs3⟩ := HS.out _ H.low
    by_cases hlt : i < n
    · have HH := hid H
      have hi0 : (0 : Int) ≤ (i : Int) := by omega
      clear H HI0
      go_wp2
      go_loopw [7, 8] (fun cv kv wr => ∃ k : Nat, ∃ R c, k ≤ m + 1 ∧ kv = .int .i64 k ∧ cv = .int .i64 c ∧ MuI W0 wr A B i k R c) (fun _ kv _ => m + 2 - (intOf kv).toNat)
      case atStart => exact ⟨0, R, 0, Nat.zero_le _, rfl, rfl, HH.out⟩
      case round =>
        clear HH hs0 hs1 hs2 hs3
        obtain ⟨k, R, c, hk, rfl, rfl, H⟩ := hrel
        obtain ⟨hs0, hs1, hs2, hs3⟩ := HS.out _ H.low
        have c0 := H.c0; have c1 := H.c1
        by_cases hgo : k < m ∨ 0 < c
        · have hkm : k ≤ m := by
            have := H.fits HA.out.dig HB.out.dig (by have := Hn.out; omega) (by have := Hm.out; omega)
            have := Hm.out; omega
          obtain ⟨ab, ao', rfl⟩ := HA.out.rd.adr (by have := Hn.out; omega)
          have hca : wr.cell? ⟨ab, ao' + i, none⟩ = some (.int .i64 (A[i]?.getD 0)) := (HA.out.rd.below (HB0.out.trans (H.low.mono (by have := Hw0.out; omega))) (Nat.le_refl _)).cell ab ao' rfl i (by have := Hn.out; omega)
          have hcr := H.row.cell (i + k) (by rw [H.len]; have := Hn.out; have := Hm.out; omega)
          have hfr := H.row.frozen (i + k)
          have hdg := fun nq => HDig.out (wr.drewN nq) (below_drewN (HB0.out.trans (H.low.mono (by have := Hw0.out; omega))) nq) k (by omega)
          have da := HA.out.dig.at R16_pos i; have db := HB.out.dig.at R16_pos k; have dr := H.dig.at R16_pos (i + k)
          obtain ⟨xa, hxa⟩ : ∃ xa, xa = A[i]?.getD 0 := ⟨_, rfl⟩
          obtain ⟨yk, hyk⟩ : ∃ yk, yk = B[k]?.getD 0 := ⟨_, rfl⟩
          obtain ⟨t, ht⟩ : ∃ t, t = R[i + k]?.getD 0 := ⟨_, rfl⟩
          rw [← hxa] at hca da; rw [← hyk] at hdg db; rw [← ht] at hcr dr
          obtain ⟨s, hs⟩ : ∃ s, t + xa * yk + c = s := ⟨_, rfl⟩
          have hst := fun nq => (H.drewN nq).step HA.out.dig HB.out.dig (by have := Hn.out; omega) (by have := Hm.out; omega) xa yk t s hxa hyk ht hs.symm
          obtain ⟨s0, s1, _⟩ := hst 0
          have p0 : 0 ≤ xa * yk := Int.mul_nonneg da.1 db.1
          have t0 := dr.1
          have q1 : IntKind.i64.wrap (xa * yk) = xa * yk := IntWalk.i64_in _ (by omega)
          have q2 : IntKind.i64.wrap (t + xa * yk) = t + xa * yk := IntWalk.i64_in _ (by omega)
          have q3 : IntKind.i64.wrap (t + xa * yk + c) = s := by rw [IntWalk.i64_in _ (by omega)]; exact hs
          have q4 : IntKind.i64.wrap s = s := IntWalk.i64_in _ (by omega)
          have q5 : IntKind.i64.wrap ((i : Int) + k) = (i : Int) + k := IntWalk.i64_in _ (by omega)
          have q6 : (0 : Int) ≤ (i : Int) + k := by omega
          have q7 : ((i : Int) + k).toNat = i + k := by omega
          have q8 : (i : Int) + k < (n : Int) + m + 1 := by omega
          have HSt := hid hst; have HDg := hid hdg
          have hk0 : (0 : Int) ≤ (k : Int) := by omega
          clear hst hdg da db dr hxa hyk ht H c1
          by_cases hk2 : k < m
          · go_wp2
            go_quiet ((go_at_call 55; exact Calls.quiet_of_same (HDg.out _)))
            clear q1 q2 q3 q4 q5 q6 q7 hs
            go_wp2
            go_roundw
            case rel => exact ⟨k + 1, _, _, by omega, by go_num, rfl, (HSt.out _).2.2⟩
            case measure => simp [intOf]; omega
          · have hcp : 0 < c := by omega
            go_wp2
            go_quiet ((go_at_call 55; exact Calls.quiet_of_same (HDg.out _)))
            clear q1 q2 q3 q4 q5 q6 q7 hs
            go_wp2
            go_roundw
            case rel => exact ⟨k + 1, _, _, by omega, by go_num, rfl, (HSt.out _).2.2⟩
            case measure => simp [intOf]; omega
        · obtain rfl : c = 0 := by omega
          have hkm : ¬ k < m := by omega
          have HN := hid (H.done (by have := Hm.out; omega))
          clear H c0 c1
          go_wp2
          go_roundw
          case rel => exact ⟨i + 1, R, by omega, by go_num, HN.out⟩
          case measure => simp [intOf]; omega
    · obtain rfl : i = n := by omega
      have hdg : Dg wr (.slice (some ⟨W0.heap.size, 0, none⟩) (i + m + 1) (i + m + 1)) ((x.natAbs : Int) * (y.natAbs : Int)) (Kx + Ky + 1) := by
        have hl := H.len
        rw [← Hn.out, ← Hm.out] at hl
        have e := H.eq
        rw [List.take_of_length_le (by have := Hn.out; omega), HA.out.eq, HB.out.eq] at e
        simp [val] at e
        rw [← hl]
        exact ⟨_, _, R, rfl, rowi_rd H.row (Nat.le_refl _) (by rw [hl]; omega), H.dig, e, by rw [hl]; omega⟩
      have hm := made_any (xb != yb) _ _ _ wr hdg
      have e : sgn (xb != yb) ((x.natAbs : Int) * (y.natAbs : Int)) = x * y := by rw [Hxb.out, Hyb.out]; exact sgn_mul x y
      rw [e] at hm
      have HM := hid hm; have HL := hid H.low
      clear hm hdg H HI0 e
      go_wp2_with fail
      refine HM.out.mono ?_
      rintro e w1 ⟨_, rfl, hv1, hb1⟩
      obtain ⟨b1, o1, m1, c1, rfl, H1, H1s, H1b⟩ := Zt.opened hv1
      have hB1 : Below W0.heap.size W0 w1 := HL.out.trans (hb1.mono HL.out.size)
      obtain ⟨hr0, hr1, hr2, hr3⟩ := HT.out _ hB1
      go_wp2
      have hbel : Below w.heap.size w w1 := HB0.out.trans (hB1.mono (by have := Hw0.out; omega))
      refine bodyPost_ret (v := .agg #[.bool b1, .slice o1 m1 c1]) (by simp [results, Try.results17, go_sem, hr0, hr1]) rfl ⟨_, rfl, ?_, (hbel.setCell (by simp <;> omega) _).setCell (by simp <;> omega) _⟩
      exact ((H1.out _ (Below.refl _ _)).set hr0 (fun x h => (by cases h)) _).set (u := .slice none 0 0) (by simp [go_sem, hr1]) (fun x h => (by cases h)) _

end Go.Proofs.Ytbmdjimfncgomaa
