/- exact.Div. Written by gen_ediv.py. -/
import Derived.Test.YtilpkocmdpofpaaGreatDoorNb17
/- exact.Div. Written by gen_ediv.py. -/
namespace Go.Proofs.YtilpkocmdpofpaaGreatDoor
open Go.RowKit

/-- A result of exact.Div: two integers in new memory, and the error. -/
def RetAA (w : World) (q r : Int) (Kq Kr : Nat) (err : Int) (e : Ending) (w' : World) : Prop := ∃ v1 v2, e = .returned (.tuple #[v1, v2, .int .i64 err]) ∧ FrA w w' v1 q Kq ∧ FrA w w' v2 r Kr ∧ Below w.heap.size w w'

set_option maxRecDepth 100000 in
set_option maxHeartbeats 1000000 in
theorem Div_zero (u v : Value) (x : Int) (K : Nat) (w : World) (hu : Ai w u x K) (hv : Ai w v 0 K) (hK : K ≤ 1073741823) :
    Calls Tryz.prog 21 #[u, v] w fun e w' => e = .returned (.tuple #[.agg #[.bool false, .slice none 0 0], .agg #[.bool false, .slice none 0 0], .int .i64 10]) ∧ Below w.heap.size w w' := by
  obtain ⟨xb, xo, xm, xc, rfl, _⟩ := Ai.opened hu
  obtain ⟨yb, yo, ym, yc, rfl, Hy⟩ := Ai.opened hv
  clear hu hv
  obtain ⟨W0, hW0⟩ : ∃ W0, W0 = ((((w.alloc (.cells #[.bool xb, .slice xo xm xc] 24)).alloc (.cells #[.bool yb, .slice yo ym yc] 24)).alloc (.cells #[.bool false, .slice none 0 0] 24)).alloc (.cells #[.bool false, .slice none 0 0] 24)) := ⟨_, rfl⟩
  have hB0 : Below w.heap.size w W0 := by rw [hW0]; exact ((((Below.refl _ _).alloc (Nat.le_refl _) _).alloc (by simp) _).alloc (by simp <;> omega) _).alloc (by simp <;> omega) _
  have hz0 : W0.heap.size = w.heap.size + 4 := by rw [hW0]; simp
  have HS : Hid (∀ w', Below (w.heap.size + 2) W0 w' → w'.cell? ⟨w.heap.size, 0, none⟩ = some (.bool xb) ∧ w'.cell? ⟨w.heap.size, 1, none⟩ = some (.slice xo xm xc) ∧ w'.cell? ⟨w.heap.size + 1, 0, none⟩ = some (.bool yb) ∧ w'.cell? ⟨w.heap.size + 1, 1, none⟩ = some (.slice yo ym yc)) := hid (fun w' hb => by
    refine ⟨?_, ?_, ?_, ?_⟩ <;> (rw [hb.cell (by simp <;> omega), hW0]; simp [go_sem]))
  have HT : Hid (∀ w', Below (w.heap.size + 4) W0 w' → (w'.cell? ⟨w.heap.size + 2, 0, none⟩ = some (.bool false) ∧ w'.cell? ⟨w.heap.size + 2, 1, none⟩ = some (.slice none 0 0) ∧ w'.cell? ⟨w.heap.size + 3, 0, none⟩ = some (.bool false) ∧ w'.cell? ⟨w.heap.size + 3, 1, none⟩ = some (.slice none 0 0)) ∧ (w'.frozen? ⟨w.heap.size + 2, 0, none⟩ = false ∧ w'.frozen? ⟨w.heap.size + 2, 1, none⟩ = false ∧ w'.frozen? ⟨w.heap.size + 3, 0, none⟩ = false ∧ w'.frozen? ⟨w.heap.size + 3, 1, none⟩ = false)) := hid (fun w' hb => by
    refine ⟨⟨?_, ?_, ?_, ?_⟩, ?_, ?_, ?_, ?_⟩ <;> (first | (rw [hb.cell (by simp <;> omega), hW0]; simp [go_sem]; done) | (rw [hb.frozen (by simp <;> omega), hW0]; simp [go_sem]; done)))
  have HB0 := hid hB0; have Hz0 := hid hz0; have HW := hid hW0
  clear hW0 hB0 hz0
  go_enter Tryz.func21, Tryz.ntmps21
  go_upto_region 1 with (fail)
  rw [← HW.out]
  obtain ⟨k0, k1, k2, k3⟩ := HS.out _ (Below.refl _ _)
  go_wp2_with fail
  refine (read_any _ 0 K _ (Hy.out _ HB0.out) (by omega)).mono ?_
  rintro e w1 ⟨_, rfl, hv1, hb1⟩
  obtain ⟨b1, o1, m1, c1, rfl, H1, H1s, H1b⟩ := It.opened hv1
  have hB1 : Below (w.heap.size + 4) W0 w1 := hb1.mono (by have := Hz0.out; omega)
  clear k0 k1 k2 k3 hv1 hb1
  go_wp2_with fail
  refine (sign_any _ 0 _ _ (H1.out _ ((Below.refl _ _).alloc (Nat.le_refl _) _))).mono ?_
  rintro e w3 ⟨rfl, hb3⟩
  have hX3 : Below (w.heap.size + 4) W0 w3 := (hB1.alloc (by have := hB1.size; have := Hz0.out; omega) _).trans (hb3.mono (by have := hB1.size; have := Hz0.out; simp; omega))
  obtain ⟨⟨hr0, hr1, hr2, hr3⟩, hf0, hf1, hf2, hf3⟩ := HT.out _ hX3
  have h00 : cmpI 0 0 = 0 := by decide
  rw [h00]
  go_wp2
  have hw6 : Below w.heap.size w w3 := HB0.out.trans (hX3.mono (by omega))
  exact bodyPost_ret (v := .tuple #[.agg #[.bool false, .slice none 0 0], .agg #[.bool false, .slice none 0 0], .int .i64 10]) (by simp [results, Tryz.results21, go_sem, hr0, hr1, hr2, hr3]) rfl ⟨rfl, (((hw6.setCell (by simp <;> omega) _).setCell (by simp <;> omega) _).setCell (by simp <;> omega) _).setCell (by simp <;> omega) _⟩

set_option maxRecDepth 100000 in
set_option maxHeartbeats 4000000 in
theorem Div_any (u v : Value) (x y : Int) (K : Nat) (w : World) (hu : Ai w u x K) (hv : Ai w v y K) (hy : y ≠ 0) (hK : K ≤ 1073741800) :
    Calls Tryz.prog 21 #[u, v] w (RetAA w (x.fdiv y) (x.fmod y) (2 * ((K + 1) / 2 + 2)) (2 * ((K + 1) / 2)) 0) := by
  obtain ⟨xb, xo, xm, xc, rfl, Hx⟩ := Ai.opened hu
  obtain ⟨yb, yo, ym, yc, rfl, Hy⟩ := Ai.opened hv
  clear hu hv
  obtain ⟨W0, hW0⟩ : ∃ W0, W0 = ((((w.alloc (.cells #[.bool xb, .slice xo xm xc] 24)).alloc (.cells #[.bool yb, .slice yo ym yc] 24)).alloc (.cells #[.bool false, .slice none 0 0] 24)).alloc (.cells #[.bool false, .slice none 0 0] 24)) := ⟨_, rfl⟩
  have hB0 : Below w.heap.size w W0 := by rw [hW0]; exact ((((Below.refl _ _).alloc (Nat.le_refl _) _).alloc (by simp) _).alloc (by simp <;> omega) _).alloc (by simp <;> omega) _
  have hz0 : W0.heap.size = w.heap.size + 4 := by rw [hW0]; simp
  have HS : Hid (∀ w', Below (w.heap.size + 2) W0 w' → w'.cell? ⟨w.heap.size, 0, none⟩ = some (.bool xb) ∧ w'.cell? ⟨w.heap.size, 1, none⟩ = some (.slice xo xm xc) ∧ w'.cell? ⟨w.heap.size + 1, 0, none⟩ = some (.bool yb) ∧ w'.cell? ⟨w.heap.size + 1, 1, none⟩ = some (.slice yo ym yc)) := hid (fun w' hb => by
    refine ⟨?_, ?_, ?_, ?_⟩ <;> (rw [hb.cell (by simp <;> omega), hW0]; simp [go_sem]))
  have HT : Hid (∀ w', Below (w.heap.size + 4) W0 w' → (w'.cell? ⟨w.heap.size + 2, 0, none⟩ = some (.bool false) ∧ w'.cell? ⟨w.heap.size + 2, 1, none⟩ = some (.slice none 0 0) ∧ w'.cell? ⟨w.heap.size + 3, 0, none⟩ = some (.bool false) ∧ w'.cell? ⟨w.heap.size + 3, 1, none⟩ = some (.slice none 0 0)) ∧ (w'.frozen? ⟨w.heap.size + 2, 0, none⟩ = false ∧ w'.frozen? ⟨w.heap.size + 2, 1, none⟩ = false ∧ w'.frozen? ⟨w.heap.size + 3, 0, none⟩ = false ∧ w'.frozen? ⟨w.heap.size + 3, 1, none⟩ = false)) := hid (fun w' hb => by
    refine ⟨⟨?_, ?_, ?_, ?_⟩, ?_, ?_, ?_, ?_⟩ <;> (first | (rw [hb.cell (by simp <;> omega), hW0]; simp [go_sem]; done) | (rw [hb.frozen (by simp <;> omega), hW0]; simp [go_sem]; done)))
  have HB0 := hid hB0; have Hz0 := hid hz0; have HW := hid hW0
  clear hW0 hB0 hz0
  have hcy : cmpI y 0 ≠ 0 := by unfold cmpI; split <;> (try split) <;> omega
  obtain ⟨t, ht⟩ : ∃ t, t = cmpI y 0 := ⟨_, rfl⟩
  rw [← ht] at hcy
  have Ht := hid ht
  clear ht
  go_enter Tryz.func21, Tryz.ntmps21
  go_upto_region 1 with (fail)
  rw [← HW.out]
  obtain ⟨k0, k1, k2, k3⟩ := HS.out _ (Below.refl _ _)
  go_wp2_with fail
  refine (read_any _ y K _ (Hy.out _ HB0.out) (by omega)).mono ?_
  rintro e w1 ⟨_, rfl, hv1, hb1⟩
  obtain ⟨by1, o1, m1, cy, rfl, H1, H1s, H1b⟩ := It.opened hv1
  have hB1 : Below (w.heap.size + 4) W0 w1 := hb1.mono (by have := Hz0.out; omega)
  clear k0 k1 k2 k3 hv1 hb1
  go_wp2_with fail
  obtain ⟨W2, hW2⟩ : ∃ W2, W2 = w1.alloc (.cells #[.bool by1, .slice o1 m1 cy] 84) := ⟨_, rfl⟩
  have hal : Below w1.heap.size w1 W2 := by rw [hW2]; exact (Below.refl _ _).alloc (Nat.le_refl _) _
  have hz2 : W2.heap.size = w1.heap.size + 1 := by rw [hW2]; simp
  have hs1 := hB1.size
  have hB2 : Below (w.heap.size + 4) W0 W2 := hB1.trans (hal.mono (by have := Hz0.out; omega))
  have hbx := HS.out _ (hB2.mono (by omega))
  have hby0 : W2.cell? ⟨w1.heap.size, 0, none⟩ = some (.bool by1) := by rw [hW2]; simp [go_sem]
  have hby1 : W2.cell? ⟨w1.heap.size, 1, none⟩ = some (.slice o1 m1 cy) := by rw [hW2]; simp [go_sem]
  rw [← hW2]
  have HAL := hid hal
  have hY2 := H1.out _ hal
  refine (sign_any _ y _ _ hY2).mono ?_
  rintro e w3 ⟨rfl, hb3⟩
  rw [← Ht.out]
  have HSS : Hid (∀ w', Below w3.heap.size w3 w' → w'.cell? ⟨w.heap.size, 0, none⟩ = some (.bool xb) ∧ w'.cell? ⟨w.heap.size, 1, none⟩ = some (.slice xo xm xc) ∧ w'.cell? ⟨w1.heap.size, 0, none⟩ = some (.bool by1) ∧ w'.cell? ⟨w1.heap.size, 1, none⟩ = some (.slice o1 m1 cy)) := hid (fun w' h => by
    have h2 : Below W2.heap.size W2 w' := hb3.trans (h.mono hb3.size)
    have := Hz0.out
    exact ⟨(h2.cell (by simp; omega)).trans hbx.1, (h2.cell (by simp; omega)).trans hbx.2.1, (h2.cell (by simp; omega)).trans hby0, (h2.cell (by simp; omega)).trans hby1⟩)
  have HY : Hid (∀ w', Below w3.heap.size w3 w' → It w' (.agg #[.bool by1, .slice o1 m1 cy]) y ((K + 1) / 2)) := hid (fun w' h => hY2.below (hb3.trans (h.mono hb3.size)) (Nat.le_refl _))
  have hB3 : Below (w.heap.size + 4) W0 w3 := hB2.trans (hb3.mono (by have := Hz0.out; omega))
  have HB34 := hid hB3
  have HB3 : Hid (Below w.heap.size w w3) := hid (HB0.out.trans (hB3.mono (by omega)))
  have Hs3 := hid (show w.heap.size + 4 ≤ w3.heap.size by have := hb3.size; have := Hz0.out; omega)
  clear hW2 hbx hby0 hby1 hal hB2 hz2 hs1 hB1 hY2 hb3 hB3 H1 H1s H1b HAL
  go_wp2
  rw [show (t == 0) = false by simpa using hcy]
  refine region_inv (by kernel_rfl) (fun L a w' => ∃ b0 b1 b2 b3 b4 b5 b6 b7 b8 b9 b10, L = #[b0, b1, b2, b3, b4, b5, b6, b7, b8, b9, b10] ∧ (b9 = true → b5 = true ∧ b7 = true) ∧ (b10 = true → b6 = true ∧ b8 = true) ∧ ∃ s8 s9 s17 s18 s19 s20 s21 s22 s23, a = { tmps := #[.agg #[.bool xb, .slice xo xm xc], .agg #[.bool yb, .slice yo ym yc], .pointer (some ⟨w.heap.size, 0, none⟩), .pointer (some ⟨w.heap.size + 1, 0, none⟩), .pointer (some ⟨w.heap.size + 2, 0, none⟩), .pointer (some ⟨w.heap.size + 3, 0, none⟩), .int .i64 0, .pointer (some ⟨w1.heap.size, 0, none⟩), s8, s9, .agg #[.bool yb, .slice yo ym yc], .agg #[.bool by1, .slice o1 m1 cy], .agg #[.bool by1, .slice o1 m1 cy], .int .i64 t, .bool false, undef, undef, s17, s18, s19, s20, s21, s22, s23, undef, undef, undef, undef], defers := [] } ∧ QuoJ .u64 w3.heap.size w3 (.agg #[.bool xb, .slice xo xm xc]) (.agg #[.bool by1, .slice o1 m1 cy]) (fun w v => It w v x ((K + 1) / 2)) (fun w v => It w v (x.fdiv y) ((K + 1) / 2 + 2)) (fun w v => It w v (x.fmod y) ((K + 1) / 2)) b0 b1 b2 b3 b4 b5 b6 b7 b8 b9 b10 s8 s9 s17 s18 s19 s20 s21 s22 s23 w') ?_ ?_ ?_
  · exact ⟨_, _, _, _, _, _, _, _, _, _, _, rfl, nofun, nofun, _, _, _, _, _, _, _, _, _, rfl, QuoJ.start (Below.refl _ _).drew (by simp)⟩
  · rintro L a w' i hs ⟨b0, b1, b2, b3, b4, b5, b6, b7, b8, b9, b10, rfl, h95, h106, s8, s9, s17, s18, s19, s20, s21, s22, s23, rfl, J⟩ hi
    obtain ⟨hi, hn, hd⟩ := waits_spec (dep := [[], [0], [], [1, 2], [3], [4], [4], [], [], [7, 5], [8, 6]]) (by kernel_rfl) hi
    have hi11 : i < 11 := hi
    obtain ⟨k0, k1, k2, k3⟩ := HSS.out w' J.bel
    have HJ := hid J
    rcases (show i = 0 ∨ i = 1 ∨ i = 2 ∨ i = 3 ∨ i = 4 ∨ i = 5 ∨ i = 6 ∨ i = 7 ∨ i = 8 ∨ i = 9 ∨ i = 10 by omega) with rfl | rfl | rfl | rfl | rfl | rfl | rfl | rfl | rfl | rfl | rfl
    · clear J hd hi hi11 hn
      refine wpOp_step rfl (fun K hK => ?_)
      go_simp
      exact hK _ _ ⟨true, b1, b2, b3, b4, b5, b6, b7, b8, b9, b10, rfl, h95, h106, _, _, _, _, _, _, _, _, _, rfl, HJ.out.load0⟩
    · obtain rfl := J.l0 (hd 0 (by simp))
      have hw := HB3.out.trans (J.bel.mono HB3.out.size)
      clear J hd hi hi11 hn
      refine wpOp_step rfl (fun K hK => ?_)
      go_simp
      refine (read_any _ x _ _ (Hx.out _ hw) (by omega)).mono ?_
      rintro e w1 ⟨v, rfl, hv, hb⟩
      exact hK _ _ ⟨b0, true, b2, b3, b4, b5, b6, b7, b8, b9, b10, rfl, h95, h106, _, _, _, _, _, _, _, _, _, rfl, HJ.out.call1 (it_keepG _ _) (it_keepG _ _) hb hv⟩
    · clear J hd hi hi11 hn
      refine wpOp_step rfl (fun K hK => ?_)
      go_simp
      exact hK _ _ ⟨b0, b1, true, b3, b4, b5, b6, b7, b8, b9, b10, rfl, h95, h106, _, _, _, _, _, _, _, _, _, rfl, HJ.out.load2⟩
    · obtain rfl := J.l2 (hd 2 (by simp))
      have hg1 := J.c1 (hd 1 (by simp))
      have hy1 := HY.out w' J.bel
      clear J hd hi hi11 hn
      refine wpOp_step rfl (fun K hK => ?_)
      go_simp
      refine (over_any _ _ x y _ _ hg1 hy1 hy (by omega)).mono ?_
      rintro e w1 ⟨v1, v2, rfl, hv1, hv2, hb⟩
      exact hK _ _ ⟨b0, b1, b2, true, b4, b5, b6, b7, b8, b9, b10, rfl, h95, h106, _, _, _, _, _, _, _, _, _, rfl, HJ.out.call3 (it_keepG _ _) (it_keepG _ _) (it_keepG _ _) hb hv1 hv2⟩
    · obtain rfl : b3 = true := hd 3 (by simp)
      clear J hd hi hi11 hn
      refine wpOp_step rfl (fun K hK => ?_)
      go_simp
      exact hK _ _ ⟨b0, b1, b2, true, true, b5, b6, b7, b8, b9, b10, rfl, h95, h106, _, _, _, _, _, _, _, _, _, rfl, HJ.out.move4⟩
    · obtain ⟨u, v, rfl, hu, hv⟩ := J.m4 (hd 4 (by simp))
      obtain rfl : b5 = false := hn
      obtain rfl : b9 = false := by cases b9 with | false => rfl | true => exact absurd (h95 rfl).1 (by simp)
      clear J hd hi hi11 h95
      refine wpOp_step rfl (fun K hK => ?_)
      go_simp
      exact hK _ _ ⟨b0, b1, b2, b3, b4, true, b6, b7, b8, false, b10, rfl, nofun, h106, _, _, _, _, _, _, _, _, _, rfl, HJ.out.ext5 hu⟩
    · obtain ⟨u, v, rfl, hu, hv⟩ := J.m4 (hd 4 (by simp))
      obtain rfl : b6 = false := hn
      obtain rfl : b10 = false := by cases b10 with | false => rfl | true => exact absurd (h106 rfl).1 (by simp)
      clear J hd hi hi11 h106
      refine wpOp_step rfl (fun K hK => ?_)
      go_simp
      exact hK _ _ ⟨b0, b1, b2, b3, b4, b5, true, b7, b8, b9, false, rfl, h95, nofun, _, _, _, _, _, _, _, _, _, rfl, HJ.out.ext6 hv⟩
    · obtain rfl : b7 = false := hn
      obtain rfl : b9 = false := by cases b9 with | false => rfl | true => exact absurd (h95 rfl).2 (by simp)
      clear J hd hi hi11 h95
      refine wpOp_step rfl (fun K hK => ?_)
      go_simp
      exact hK _ _ ⟨b0, b1, b2, b3, b4, b5, b6, true, b8, false, b10, rfl, nofun, h106, _, _, _, _, _, _, _, _, _, rfl, HJ.out.alloc7 (it_keepG _ _) (it_keepG _ _) (it_keepG _ _) _⟩
    · obtain rfl : b8 = false := hn
      obtain rfl : b10 = false := by cases b10 with | false => rfl | true => exact absurd (h106 rfl).2 (by simp)
      clear J hd hi hi11 h106
      refine wpOp_step rfl (fun K hK => ?_)
      go_simp
      exact hK _ _ ⟨b0, b1, b2, b3, b4, b5, b6, b7, true, b9, false, rfl, h95, nofun, _, _, _, _, _, _, _, _, _, rfl, HJ.out.alloc8 (it_keepG _ _) (it_keepG _ _) (it_keepG _ _) _⟩
    · obtain rfl : b7 = true := hd 7 (by simp)
      obtain rfl : b5 = true := hd 5 (by simp)
      obtain ⟨p, v0, v1, rfl, hp, c0, c1, f0, f1, _⟩ := J.p7 rfl
      obtain ⟨sb, so, sm, sc, rfl, _⟩ := It.opened (J.e5 rfl)
      clear J hd hi hi11 hn
      refine wpOp_step rfl (fun K hK => ?_)
      go_simp
      exact hK _ _ ⟨b0, b1, b2, b3, b4, true, b6, true, b8, true, b10, rfl, fun _ => ⟨rfl, rfl⟩, h106, _, _, _, _, _, _, _, _, _, rfl, HJ.out.store9 (it_keepG _ _) (it_keepG _ _) (it_keepG _ _) nofun nofun⟩
    · obtain rfl : b8 = true := hd 8 (by simp)
      obtain rfl : b6 = true := hd 6 (by simp)
      obtain ⟨p, v0, v1, rfl, hp, c0, c1, f0, f1, _⟩ := J.p8 rfl
      obtain ⟨sb, so, sm, sc, rfl, _⟩ := It.opened (J.e6 rfl)
      clear J hd hi hi11 hn
      refine wpOp_step rfl (fun K hK => ?_)
      go_simp
      exact hK _ _ ⟨b0, b1, b2, b3, b4, b5, true, b7, true, b9, true, rfl, h95, fun _ => ⟨rfl, rfl⟩, _, _, _, _, _, _, _, _, _, rfl, HJ.out.store10 (it_keepG _ _) (it_keepG _ _) (it_keepG _ _) nofun nofun⟩
  rintro L a w' hs ⟨b0, b1, b2, b3, b4, b5, b6, b7, b8, b9, b10, rfl, _, _, s8, s9, s17, s18, s19, s20, s21, s22, s23, rfl, J⟩ hr
  have hd := early_done (by kernel_rfl) hs hr 11
  obtain rfl : b5 = true := hd 5 (by omega) (by simp)
  obtain rfl : b6 = true := hd 6 (by omega) (by simp)
  obtain rfl : b7 = true := hd 7 (by omega) (by simp)
  obtain rfl : b8 = true := hd 8 (by omega) (by simp)
  obtain rfl : b9 = true := hd 9 (by omega) (by simp)
  obtain rfl : b10 = true := hd 10 (by omega) (by simp)
  obtain ⟨p, u0, u1, rfl, hp, c0, c1, f0, f1, _, _, hu⟩ := J.p7 rfl
  obtain ⟨q, t0, t1, rfl, hq, d0, d1, g0, g1, _, _, ht⟩ := J.p8 rfl
  obtain rfl := hu rfl
  obtain rfl := ht rfl
  have hbel := J.bel
  have hsiz := J.siz
  have hv1 := J.e5 rfl
  have hv2 := J.e6 rfl
  clear hd hr hs J hu ht
  obtain ⟨qb, qo, qm, qc, eq1, H4, _, _⟩ := It.opened hv1
  obtain ⟨rb, ro, rm, rc, eq2, H5, _, _⟩ := It.opened hv2
  cases eq1
  cases eq2
  have hlp := World.block_lt_of_cell? _ _ c0
  have hlq := World.block_lt_of_cell? _ _ d0
  have hp4 : w.heap.size + 4 ≤ p := Nat.le_trans Hs3.out hp
  have hq4 : w.heap.size + 4 ≤ q := Nat.le_trans Hs3.out hq
  obtain ⟨W4, rfl⟩ : ∃ W4, W4 = w' := ⟨_, rfl⟩
  have HR : Hid (∀ w', Kq W4.heap.size (w.heap.size + 4) W4 w' → w'.cell? ⟨p, 0, none⟩ = some (.bool qb) ∧ w'.cell? ⟨p, 1, none⟩ = some (.slice qo qm qc) ∧ w'.cell? ⟨q, 0, none⟩ = some (.bool rb) ∧ w'.cell? ⟨q, 1, none⟩ = some (.slice ro rm rc)) := hid (fun w' h =>
    ⟨(h.cell ⟨p, 0, none⟩ hp4 hlp).trans c0, (h.cell ⟨p, 1, none⟩ hp4 hlp).trans c1, (h.cell ⟨q, 0, none⟩ hq4 hlq).trans d0, (h.cell ⟨q, 1, none⟩ hq4 hlq).trans d1⟩)
  have HB4 := hid hbel
  have Hs4 := hid hsiz
  clear hv1 hv2 c0 c1 d0 d1 f0 f1 g0 g1 hlp hlq hbel hsiz hp hq HSS HY
  go_wp2
  go_region_held3 (fun w' => w'.cell? ⟨p, 0, none⟩ = some (.bool qb) ∧ w'.cell? ⟨p, 1, none⟩ = some (.slice qo qm qc) ∧ w'.cell? ⟨q, 0, none⟩ = some (.bool rb) ∧ w'.cell? ⟨q, 1, none⟩ = some (.slice ro rm rc)) ((refine HR.out _ ?_; repeat (first | assumption | exact Kq.of_below (by assumption) | exact Kq.of_below (Below.refl _ _) | exact Kq.of_below (Below.refl _ _).drew | exact Kq.of_below (Below.drew (by assumption)) | (refine Kq.set ?_ (by simp) _)))) (first
    | (go_at_call_of 81 (qo); refine (value_any _ _ _ _ (H4.out _ (Below.refl _ _).drew) (by omega)).mono ?_; rintro e w5 ⟨_, rfl, ⟨_, rfl, hv5⟩, hb5⟩; obtain ⟨o5, m5, c5, rfl, H6⟩ := FrW.opened hv5; have hX5 : Below W4.heap.size W4 w5 := (Below.refl _ _).drew.trans hb5)
    | (go_at_call_of 81 (ro); refine (value_any _ _ _ _ (H5.out _ hX5) (by omega)).mono ?_; rintro e w6 ⟨_, rfl, ⟨_, rfl, hv6⟩, hb6⟩; obtain ⟨o6, m6, c6, rfl, H7⟩ := FrW.opened hv6; have hX6 : Below W4.heap.size W4 w6 := hX5.trans (hb6.mono hX5.size); obtain ⟨⟨hr0, hr1, hr2, hr3⟩, hf0, hf1, hf2, hf3⟩ := HT.out _ (HB34.out.trans ((HB4.out.trans (hX6.mono Hs4.out)).mono (by have := Hs3.out; omega)))))
  go_wp2
  have hs3 := Hs3.out; have hs4 := Hs4.out; have hs5 := hX5.size
  have hw6 : Below w.heap.size w w6 := HB3.out.trans ((HB4.out.trans (hX6.mono hs4)).mono (by omega))
  refine bodyPost_ret (v := .tuple #[.agg #[.bool (decide (x.fdiv y < 0)), .slice o5 m5 c5], .agg #[.bool (decide (x.fmod y < 0)), .slice o6 m6 c6], .int .i64 0]) (by simp [results, Tryz.results21, go_sem, hr0, hr1, hr2, hr3]) rfl ⟨_, _, rfl, ⟨_, rfl, ?_⟩, ⟨_, rfl, ?_⟩, (((hw6.setCell (by simp <;> omega) _).setCell (by simp <;> omega) _).setCell (by simp <;> omega) _).setCell (by simp <;> omega) _⟩
  · exact (((((H6.out.below hb6 (Nat.le_refl _)).set (by simp; omega) _).set (by simp; omega) _).set (by simp; omega) _).set (by simp; omega) _).base (by simp; omega)
  · exact ((((H7.out.set (by simp; omega) _).set (by simp; omega) _).set (by simp; omega) _).set (by simp; omega) _).base (by omega)
end Go.Proofs.YtilpkocmdpofpaaGreatDoor
