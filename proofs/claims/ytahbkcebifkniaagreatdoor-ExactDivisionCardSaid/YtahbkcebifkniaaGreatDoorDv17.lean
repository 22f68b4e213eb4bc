/- exact.Div. Written by gen_ediv.py. alive of the outright laws: true. -/
import Derived.Test.YtahbkcebifkniaaGreatDoorDv16
import Derived.Test.YtahbkcebifkniaaGreatDoorDv15
/- exact.Div. Written by gen_ediv.py. -/
namespace Go.Proofs.YtahbkcebifkniaaGreatDoor
open Go.RowKit

/-- A result of exact.Div: two integers in new memory, and the error. -/
def RetAA (w : World) (q r : Int) (Kq Kr : Nat) (err : Int) (e : Ending) (w' : World) : Prop := ∃ v1 v2, e = .returned (.tuple #[v1, v2, .int .i64 err]) ∧ FrA w w' v1 q Kq ∧ FrA w w' v2 r Kr ∧ Below w.heap.size w w'

set_option maxRecDepth 100000 in
set_option maxHeartbeats 1000000 in
theorem Div_zero (u v : Value) (x : Int) (K : Nat) (w : World) (hu : Ai w u x K) (hv : Ai w v 0 K) (hK : K ≤ 1073741823) :
    Calls Tryz.prog 14 #[u, v] w fun e w' => e = .returned (.tuple #[.agg #[.bool false, .slice none 0 0], .agg #[.bool false, .slice none 0 0], .int .i64 10]) ∧ Below w.heap.size w w' := by
  obtain ⟨xb, xo, xm, xc, rfl, _⟩ := Ai.opened hu
  obtain ⟨yb, yo, ym, yc, rfl, Hy⟩ := Ai.opened hv
  clear hu hv
  obtain ⟨W0, hW0⟩ : ∃ W0, W0 = ((((w.alloc (.cells #[.bool xb, .slice xo xm xc] 24)).alloc (.cells #[.bool yb, .slice yo ym yc] 24)).alloc (.cells #[.bool false, .slice none 0 0] 24)).alloc (.cells #[.bool false, .slice none 0 0] 24)) := ⟨_, rfl⟩
  have hB0 : Below w.heap.size w W0 := by rw [hW0]; exact ((((Below.refl _ _).alloc (Nat.le_refl _) _).alloc (by simp) _).alloc (by simp <;> omega) _).alloc (by simp <;> omega) _
  have hz0 : W0.heap.size = w.heap.size + 4 := by rw [hW0]; simp
  have HS : Hid (∀ w', Below (w.heap.size + 2) W0 w' → w'.cell? ⟨w.heap.size, 0, none⟩ = some (.bool xb) ∧ w'.cell? ⟨w.heap.size, 1, none⟩ = some (.slice xo xm xc) ∧ w'.cell? ⟨w.heap.size + 1, 0, none⟩ = some (.bool yb) ∧ w'.cell? ⟨w.heap.size + 1, 1, none⟩ = some (.slice yo ym yc)) := hid (fun w' hb => by
    refine ⟨?_, ?_, ?_, ?_⟩ <;> (rw [hb.cell (by simp <;> omega), hW0]; simp [go_sem]))
  have HT : Hid (∀ w', Below (w.heap.size + 4) W0 w' → (w'.cell? ⟨w.heap.size + 2, 0, none⟩ = some (.bool false) ∧ w'.cell? ⟨w.heap.size + 2, 1, none⟩ = some (.slice none 0 0) ∧ w'.cell? ⟨w.heap.size + 3, 0, none⟩ = some (.bool false) ∧ w'.cell? ⟨w.heap.size + 3, 1, none⟩ = some (.slice none 0 0)) ∧ (w'.frozen? ⟨w.heap.size + 2, 0, none⟩ = false ∧ w'.frozen? ⟨w.heap.size + 2, 1, none⟩ = false ∧ w'.frozen? ⟨w.heap.size + 3, 0, none⟩ = false ∧ w'.frozen? ⟨w.heap.size + 3, 1, none⟩ = false)) := hid (fun w' hb => by
    refine ⟨⟨?_, ?_, ?_, ?_⟩, ?_, ?_, ?_, ?_⟩ <;> (first | (rw [hb.cell (by simp <;> omega), hW0]; simp [go_sem]; done) | (rw [hb.frozen (by simp <;> omega), hW0]; simp [go_sem]; done)))
  have HB0 := hid hB0; have Hz0 := hid hz0; have HW := hid hW0
  clear hW0 hB0 hz0
  go_enter Tryz.func14, Tryz.ntmps14
  go_upto_region 1 with (fail)
  rw [← HW.out]
  obtain ⟨k0, k1, k2, k3⟩ := HS.out _ (Below.refl _ _)
  go_wp2_with fail
  refine (read_any _ 0 K _ (Hy.out _ HB0.out) (by omega)).mono ?_
  rintro e w1 ⟨_, rfl, hv1, hb1⟩
  obtain ⟨b1, o1, m1, c1, rfl, H1, H1s, H1b⟩ := It.opened hv1
  have hB1 : Below (w.heap.size + 4) W0 w1 := hb1.mono (by have := Hz0.out; omega)
  clear k0 k1 k2 k3 hv1 hb1
  go_wp2_with fail
  refine (sign_any _ 0 _ _ (H1.out _ ((Below.refl _ _).alloc (Nat.le_refl _) _))).mono ?_
  rintro e w3 ⟨rfl, hb3⟩
  have hX3 : Below (w.heap.size + 4) W0 w3 := (hB1.alloc (by have := hB1.size; have := Hz0.out; omega) _).trans (hb3.mono (by have := hB1.size; have := Hz0.out; simp; omega))
  obtain ⟨⟨hr0, hr1, hr2, hr3⟩, hf0, hf1, hf2, hf3⟩ := HT.out _ hX3
  have h00 : cmpI 0 0 = 0 := by decide
  rw [h00]
  go_wp2
  have hw6 : Below w.heap.size w w3 := HB0.out.trans (hX3.mono (by omega))
  exact bodyPost_ret (v := .tuple #[.agg #[.bool false, .slice none 0 0], .agg #[.bool false, .slice none 0 0], .int .i64 10]) (by simp [results, Tryz.results14, go_sem, hr0, hr1, hr2, hr3]) rfl ⟨rfl, (((hw6.setCell (by simp <;> omega) _).setCell (by simp <;> omega) _).setCell (by simp <;> omega) _).setCell (by simp <;> omega) _⟩

set_option maxRecDepth 100000 in
set_option maxHeartbeats 4000000 in
theorem Div_any (u v : Value) (x y : Int) (K : Nat) (w : World) (hu : Ai w u x K) (hv : Ai w v y K) (hy : y ≠ 0) (hK : K ≤ 1073741800) :
    Calls Tryz.prog 14 #[u, v] w (RetAA w (x.fdiv y) (x.fmod y) (2 * ((K + 1) / 2 + 2)) (2 * ((K + 1) / 2)) 0) := by
  obtain ⟨xb, xo, xm, xc, rfl, Hx⟩ := Ai.opened hu
  obtain ⟨yb, yo, ym, yc, rfl, Hy⟩ := Ai.opened hv
  clear hu hv
  obtain ⟨W0, hW0⟩ : ∃ W0, W0 = ((((w.alloc (.cells #[.bool xb, .slice xo xm xc] 24)).alloc (.cells #[.bool yb, .slice yo ym yc] 24)).alloc (.cells #[.bool false, .slice none 0 0] 24)).alloc (.cells #[.bool false, .slice none 0 0] 24)) := ⟨_, rfl⟩
  have hB0 : Below w.heap.size w W0 := by rw [hW0]; exact ((((Below.refl _ _).alloc (Nat.le_refl _) _).alloc (by simp) _).alloc (by simp <;> omega) _).alloc (by simp <;> omega) _
  have hz0 : W0.heap.size = w.heap.size + 4 := by rw [hW0]; simp
  have HS : Hid (∀ w', Below (w.heap.size + 2) W0 w' → w'.cell? ⟨w.heap.size, 0, none⟩ = some (.bool xb) ∧ w'.cell? ⟨w.heap.size, 1, none⟩ = some (.slice xo xm xc) ∧ w'.cell? ⟨w.heap.size + 1, 0, none⟩ = some (.bool yb) ∧ w'.cell? ⟨w.heap.size + 1, 1, none⟩ = some (.slice yo ym yc)) := hid (fun w' hb => by
    refine ⟨?_, ?_, ?_, ?_⟩ <;> (rw [hb.cell (by simp <;> omega), hW0]; simp [go_sem]))
  have HT : Hid (∀ w', Below (w.heap.size + 4) W0 w' → (w'.cell? ⟨w.heap.size + 2, 0, none⟩ = some (.bool false) ∧ w'.cell? ⟨w.heap.size + 2, 1, none⟩ = some (.slice none 0 0) ∧ w'.cell? ⟨w.heap.size + 3, 0, none⟩ = some (.bool false) ∧ w'.cell? ⟨w.heap.size + 3, 1, none⟩ = some (.slice none 0 0)) ∧ (w'.frozen? ⟨w.heap.size + 2, 0, none⟩ = false ∧ w'.frozen? ⟨w.heap.size + 2, 1, none⟩ = false ∧ w'.frozen? ⟨w.heap.size + 3, 0, none⟩ = false ∧ w'.frozen? ⟨w.heap.size + 3, 1, none⟩ = false)) := hid (fun w' hb => by
    refine ⟨⟨?_, ?_, ?_, ?_⟩, ?_, ?_, ?_, ?_⟩ <;> (first | (rw [hb.cell (by simp <;> omega), hW0]; simp [go_sem]; done) | (rw [hb.frozen (by simp <;> omega), hW0]; simp [go_sem]; done)))
  have HB0 := hid hB0; have Hz0 := hid hz0; have HW := hid hW0
  clear hW0 hB0 hz0
  have hcy : cmpI y 0 ≠ 0 := by unfold cmpI; split <;> (try split) <;> omega
  obtain ⟨t, ht⟩ : ∃ t, t = cmpI y 0 := ⟨_, rfl⟩
  rw [← ht] at hcy
  have Ht := hid ht
  clear ht
  go_enter Tryz.func14, Tryz.ntmps14
  go_upto_region 1 with (fail)
  rw [← HW.out]
  obtain ⟨k0, k1, k2, k3⟩ := HS.out _ (Below.refl _ _)
  go_wp2_with fail
  refine (read_any _ y K _ (Hy.out _ HB0.out) (by omega)).mono ?_
  rintro e w1 ⟨_, rfl, hv1, hb1⟩
  obtain ⟨by1, o1, m1, cy, rfl, H1, H1s, H1b⟩ := It.opened hv1
  have hB1 : Below (w.heap.size + 4) W0 w1 := hb1.mono (by have := Hz0.out; omega)
  clear k0 k1 k2 k3 hv1 hb1
  go_wp2_with fail
  obtain ⟨W2, hW2⟩ : ∃ W2, W2 = w1.alloc (.cells #[.bool by1, .slice o1 m1 cy] 51) := ⟨_, rfl⟩
  have hal : Below w1.heap.size w1 W2 := by rw [hW2]; exact (Below.refl _ _).alloc (Nat.le_refl _) _
  have hz2 : W2.heap.size = w1.heap.size + 1 := by rw [hW2]; simp
  have hs1 := hB1.size
  have hB2 : Below (w.heap.size + 4) W0 W2 := hB1.trans (hal.mono (by have := Hz0.out; omega))
  have hbx := HS.out _ (hB2.mono (by omega))
  have hby0 : W2.cell? ⟨w1.heap.size, 0, none⟩ = some (.bool by1) := by rw [hW2]; simp [go_sem]
  have hby1 : W2.cell? ⟨w1.heap.size, 1, none⟩ = some (.slice o1 m1 cy) := by rw [hW2]; simp [go_sem]
  rw [← hW2]
  have HAL := hid hal
  have hY2 := H1.out _ hal
  refine (sign_any _ y _ _ hY2).mono ?_
  rintro e w3 ⟨rfl, hb3⟩
  rw [← Ht.out]
  have HSS : Hid (∀ w', Below w3.heap.size w3 w' → w'.cell? ⟨w.heap.size, 0, none⟩ = some (.bool xb) ∧ w'.cell? ⟨w.heap.size, 1, none⟩ = some (.slice xo xm xc) ∧ w'.cell? ⟨w1.heap.size, 0, none⟩ = some (.bool by1) ∧ w'.cell? ⟨w1.heap.size, 1, none⟩ = some (.slice o1 m1 cy)) := hid (fun w' h => by
    have h2 : Below W2.heap.size W2 w' := hb3.trans (h.mono hb3.size)
    have := Hz0.out
    exact ⟨(h2.cell (by simp; omega)).trans hbx.1, (h2.cell (by simp; omega)).trans hbx.2.1, (h2.cell (by simp; omega)).trans hby0, (h2.cell (by simp; omega)).trans hby1⟩)
  have HY : Hid (∀ w', Below w3.heap.size w3 w' → It w' (.agg #[.bool by1, .slice o1 m1 cy]) y ((K + 1) / 2)) := hid (fun w' h => hY2.below (hb3.trans (h.mono hb3.size)) (Nat.le_refl _))
  have hB3 : Below (w.heap.size + 4) W0 w3 := hB2.trans (hb3.mono (by have := Hz0.out; omega))
  have HB34 := hid hB3
  have HB3 : Hid (Below w.heap.size w w3) := hid (HB0.out.trans (hB3.mono (by omega)))
  have Hs3 := hid (show w.heap.size + 4 ≤ w3.heap.size by have := hb3.size; have := Hz0.out; omega)
  clear hW2 hbx hby0 hby1 hal hB2 hz2 hs1 hB1 hY2 hb3 hB3 H1 H1s H1b HAL
  go_wp2
  rw [show (t == 0) = false by simpa using hcy]
  refine region_inv (by kernel_rfl) (fun L a w' => ∃ b0 b1 b2 b3 b4 b5 b6 b7 b8 b9 b10, L = #[b0, b1, b2, b3, b4, b5, b6, b7, b8, b9, b10] ∧ (b9 = true → b5 = true ∧ b7 = true) ∧ (b10 = true → b6 = true ∧ b8 = true) ∧ ∃ s8 s9 s17 s18 s19 s20 s21 s22 s23, a = { tmps := #[.agg #[.bool xb, .slice xo xm xc], .agg #[.bool yb, .slice yo ym yc], .pointer (some ⟨w.heap.size, 0, none⟩), .pointer (some ⟨w.heap.size + 1, 0, none⟩), .pointer (some ⟨w.heap.size + 2, 0, none⟩), .pointer (some ⟨w.heap.size + 3, 0, none⟩), .int .i64 0, .pointer (some ⟨w1.heap.size, 0, none⟩), s8, s9, .agg #[.bool yb, .slice yo ym yc], .agg #[.bool by1, .slice o1 m1 cy], .agg #[.bool by1, .slice o1 m1 cy], .int .i64 t, .bool false, undef, undef, s17, s18, s19, s20, s21, s22, s23, undef, undef, undef, undef], defers := [] } ∧ QuoJ .u64 w3.heap.size w3 (.agg #[.bool xb, .slice xo xm xc]) (.agg #[.bool by1, .slice o1 m1 cy]) (fun w v => It w v x ((K + 1) / 2)) (fun w v => It w v (x.fdiv y) ((K + 1) / 2 + 2)) (fun w v => It w v (x.fmod y) ((K + 1) / 2)) b0 b1 b2 b3 b4 b5 b6 b7 b8 b9 b10 s8 s9 s17 s18 s19 s20 s21 s22 s23 w') ?_ ?_ ?_
  · exact ⟨_, _, _, _, _, _, _, _, _, _, _, rfl, nofun, nofun, _, _, _, _, _, _, _, _, _, rfl, QuoJ.start (Below.refl _ _).drew (by simp)⟩
  · rintro L a w' i hs ⟨b0, b1, b2, b3, b4, b5, b6, b7, b8, b9, b10, rfl, h95, h106, s8, s9, s17, s18, s19, s20, s21, s22, s23, rfl, J⟩ hi
    obtain ⟨hi, hn, hd⟩ := waits_spec (dep := [[], [0], [], [1, 2], [3], [4], [4], [], [], [7, 5], [8, 6]]) (by kernel_rfl) hi
    have hi11 : i < 11 := hi
    obtain ⟨k0, k1, k2, k3⟩ := HSS.out w' J.bel
    have HJ := hid J
    rcases (show i = 0 ∨ i = 1 ∨ i = 2 ∨ i = 3 ∨ i = 4 ∨ i = 5 ∨ i = 6 ∨ i = 7 ∨ i = 8 ∨ i = 9 ∨ i = 10 by omega) with rfl | rfl | rfl | rfl | rfl | rfl | rfl | rfl | rfl | rfl | rfl
    · clear J hd hi hi11 hn
      refine wpOp_step rfl (fun K hK => ?_)
      go_simp
      exact hK _ _ ⟨true, b1, b2, b3, b4, b5, b6, b7, b8, b9, b10, rfl, h95, h106, _, _, _, _, _, _, _, _, _, rfl, HJ.out.load0⟩
    · obtain rfl := J.l0 (hd 0 (by simp))
      have hw := HB3.out.trans (J.bel.mono HB3.out.size)
      clear J hd hi hi11 hn
      refine wpOp_step rfl (fun K hK => ?_)
      go_simp
      refine (read_any _ x _ _ (Hx.out _ hw) (by omega)).mono ?_
      rintro e w1 ⟨v, rfl, hv, hb⟩
      exact hK _ _ ⟨b0, true, b2, b3, b4, b5, b6, b7, b8, b9, b10, rfl, h95, h106, _, _, _, _, _, _, _, _, _, rfl, HJ.out.call1 (it_keepG _ _) (it_keepG _ _) hb hv⟩
    · clear J hd hi hi11 hn
      refine wpOp_step rfl (fun K hK => ?_)
      go_simp
      exact hK _ _ ⟨b0, b1, true, b3, b4, b5, b6, b7, b8, b9, b10, rfl, h95, h106, _, _, _, _, _, _, _, _, _, rfl, HJ.out.load2⟩
    · obtain rfl := J.l2 (hd 2 (by simp))
      have hg1 := J.c1 (hd 1 (by simp))
      have hy1 := HY.out w' J.bel
      clear J hd hi hi11 hn
      refine wpOp_step rfl (fun K hK => ?_)
      go_simp
      refine (over_any _ _ x y _ _ hg1 hy1 hy (by omega)).mono ?_
      rintro e w1 ⟨v1, v2, rfl, hv1, hv2, hb⟩
      exact hK _ _ ⟨b0, b1, b2, true, b4, b5, b6, b7, b8, b9, b10, rfl, h95, h106, _, _, _, _, _, _, _, _, _, rfl, HJ.out.call3 (it_keepG _ _) (it_keepG _ _) (it_keepG _ _) hb hv1 hv2⟩
    · obtain rfl : b3 = true := hd 3 (by simp)
      clear J hd hi hi11 hn
      refine wpOp_step rfl (fun K hK => ?_)
      go_simp
      exact hK _ _ ⟨b0, b1, b2, true, true, b5, b6, b7, b8, b9, b10, rfl, h95, h106, _, _, _, _, _, _, _, _, _, rfl, HJ.out.move4⟩
    · obtain ⟨u, v, rfl, hu, hv⟩ := J.m4 (hd 4 (by simp))
      obtain rfl : b5 = false := hn
      obtain rfl : b9 = false := by cases b9 with | false => rfl | true => exact absurd (h95 rfl).1 (by simp)
      clear J hd hi hi11 h95
      refine wpOp_step rfl (fun K hK => ?_)
      go_simp
      exact hK _ _ ⟨b0, b1, b2, b3, b4, true, b6, b7, b8, false, b10, rfl, nofun, h106, _, _, _, _, _, _, _, _, _, rfl, HJ.out.ext5 hu⟩
    · obtain ⟨u, v, rfl, hu, hv⟩ := J.m4 (hd 4 (by simp))
      obtain rfl : b6 = false := hn
      obtain rfl : b10 = false := by cases b10 with | false => rfl | true => exact absurd (h106 rfl).1 (by simp)
      clear J hd hi hi11 h106
      refine wpOp_step rfl (fun K hK => ?_)
      go_simp
      exact hK _ _ ⟨b0, b1, b2, b3, b4, b5, true, b7, b8, b9, false, rfl, h95, nofun, _, _, _, _, _, _, _, _, _, rfl, HJ.out.ext6 hv⟩
    · obtain rfl : b7 = false := hn
      obtain rfl : b9 = false := by cases b9 with | false => rfl | true => exact absurd (h95 rfl).2 (by simp)
      clear J hd hi hi11 h95
      refine wpOp_step rfl (fun K hK => ?_)
      go_simp
      exact hK _ _ ⟨b0, b1, b2, b3, b4, b5, b6, true, b8, false, b10, rfl, nofun, h106, _, _, _, _, _, _, _, _, _, rfl, HJ.out.alloc7 (it_keepG _ _) (it_keepG _ _) (it_keepG _ _) _⟩
    · obtain rfl : b8 = false := hn
      obtain rfl : b10 = false := by cases b10 with | false => rfl | true => exact absurd (h106 rfl).2 (by simp)
      clear J hd hi hi11 h106
      refine wpOp_step rfl (fun K hK => ?_)
      go_simp
      exact hK _ _ ⟨b0, b1, b2, b3, b4, b5, b6, b7, true, b9, false, rfl, h95, nofun, _, _, _, _, _, _, _, _, _, rfl, HJ.out.alloc8 (it_keepG _ _) (it_keepG _ _) (it_keepG _ _) _⟩
    · obtain rfl : b7 = true := hd 7 (by simp)
      obtain rfl : b5 = true := hd 5 (by simp)
      obtain ⟨p, v0, v1, rfl, hp, c0, c1, f0, f1, _⟩ := J.p7 rfl
      obtain ⟨sb, so, sm, sc, rfl, _⟩ := It.opened (J.e5 rfl)
      clear J hd hi hi11 hn
      refine wpOp_step rfl (fun K hK => ?_)
      go_simp
      exact hK _ _ ⟨b0, b1, b2, b3, b4, true, b6, true, b8, true, b10, rfl, fun _ => ⟨rfl, rfl⟩, h106, _, _, _, _, _, _, _, _, _, rfl, HJ.out.store9 (it_keepG _ _) (it_keepG _ _) (it_keepG _ _) nofun nofun⟩
    · obtain rfl : b8 = true := hd 8 (by simp)
      obtain rfl : b6 = true := hd 6 (by simp)
      obtain ⟨p, v0, v1, rfl, hp, c0, c1, f0, f1, _⟩ := J.p8 rfl
      obtain ⟨sb, so, sm, sc, rfl, _⟩ := It.opened (J.e6 rfl)
      clear J hd hi hi11 hn
      refine wpOp_step rfl (fun K hK => ?_)
      go_simp
      exact hK _ _ ⟨b0, b1, b2, b3, b4, b5, true, b7, true, b9, true, rfl, h95, fun _ => ⟨rfl, rfl⟩, _, _, _, _, _, _, _, _, _, rfl, HJ.out.store10 (it_keepG _ _) (it_keepG _ _) (it_keepG _ _) nofun nofun⟩
  rintro L a w' hs ⟨b0, b1, b2, b3, b4, b5, b6, b7, b8, b9, b10, rfl, _, _, s8, s9, s17, s18, s19, s20, s21, s22, s23, rfl, J⟩ hr
  have hd := early_done (by kernel_rfl) hs hr 11
  obtain rfl : b5 = true := hd 5 (by omega) (by simp)
  obtain rfl : b6 = true := hd 6 (by omega) (by simp)
  obtain rfl : b7 = true := hd 7 (by omega) (by simp)
  obtain rfl : b8 = true := hd 8 (by omega) (by simp)
  obtain rfl : b9 = true := hd 9 (by omega) (by simp)
  obtain rfl : b10 = true := hd 10 (by omega) (by simp)
  obtain ⟨p, u0, u1, rfl, hp, c0, c1, f0, f1, _, _, hu⟩ := J.p7 rfl
  obtain ⟨q, t0, t1, rfl, hq, d0, d1, g0, g1, _, _, ht⟩ := J.p8 rfl
  obtain rfl := hu rfl
  obtain rfl := ht rfl
  have hbel := J.bel
  have hsiz := J.siz
  have hv1 := J.e5 rfl
  have hv2 := J.e6 rfl
  clear hd hr hs J hu ht
  obtain ⟨qb, qo, qm, qc, eq1, H4, _, _⟩ := It.opened hv1
  obtain ⟨rb, ro, rm, rc, eq2, H5, _, _⟩ := It.opened hv2
  cases eq1
  cases eq2
  have hlp := World.block_lt_of_cell? _ _ c0
  have hlq := World.block_lt_of_cell? _ _ d0
  have hp4 : w.heap.size + 4 ≤ p := Nat.le_trans Hs3.out hp
  have hq4 : w.heap.size + 4 ≤ q := Nat.le_trans Hs3.out hq
  obtain ⟨W4, rfl⟩ : ∃ W4, W4 = w' := ⟨_, rfl⟩
  have HR : Hid (∀ w', Kq W4.heap.size (w.heap.size + 4) W4 w' → w'.cell? ⟨p, 0, none⟩ = some (.bool qb) ∧ w'.cell? ⟨p, 1, none⟩ = some (.slice qo qm qc) ∧ w'.cell? ⟨q, 0, none⟩ = some (.bool rb) ∧ w'.cell? ⟨q, 1, none⟩ = some (.slice ro rm rc)) := hid (fun w' h =>
    ⟨(h.cell ⟨p, 0, none⟩ hp4 hlp).trans c0, (h.cell ⟨p, 1, none⟩ hp4 hlp).trans c1, (h.cell ⟨q, 0, none⟩ hq4 hlq).trans d0, (h.cell ⟨q, 1, none⟩ hq4 hlq).trans d1⟩)
  have HB4 := hid hbel
  have Hs4 := hid hsiz
  clear hv1 hv2 c0 c1 d0 d1 f0 f1 g0 g1 hlp hlq hbel hsiz hp hq HSS HY
  go_wp2
  go_region_held3 (fun w' => w'.cell? ⟨p, 0, none⟩ = some (.bool qb) ∧ w'.cell? ⟨p, 1, none⟩ = some (.slice qo qm qc) ∧ w'.cell? ⟨q, 0, none⟩ = some (.bool rb) ∧ w'.cell? ⟨q, 1, none⟩ = some (.slice ro rm rc)) ((refine HR.out _ ?_; repeat (first | assumption | exact Kq.of_below (by assumption) | exact Kq.of_below (Below.refl _ _) | exact Kq.of_below (Below.refl _ _).drew | exact Kq.of_below (Below.drew (by assumption)) | (refine Kq.set ?_ (by simp) _)))) (first
    | (go_at_call_of 30 (qo); refine (value_any _ _ _ _ (H4.out _ (Below.refl _ _).drew) (by omega)).mono ?_; rintro e w5 ⟨_, rfl, ⟨_, rfl, hv5⟩, hb5⟩; obtain ⟨o5, m5, c5, rfl, H6⟩ := FrW.opened hv5; have hX5 : Below W4.heap.size W4 w5 := (Below.refl _ _).drew.trans hb5)
    | (go_at_call_of 30 (ro); refine (value_any _ _ _ _ (H5.out _ hX5) (by omega)).mono ?_; rintro e w6 ⟨_, rfl, ⟨_, rfl, hv6⟩, hb6⟩; obtain ⟨o6, m6, c6, rfl, H7⟩ := FrW.opened hv6; have hX6 : Below W4.heap.size W4 w6 := hX5.trans (hb6.mono hX5.size); obtain ⟨⟨hr0, hr1, hr2, hr3⟩, hf0, hf1, hf2, hf3⟩ := HT.out _ (HB34.out.trans ((HB4.out.trans (hX6.mono Hs4.out)).mono (by have := Hs3.out; omega)))))
  go_wp2
  have hs3 := Hs3.out; have hs4 := Hs4.out; have hs5 := hX5.size
  have hw6 : Below w.heap.size w w6 := HB3.out.trans ((HB4.out.trans (hX6.mono hs4)).mono (by omega))
  refine bodyPost_ret (v := .tuple #[.agg #[.bool (decide (x.fdiv y < 0)), .slice o5 m5 c5], .agg #[.bool (decide (x.fmod y < 0)), .slice o6 m6 c6], .int .i64 0]) (by simp [results, Tryz.results14, go_sem, hr0, hr1, hr2, hr3]) rfl ⟨_, _, rfl, ⟨_, rfl, ?_⟩, ⟨_, rfl, ?_⟩, (((hw6.setCell (by simp <;> omega) _).setCell (by simp <;> omega) _).setCell (by simp <;> omega) _).setCell (by simp <;> omega) _⟩
  · exact (((((H6.out.below hb6 (Nat.le_refl _)).set (by simp; omega) _).set (by simp; omega) _).set (by simp; omega) _).set (by simp; omega) _).base (by simp; omega)
  · exact ((((H7.out.set (by simp; omega) _).set (by simp; omega) _).set (by simp; omega) _).set (by simp; omega) _).base (by omega)
end Go.Proofs.YtahbkcebifkniaaGreatDoor

/- alive of the outright laws: true. -/
namespace Go.Proofs.YtahbkcebifkniaaGreatDoor
open Go.RowKit

theorem tx4 : tx (-4) = ⟨#[45, 52]⟩ := by
  unfold tx
  rw [if_pos (by decide), show (-4 : Int).natAbs = 4 from rfl, Lib.decDigits, dif_pos (by decide)]
  rfl
theorem tx1 : tx (-1) = ⟨#[45, 49]⟩ := by
  unfold tx
  rw [if_pos (by decide), show (-1 : Int).natAbs = 1 from rfl, Lib.decDigits, dif_pos (by decide)]
  rfl
theorem tx32 : tx (-3) ++ ⟨#[47]⟩ ++ ⟨(Lib.decDigits (2 : Int).natAbs).toArray⟩ = ⟨#[45, 51, 47, 50]⟩ := by
  unfold tx
  rw [if_pos (by decide), show (-3 : Int).natAbs = 3 from rfl, show (2 : Int).natAbs = 2 from rfl, Lib.decDigits, dif_pos (by decide), Lib.decDigits, dif_pos (by decide)]
  rfl
theorem lw1 : lowN (sgn (decide ((6 : Int) < 0) != decide ((-4 : Int) < 0)) ((6 : Int).natAbs : Int)) ((-4 : Int).natAbs : Int) = -3 ∧ lowD (sgn (decide ((6 : Int) < 0) != decide ((-4 : Int) < 0)) ((6 : Int).natAbs : Int)) ((-4 : Int).natAbs : Int) = 2 := ⟨by kernel_rfl, by kernel_rfl⟩
theorem lw2 : lowN (sgn (decide ((-3 : Int) < 0) != decide ((2 : Int) < 0)) ((-3 : Int).natAbs : Int)) ((2 : Int).natAbs : Int) = -3 ∧ lowD (sgn (decide ((-3 : Int) < 0) != decide ((2 : Int) < 0)) ((-3 : Int).natAbs : Int)) ((2 : Int).natAbs : Int) = 2 := ⟨by kernel_rfl, by kernel_rfl⟩
theorem lw3 : lowN (sgn (decide ((1 : Int) < 0) != decide ((2 : Int) < 0)) ((1 : Int).natAbs : Int)) ((2 : Int).natAbs : Int) = 1 ∧ lowD (sgn (decide ((1 : Int) < 0) != decide ((2 : Int) < 0)) ((1 : Int).natAbs : Int)) ((2 : Int).natAbs : Int) = 2 := ⟨by kernel_rfl, by kernel_rfl⟩
theorem lw4 : lowN (sgn (decide ((-1 : Int) < 0) != decide ((1 : Int) < 0)) ((-1 : Int).natAbs : Int)) ((1 : Int).natAbs : Int) = -1 ∧ lowD (sgn (decide ((-1 : Int) < 0) != decide ((1 : Int) < 0)) ((-1 : Int).natAbs : Int)) ((1 : Int).natAbs : Int) = 1 := ⟨by kernel_rfl, by kernel_rfl⟩
theorem lw5 : lowN (sgn (decide ((-3 : Int) < 0) != decide ((2 : Int) < 0)) ((-3 : Int).natAbs : Int) + sgn (decide ((1 : Int) < 0) != decide ((2 : Int) < 0)) ((1 : Int).natAbs : Int)) ((2 : Int).natAbs : Int) = -1 ∧ lowD (sgn (decide ((-3 : Int) < 0) != decide ((2 : Int) < 0)) ((-3 : Int).natAbs : Int) + sgn (decide ((1 : Int) < 0) != decide ((2 : Int) < 0)) ((1 : Int).natAbs : Int)) ((2 : Int).natAbs : Int) = 1 := ⟨by kernel_rfl, by kernel_rfl⟩
theorem dv1 : Int.fdiv 7 (-2) = -4 ∧ Int.fmod 7 (-2) = -1 := ⟨by decide, by decide⟩

/-- The contracts that alive's walk uses, at its numbers. -/
theorem al_div (u v : Value) (w : World) (hu : Ai w u 7 2) (hv : Ai w v (-2) 2) : Calls Tryz.prog 14 #[u, v] w (RetAA w (-4) (-1) 6 2 0) := by
  have h := Div_any u v 7 (-2) 2 w hu hv (by decide) (by omega)
  rw [dv1.1, dv1.2] at h
  exact h
theorem al_over (w : World) : Calls Tryz.prog 25 #[.int .i64 6, .int .i64 (-4)] w (RetR w (-3) 2 2) := by
  have h := lover_any 6 (-4) w (by omega) (by omega) (by omega) (by omega) (by decide)
  rw [lw1.1, lw1.2] at h
  exact h
theorem al_over2 (w : World) : Calls Tryz.prog 25 #[.int .i64 1, .int .i64 2] w (RetR w 1 2 2) := by
  have h := lover_any 1 2 w (by omega) (by omega) (by omega) (by omega) (by decide)
  rw [lw3.1, lw3.2] at h
  exact h
theorem al_text4 (v : Value) (w : World) (h : Ai w v (-4) 6) : Calls Tryz.prog 26 #[v] w fun e w' => e = .returned (.string ⟨#[45, 52]⟩) ∧ Below w.heap.size w w' := by
  have h := Text_any (-4) 6 v w h (by omega) (by decide) (by decide)
  rw [tx4] at h
  exact h
theorem al_text1 (v : Value) (w : World) (h : Ai w v (-1) 2) : Calls Tryz.prog 26 #[v] w fun e w' => e = .returned (.string ⟨#[45, 49]⟩) ∧ Below w.heap.size w w' := by
  have h := Text_any (-1) 2 v w h (by omega) (by decide) (by decide)
  rw [tx1] at h
  exact h
theorem al_shows (v : Value) (w : World) (h : Ra w v (-3) 2 2) : Calls Tryz.prog 27 #[v, .string ⟨#[45, 51, 47, 50]⟩] w fun e w' => e = .returned (.bool true) ∧ Below w.heap.size w w' :=
  shows_quot v (-3) 2 (-3) 2 2 _ w h (by decide) (by omega) lw2.1 lw2.2 (by decide) (by decide) (by decide) (by decide) tx32
theorem al_plus (u v : Value) (w : World) (hu : Ra w u (-3) 2 2) (hv : Ra w v 1 2 2) : Calls Tryz.prog 19 #[u, v] w (RetR w (-1) 1 4) := by
  have h := Plus_same u v (-3) 2 1 2 2 w hu hv (by decide) (by decide) rfl (by omega)
  rw [lw5.1, lw5.2] at h
  exact h
theorem al_shows1 (v : Value) (w : World) (h : Ra w v (-1) 1 4) : Calls Tryz.prog 27 #[v, .string ⟨#[45, 49]⟩] w fun e w' => e = .returned (.bool true) ∧ Below w.heap.size w w' :=
  shows_whole v (-1) 1 (-1) 4 _ w h (by decide) (by omega) lw4.1 lw4.2 (by decide) (by decide) tx1

set_option maxRecDepth 100000 in
set_option maxHeartbeats 1000000 in
theorem alive_any (w : World) : Calls Tryz.prog 6 #[] w fun e w' => e = .returned (.bool true) ∧ Below w.heap.size w w' := by
  go_enter Tryz.func6, Tryz.ntmps6
  go_wp2_with fail
  refine (of_any 7 _ (by omega) (by omega)).mono ?_
  rintro e w1 ⟨_, rfl, hv1, hb1⟩
  obtain ⟨b1, o1, m1, c1, rfl, H1⟩ := FrA.opened hv1
  clear hv1
  go_wp2_with fail
  refine (of_any (-2) _ (by omega) (by omega)).mono ?_
  rintro e w2 ⟨_, rfl, hv2, hb2⟩
  obtain ⟨b2, o2, m2, c2, rfl, H2⟩ := FrA.opened hv2
  clear hv2
  have HB2 := hid (show Below w.heap.size w w2 from hb1.trans (hb2.mono hb1.size))
  have hA1 := hid (H1.out.ai.below hb2 (Nat.le_refl _))
  clear hb1 hb2
  go_wp2_with fail
  refine (al_div _ _ _ hA1.out H2.out.ai).mono ?_
  rintro e w3 ⟨_, _, rfl, hq, hr, hb3⟩
  obtain ⟨qb, qo, qm, qc, rfl, HQ⟩ := FrA.opened hq
  obtain ⟨rb, ro, rm, rc, rfl, HR⟩ := FrA.opened hr
  have HB3 := hid (show Below w.heap.size w w3 from HB2.out.trans (hb3.mono HB2.out.size))
  clear hq hr hb3
  go_upto_region 2 with (fail)
  obtain ⟨W4, hW4⟩ : ∃ W4, W4 = ((w3.alloc (.cells #[.bool qb, .slice qo qm qc] 24)).alloc (.cells #[.bool rb, .slice ro rm rc] 24)) := ⟨_, rfl⟩
  have hb4 : Below w3.heap.size w3 W4 := by rw [hW4]; exact ((Below.refl _ _).alloc (Nat.le_refl _) _).alloc (by simp) _
  have hz4 : W4.heap.size = w3.heap.size + 2 := by rw [hW4]; simp
  have HS : Hid (∀ w', Below W4.heap.size W4 w' → w'.cell? ⟨w3.heap.size, 0, none⟩ = some (.bool qb) ∧ w'.cell? ⟨w3.heap.size, 1, none⟩ = some (.slice qo qm qc) ∧ w'.cell? ⟨w3.heap.size + 1, 0, none⟩ = some (.bool rb) ∧ w'.cell? ⟨w3.heap.size + 1, 1, none⟩ = some (.slice ro rm rc)) := hid (fun w' hb => by
    refine ⟨?_, ?_, ?_, ?_⟩ <;> (rw [hb.cell (by rw [hz4]; simp), hW4]; simp [go_sem]))
  have HB4 := hid (show Below w.heap.size w W4 from HB3.out.trans (hb4.mono HB3.out.size))
  have hQ4 := hid (HQ.out.ai.below hb4 (Nat.le_refl _)); have hR4 := hid (HR.out.ai.below hb4 (Nat.le_refl _))
  have HW4 := hid hW4; have Hz4 := hid hz4
  clear hW4 hb4 hz4
  rw [← HW4.out]
  go_wp2_with fail
  refine (al_over _).mono ?_
  rintro e w5 ⟨_, rfl, hl, hb5⟩
  obtain ⟨lb, lo, lm, lc, kb, ko, km, kc, rfl, HL, HK⟩ := FrR.opened hl
  have hl5 := FrR.ra hl
  obtain ⟨W6, hW6⟩ : ∃ W6, W6 = w5.alloc (.cells #[.bool lb, .slice lo lm lc, .bool kb, .slice ko km kc] 37) := ⟨_, rfl⟩
  have hb6 : Below w5.heap.size w5 W6 := by rw [hW6]; exact (Below.refl _ _).alloc (Nat.le_refl _) _
  have hz6 : W6.heap.size = w5.heap.size + 1 := by rw [hW6]; simp
  have hX6 : Below W4.heap.size W4 W6 := hb5.trans (hb6.mono hb5.size)
  have HS6 : Hid (∀ w', Below W6.heap.size W6 w' → w'.cell? ⟨w3.heap.size, 0, none⟩ = some (.bool qb) ∧ w'.cell? ⟨w3.heap.size, 1, none⟩ = some (.slice qo qm qc) ∧ w'.cell? ⟨w3.heap.size + 1, 0, none⟩ = some (.bool rb) ∧ w'.cell? ⟨w3.heap.size + 1, 1, none⟩ = some (.slice ro rm rc) ∧ w'.cell? ⟨w5.heap.size, 0, none⟩ = some (.bool lb) ∧ w'.cell? ⟨w5.heap.size, 1, none⟩ = some (.slice lo lm lc) ∧ w'.cell? ⟨w5.heap.size, 2, none⟩ = some (.bool kb) ∧ w'.cell? ⟨w5.heap.size, 3, none⟩ = some (.slice ko km kc)) := hid (fun w' hb => by
    obtain ⟨s0, s1, s2, s3⟩ := HS.out _ (hX6.trans (hb.mono hX6.size))
    refine ⟨s0, s1, s2, s3, ?_, ?_, ?_, ?_⟩ <;> (rw [hb.cell (by rw [hz6]; simp), hW6]; simp [go_sem]))
  have HB6 := hid (show Below w.heap.size w W6 from HB4.out.trans (hX6.mono HB4.out.size))
  have HQ6 := hid (fun (w' : World) (hb : Below W6.heap.size W6 w') => al_text4 _ w' ((hQ4.out.below hX6 (Nat.le_refl _)).below hb (Nat.le_refl _)))
  have HR6 := hid (fun (w' : World) (hb : Below W6.heap.size W6 w') => al_text1 _ w' ((hR4.out.below hX6 (Nat.le_refl _)).below hb (Nat.le_refl _)))
  have HL6 := hid (fun (w' : World) (hb : Below W6.heap.size W6 w') => (hl5.below hb6 (Nat.le_refl _)).below hb (Nat.le_refl _))
  have HW6 := hid hW6
  clear hW6 hb6 hz6 hX6 hl hl5 hb5
  go_upto_region 3 with (fail)
  rw [← HW6.out]
  go_region_held3 (fun w' => w'.cell? ⟨w3.heap.size, 0, none⟩ = some (.bool qb) ∧ w'.cell? ⟨w3.heap.size, 1, none⟩ = some (.slice qo qm qc) ∧ w'.cell? ⟨w3.heap.size + 1, 0, none⟩ = some (.bool rb) ∧ w'.cell? ⟨w3.heap.size + 1, 1, none⟩ = some (.slice ro rm rc) ∧ w'.cell? ⟨w5.heap.size, 0, none⟩ = some (.bool lb) ∧ w'.cell? ⟨w5.heap.size, 1, none⟩ = some (.slice lo lm lc) ∧ w'.cell? ⟨w5.heap.size, 2, none⟩ = some (.bool kb) ∧ w'.cell? ⟨w5.heap.size, 3, none⟩ = some (.slice ko km kc)) ((refine HS6.out _ ?_; repeat (first | assumption | exact Below.refl _ _ | exact (Below.refl _ _).drew | exact Below.drew (by assumption)))) (first
    | (go_at_call_of 26 (qo); refine (HQ6.out _ (Below.refl _ _).drew).mono ?_; rintro e w7 ⟨rfl, hb7⟩; have hX7 : Below W6.heap.size W6 w7 := (Below.refl _ _).drew.trans hb7)
    | (go_at_call_of 26 (ro); refine (HR6.out _ hX7).mono ?_; rintro e w8 ⟨rfl, hb8⟩; have hX8 : Below W6.heap.size W6 w8 := hX7.trans (hb8.mono hX7.size))
    | (go_at_call_of 27 (lo); refine (al_shows _ _ (HL6.out _ hX8)).mono ?_; rintro e w9 ⟨rfl, hb9⟩; have hX9 : Below W6.heap.size W6 w9 := hX8.trans (hb9.mono hX8.size))
    | (go_at_call 25; refine (al_over2 _).mono ?_; rintro e w10 ⟨_, rfl, hl10, hb10⟩; obtain ⟨tb, t_o, tm, tc, ub, uo, um, uc, rfl, _, _⟩ := FrR.opened hl10; have hX10 : Below W6.heap.size W6 w10 := hX9.trans (hb10.mono hX9.size))
    | (go_at_call 19; refine (al_plus _ _ _ (HL6.out _ hX10) (FrR.ra hl10)).mono ?_; rintro e w11 ⟨_, rfl, hl11, hb11⟩; obtain ⟨sb, so, sm, sc, vb, vo, vm, vc, rfl, _, _⟩ := FrR.opened hl11; have hX11 : Below W6.heap.size W6 w11 := hX10.trans (hb11.mono hX10.size))
    | (go_at_call_of 27 (so); refine (al_shows1 _ _ (FrR.ra hl11)).mono ?_; rintro e w12 ⟨rfl, hb12⟩; have hX12 : Below W6.heap.size W6 w12 := hX11.trans (hb12.mono hX11.size)))
  go_wp2
  go_ret
  exact ⟨rfl, HB6.out.trans (hX12.mono HB6.out.size)⟩
end Go.Proofs.YtahbkcebifkniaaGreatDoor
