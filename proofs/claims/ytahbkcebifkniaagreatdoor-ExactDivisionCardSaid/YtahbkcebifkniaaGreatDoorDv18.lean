/- exact.Cmp. Written by gen_cmp.py. The contracts of the integers' operations in one form, for the outright laws; equal of the laws. The law ExactRing, its walk. Written by gen_ring.py. -/
import Derived.Test.YtahbkcebifkniaaGreatDoorDv12
import Derived.Test.YtahbkcebifkniaaGreatDoorDv16
import Derived.Test.YtahbkcebifkniaaGreatDoorDv05
import Derived.Test.YtahbkcebifkniaaGreatDoorDv13
import Derived.Test.YtahbkcebifkniaaGreatDoorDv17
/- exact.Cmp. Written by gen_cmp.py. -/
namespace Go.Proofs.YtahbkcebifkniaaGreatDoor
open Go.RowKit

theorem It.keeps {z : Int} {K : Nat} (w w' : World) (v : Value) (hk : Keeps .u64 w w') (h : It w v z K) : It w' v z K := by
  obtain ⟨s, rfl, ao, c, L, rfl, h⟩ := h
  exact ⟨_, rfl, ao, c, L, rfl, h.rd.keeps hk, h.dig, h.nrm, h.eq, h.le⟩
theorem cmp_same (x y : Int) (h : cmpI x 0 = cmpI y 0) : cmpI x y = cmpI x 0 * cmpI (x.natAbs : Int) (y.natAbs : Int) := by
  rcases Int.lt_trichotomy x 0 with h1 | h1 | h1 <;> rcases Int.lt_trichotomy y 0 with h2 | h2 | h2
  all_goals first | (exfalso; revert h; simp [cmpI_lt, cmpI_gt, cmpI_self, *]; done) | skip
  · rw [cmpI_lt h1]; unfold cmpI; split <;> split <;> (try split) <;> (try split) <;> omega
  · subst h1 h2; rfl
  · rw [cmpI_gt h1]; unfold cmpI; split <;> split <;> (try split) <;> (try split) <;> omega
theorem cmp_other (x y : Int) (h : cmpI x 0 ≠ cmpI y 0) : cmpI x y = cmpI (cmpI x 0) (cmpI y 0) := by
  unfold cmpI at *
  split at h <;> split at h <;> (try split at h) <;> (try split at h) <;> (repeat split) <;> omega

set_option maxRecDepth 100000 in
set_option maxHeartbeats 4000000 in
theorem Cmp_same (u v : Value) (x y : Int) (Kx Ky : Nat) (w : World) (hu : Ai w u x Kx) (hv : Ai w v y Ky) (hKx : Kx ≤ 1073741824) (hKy : Ky ≤ 1073741824) (hs : cmpI x 0 = cmpI y 0) :
    Calls Tryz.prog 13 #[u, v] w fun e w' => e = .returned (.int .i64 (cmpI x y)) ∧ Below w.heap.size w w' := by
  obtain ⟨xb, xo, xm, xc, rfl, Hx⟩ := Ai.opened hu
  obtain ⟨yb, yo, ym, yc, rfl, Hy⟩ := Ai.opened hv
  have Hne := hid hs
  clear hs hu hv
  go_enter Tryz.func13, Tryz.ntmps13
  go_wp2
  obtain ⟨W0, hW0⟩ : ∃ W0, W0 = ((w.alloc (.cells #[.bool xb, .slice xo xm xc] 24)).alloc (.cells #[.bool yb, .slice yo ym yc] 24)) := ⟨_, rfl⟩
  have hB0 : Below w.heap.size w W0 := by rw [hW0]; exact ((Below.refl _ _).alloc (by simp <;> omega) _).alloc (by simp <;> omega) _
  have hz0 : W0.heap.size = w.heap.size + 2 := by rw [hW0]; simp
  have HS : Hid (∀ w', Below (w.heap.size + 2) W0 w' → w'.cell? ⟨w.heap.size, 0, none⟩ = some (.bool xb) ∧ w'.cell? ⟨w.heap.size, 1, none⟩ = some (.slice xo xm xc) ∧ w'.cell? ⟨w.heap.size + 1, 0, none⟩ = some (.bool yb) ∧ w'.cell? ⟨w.heap.size + 1, 1, none⟩ = some (.slice yo ym yc)) := hid (fun w' hb => by
    refine ⟨?_, ?_, ?_, ?_⟩ <;> (first | (rw [hb.cell (by simp <;> omega), hW0]; simp [go_sem]; done) | (rw [hb.frozen (by simp <;> omega), hW0]; simp [go_sem]; done)))
  rw [← hW0]
  clear hW0
  have HB0 := hid hB0; have Hz0 := hid hz0
  clear hB0 hz0
  refine region_inv (by kernel_rfl) (fun L a w' => ∃ b0 b1 b2 b3 b4 b5 b6 b7, L = #[b0, b1, b2, b3, b4, b5, b6, b7] ∧ (b6 = true → b1 = true ∧ b4 = true) ∧ (b7 = true → b3 = true ∧ b5 = true) ∧ ∃ s5 s6 s7 s8 s9 s10, a = { tmps := #[.agg #[.bool xb, .slice xo xm xc], .agg #[.bool yb, .slice yo ym yc], .pointer (some ⟨w.heap.size, 0, none⟩), .pointer (some ⟨w.heap.size + 1, 0, none⟩), .int .i64 0, s5, s6, s7, s8, s9, s10, undef, undef, undef, undef, undef, undef], defers := [] } ∧ PairJ .u64 (w.heap.size + 2) W0 (.agg #[.bool xb, .slice xo xm xc]) (.agg #[.bool yb, .slice yo ym yc]) (fun w v => It w v x ((Kx + 1) / 2)) (fun w v => It w v y ((Ky + 1) / 2)) b0 b1 b2 b3 b4 b5 b6 b7 s5 s6 s7 s8 s9 s10 w') ?_ ?_ ?_
  · exact ⟨_, _, _, _, _, _, _, _, rfl, nofun, nofun, _, _, _, _, _, _, rfl, PairJ.start (Below.refl _ _).drew (by have := Hz0.out; simp; omega)⟩
  · rintro L a w' i hs ⟨b0, b1, b2, b3, b4, b5, b6, b7, rfl, h61, h73, s5, s6, s7, s8, s9, s10, rfl, J⟩ hi
    obtain ⟨hi, hn, hd⟩ := waits_spec (dep := [[], [0], [], [2], [], [], [4, 1], [5, 3]]) (by kernel_rfl) hi
    have hi8 : i < 8 := hi
    obtain ⟨k0, k1, k2, k3⟩ := HS.out w' J.bel
    have HJ := hid J
    rcases (show i = 0 ∨ i = 1 ∨ i = 2 ∨ i = 3 ∨ i = 4 ∨ i = 5 ∨ i = 6 ∨ i = 7 by omega) with rfl | rfl | rfl | rfl | rfl | rfl | rfl | rfl
    · clear J hd hi hi8 hn
      refine wpOp_step rfl (fun K hK => ?_)
      go_simp
      exact hK _ _ ⟨true, b1, b2, b3, b4, b5, b6, b7, rfl, h61, h73, _, _, _, _, _, _, rfl, HJ.out.load0⟩
    · obtain rfl : b1 = false := hn
      obtain rfl : b6 = false := by cases b6 with | false => rfl | true => exact absurd (h61 rfl).1 (by simp)
      obtain rfl := J.l0 (hd 0 (by simp))
      have hw := HB0.out.trans (J.bel.mono (by omega))
      clear J hd hi hi8 h61
      refine wpOp_step rfl (fun K hK => ?_)
      go_simp
      refine (read_any _ x Kx _ (Hx.out _ hw) hKx).mono ?_
      rintro e w1 ⟨v, rfl, hv, hb⟩
      exact hK _ _ ⟨b0, true, b2, b3, b4, b5, false, b7, rfl, nofun, h73, _, _, _, _, _, _, rfl, HJ.out.call1 It.keeps hb hv⟩
    · clear J hd hi hi8 hn
      refine wpOp_step rfl (fun K hK => ?_)
      go_simp
      exact hK _ _ ⟨b0, b1, true, b3, b4, b5, b6, b7, rfl, h61, h73, _, _, _, _, _, _, rfl, HJ.out.load2⟩
    · obtain rfl : b3 = false := hn
      obtain rfl : b7 = false := by cases b7 with | false => rfl | true => exact absurd (h73 rfl).1 (by simp)
      obtain rfl := J.l2 (hd 2 (by simp))
      have hw := HB0.out.trans (J.bel.mono (by omega))
      clear J hd hi hi8 h73
      refine wpOp_step rfl (fun K hK => ?_)
      go_simp
      refine (read_any _ y Ky _ (Hy.out _ hw) hKy).mono ?_
      rintro e w1 ⟨v, rfl, hv, hb⟩
      exact hK _ _ ⟨b0, b1, b2, true, b4, b5, b6, false, rfl, h61, nofun, _, _, _, _, _, _, rfl, HJ.out.call3 It.keeps hb hv⟩
    · obtain rfl : b4 = false := hn
      obtain rfl : b6 = false := by cases b6 with | false => rfl | true => exact absurd (h61 rfl).2 (by simp)
      clear J hd hi hi8 h61
      refine wpOp_step rfl (fun K hK => ?_)
      go_simp
      exact hK _ _ ⟨b0, b1, b2, b3, true, b5, false, b7, rfl, nofun, h73, _, _, _, _, _, _, rfl, HJ.out.alloc4 It.keeps It.keeps _⟩
    · obtain rfl : b5 = false := hn
      obtain rfl : b7 = false := by cases b7 with | false => rfl | true => exact absurd (h73 rfl).2 (by simp)
      clear J hd hi hi8 h73
      refine wpOp_step rfl (fun K hK => ?_)
      go_simp
      exact hK _ _ ⟨b0, b1, b2, b3, b4, true, b6, false, rfl, h61, nofun, _, _, _, _, _, _, rfl, HJ.out.alloc5 It.keeps It.keeps _⟩
    · obtain rfl : b4 = true := hd 4 (by simp)
      obtain rfl : b1 = true := hd 1 (by simp)
      obtain ⟨p, v0, v1, rfl, hp, c0, c1, f0, f1, _⟩ := J.p4 rfl
      obtain ⟨sb, so, sm, sc, rfl, _⟩ := It.opened (J.c1 rfl)
      clear J hd hi hi8 hn
      refine wpOp_step rfl (fun K hK => ?_)
      go_simp
      exact hK _ _ ⟨b0, true, b2, b3, true, b5, true, b7, rfl, fun _ => ⟨rfl, rfl⟩, h73, _, _, _, _, _, _, rfl, HJ.out.store6 It.keeps It.keeps nofun nofun⟩
    · obtain rfl : b5 = true := hd 5 (by simp)
      obtain rfl : b3 = true := hd 3 (by simp)
      obtain ⟨p, v0, v1, rfl, hp, c0, c1, f0, f1, _⟩ := J.p5 rfl
      obtain ⟨sb, so, sm, sc, rfl, _⟩ := It.opened (J.c3 rfl)
      clear J hd hi hi8 hn
      refine wpOp_step rfl (fun K hK => ?_)
      go_simp
      exact hK _ _ ⟨b0, b1, b2, true, b4, true, b6, true, rfl, h61, fun _ => ⟨rfl, rfl⟩, _, _, _, _, _, _, rfl, HJ.out.store7 It.keeps It.keeps nofun nofun⟩
  rintro L a w' hs ⟨b0, b1, b2, b3, b4, b5, b6, b7, rfl, _, _, s5, s6, s7, s8, s9, s10, rfl, J⟩ hr
  have hd := early_done (by kernel_rfl) hs hr 8
  obtain rfl : b1 = true := hd 1 (by omega) (by simp)
  obtain rfl : b3 = true := hd 3 (by omega) (by simp)
  obtain rfl : b4 = true := hd 4 (by omega) (by simp)
  obtain rfl : b5 = true := hd 5 (by omega) (by simp)
  obtain rfl : b6 = true := hd 6 (by omega) (by simp)
  obtain rfl : b7 = true := hd 7 (by omega) (by simp)
  obtain ⟨p, u0, u1, rfl, hp, c0, c1, f0, f1, _, _, hu⟩ := J.p4 rfl
  obtain ⟨q, t0, t1, rfl, hq, d0, d1, g0, g1, _, _, ht⟩ := J.p5 rfl
  have hpq := J.ne rfl rfl
  obtain rfl := hu rfl
  obtain rfl := ht rfl
  have hw := HB0.out.trans (J.bel.mono (by omega))
  have hbel := J.bel
  have H1 := J.c1 rfl
  have H2 := J.c3 rfl
  clear hd hr hs J
  obtain ⟨b1, o1, m1, cc1, e1, _, H1s, _⟩ := It.opened H1
  obtain ⟨b2, o2, m2, cc2, e2, _, H2s, _⟩ := It.opened H2
  cases e1
  cases e2
  go_wp2
  have hpl := World.block_lt_of_cell? _ _ c0
  have hql := World.block_lt_of_cell? _ _ d0
  obtain ⟨W1, hW1⟩ : ∃ W1, W1 = w' := ⟨_, rfl⟩
  rw [← hW1] at c0 c1 d0 d1 H1 H2 H1s H2s hw hpl hql ⊢
  clear hW1 hbel f0 f1 g0 g1
  have HS1 : Hid (∀ w', Below W1.heap.size W1 w' → w'.cell? ⟨p, 0, none⟩ = some (.bool b1) ∧ w'.cell? ⟨p, 1, none⟩ = some (.slice o1 m1 cc1) ∧ w'.cell? ⟨q, 0, none⟩ = some (.bool b2) ∧ w'.cell? ⟨q, 1, none⟩ = some (.slice o2 m2 cc2)) := hid (fun w' hb =>
    ⟨(hb.cell hpl).trans c0, (hb.cell (p := ⟨p, 1, none⟩) hpl).trans c1, (hb.cell hql).trans d0, (hb.cell (p := ⟨q, 1, none⟩) hql).trans d1⟩)
  clear c0 c1 d0 d1
  go_region_held3 (fun w' => w'.cell? ⟨p, 0, none⟩ = some (.bool b1) ∧ w'.cell? ⟨p, 1, none⟩ = some (.slice o1 m1 cc1) ∧ w'.cell? ⟨q, 0, none⟩ = some (.bool b2) ∧ w'.cell? ⟨q, 1, none⟩ = some (.slice o2 m2 cc2)) ((refine HS1.out _ ?_; first | assumption | exact Below.refl _ _ | exact (Below.refl _ _).drew)) (first
    | (go_at_call_of 33 (o1); refine (sign_any _ x _ _ (It.below H1 (Below.refl _ _).drew (Nat.le_refl _))).mono ?_; rintro e w3 ⟨rfl, hb3⟩; have hX1 : Below W1.heap.size W1 w3 := ((Below.refl _ _).drew).trans hb3)
    | (go_at_call_of 33 (o2); refine (sign_any _ y _ _ (It.below H2 hX1 (Nat.le_refl _))).mono ?_; rintro e w4 ⟨rfl, hb4⟩; have hX2 : Below W1.heap.size W1 w4 := hX1.trans (hb4.mono hX1.size); obtain ⟨hc0, hc1, hc2, hc3⟩ := HS1.out _ hX2; rw [← Hne.out])
    | (go_at_call 34; refine (order_eq (cmpI x 0) (cmpI_bd x 0) _ _ _ _ _ _ _ _ _ _ _ _ _ hc1 hc3 (H1s.out _ hX2) (H2s.out _ hX2)).mono ?_; rintro e w5 ⟨nq, rfl, rfl⟩; have hX3 : Below W1.heap.size W1 (w4.drewN nq) := below_drewN hX2 nq))
  all_goals (go_wp2; go_ret; exact ⟨by rw [cmp_same x y Hne.out]; rfl, hw.trans (hX3.mono hw.size)⟩)

set_option maxRecDepth 100000 in
set_option maxHeartbeats 4000000 in
theorem Cmp_ne (u v : Value) (x y : Int) (Kx Ky : Nat) (w : World) (hu : Ai w u x Kx) (hv : Ai w v y Ky) (hKx : Kx ≤ 1073741824) (hKy : Ky ≤ 1073741824) (hs : cmpI x 0 ≠ cmpI y 0) :
    Calls Tryz.prog 13 #[u, v] w fun e w' => e = .returned (.int .i64 (cmpI x y)) ∧ Below w.heap.size w w' := by
  obtain ⟨xb, xo, xm, xc, rfl, Hx⟩ := Ai.opened hu
  obtain ⟨yb, yo, ym, yc, rfl, Hy⟩ := Ai.opened hv
  have Hne := hid hs
  clear hs hu hv
  go_enter Tryz.func13, Tryz.ntmps13
  go_wp2
  obtain ⟨W0, hW0⟩ : ∃ W0, W0 = ((w.alloc (.cells #[.bool xb, .slice xo xm xc] 24)).alloc (.cells #[.bool yb, .slice yo ym yc] 24)) := ⟨_, rfl⟩
  have hB0 : Below w.heap.size w W0 := by rw [hW0]; exact ((Below.refl _ _).alloc (by simp <;> omega) _).alloc (by simp <;> omega) _
  have hz0 : W0.heap.size = w.heap.size + 2 := by rw [hW0]; simp
  have HS : Hid (∀ w', Below (w.heap.size + 2) W0 w' → w'.cell? ⟨w.heap.size, 0, none⟩ = some (.bool xb) ∧ w'.cell? ⟨w.heap.size, 1, none⟩ = some (.slice xo xm xc) ∧ w'.cell? ⟨w.heap.size + 1, 0, none⟩ = some (.bool yb) ∧ w'.cell? ⟨w.heap.size + 1, 1, none⟩ = some (.slice yo ym yc)) := hid (fun w' hb => by
    refine ⟨?_, ?_, ?_, ?_⟩ <;> (first | (rw [hb.cell (by simp <;> omega), hW0]; simp [go_sem]; done) | (rw [hb.frozen (by simp <;> omega), hW0]; simp [go_sem]; done)))
  rw [← hW0]
  clear hW0
  have HB0 := hid hB0; have Hz0 := hid hz0
  clear hB0 hz0
  refine region_inv (by kernel_rfl) (fun L a w' => ∃ b0 b1 b2 b3 b4 b5 b6 b7, L = #[b0, b1, b2, b3, b4, b5, b6, b7] ∧ (b6 = true → b1 = true ∧ b4 = true) ∧ (b7 = true → b3 = true ∧ b5 = true) ∧ ∃ s5 s6 s7 s8 s9 s10, a = { tmps := #[.agg #[.bool xb, .slice xo xm xc], .agg #[.bool yb, .slice yo ym yc], .pointer (some ⟨w.heap.size, 0, none⟩), .pointer (some ⟨w.heap.size + 1, 0, none⟩), .int .i64 0, s5, s6, s7, s8, s9, s10, undef, undef, undef, undef, undef, undef], defers := [] } ∧ PairJ .u64 (w.heap.size + 2) W0 (.agg #[.bool xb, .slice xo xm xc]) (.agg #[.bool yb, .slice yo ym yc]) (fun w v => It w v x ((Kx + 1) / 2)) (fun w v => It w v y ((Ky + 1) / 2)) b0 b1 b2 b3 b4 b5 b6 b7 s5 s6 s7 s8 s9 s10 w') ?_ ?_ ?_
  · exact ⟨_, _, _, _, _, _, _, _, rfl, nofun, nofun, _, _, _, _, _, _, rfl, PairJ.start (Below.refl _ _).drew (by have := Hz0.out; simp; omega)⟩
  · rintro L a w' i hs ⟨b0, b1, b2, b3, b4, b5, b6, b7, rfl, h61, h73, s5, s6, s7, s8, s9, s10, rfl, J⟩ hi
    obtain ⟨hi, hn, hd⟩ := waits_spec (dep := [[], [0], [], [2], [], [], [4, 1], [5, 3]]) (by kernel_rfl) hi
    have hi8 : i < 8 := hi
    obtain ⟨k0, k1, k2, k3⟩ := HS.out w' J.bel
    have HJ := hid J
    rcases (show i = 0 ∨ i = 1 ∨ i = 2 ∨ i = 3 ∨ i = 4 ∨ i = 5 ∨ i = 6 ∨ i = 7 by omega) with rfl | rfl | rfl | rfl | rfl | rfl | rfl | rfl
    · clear J hd hi hi8 hn
      refine wpOp_step rfl (fun K hK => ?_)
      go_simp
      exact hK _ _ ⟨true, b1, b2, b3, b4, b5, b6, b7, rfl, h61, h73, _, _, _, _, _, _, rfl, HJ.out.load0⟩
    · obtain rfl : b1 = false := hn
      obtain rfl : b6 = false := by cases b6 with | false => rfl | true => exact absurd (h61 rfl).1 (by simp)
      obtain rfl := J.l0 (hd 0 (by simp))
      have hw := HB0.out.trans (J.bel.mono (by omega))
      clear J hd hi hi8 h61
      refine wpOp_step rfl (fun K hK => ?_)
      go_simp
      refine (read_any _ x Kx _ (Hx.out _ hw) hKx).mono ?_
      rintro e w1 ⟨v, rfl, hv, hb⟩
      exact hK _ _ ⟨b0, true, b2, b3, b4, b5, false, b7, rfl, nofun, h73, _, _, _, _, _, _, rfl, HJ.out.call1 It.keeps hb hv⟩
    · clear J hd hi hi8 hn
      refine wpOp_step rfl (fun K hK => ?_)
      go_simp
      exact hK _ _ ⟨b0, b1, true, b3, b4, b5, b6, b7, rfl, h61, h73, _, _, _, _, _, _, rfl, HJ.out.load2⟩
    · obtain rfl : b3 = false := hn
      obtain rfl : b7 = false := by cases b7 with | false => rfl | true => exact absurd (h73 rfl).1 (by simp)
      obtain rfl := J.l2 (hd 2 (by simp))
      have hw := HB0.out.trans (J.bel.mono (by omega))
      clear J hd hi hi8 h73
      refine wpOp_step rfl (fun K hK => ?_)
      go_simp
      refine (read_any _ y Ky _ (Hy.out _ hw) hKy).mono ?_
      rintro e w1 ⟨v, rfl, hv, hb⟩
      exact hK _ _ ⟨b0, b1, b2, true, b4, b5, b6, false, rfl, h61, nofun, _, _, _, _, _, _, rfl, HJ.out.call3 It.keeps hb hv⟩
    · obtain rfl : b4 = false := hn
      obtain rfl : b6 = false := by cases b6 with | false => rfl | true => exact absurd (h61 rfl).2 (by simp)
      clear J hd hi hi8 h61
      refine wpOp_step rfl (fun K hK => ?_)
      go_simp
      exact hK _ _ ⟨b0, b1, b2, b3, true, b5, false, b7, rfl, nofun, h73, _, _, _, _, _, _, rfl, HJ.out.alloc4 It.keeps It.keeps _⟩
    · obtain rfl : b5 = false := hn
      obtain rfl : b7 = false := by cases b7 with | false => rfl | true => exact absurd (h73 rfl).2 (by simp)
      clear J hd hi hi8 h73
      refine wpOp_step rfl (fun K hK => ?_)
      go_simp
      exact hK _ _ ⟨b0, b1, b2, b3, b4, true, b6, false, rfl, h61, nofun, _, _, _, _, _, _, rfl, HJ.out.alloc5 It.keeps It.keeps _⟩
    · obtain rfl : b4 = true := hd 4 (by simp)
      obtain rfl : b1 = true := hd 1 (by simp)
      obtain ⟨p, v0, v1, rfl, hp, c0, c1, f0, f1, _⟩ := J.p4 rfl
      obtain ⟨sb, so, sm, sc, rfl, _⟩ := It.opened (J.c1 rfl)
      clear J hd hi hi8 hn
      refine wpOp_step rfl (fun K hK => ?_)
      go_simp
      exact hK _ _ ⟨b0, true, b2, b3, true, b5, true, b7, rfl, fun _ => ⟨rfl, rfl⟩, h73, _, _, _, _, _, _, rfl, HJ.out.store6 It.keeps It.keeps nofun nofun⟩
    · obtain rfl : b5 = true := hd 5 (by simp)
      obtain rfl : b3 = true := hd 3 (by simp)
      obtain ⟨p, v0, v1, rfl, hp, c0, c1, f0, f1, _⟩ := J.p5 rfl
      obtain ⟨sb, so, sm, sc, rfl, _⟩ := It.opened (J.c3 rfl)
      clear J hd hi hi8 hn
      refine wpOp_step rfl (fun K hK => ?_)
      go_simp
      exact hK _ _ ⟨b0, b1, b2, true, b4, true, b6, true, rfl, h61, fun _ => ⟨rfl, rfl⟩, _, _, _, _, _, _, rfl, HJ.out.store7 It.keeps It.keeps nofun nofun⟩
  rintro L a w' hs ⟨b0, b1, b2, b3, b4, b5, b6, b7, rfl, _, _, s5, s6, s7, s8, s9, s10, rfl, J⟩ hr
  have hd := early_done (by kernel_rfl) hs hr 8
  obtain rfl : b1 = true := hd 1 (by omega) (by simp)
  obtain rfl : b3 = true := hd 3 (by omega) (by simp)
  obtain rfl : b4 = true := hd 4 (by omega) (by simp)
  obtain rfl : b5 = true := hd 5 (by omega) (by simp)
  obtain rfl : b6 = true := hd 6 (by omega) (by simp)
  obtain rfl : b7 = true := hd 7 (by omega) (by simp)
  obtain ⟨p, u0, u1, rfl, hp, c0, c1, f0, f1, _, _, hu⟩ := J.p4 rfl
  obtain ⟨q, t0, t1, rfl, hq, d0, d1, g0, g1, _, _, ht⟩ := J.p5 rfl
  have hpq := J.ne rfl rfl
  obtain rfl := hu rfl
  obtain rfl := ht rfl
  have hw := HB0.out.trans (J.bel.mono (by omega))
  have hbel := J.bel
  have H1 := J.c1 rfl
  have H2 := J.c3 rfl
  clear hd hr hs J
  obtain ⟨b1, o1, m1, cc1, e1, _, H1s, _⟩ := It.opened H1
  obtain ⟨b2, o2, m2, cc2, e2, _, H2s, _⟩ := It.opened H2
  cases e1
  cases e2
  go_wp2
  have hpl := World.block_lt_of_cell? _ _ c0
  have hql := World.block_lt_of_cell? _ _ d0
  obtain ⟨W1, hW1⟩ : ∃ W1, W1 = w' := ⟨_, rfl⟩
  rw [← hW1] at c0 c1 d0 d1 H1 H2 H1s H2s hw hpl hql ⊢
  clear hW1 hbel f0 f1 g0 g1
  have HS1 : Hid (∀ w', Below W1.heap.size W1 w' → w'.cell? ⟨p, 0, none⟩ = some (.bool b1) ∧ w'.cell? ⟨p, 1, none⟩ = some (.slice o1 m1 cc1) ∧ w'.cell? ⟨q, 0, none⟩ = some (.bool b2) ∧ w'.cell? ⟨q, 1, none⟩ = some (.slice o2 m2 cc2)) := hid (fun w' hb =>
    ⟨(hb.cell hpl).trans c0, (hb.cell (p := ⟨p, 1, none⟩) hpl).trans c1, (hb.cell hql).trans d0, (hb.cell (p := ⟨q, 1, none⟩) hql).trans d1⟩)
  clear c0 c1 d0 d1
  go_region_held3 (fun w' => w'.cell? ⟨p, 0, none⟩ = some (.bool b1) ∧ w'.cell? ⟨p, 1, none⟩ = some (.slice o1 m1 cc1) ∧ w'.cell? ⟨q, 0, none⟩ = some (.bool b2) ∧ w'.cell? ⟨q, 1, none⟩ = some (.slice o2 m2 cc2)) ((refine HS1.out _ ?_; first | assumption | exact Below.refl _ _ | exact (Below.refl _ _).drew)) (first
    | (go_at_call_of 33 (o1); refine (sign_any _ x _ _ (It.below H1 (Below.refl _ _).drew (Nat.le_refl _))).mono ?_; rintro e w3 ⟨rfl, hb3⟩; have hX1 : Below W1.heap.size W1 w3 := ((Below.refl _ _).drew).trans hb3)
    | (go_at_call_of 33 (o2); refine (sign_any _ y _ _ (It.below H2 hX1 (Nat.le_refl _))).mono ?_; rintro e w4 ⟨rfl, hb4⟩; have hX2 : Below W1.heap.size W1 w4 := hX1.trans (hb4.mono hX1.size); obtain ⟨hc0, hc1, hc2, hc3⟩ := HS1.out _ hX2)
    | (go_at_call 34; refine (order_ne _ _ _ _ Hne.out).mono ?_; rintro e w5 ⟨rfl, rfl⟩))
  all_goals (go_wp2; go_ret; exact ⟨by rw [cmp_other x y Hne.out]; rfl, hw.trans (hX2.mono hw.size)⟩)

theorem Cmp_any (u v : Value) (x y : Int) (Kx Ky : Nat) (w : World) (hu : Ai w u x Kx) (hv : Ai w v y Ky) (hKx : Kx ≤ 1073741824) (hKy : Ky ≤ 1073741824) :
    Calls Tryz.prog 13 #[u, v] w fun e w' => e = .returned (.int .i64 (cmpI x y)) ∧ Below w.heap.size w w' := by
  by_cases hs : cmpI x 0 = cmpI y 0
  · exact Cmp_same u v x y Kx Ky w hu hv hKx hKy hs
  · exact Cmp_ne u v x y Kx Ky w hu hv hKx hKy hs

end Go.Proofs.YtahbkcebifkniaaGreatDoor

/- The contracts of the integers' operations in one form, for the outright laws; equal of the laws. -/
namespace Go.Proofs.YtahbkcebifkniaaGreatDoor
open Go.RowKit

theorem Ai.mono {w : World} {v : Value} {z : Int} {K K' : Nat} (h : Ai w v z K) (hK : K ≤ K') : Ai w v z K' := by
  obtain ⟨neg, ao, c, W, rfl, h⟩ := h
  exact ⟨neg, ao, c, W, rfl, h.rd, h.dig, Nat.le_trans h.le hK, h.eq⟩

/-- The call hands back an integer, open. -/
def RetZI (w : World) (z : Int) (R : Nat) (e : Ending) (w' : World) : Prop := ∃ b o m c, e = .returned (.agg #[.bool b, .slice o m c]) ∧ Hid (Ai w' (.agg #[.bool b, .slice o m c]) z R) ∧ Below w.heap.size w w'
theorem RetA.zi {w : World} {z : Int} {K R : Nat} (hK : K ≤ R) {e : Ending} {w' : World} (h : RetA w z K e w') : RetZI w z R e w' := by
  obtain ⟨v, rfl, hv, hb⟩ := h
  obtain ⟨b, o, m, c, rfl, H⟩ := FrA.opened hv
  exact ⟨b, o, m, c, rfl, hid (H.out.ai.mono hK), hb⟩
theorem add_z (u v : Value) (x y z : Int) (K R : Nat) (w : World) (hu : Ai w u x K) (hv : Ai w v y K) (hz : x + y = z) (hK : K ≤ 1000) (hR : K + 3 ≤ R) : Calls Tryz.prog 8 #[u, v] w (RetZI w z R) := by
  subst hz
  exact (Add_any u v x y K K (K + 1) w hu hv (by omega) (by omega) (by omega)).mono fun e w' h => h.zi (by omega)
theorem sub_z (u v : Value) (x y z : Int) (K R : Nat) (w : World) (hu : Ai w u x K) (hv : Ai w v y K) (hz : x - y = z) (hK : K ≤ 1000) (hR : K + 3 ≤ R) : Calls Tryz.prog 10 #[u, v] w (RetZI w z R) := by
  rw [Int.sub_eq_add_neg] at hz
  subst hz
  exact (Sub_any u v x y K K (K + 1) w hu hv (by omega) (by omega) (by omega)).mono fun e w' h => h.zi (by omega)
theorem neg_z (u : Value) (x z : Int) (K R : Nat) (w : World) (hu : Ai w u x K) (hz : -x = z) (hK : K ≤ 1000) (hR : K + 1 ≤ R) : Calls Tryz.prog 12 #[u] w (RetZI w z R) := by
  subst hz
  exact (Neg_any u x K w hu (by omega)).mono fun e w' h => h.zi (by omega)
theorem mul_z (u v : Value) (x y z : Int) (Ka Kb R : Nat) (w : World) (hu : Ai w u x Ka) (hv : Ai w v y Kb) (hz : x * y = z) (hA : Ka ≤ 157) (hB : Kb ≤ 157) (hR : Ka + Kb + 2 ≤ R) : Calls Tryz.prog 9 #[u, v] w (RetZI w z R) := by
  subst hz
  exact (Mul_short u v x y Ka Kb 158 w hu hv (by omega) (by omega) (by omega)).mono fun e w' h => h.zi (by omega)
theorem cmp_z (u v : Value) (x y t : Int) (K : Nat) (w : World) (hu : Ai w u x K) (hv : Ai w v y K) (ht : cmpI x y = t) (hK : K ≤ 1000) : Calls Tryz.prog 13 #[u, v] w fun e w' => e = .returned (.int .i64 t) ∧ Below w.heap.size w w' := by
  subst ht
  exact Cmp_any u v x y K K w hu hv (by omega) (by omega)
theorem sign_z (u : Value) (x t : Int) (K : Nat) (w : World) (hu : Ai w u x K) (ht : cmpI x 0 = t) (hK : K ≤ 1000) : Calls Tryz.prog 11 #[u] w fun e w' => e = .returned (.int .i64 t) ∧ Below w.heap.size w w' := by
  subst ht
  exact Sign_any u x K w hu (by omega)

set_option maxRecDepth 100000 in
set_option maxHeartbeats 1000000 in
theorem equal_z (u v : Value) (x y : Int) (K : Nat) (w : World) (hu : Ai w u x K) (hv : Ai w v y K) (hxy : x = y) (hK : K ≤ 1000) : Calls Tryz.prog 7 #[u, v] w fun e w' => e = .returned (.bool true) ∧ Below w.heap.size w w' := by
  have HC := hid (fun (w' : World) (hb : Below w.heap.size w w') => cmp_z u v x y 0 K w' (hu.below hb (Nat.le_refl _)) (hv.below hb (Nat.le_refl _)) (by rw [hxy]; unfold cmpI; simp) hK)
  obtain ⟨ab, ao, am, ac, rfl, _⟩ := Ai.opened hu
  obtain ⟨bb, bo, bm, bc, rfl, _⟩ := Ai.opened hv
  clear hu hv hxy
  have HB0 := hid (show Below w.heap.size w ((w.alloc (.cells #[.bool ab, .slice ao am ac] 24)).alloc (.cells #[.bool bb, .slice bo bm bc] 24)) from ((Below.refl _ _).alloc (Nat.le_refl _) _).alloc (by simp) _)
  go_enter Tryz.func7, Tryz.ntmps7
  go_wp2_with fail
  refine (HC.out _ HB0.out).mono ?_
  rintro e w1 ⟨rfl, hb1⟩
  go_wp2
  go_ret
  exact ⟨rfl, HB0.out.trans (hb1.mono HB0.out.size)⟩
end Go.Proofs.YtahbkcebifkniaaGreatDoor

/- The law ExactRing, its walk. Written by gen_ring.py. -/
namespace Go.Proofs.YtahbkcebifkniaaGreatDoor
open Go.RowKit

theorem cmp_lt' {x y : Int} (h : x < y) : cmpI x y = -1 := by unfold cmpI; (repeat' split) <;> omega
theorem cmp_gt' {x y : Int} (h : y < x) : cmpI x y = 1 := by unfold cmpI; (repeat' split) <;> omega
theorem cmp_eq' (x : Int) : cmpI x x = 0 := by unfold cmpI; simp
theorem cmp_shift (x y z : Int) : cmpI (x + z) (y + z) = cmpI x y := by
  rcases Int.lt_trichotomy x y with h | h | h
  · rw [cmp_lt' h, cmp_lt' (by omega)]
  · subst h; rw [cmp_eq', cmp_eq']
  · rw [cmp_gt' h, cmp_gt' (by omega)]
theorem cmp_turn (x y : Int) : cmpI y x = -cmpI x y := by
  rcases Int.lt_trichotomy x y with h | h | h
  · rw [cmp_lt' h, cmp_gt' h]; rfl
  · subst h; rw [cmp_eq']; rfl
  · rw [cmp_gt' h, cmp_lt' h]
theorem cmp_times (x y z : Int) : cmpI (x * z) (y * z) = cmpI x y * cmpI z 0 := by
  rcases Int.lt_trichotomy z 0 with hz | hz | hz
  · rw [cmp_lt' hz]
    rcases Int.lt_trichotomy x y with h | h | h
    · rw [cmp_lt' h, cmp_gt' (Int.mul_lt_mul_of_neg_right h hz)]; rfl
    · subst h; rw [cmp_eq', cmp_eq']; rfl
    · rw [cmp_gt' h, cmp_lt' (Int.mul_lt_mul_of_neg_right h hz)]; rfl
  · subst hz
    rw [Int.mul_zero, Int.mul_zero, cmp_eq', Int.mul_zero]
  · rw [cmp_gt' hz]
    rcases Int.lt_trichotomy x y with h | h | h
    · rw [cmp_lt' h, cmp_lt' (Int.mul_lt_mul_of_pos_right h hz)]; rfl
    · subst h; rw [cmp_eq', cmp_eq']; rfl
    · rw [cmp_gt' h, cmp_gt' (Int.mul_lt_mul_of_pos_right h hz)]; rfl
theorem cmp_range (x y : Int) : cmpI x y = -1 ∨ cmpI x y = 0 ∨ cmpI x y = 1 := by
  rcases Int.lt_trichotomy x y with h | h | h
  · exact Or.inl (cmp_lt' h)
  · subst h; exact Or.inr (Or.inl (cmp_eq' x))
  · exact Or.inr (Or.inr (cmp_gt' h))

set_option maxRecDepth 100000 in
set_option maxHeartbeats 1000000 in
theorem exactRing_walk (na nb nc : Bool) (ao bo co : Option Addr) (n m l ca cb cc : Nat) (x y z : Int) (w : World) (hu : Ai w (.agg #[.bool na, .slice ao n ca]) x 24) (hv : Ai w (.agg #[.bool nb, .slice bo m cb]) y 24) (ht : Ai w (.agg #[.bool nc, .slice co l cc]) z 24) (hn : n ≤ 24) (hm : m ≤ 24) (hl : l ≤ 24) :
    Calls Tryz.prog 3 #[.agg #[.bool na, .slice ao n ca], .agg #[.bool nb, .slice bo m cb], .agg #[.bool nc, .slice co l cc]] w fun e w' => e = .returned (.bool true) ∧ Below w.heap.size w w' := by
  obtain ⟨W0, hW0⟩ : ∃ W0, W0 = (((w.alloc (.cells #[.bool na, .slice ao n ca] 24)).alloc (.cells #[.bool nb, .slice bo m cb] 24)).alloc (.cells #[.bool nc, .slice co l cc] 24)) := ⟨_, rfl⟩
  have hB0 : Below w.heap.size w W0 := by rw [hW0]; exact (((Below.refl _ _).alloc (Nat.le_refl _) _).alloc (by simp) _).alloc (by simp <;> omega) _
  have hz0 : W0.heap.size = w.heap.size + 3 := by rw [hW0]; simp
  have HS : Hid (∀ w', Below W0.heap.size W0 w' → w'.cell? ⟨w.heap.size, 0, none⟩ = some (.bool na) ∧ w'.cell? ⟨w.heap.size, 1, none⟩ = some (.slice ao n ca) ∧ w'.cell? ⟨w.heap.size + 1, 0, none⟩ = some (.bool nb) ∧ w'.cell? ⟨w.heap.size + 1, 1, none⟩ = some (.slice bo m cb) ∧ w'.cell? ⟨w.heap.size + 2, 0, none⟩ = some (.bool nc) ∧ w'.cell? ⟨w.heap.size + 2, 1, none⟩ = some (.slice co l cc)) := hid (fun w' hb => by
    refine ⟨?_, ?_, ?_, ?_, ?_, ?_⟩ <;> (rw [hb.cell (by rw [hz0]; simp <;> omega), hW0]; simp [go_sem]))
  have HA : Hid (∀ w', Below W0.heap.size W0 w' → Ai w' (.agg #[.bool na, .slice ao n ca]) x 24) := hid (fun w' hb => (hu.below hB0 (Nat.le_refl _)).below hb (Nat.le_refl _))
  have HBv : Hid (∀ w', Below W0.heap.size W0 w' → Ai w' (.agg #[.bool nb, .slice bo m cb]) y 24) := hid (fun w' hb => (hv.below hB0 (Nat.le_refl _)).below hb (Nat.le_refl _))
  have HC : Hid (∀ w', Below W0.heap.size W0 w' → Ai w' (.agg #[.bool nc, .slice co l cc]) z 24) := hid (fun w' hb => (ht.below hB0 (Nat.le_refl _)).below hb (Nat.le_refl _))
  obtain ⟨r1, hr1⟩ : ∃ r1, r1 = cmpI x y := ⟨_, rfl⟩
  obtain ⟨r2, hr2⟩ : ∃ r2, r2 = cmpI z 0 := ⟨_, rfl⟩
  have M0 := hid (show cmpI x y = r1 from hr1.symm)
  have M1 := hid (show cmpI (x + z) (y + z) = r1 by rw [hr1, cmp_shift])
  have M2 := hid (show cmpI (x * z) (y * z) = r1 * r2 by rw [hr1, hr2, cmp_times])
  have M3 := hid (show cmpI z 0 = r2 from hr2.symm)
  have M4 := hid (show cmpI y x = -r1 by rw [hr1, cmp_turn])
  have q1 : IntKind.i64.wrap (r1 * r2) = r1 * r2 := by rcases cmp_range x y with h | h | h <;> rcases cmp_range z 0 with g | g | g <;> (rw [hr1, hr2, h, g]; decide)
  have q2 : IntKind.i64.wrap (-r1) = -r1 := by rcases cmp_range x y with h | h | h <;> (rw [hr1, h]; decide)
  have g1 : ¬ (24 : Int) < (n : Int) := by omega
  have g2 : ¬ (24 : Int) < (m : Int) := by omega
  have g3 : ¬ (24 : Int) < (l : Int) := by omega
  have HB0 := hid hB0; have HW := hid hW0
  clear hW0 hB0 hz0 hu hv ht hn hm hl hr1 hr2
  go_enter Tryz.func3, Tryz.ntmps3
  go_wp2_with fail
  rw [← HW.out]
  refine (alive_any _).mono ?_
  rintro e w0 ⟨rfl, hX0⟩
  obtain ⟨k0, k1, k2, k3, k4, k5⟩ := HS.out _ hX0
  go_upto_region 4 with (fail)
  clear k0 k1 k2 k3 k4 k5
  have tk1 := hid trivial
  have tk2 := hid trivial
  have tk3 := hid trivial
  have tk4 := hid trivial
  have tk5 := hid trivial
  have tk6 := hid trivial
  have tk7 := hid trivial
  have tk8 := hid trivial
  go_region_held3 (fun w' => w'.cell? ⟨w.heap.size, 0, none⟩ = some (.bool na) ∧ w'.cell? ⟨w.heap.size, 1, none⟩ = some (.slice ao n ca) ∧ w'.cell? ⟨w.heap.size + 1, 0, none⟩ = some (.bool nb) ∧ w'.cell? ⟨w.heap.size + 1, 1, none⟩ = some (.slice bo m cb) ∧ w'.cell? ⟨w.heap.size + 2, 0, none⟩ = some (.bool nc) ∧ w'.cell? ⟨w.heap.size + 2, 1, none⟩ = some (.slice co l cc)) ((refine HS.out _ ?_; first | assumption | exact Below.drew (by assumption))) (first
    | (clear tk1; go_at_call 8; refine (add_z _ _ _ _ (x + y) 24 27 _ (HA.out _ hX0.drew) (HBv.out _ hX0.drew) rfl (by omega) (by omega)).mono ?_; rintro e w1 ⟨b1, o1, m1, c1, rfl, H1, hb1⟩; have hX1 : Below W0.heap.size W0 w1 := (hX0.drew).trans (hb1.mono (hX0.drew).size))
    | (clear tk2; go_at_call 8; refine (add_z _ _ _ _ (y + x) 24 27 _ (HBv.out _ hX1) (HA.out _ hX1) rfl (by omega) (by omega)).mono ?_; rintro e w2 ⟨b2, o2, m2, c2, rfl, H2, hb2⟩; have hX2 : Below W0.heap.size W0 w2 := (hX1).trans (hb2.mono (hX1).size); have hP1_2 := hb2)
    | (clear tk3; go_at_call 7; refine (equal_z _ _ _ _ 27 _ (H1.out.below hP1_2 (Nat.le_refl _)) H2.out (Int.add_comm x y) (by omega)).mono ?_; rintro e w3 ⟨rfl, hb3⟩; have hX3 : Below W0.heap.size W0 w3 := (hX2).trans (hb3.mono (hX2).size))
    | (clear tk4; go_at_call 8; refine (add_z _ _ _ _ (x + y) 24 27 _ (HA.out _ hX3) (HBv.out _ hX3) rfl (by omega) (by omega)).mono ?_; rintro e w4 ⟨b4, o4, m4, c4, rfl, H4, hb4⟩; have hX4 : Below W0.heap.size W0 w4 := (hX3).trans (hb4.mono (hX3).size))
    | (clear tk5; go_at_call 8; refine (add_z _ _ _ _ (x + y + z) 27 30 _ H4.out ((HC.out _ hX4).mono (by omega)) rfl (by omega) (by omega)).mono ?_; rintro e w5 ⟨b5, o5, m5, c5, rfl, H5, hb5⟩; have hX5 : Below W0.heap.size W0 w5 := (hX4).trans (hb5.mono (hX4).size))
    | (clear tk6; go_at_call 8; refine (add_z _ _ _ _ (y + z) 24 27 _ (HBv.out _ hX5) (HC.out _ hX5) rfl (by omega) (by omega)).mono ?_; rintro e w6 ⟨b6, o6, m6, c6, rfl, H6, hb6⟩; have hX6 : Below W0.heap.size W0 w6 := (hX5).trans (hb6.mono (hX5).size); have hP5_6 := hb6)
    | (clear tk7; go_at_call 8; refine (add_z _ _ _ _ (x + (y + z)) 27 30 _ ((HA.out _ hX6).mono (by omega)) H6.out rfl (by omega) (by omega)).mono ?_; rintro e w7 ⟨b7, o7, m7, c7, rfl, H7, hb7⟩; have hX7 : Below W0.heap.size W0 w7 := (hX6).trans (hb7.mono (hX6).size); have hP5_7 := hP5_6.trans (hb7.mono hP5_6.size))
    | (clear tk8; go_at_call 7; refine (equal_z _ _ _ _ 30 _ (H5.out.below hP5_7 (Nat.le_refl _)) H7.out (Int.add_assoc x y z) (by omega)).mono ?_; rintro e w8 ⟨rfl, hb8⟩; have hX8 : Below W0.heap.size W0 w8 := (hX7).trans (hb8.mono (hX7).size)))
  clear hX1 hX2 hX3 hX4 hX5 hX6 hX7 hX0
  go_upto_region 5 with (fail)
  have tk9 := hid trivial
  have tk10 := hid trivial
  have tk11 := hid trivial
  have tk12 := hid trivial
  have tk13 := hid trivial
  have tk14 := hid trivial
  have tk15 := hid trivial
  have tk16 := hid trivial
  go_region_held3 (fun w' => w'.cell? ⟨w.heap.size, 0, none⟩ = some (.bool na) ∧ w'.cell? ⟨w.heap.size, 1, none⟩ = some (.slice ao n ca) ∧ w'.cell? ⟨w.heap.size + 1, 0, none⟩ = some (.bool nb) ∧ w'.cell? ⟨w.heap.size + 1, 1, none⟩ = some (.slice bo m cb) ∧ w'.cell? ⟨w.heap.size + 2, 0, none⟩ = some (.bool nc) ∧ w'.cell? ⟨w.heap.size + 2, 1, none⟩ = some (.slice co l cc)) ((refine HS.out _ ?_; first | assumption | exact Below.drew (by assumption))) (first
    | (clear tk9; go_at_call 9; refine (mul_z _ _ _ _ (x * y) 24 24 50 _ (HA.out _ hX8.drew) (HBv.out _ hX8.drew) rfl (by omega) (by omega) (by omega)).mono ?_; rintro e w9 ⟨b9, o9, m9, c9, rfl, H9, hb9⟩; have hX9 : Below W0.heap.size W0 w9 := (hX8.drew).trans (hb9.mono (hX8.drew).size))
    | (clear tk10; go_at_call 9; refine (mul_z _ _ _ _ (y * x) 24 24 50 _ (HBv.out _ hX9) (HA.out _ hX9) rfl (by omega) (by omega) (by omega)).mono ?_; rintro e w10 ⟨b10, o10, m10, c10, rfl, H10, hb10⟩; have hX10 : Below W0.heap.size W0 w10 := (hX9).trans (hb10.mono (hX9).size); have hP9_10 := hb10)
    | (clear tk11; go_at_call 7; refine (equal_z _ _ _ _ 50 _ (H9.out.below hP9_10 (Nat.le_refl _)) H10.out (Int.mul_comm x y) (by omega)).mono ?_; rintro e w11 ⟨rfl, hb11⟩; have hX11 : Below W0.heap.size W0 w11 := (hX10).trans (hb11.mono (hX10).size))
    | (clear tk12; go_at_call 9; refine (mul_z _ _ _ _ (x * y) 24 24 50 _ (HA.out _ hX11) (HBv.out _ hX11) rfl (by omega) (by omega) (by omega)).mono ?_; rintro e w12 ⟨b12, o12, m12, c12, rfl, H12, hb12⟩; have hX12 : Below W0.heap.size W0 w12 := (hX11).trans (hb12.mono (hX11).size))
    | (clear tk13; go_at_call 9; refine (mul_z _ _ _ _ (x * y * z) 50 24 76 _ H12.out (HC.out _ hX12) rfl (by omega) (by omega) (by omega)).mono ?_; rintro e w13 ⟨b13, o13, m13, c13, rfl, H13, hb13⟩; have hX13 : Below W0.heap.size W0 w13 := (hX12).trans (hb13.mono (hX12).size))
    | (clear tk14; go_at_call 9; refine (mul_z _ _ _ _ (y * z) 24 24 50 _ (HBv.out _ hX13) (HC.out _ hX13) rfl (by omega) (by omega) (by omega)).mono ?_; rintro e w14 ⟨b14, o14, m14, c14, rfl, H14, hb14⟩; have hX14 : Below W0.heap.size W0 w14 := (hX13).trans (hb14.mono (hX13).size); have hP13_14 := hb14)
    | (clear tk15; go_at_call 9; refine (mul_z _ _ _ _ (x * (y * z)) 24 50 76 _ (HA.out _ hX14) H14.out rfl (by omega) (by omega) (by omega)).mono ?_; rintro e w15 ⟨b15, o15, m15, c15, rfl, H15, hb15⟩; have hX15 : Below W0.heap.size W0 w15 := (hX14).trans (hb15.mono (hX14).size); have hP13_15 := hP13_14.trans (hb15.mono hP13_14.size))
    | (clear tk16; go_at_call 7; refine (equal_z _ _ _ _ 76 _ (H13.out.below hP13_15 (Nat.le_refl _)) H15.out (Int.mul_assoc x y z) (by omega)).mono ?_; rintro e w16 ⟨rfl, hb16⟩; have hX16 : Below W0.heap.size W0 w16 := (hX15).trans (hb16.mono (hX15).size)))
  clear hX9 hX10 hX11 hX12 hX13 hX14 hX15 hX8
  go_upto_region 6 with (fail)
  have tk17 := hid trivial
  have tk18 := hid trivial
  have tk19 := hid trivial
  have tk20 := hid trivial
  have tk21 := hid trivial
  have tk22 := hid trivial
  go_region_held3 (fun w' => w'.cell? ⟨w.heap.size, 0, none⟩ = some (.bool na) ∧ w'.cell? ⟨w.heap.size, 1, none⟩ = some (.slice ao n ca) ∧ w'.cell? ⟨w.heap.size + 1, 0, none⟩ = some (.bool nb) ∧ w'.cell? ⟨w.heap.size + 1, 1, none⟩ = some (.slice bo m cb) ∧ w'.cell? ⟨w.heap.size + 2, 0, none⟩ = some (.bool nc) ∧ w'.cell? ⟨w.heap.size + 2, 1, none⟩ = some (.slice co l cc)) ((refine HS.out _ ?_; first | assumption | exact Below.drew (by assumption))) (first
    | (clear tk17; go_at_call 8; refine (add_z _ _ _ _ (x + y) 24 27 _ (HA.out _ hX16.drew) (HBv.out _ hX16.drew) rfl (by omega) (by omega)).mono ?_; rintro e w17 ⟨b17, o17, m17, c17, rfl, H17, hb17⟩; have hX17 : Below W0.heap.size W0 w17 := (hX16.drew).trans (hb17.mono (hX16.drew).size))
    | (clear tk18; go_at_call 9; refine (mul_z _ _ _ _ ((x + y) * z) 27 24 53 _ H17.out (HC.out _ hX17) rfl (by omega) (by omega) (by omega)).mono ?_; rintro e w18 ⟨b18, o18, m18, c18, rfl, H18, hb18⟩; have hX18 : Below W0.heap.size W0 w18 := (hX17).trans (hb18.mono (hX17).size))
    | (clear tk19; go_at_call 9; refine (mul_z _ _ _ _ (x * z) 24 24 50 _ (HA.out _ hX18) (HC.out _ hX18) rfl (by omega) (by omega) (by omega)).mono ?_; rintro e w19 ⟨b19, o19, m19, c19, rfl, H19, hb19⟩; have hX19 : Below W0.heap.size W0 w19 := (hX18).trans (hb19.mono (hX18).size); have hP18_19 := hb19)
    | (clear tk20; go_at_call 9; refine (mul_z _ _ _ _ (y * z) 24 24 50 _ (HBv.out _ hX19) (HC.out _ hX19) rfl (by omega) (by omega) (by omega)).mono ?_; rintro e w20 ⟨b20, o20, m20, c20, rfl, H20, hb20⟩; have hX20 : Below W0.heap.size W0 w20 := (hX19).trans (hb20.mono (hX19).size); have hP18_20 := hP18_19.trans (hb20.mono hP18_19.size); have hP19_20 := hb20)
    | (clear tk21; go_at_call 8; refine (add_z _ _ _ _ (x * z + y * z) 50 53 _ (H19.out.below hP19_20 (Nat.le_refl _)) H20.out rfl (by omega) (by omega)).mono ?_; rintro e w21 ⟨b21, o21, m21, c21, rfl, H21, hb21⟩; have hX21 : Below W0.heap.size W0 w21 := (hX20).trans (hb21.mono (hX20).size); have hP18_21 := hP18_20.trans (hb21.mono hP18_20.size))
    | (clear tk22; go_at_call 7; refine (equal_z _ _ _ _ 53 _ (H18.out.below hP18_21 (Nat.le_refl _)) H21.out (Int.add_mul x y z) (by omega)).mono ?_; rintro e w22 ⟨rfl, hb22⟩; have hX22 : Below W0.heap.size W0 w22 := (hX21).trans (hb22.mono (hX21).size)))
  clear hX17 hX18 hX19 hX20 hX21 hX16
  go_upto_region 7 with (fail)
  have tk23 := hid trivial
  have tk24 := hid trivial
  have tk25 := hid trivial
  have tk26 := hid trivial
  have tk27 := hid trivial
  have tk28 := hid trivial
  go_region_held3 (fun w' => w'.cell? ⟨w.heap.size, 0, none⟩ = some (.bool na) ∧ w'.cell? ⟨w.heap.size, 1, none⟩ = some (.slice ao n ca) ∧ w'.cell? ⟨w.heap.size + 1, 0, none⟩ = some (.bool nb) ∧ w'.cell? ⟨w.heap.size + 1, 1, none⟩ = some (.slice bo m cb) ∧ w'.cell? ⟨w.heap.size + 2, 0, none⟩ = some (.bool nc) ∧ w'.cell? ⟨w.heap.size + 2, 1, none⟩ = some (.slice co l cc)) ((refine HS.out _ ?_; first | assumption | exact Below.drew (by assumption))) (first
    | (clear tk23; go_at_call 8; refine (add_z _ _ _ _ (x + y) 24 27 _ (HA.out _ hX22.drew) (HBv.out _ hX22.drew) rfl (by omega) (by omega)).mono ?_; rintro e w23 ⟨b23, o23, m23, c23, rfl, H23, hb23⟩; have hX23 : Below W0.heap.size W0 w23 := (hX22.drew).trans (hb23.mono (hX22.drew).size))
    | (clear tk24; go_at_call 10; refine (sub_z _ _ _ _ (x + y - y) 27 30 _ H23.out ((HBv.out _ hX23).mono (by omega)) rfl (by omega) (by omega)).mono ?_; rintro e w24 ⟨b24, o24, m24, c24, rfl, H24, hb24⟩; have hX24 : Below W0.heap.size W0 w24 := (hX23).trans (hb24.mono (hX23).size))
    | (clear tk25; go_at_call 7; refine (equal_z _ _ _ _ 30 _ H24.out ((HA.out _ hX24).mono (by omega)) (by omega) (by omega)).mono ?_; rintro e w25 ⟨rfl, hb25⟩; have hX25 : Below W0.heap.size W0 w25 := (hX24).trans (hb25.mono (hX24).size))
    | (clear tk26; go_at_call 12; refine (neg_z _ _ (-x) 24 25 _ (HA.out _ hX25) rfl (by omega) (by omega)).mono ?_; rintro e w26 ⟨b26, o26, m26, c26, rfl, H26, hb26⟩; have hX26 : Below W0.heap.size W0 w26 := (hX25).trans (hb26.mono (hX25).size))
    | (clear tk27; go_at_call 8; refine (add_z _ _ _ _ (0) 25 28 _ ((HA.out _ hX26).mono (by omega)) H26.out (by omega) (by omega) (by omega)).mono ?_; rintro e w27 ⟨b27, o27, m27, c27, rfl, H27, hb27⟩; have hX27 : Below W0.heap.size W0 w27 := (hX26).trans (hb27.mono (hX26).size))
    | (clear tk28; go_at_call 11; refine (sign_z _ _ (0) 28 _ H27.out rfl (by omega)).mono ?_; rintro e w28 ⟨rfl, hb28⟩; have hX28 : Below W0.heap.size W0 w28 := (hX27).trans (hb28.mono (hX27).size)))
  clear hX23 hX24 hX25 hX26 hX27 hX22
  go_upto_region 8 with (fail)
  have tk29 := hid trivial
  have tk30 := hid trivial
  have tk31 := hid trivial
  have tk32 := hid trivial
  have tk33 := hid trivial
  have tk34 := hid trivial
  have tk35 := hid trivial
  have tk36 := hid trivial
  have tk37 := hid trivial
  go_region_held3 (fun w' => w'.cell? ⟨w.heap.size, 0, none⟩ = some (.bool na) ∧ w'.cell? ⟨w.heap.size, 1, none⟩ = some (.slice ao n ca) ∧ w'.cell? ⟨w.heap.size + 1, 0, none⟩ = some (.bool nb) ∧ w'.cell? ⟨w.heap.size + 1, 1, none⟩ = some (.slice bo m cb) ∧ w'.cell? ⟨w.heap.size + 2, 0, none⟩ = some (.bool nc) ∧ w'.cell? ⟨w.heap.size + 2, 1, none⟩ = some (.slice co l cc)) ((refine HS.out _ ?_; first | assumption | exact Below.drew (by assumption))) (first
    | (clear tk29; go_at_call 8; refine (add_z _ _ _ _ (x + z) 24 27 _ (HA.out _ hX28.drew) (HC.out _ hX28.drew) rfl (by omega) (by omega)).mono ?_; rintro e w29 ⟨b29, o29, m29, c29, rfl, H29, hb29⟩; have hX29 : Below W0.heap.size W0 w29 := (hX28.drew).trans (hb29.mono (hX28.drew).size))
    | (clear tk30; go_at_call 8; refine (add_z _ _ _ _ (y + z) 24 27 _ (HBv.out _ hX29) (HC.out _ hX29) rfl (by omega) (by omega)).mono ?_; rintro e w30 ⟨b30, o30, m30, c30, rfl, H30, hb30⟩; have hX30 : Below W0.heap.size W0 w30 := (hX29).trans (hb30.mono (hX29).size); have hP29_30 := hb30)
    | (clear tk31; go_at_call 13; refine (cmp_z _ _ _ _ (r1) 27 _ (H29.out.below hP29_30 (Nat.le_refl _)) H30.out M1.out (by omega)).mono ?_; rintro e w31 ⟨rfl, hb31⟩; have hX31 : Below W0.heap.size W0 w31 := (hX30).trans (hb31.mono (hX30).size))
    | (clear tk32; go_at_call 13; refine (cmp_z _ _ _ _ (r1) 24 _ (HA.out _ hX31) (HBv.out _ hX31) M0.out (by omega)).mono ?_; rintro e w32 ⟨rfl, hb32⟩; have hX32 : Below W0.heap.size W0 w32 := (hX31).trans (hb32.mono (hX31).size))
    | (clear tk33; go_at_call 9; refine (mul_z _ _ _ _ (x * z) 24 24 50 _ (HA.out _ hX32) (HC.out _ hX32) rfl (by omega) (by omega) (by omega)).mono ?_; rintro e w33 ⟨b33, o33, m33, c33, rfl, H33, hb33⟩; have hX33 : Below W0.heap.size W0 w33 := (hX32).trans (hb33.mono (hX32).size))
    | (clear tk34; go_at_call 9; refine (mul_z _ _ _ _ (y * z) 24 24 50 _ (HBv.out _ hX33) (HC.out _ hX33) rfl (by omega) (by omega) (by omega)).mono ?_; rintro e w34 ⟨b34, o34, m34, c34, rfl, H34, hb34⟩; have hX34 : Below W0.heap.size W0 w34 := (hX33).trans (hb34.mono (hX33).size); have hP33_34 := hb34)
    | (clear tk35; go_at_call 13; refine (cmp_z _ _ _ _ (r1 * r2) 50 _ (H33.out.below hP33_34 (Nat.le_refl _)) H34.out M2.out (by omega)).mono ?_; rintro e w35 ⟨rfl, hb35⟩; have hX35 : Below W0.heap.size W0 w35 := (hX34).trans (hb35.mono (hX34).size))
    | (clear tk36; go_at_call 13; refine (cmp_z _ _ _ _ (r1) 24 _ (HA.out _ hX35) (HBv.out _ hX35) M0.out (by omega)).mono ?_; rintro e w36 ⟨rfl, hb36⟩; have hX36 : Below W0.heap.size W0 w36 := (hX35).trans (hb36.mono (hX35).size))
    | (clear tk37; go_at_call 11; refine (sign_z _ _ (r2) 24 _ (HC.out _ hX36) M3.out (by omega)).mono ?_; rintro e w37 ⟨rfl, hb37⟩; have hX37 : Below W0.heap.size W0 w37 := (hX36).trans (hb37.mono (hX36).size)))
  clear hX29 hX30 hX31 hX32 hX33 hX34 hX35 hX36 hX28
  go_upto_region 9 with (fail)
  have tk38 := hid trivial
  have tk39 := hid trivial
  go_region_held3 (fun w' => w'.cell? ⟨w.heap.size, 0, none⟩ = some (.bool na) ∧ w'.cell? ⟨w.heap.size, 1, none⟩ = some (.slice ao n ca) ∧ w'.cell? ⟨w.heap.size + 1, 0, none⟩ = some (.bool nb) ∧ w'.cell? ⟨w.heap.size + 1, 1, none⟩ = some (.slice bo m cb) ∧ w'.cell? ⟨w.heap.size + 2, 0, none⟩ = some (.bool nc) ∧ w'.cell? ⟨w.heap.size + 2, 1, none⟩ = some (.slice co l cc)) ((refine HS.out _ ?_; first | assumption | exact Below.drew (by assumption))) (first
    | (clear tk38; go_at_call 13; refine (cmp_z _ _ _ _ (-r1) 24 _ (HBv.out _ hX37.drew) (HA.out _ hX37.drew) M4.out (by omega)).mono ?_; rintro e w38 ⟨rfl, hb38⟩; have hX38 : Below W0.heap.size W0 w38 := (hX37.drew).trans (hb38.mono (hX37.drew).size))
    | (clear tk39; go_at_call 13; refine (cmp_z _ _ _ _ (r1) 24 _ (HA.out _ hX38) (HBv.out _ hX38) M0.out (by omega)).mono ?_; rintro e w39 ⟨rfl, hb39⟩; have hX39 : Below W0.heap.size W0 w39 := (hX38).trans (hb39.mono (hX38).size)))
  clear hX38 hX37
  go_wp2
  go_ret
  exact ⟨rfl, HB0.out.trans (hX39.mono HB0.out.size)⟩
end Go.Proofs.YtahbkcebifkniaaGreatDoor
