/- exact.Cmp. Written by gen_cmp.py. The contracts of the integers' operations in one form, for the outright laws; equal of the laws. Small lemmas of ratios in lowest terms. -/
import Derived.Test.YtilpkocmdpofpaaGreatDoorBk17
import Derived.Test.YtilpkocmdpofpaaGreatDoorBk13
import Derived.Test.YtilpkocmdpofpaaGreatDoorBk12
import Derived.Test.YtilpkocmdpofpaaGreatDoorBk23
import Derived.Test.YtilpkocmdpofpaaGreatDoorBk29
/- exact.Cmp. Written by gen_cmp.py. -/
namespace Go.Proofs.YtilpkocmdpofpaaGreatDoor
open Go.RowKit

theorem It.keeps {z : Int} {K : Nat} (w w' : World) (v : Value) (hk : Keeps .u64 w w') (h : It w v z K) : It w' v z K := by
  obtain ⟨s, rfl, ao, c, L, rfl, h⟩ := h
  exact ⟨_, rfl, ao, c, L, rfl, h.rd.keeps hk, h.dig, h.nrm, h.eq, h.le⟩
theorem cmp_same (x y : Int) (h : cmpI x 0 = cmpI y 0) : cmpI x y = cmpI x 0 * cmpI (x.natAbs : Int) (y.natAbs : Int) := by
  rcases Int.lt_trichotomy x 0 with h1 | h1 | h1 <;> rcases Int.lt_trichotomy y 0 with h2 | h2 | h2
  all_goals first | (exfalso; revert h; simp [cmpI_lt, cmpI_gt, cmpI_self, *]; done) | skip
  · rw [cmpI_lt h1]; unfold cmpI; split <;> split <;> (try split) <;> (try split) <;> omega
  · subst h1 h2; rfl
  · rw [cmpI_gt h1]; unfold cmpI; split <;> split <;> (try split) <;> (try split) <;> omega
theorem cmp_other (x y : Int) (h : cmpI x 0 ≠ cmpI y 0) : cmpI x y = cmpI (cmpI x 0) (cmpI y 0) := by
  unfold cmpI at *
  split at h <;> split at h <;> (try split at h) <;> (try split at h) <;> (repeat split) <;> omega

set_option maxRecDepth 100000 in
set_option maxHeartbeats 4000000 in
theorem Cmp_same (u v : Value) (x y : Int) (Kx Ky : Nat) (w : World) (hu : Ai w u x Kx) (hv : Ai w v y Ky) (hKx : Kx ≤ 1073741824) (hKy : Ky ≤ 1073741824) (hs : cmpI x 0 = cmpI y 0) :
    Calls Tryz.prog 48 #[u, v] w fun e w' => e = .returned (.int .i64 (cmpI x y)) ∧ Below w.heap.size w w' := by
  obtain ⟨xb, xo, xm, xc, rfl, Hx⟩ := Ai.opened hu
  obtain ⟨yb, yo, ym, yc, rfl, Hy⟩ := Ai.opened hv
  have Hne := hid hs
  clear hs hu hv
  go_enter Tryz.func48, Tryz.ntmps48
  go_wp2
  obtain ⟨W0, hW0⟩ : ∃ W0, W0 = ((w.alloc (.cells #[.bool xb, .slice xo xm xc] 24)).alloc (.cells #[.bool yb, .slice yo ym yc] 24)) := ⟨_, rfl⟩
  have hB0 : Below w.heap.size w W0 := by rw [hW0]; exact ((Below.refl _ _).alloc (by simp <;> omega) _).alloc (by simp <;> omega) _
  have hz0 : W0.heap.size = w.heap.size + 2 := by rw [hW0]; simp
  have HS : Hid (∀ w', Below (w.heap.size + 2) W0 w' → w'.cell? ⟨w.heap.size, 0, none⟩ = some (.bool xb) ∧ w'.cell? ⟨w.heap.size, 1, none⟩ = some (.slice xo xm xc) ∧ w'.cell? ⟨w.heap.size + 1, 0, none⟩ = some (.bool yb) ∧ w'.cell? ⟨w.heap.size + 1, 1, none⟩ = some (.slice yo ym yc)) := hid (fun w' hb => by
    refine ⟨?_, ?_, ?_, ?_⟩ <;> (first | (rw [hb.cell (by simp <;> omega), hW0]; simp [go_sem]; done) | (rw [hb.frozen (by simp <;> omega), hW0]; simp [go_sem]; done)))
  rw [← hW0]
  clear hW0
  have HB0 := hid hB0; have Hz0 := hid hz0
  clear hB0 hz0
  refine region_inv (by kernel_rfl) (fun L a w' => ∃ b0 b1 b2 b3 b4 b5 b6 b7, L = #[b0, b1, b2, b3, b4, b5, b6, b7] ∧ (b6 = true → b1 = true ∧ b4 = true) ∧ (b7 = true → b3 = true ∧ b5 = true) ∧ ∃ s5 s6 s7 s8 s9 s10, a = { tmps := #[.agg #[.bool xb, .slice xo xm xc], .agg #[.bool yb, .slice yo ym yc], .pointer (some ⟨w.heap.size, 0, none⟩), .pointer (some ⟨w.heap.size + 1, 0, none⟩), .int .i64 0, s5, s6, s7, s8, s9, s10, undef, undef, undef, undef, undef, undef], defers := [] } ∧ PairJ .u64 (w.heap.size + 2) W0 (.agg #[.bool xb, .slice xo xm xc]) (.agg #[.bool yb, .slice yo ym yc]) (fun w v => It w v x ((Kx + 1) / 2)) (fun w v => It w v y ((Ky + 1) / 2)) b0 b1 b2 b3 b4 b5 b6 b7 s5 s6 s7 s8 s9 s10 w') ?_ ?_ ?_
  · exact ⟨_, _, _, _, _, _, _, _, rfl, nofun, nofun, _, _, _, _, _, _, rfl, PairJ.start (Below.refl _ _).drew (by have := Hz0.out; simp; omega)⟩
  · rintro L a w' i hs ⟨b0, b1, b2, b3, b4, b5, b6, b7, rfl, h61, h73, s5, s6, s7, s8, s9, s10, rfl, J⟩ hi
    obtain ⟨hi, hn, hd⟩ := waits_spec (dep := [[], [0], [], [2], [], [], [4, 1], [5, 3]]) (by kernel_rfl) hi
    have hi8 : i < 8 := hi
    obtain ⟨k0, k1, k2, k3⟩ := HS.out w' J.bel
    have HJ := hid J
    rcases (show i = 0 ∨ i = 1 ∨ i = 2 ∨ i = 3 ∨ i = 4 ∨ i = 5 ∨ i = 6 ∨ i = 7 by omega) with rfl | rfl | rfl | rfl | rfl | rfl | rfl | rfl
    · clear J hd hi hi8 hn
      refine wpOp_step rfl (fun K hK => ?_)
      go_simp
      exact hK _ _ ⟨true, b1, b2, b3, b4, b5, b6, b7, rfl, h61, h73, _, _, _, _, _, _, rfl, HJ.out.load0⟩
    · obtain rfl : b1 = false := hn
      obtain rfl : b6 = false := by cases b6 with | false => rfl | true => exact absurd (h61 rfl).1 (by simp)
      obtain rfl := J.l0 (hd 0 (by simp))
      have hw := HB0.out.trans (J.bel.mono (by omega))
      clear J hd hi hi8 h61
      refine wpOp_step rfl (fun K hK => ?_)
      go_simp
      refine (read_any _ x Kx _ (Hx.out _ hw) hKx).mono ?_
      rintro e w1 ⟨v, rfl, hv, hb⟩
      exact hK _ _ ⟨b0, true, b2, b3, b4, b5, false, b7, rfl, nofun, h73, _, _, _, _, _, _, rfl, HJ.out.call1 It.keeps hb hv⟩
    · clear J hd hi hi8 hn
      refine wpOp_step rfl (fun K hK => ?_)
      go_simp
      exact hK _ _ ⟨b0, b1, true, b3, b4, b5, b6, b7, rfl, h61, h73, _, _, _, _, _, _, rfl, HJ.out.load2⟩
    · obtain rfl : b3 = false := hn
      obtain rfl : b7 = false := by cases b7 with | false => rfl | true => exact absurd (h73 rfl).1 (by simp)
      obtain rfl := J.l2 (hd 2 (by simp))
      have hw := HB0.out.trans (J.bel.mono (by omega))
      clear J hd hi hi8 h73
      refine wpOp_step rfl (fun K hK => ?_)
      go_simp
      refine (read_any _ y Ky _ (Hy.out _ hw) hKy).mono ?_
      rintro e w1 ⟨v, rfl, hv, hb⟩
      exact hK _ _ ⟨b0, b1, b2, true, b4, b5, b6, false, rfl, h61, nofun, _, _, _, _, _, _, rfl, HJ.out.call3 It.keeps hb hv⟩
    · obtain rfl : b4 = false := hn
      obtain rfl : b6 = false := by cases b6 with | false => rfl | true => exact absurd (h61 rfl).2 (by simp)
      clear J hd hi hi8 h61
      refine wpOp_step rfl (fun K hK => ?_)
      go_simp
      exact hK _ _ ⟨b0, b1, b2, b3, true, b5, false, b7, rfl, nofun, h73, _, _, _, _, _, _, rfl, HJ.out.alloc4 It.keeps It.keeps _⟩
    · obtain rfl : b5 = false := hn
      obtain rfl : b7 = false := by cases b7 with | false => rfl | true => exact absurd (h73 rfl).2 (by simp)
      clear J hd hi hi8 h73
      refine wpOp_step rfl (fun K hK => ?_)
      go_simp
      exact hK _ _ ⟨b0, b1, b2, b3, b4, true, b6, false, rfl, h61, nofun, _, _, _, _, _, _, rfl, HJ.out.alloc5 It.keeps It.keeps _⟩
    · obtain rfl : b4 = true := hd 4 (by simp)
      obtain rfl : b1 = true := hd 1 (by simp)
      obtain ⟨p, v0, v1, rfl, hp, c0, c1, f0, f1, _⟩ := J.p4 rfl
      obtain ⟨sb, so, sm, sc, rfl, _⟩ := It.opened (J.c1 rfl)
      clear J hd hi hi8 hn
      refine wpOp_step rfl (fun K hK => ?_)
      go_simp
      exact hK _ _ ⟨b0, true, b2, b3, true, b5, true, b7, rfl, fun _ => ⟨rfl, rfl⟩, h73, _, _, _, _, _, _, rfl, HJ.out.store6 It.keeps It.keeps nofun nofun⟩
    · obtain rfl : b5 = true := hd 5 (by simp)
      obtain rfl : b3 = true := hd 3 (by simp)
      obtain ⟨p, v0, v1, rfl, hp, c0, c1, f0, f1, _⟩ := J.p5 rfl
      obtain ⟨sb, so, sm, sc, rfl, _⟩ := It.opened (J.c3 rfl)
      clear J hd hi hi8 hn
      refine wpOp_step rfl (fun K hK => ?_)
      go_simp
      exact hK _ _ ⟨b0, b1, b2, true, b4, true, b6, true, rfl, h61, fun _ => ⟨rfl, rfl⟩, _, _, _, _, _, _, rfl, HJ.out.store7 It.keeps It.keeps nofun nofun⟩
  rintro L a w' hs ⟨b0, b1, b2, b3, b4, b5, b6, b7, rfl, _, _, s5, s6, s7, s8, s9, s10, rfl, J⟩ hr
  have hd := early_done (by kernel_rfl) hs hr 8
  obtain rfl : b1 = true := hd 1 (by omega) (by simp)
  obtain rfl : b3 = true := hd 3 (by omega) (by simp)
  obtain rfl : b4 = true := hd 4 (by omega) (by simp)
  obtain rfl : b5 = true := hd 5 (by omega) (by simp)
  obtain rfl : b6 = true := hd 6 (by omega) (by simp)
  obtain rfl : b7 = true := hd 7 (by omega) (by simp)
  obtain ⟨p, u0, u1, rfl, hp, c0, c1, f0, f1, _, _, hu⟩ := J.p4 rfl
  obtain ⟨q, t0, t1, rfl, hq, d0, d1, g0, g1, _, _, ht⟩ := J.p5 rfl
  have hpq := J.ne rfl rfl
  obtain rfl := hu rfl
  obtain rfl := ht rfl
  have hw := HB0.out.trans (J.bel.mono (by omega))
  have hbel := J.bel
  have H1 := J.c1 rfl
  have H2 := J.c3 rfl
  clear hd hr hs J
  obtain ⟨b1, o1, m1, cc1, e1, _, H1s, _⟩ := It.opened H1
  obtain ⟨b2, o2, m2, cc2, e2, _, H2s, _⟩ := It.opened H2
  cases e1
  cases e2
  go_wp2
  have hpl := World.block_lt_of_cell? _ _ c0
  have hql := World.block_lt_of_cell? _ _ d0
  obtain ⟨W1, hW1⟩ : ∃ W1, W1 = w' := ⟨_, rfl⟩
  rw [← hW1] at c0 c1 d0 d1 H1 H2 H1s H2s hw hpl hql ⊢
  clear hW1 hbel f0 f1 g0 g1
  have HS1 : Hid (∀ w', Below W1.heap.size W1 w' → w'.cell? ⟨p, 0, none⟩ = some (.bool b1) ∧ w'.cell? ⟨p, 1, none⟩ = some (.slice o1 m1 cc1) ∧ w'.cell? ⟨q, 0, none⟩ = some (.bool b2) ∧ w'.cell? ⟨q, 1, none⟩ = some (.slice o2 m2 cc2)) := hid (fun w' hb =>
    ⟨(hb.cell hpl).trans c0, (hb.cell (p := ⟨p, 1, none⟩) hpl).trans c1, (hb.cell hql).trans d0, (hb.cell (p := ⟨q, 1, none⟩) hql).trans d1⟩)
  clear c0 c1 d0 d1
  go_region_held3 (fun w' => w'.cell? ⟨p, 0, none⟩ = some (.bool b1) ∧ w'.cell? ⟨p, 1, none⟩ = some (.slice o1 m1 cc1) ∧ w'.cell? ⟨q, 0, none⟩ = some (.bool b2) ∧ w'.cell? ⟨q, 1, none⟩ = some (.slice o2 m2 cc2)) ((refine HS1.out _ ?_; first | assumption | exact Below.refl _ _ | exact (Below.refl _ _).drew)) (first
    | (go_at_call_of 79 (o1); refine (sign_any _ x _ _ (It.below H1 (Below.refl _ _).drew (Nat.le_refl _))).mono ?_; rintro e w3 ⟨rfl, hb3⟩; have hX1 : Below W1.heap.size W1 w3 := ((Below.refl _ _).drew).trans hb3)
    | (go_at_call_of 79 (o2); refine (sign_any _ y _ _ (It.below H2 hX1 (Nat.le_refl _))).mono ?_; rintro e w4 ⟨rfl, hb4⟩; have hX2 : Below W1.heap.size W1 w4 := hX1.trans (hb4.mono hX1.size); obtain ⟨hc0, hc1, hc2, hc3⟩ := HS1.out _ hX2; rw [← Hne.out])
    | (go_at_call 94; refine (order_eq (cmpI x 0) (cmpI_bd x 0) _ _ _ _ _ _ _ _ _ _ _ _ _ hc1 hc3 (H1s.out _ hX2) (H2s.out _ hX2)).mono ?_; rintro e w5 ⟨nq, rfl, rfl⟩; have hX3 : Below W1.heap.size W1 (w4.drewN nq) := below_drewN hX2 nq))
  all_goals (go_wp2; go_ret; exact ⟨by rw [cmp_same x y Hne.out]; rfl, hw.trans (hX3.mono hw.size)⟩)

set_option maxRecDepth 100000 in
set_option maxHeartbeats 4000000 in
theorem Cmp_ne (u v : Value) (x y : Int) (Kx Ky : Nat) (w : World) (hu : Ai w u x Kx) (hv : Ai w v y Ky) (hKx : Kx ≤ 1073741824) (hKy : Ky ≤ 1073741824) (hs : cmpI x 0 ≠ cmpI y 0) :
    Calls Tryz.prog 48 #[u, v] w fun e w' => e = .returned (.int .i64 (cmpI x y)) ∧ Below w.heap.size w w' := by
  obtain ⟨xb, xo, xm, xc, rfl, Hx⟩ := Ai.opened hu
  obtain ⟨yb, yo, ym, yc, rfl, Hy⟩ := Ai.opened hv
  have Hne := hid hs
  clear hs hu hv
  go_enter Tryz.func48, Tryz.ntmps48
  go_wp2
  obtain ⟨W0, hW0⟩ : ∃ W0, W0 = ((w.alloc (.cells #[.bool xb, .slice xo xm xc] 24)).alloc (.cells #[.bool yb, .slice yo ym yc] 24)) := ⟨_, rfl⟩
  have hB0 : Below w.heap.size w W0 := by rw [hW0]; exact ((Below.refl _ _).alloc (by simp <;> omega) _).alloc (by simp <;> omega) _
  have hz0 : W0.heap.size = w.heap.size + 2 := by rw [hW0]; simp
  have HS : Hid (∀ w', Below (w.heap.size + 2) W0 w' → w'.cell? ⟨w.heap.size, 0, none⟩ = some (.bool xb) ∧ w'.cell? ⟨w.heap.size, 1, none⟩ = some (.slice xo xm xc) ∧ w'.cell? ⟨w.heap.size + 1, 0, none⟩ = some (.bool yb) ∧ w'.cell? ⟨w.heap.size + 1, 1, none⟩ = some (.slice yo ym yc)) := hid (fun w' hb => by
    refine ⟨?_, ?_, ?_, ?_⟩ <;> (first | (rw [hb.cell (by simp <;> omega), hW0]; simp [go_sem]; done) | (rw [hb.frozen (by simp <;> omega), hW0]; simp [go_sem]; done)))
  rw [← hW0]
  clear hW0
  have HB0 := hid hB0; have Hz0 := hid hz0
  clear hB0 hz0
  refine region_inv (by kernel_rfl) (fun L a w' => ∃ b0 b1 b2 b3 b4 b5 b6 b7, L = #[b0, b1, b2, b3, b4, b5, b6, b7] ∧ (b6 = true → b1 = true ∧ b4 = true) ∧ (b7 = true → b3 = true ∧ b5 = true) ∧ ∃ s5 s6 s7 s8 s9 s10, a = { tmps := #[.agg #[.bool xb, .slice xo xm xc], .agg #[.bool yb, .slice yo ym yc], .pointer (some ⟨w.heap.size, 0, none⟩), .pointer (some ⟨w.heap.size + 1, 0, none⟩), .int .i64 0, s5, s6, s7, s8, s9, s10, undef, undef, undef, undef, undef, undef], defers := [] } ∧ PairJ .u64 (w.heap.size + 2) W0 (.agg #[.bool xb, .slice xo xm xc]) (.agg #[.bool yb, .slice yo ym yc]) (fun w v => It w v x ((Kx + 1) / 2)) (fun w v => It w v y ((Ky + 1) / 2)) b0 b1 b2 b3 b4 b5 b6 b7 s5 s6 s7 s8 s9 s10 w') ?_ ?_ ?_
  · exact ⟨_, _, _, _, _, _, _, _, rfl, nofun, nofun, _, _, _, _, _, _, rfl, PairJ.start (Below.refl _ _).drew (by have := Hz0.out; simp; omega)⟩
  · rintro L a w' i hs ⟨b0, b1, b2, b3, b4, b5, b6, b7, rfl, h61, h73, s5, s6, s7, s8, s9, s10, rfl, J⟩ hi
    obtain ⟨hi, hn, hd⟩ := waits_spec (dep := [[], [0], [], [2], [], [], [4, 1], [5, 3]]) (by kernel_rfl) hi
    have hi8 : i < 8 := hi
    obtain ⟨k0, k1, k2, k3⟩ := HS.out w' J.bel
    have HJ := hid J
    rcases (show i = 0 ∨ i = 1 ∨ i = 2 ∨ i = 3 ∨ i = 4 ∨ i = 5 ∨ i = 6 ∨ i = 7 by omega) with rfl | rfl | rfl | rfl | rfl | rfl | rfl | rfl
    · clear J hd hi hi8 hn
      refine wpOp_step rfl (fun K hK => ?_)
      go_simp
      exact hK _ _ ⟨true, b1, b2, b3, b4, b5, b6, b7, rfl, h61, h73, _, _, _, _, _, _, rfl, HJ.out.load0⟩
    · obtain rfl : b1 = false := hn
      obtain rfl : b6 = false := by cases b6 with | false => rfl | true => exact absurd (h61 rfl).1 (by simp)
      obtain rfl := J.l0 (hd 0 (by simp))
      have hw := HB0.out.trans (J.bel.mono (by omega))
      clear J hd hi hi8 h61
      refine wpOp_step rfl (fun K hK => ?_)
      go_simp
      refine (read_any _ x Kx _ (Hx.out _ hw) hKx).mono ?_
      rintro e w1 ⟨v, rfl, hv, hb⟩
      exact hK _ _ ⟨b0, true, b2, b3, b4, b5, false, b7, rfl, nofun, h73, _, _, _, _, _, _, rfl, HJ.out.call1 It.keeps hb hv⟩
    · clear J hd hi hi8 hn
      refine wpOp_step rfl (fun K hK => ?_)
      go_simp
      exact hK _ _ ⟨b0, b1, true, b3, b4, b5, b6, b7, rfl, h61, h73, _, _, _, _, _, _, rfl, HJ.out.load2⟩
    · obtain rfl : b3 = false := hn
      obtain rfl : b7 = false := by cases b7 with | false => rfl | true => exact absurd (h73 rfl).1 (by simp)
      obtain rfl := J.l2 (hd 2 (by simp))
      have hw := HB0.out.trans (J.bel.mono (by omega))
      clear J hd hi hi8 h73
      refine wpOp_step rfl (fun K hK => ?_)
      go_simp
      refine (read_any _ y Ky _ (Hy.out _ hw) hKy).mono ?_
      rintro e w1 ⟨v, rfl, hv, hb⟩
      exact hK _ _ ⟨b0, b1, b2, true, b4, b5, b6, false, rfl, h61, nofun, _, _, _, _, _, _, rfl, HJ.out.call3 It.keeps hb hv⟩
    · obtain rfl : b4 = false := hn
      obtain rfl : b6 = false := by cases b6 with | false => rfl | true => exact absurd (h61 rfl).2 (by simp)
      clear J hd hi hi8 h61
      refine wpOp_step rfl (fun K hK => ?_)
      go_simp
      exact hK _ _ ⟨b0, b1, b2, b3, true, b5, false, b7, rfl, nofun, h73, _, _, _, _, _, _, rfl, HJ.out.alloc4 It.keeps It.keeps _⟩
    · obtain rfl : b5 = false := hn
      obtain rfl : b7 = false := by cases b7 with | false => rfl | true => exact absurd (h73 rfl).2 (by simp)
      clear J hd hi hi8 h73
      refine wpOp_step rfl (fun K hK => ?_)
      go_simp
      exact hK _ _ ⟨b0, b1, b2, b3, b4, true, b6, false, rfl, h61, nofun, _, _, _, _, _, _, rfl, HJ.out.alloc5 It.keeps It.keeps _⟩
    · obtain rfl : b4 = true := hd 4 (by simp)
      obtain rfl : b1 = true := hd 1 (by simp)
      obtain ⟨p, v0, v1, rfl, hp, c0, c1, f0, f1, _⟩ := J.p4 rfl
      obtain ⟨sb, so, sm, sc, rfl, _⟩ := It.opened (J.c1 rfl)
      clear J hd hi hi8 hn
      refine wpOp_step rfl (fun K hK => ?_)
      go_simp
      exact hK _ _ ⟨b0, true, b2, b3, true, b5, true, b7, rfl, fun _ => ⟨rfl, rfl⟩, h73, _, _, _, _, _, _, rfl, HJ.out.store6 It.keeps It.keeps nofun nofun⟩
    · obtain rfl : b5 = true := hd 5 (by simp)
      obtain rfl : b3 = true := hd 3 (by simp)
      obtain ⟨p, v0, v1, rfl, hp, c0, c1, f0, f1, _⟩ := J.p5 rfl
      obtain ⟨sb, so, sm, sc, rfl, _⟩ := It.opened (J.c3 rfl)
      clear J hd hi hi8 hn
      refine wpOp_step rfl (fun K hK => ?_)
      go_simp
      exact hK _ _ ⟨b0, b1, b2, true, b4, true, b6, true, rfl, h61, fun _ => ⟨rfl, rfl⟩, _, _, _, _, _, _, rfl, HJ.out.store7 It.keeps It.keeps nofun nofun⟩
  rintro L a w' hs ⟨b0, b1, b2, b3, b4, b5, b6, b7, rfl, _, _, s5, s6, s7, s8, s9, s10, rfl, J⟩ hr
  have hd := early_done (by kernel_rfl) hs hr 8
  obtain rfl : b1 = true := hd 1 (by omega) (by simp)
  obtain rfl : b3 = true := hd 3 (by omega) (by simp)
  obtain rfl : b4 = true := hd 4 (by omega) (by simp)
  obtain rfl : b5 = true := hd 5 (by omega) (by simp)
  obtain rfl : b6 = true := hd 6 (by omega) (by simp)
  obtain rfl : b7 = true := hd 7 (by omega) (by simp)
  obtain ⟨p, u0, u1, rfl, hp, c0, c1, f0, f1, _, _, hu⟩ := J.p4 rfl
  obtain ⟨q, t0, t1, rfl, hq, d0, d1, g0, g1, _, _, ht⟩ := J.p5 rfl
  have hpq := J.ne rfl rfl
  obtain rfl := hu rfl
  obtain rfl := ht rfl
  have hw := HB0.out.trans (J.bel.mono (by omega))
  have hbel := J.bel
  have H1 := J.c1 rfl
  have H2 := J.c3 rfl
  clear hd hr hs J
  obtain ⟨b1, o1, m1, cc1, e1, _, H1s, _⟩ := It.opened H1
  obtain ⟨b2, o2, m2, cc2, e2, _, H2s, _⟩ := It.opened H2
  cases e1
  cases e2
  go_wp2
  have hpl := World.block_lt_of_cell? _ _ c0
  have hql := World.block_lt_of_cell? _ _ d0
  obtain ⟨W1, hW1⟩ : ∃ W1, W1 = w' := ⟨_, rfl⟩
  rw [← hW1] at c0 c1 d0 d1 H1 H2 H1s H2s hw hpl hql ⊢
  clear hW1 hbel f0 f1 g0 g1
  have HS1 : Hid (∀ w', Below W1.heap.size W1 w' → w'.cell? ⟨p, 0, none⟩ = some (.bool b1) ∧ w'.cell? ⟨p, 1, none⟩ = some (.slice o1 m1 cc1) ∧ w'.cell? ⟨q, 0, none⟩ = some (.bool b2) ∧ w'.cell? ⟨q, 1, none⟩ = some (.slice o2 m2 cc2)) := hid (fun w' hb =>
    ⟨(hb.cell hpl).trans c0, (hb.cell (p := ⟨p, 1, none⟩) hpl).trans c1, (hb.cell hql).trans d0, (hb.cell (p := ⟨q, 1, none⟩) hql).trans d1⟩)
  clear c0 c1 d0 d1
  go_region_held3 (fun w' => w'.cell? ⟨p, 0, none⟩ = some (.bool b1) ∧ w'.cell? ⟨p, 1, none⟩ = some (.slice o1 m1 cc1) ∧ w'.cell? ⟨q, 0, none⟩ = some (.bool b2) ∧ w'.cell? ⟨q, 1, none⟩ = some (.slice o2 m2 cc2)) ((refine HS1.out _ ?_; first | assumption | exact Below.refl _ _ | exact (Below.refl _ _).drew)) (first
    | (go_at_call_of 79 (o1); refine (sign_any _ x _ _ (It.below H1 (Below.refl _ _).drew (Nat.le_refl _))).mono ?_; rintro e w3 ⟨rfl, hb3⟩; have hX1 : Below W1.heap.size W1 w3 := ((Below.refl _ _).drew).trans hb3)
    | (go_at_call_of 79 (o2); refine (sign_any _ y _ _ (It.below H2 hX1 (Nat.le_refl _))).mono ?_; rintro e w4 ⟨rfl, hb4⟩; have hX2 : Below W1.heap.size W1 w4 := hX1.trans (hb4.mono hX1.size); obtain ⟨hc0, hc1, hc2, hc3⟩ := HS1.out _ hX2)
    | (go_at_call 94; refine (order_ne _ _ _ _ Hne.out).mono ?_; rintro e w5 ⟨rfl, rfl⟩))
  all_goals (go_wp2; go_ret; exact ⟨by rw [cmp_other x y Hne.out]; rfl, hw.trans (hX2.mono hw.size)⟩)

theorem Cmp_any (u v : Value) (x y : Int) (Kx Ky : Nat) (w : World) (hu : Ai w u x Kx) (hv : Ai w v y Ky) (hKx : Kx ≤ 1073741824) (hKy : Ky ≤ 1073741824) :
    Calls Tryz.prog 48 #[u, v] w fun e w' => e = .returned (.int .i64 (cmpI x y)) ∧ Below w.heap.size w w' := by
  by_cases hs : cmpI x 0 = cmpI y 0
  · exact Cmp_same u v x y Kx Ky w hu hv hKx hKy hs
  · exact Cmp_ne u v x y Kx Ky w hu hv hKx hKy hs

end Go.Proofs.YtilpkocmdpofpaaGreatDoor

/- The contracts of the integers' operations in one form, for the outright laws; equal of the laws. -/
namespace Go.Proofs.YtilpkocmdpofpaaGreatDoor
open Go.RowKit

theorem Ai.mono {w : World} {v : Value} {z : Int} {K K' : Nat} (h : Ai w v z K) (hK : K ≤ K') : Ai w v z K' := by
  obtain ⟨neg, ao, c, W, rfl, h⟩ := h
  exact ⟨neg, ao, c, W, rfl, h.rd, h.dig, Nat.le_trans h.le hK, h.eq⟩

/-- The call hands back an integer, open. -/
def RetZI (w : World) (z : Int) (R : Nat) (e : Ending) (w' : World) : Prop := ∃ b o m c, e = .returned (.agg #[.bool b, .slice o m c]) ∧ Hid (Ai w' (.agg #[.bool b, .slice o m c]) z R) ∧ Below w.heap.size w w'
theorem RetA.zi {w : World} {z : Int} {K R : Nat} (hK : K ≤ R) {e : Ending} {w' : World} (h : RetA w z K e w') : RetZI w z R e w' := by
  obtain ⟨v, rfl, hv, hb⟩ := h
  obtain ⟨b, o, m, c, rfl, H⟩ := FrA.opened hv
  exact ⟨b, o, m, c, rfl, hid (H.out.ai.mono hK), hb⟩
theorem mul_z (u v : Value) (x y z : Int) (Ka Kb R : Nat) (w : World) (hu : Ai w u x Ka) (hv : Ai w v y Kb) (hz : x * y = z) (hA : Ka ≤ 157) (hB : Kb ≤ 157) (hR : Ka + Kb + 2 ≤ R) : Calls Tryz.prog 43 #[u, v] w (RetZI w z R) := by
  subst hz
  exact (Mul_short u v x y Ka Kb 158 w hu hv (by omega) (by omega) (by omega)).mono fun e w' h => h.zi (by omega)
theorem cmp_z (u v : Value) (x y t : Int) (K : Nat) (w : World) (hu : Ai w u x K) (hv : Ai w v y K) (ht : cmpI x y = t) (hK : K ≤ 1000) : Calls Tryz.prog 48 #[u, v] w fun e w' => e = .returned (.int .i64 t) ∧ Below w.heap.size w w' := by
  subst ht
  exact Cmp_any u v x y K K w hu hv (by omega) (by omega)
set_option maxRecDepth 100000 in
set_option maxHeartbeats 1000000 in
theorem equal_z (u v : Value) (x y : Int) (K : Nat) (w : World) (hu : Ai w u x K) (hv : Ai w v y K) (hxy : x = y) (hK : K ≤ 1000) : Calls Tryz.prog 44 #[u, v] w fun e w' => e = .returned (.bool true) ∧ Below w.heap.size w w' := by
  have HC := hid (fun (w' : World) (hb : Below w.heap.size w w') => cmp_z u v x y 0 K w' (hu.below hb (Nat.le_refl _)) (hv.below hb (Nat.le_refl _)) (by rw [hxy]; unfold cmpI; simp) hK)
  obtain ⟨ab, ao, am, ac, rfl, _⟩ := Ai.opened hu
  obtain ⟨bb, bo, bm, bc, rfl, _⟩ := Ai.opened hv
  clear hu hv hxy
  have HB0 := hid (show Below w.heap.size w ((w.alloc (.cells #[.bool ab, .slice ao am ac] 24)).alloc (.cells #[.bool bb, .slice bo bm bc] 24)) from ((Below.refl _ _).alloc (Nat.le_refl _) _).alloc (by simp) _)
  go_enter Tryz.func44, Tryz.ntmps44
  go_wp2_with fail
  refine (HC.out _ HB0.out).mono ?_
  rintro e w1 ⟨rfl, hb1⟩
  go_wp2
  go_ret
  exact ⟨rfl, HB0.out.trans (hb1.mono HB0.out.size)⟩
end Go.Proofs.YtilpkocmdpofpaaGreatDoor

/- Small lemmas of ratios in lowest terms. -/
namespace Go.Proofs.YtilpkocmdpofpaaGreatDoor
open Go.RowKit

theorem low_small (z : Int) {d : Int} (hd : 0 < d) : lowD z d ≤ d ∧ lowN z d * lowN z d ≤ z * z := by
  unfold lowD lowN
  constructor
  · exact Int.ediv_le_self _ (Int.le_of_lt hd)
  · have h1 : (z.natAbs : Int) / (Int.gcd (z.natAbs : Int) d : Int) ≤ (z.natAbs : Int) := Int.ediv_le_self _ (by omega)
    have h0 : 0 ≤ (z.natAbs : Int) / (Int.gcd (z.natAbs : Int) d : Int) := Int.ediv_nonneg (by omega) (by omega)
    have h2 := Int.mul_le_mul h1 h1 h0 (by omega)
    have h3 : (z.natAbs : Int) * (z.natAbs : Int) = z * z := by rw [← Int.natCast_mul, Int.natAbs_mul_self]
    rw [h3] at h2
    have h4 : ∀ (b : Bool) (t : Int), sgn b t * sgn b t = t * t := by
      intro b t
      cases b
      · rfl
      · exact Int.neg_mul_neg t t
    rw [h4]
    exact h2
theorem Ra.mono {w : World} {v : Value} {x y : Int} {K K' : Nat} (h : Ra w v x y K) (hK : K ≤ K') : Ra w v x y K' := by
  obtain ⟨b1, o1, m1, c1, b2, o2, m2, c2, e, h1, h2⟩ := h
  exact ⟨b1, o1, m1, c1, b2, o2, m2, c2, e, h1.mono hK, h2.mono hK⟩
end Go.Proofs.YtilpkocmdpofpaaGreatDoor
