/- (exact.fraction).over; exact.Quotient. Written by gen_quot.py. -/
import Derived.Test.YtilpkocmdpofpaaGreatDoorZg37
/- (exact.fraction).over; exact.Quotient. Written by gen_quot.py. -/
namespace Go.Proofs.YtilpkocmdpofpaaGreatDoor
open Go.RowKit

set_option maxRecDepth 100000 in
set_option maxHeartbeats 1000000 in
theorem fover_any (u v : Value) (x y d1 d2 : Int) (K : Nat) (w : World) (hu : Ft w u x d1 K) (hv : Ft w v y d2 K) (hK : K ≤ 79) :
    Calls Tryz.prog 98 #[u, v] w fun e w' => ∃ f, e = .returned f ∧ Ft w' f (sgn (decide (x * d2 < 0) != decide (y * d1 < 0)) ((x * d2).natAbs : Int)) ((y * d1).natAbs : Int) (K + K) ∧ Below w.heap.size w w' := by
  obtain ⟨xb, xo, xm, xc, po, pm, pc, rfl, Hx, HP, Hxb⟩ := Ft.opened hu
  obtain ⟨yb, yo, ym, yc, qo, qm, qc, rfl, Hy, HQ, Hyb⟩ := Ft.opened hv
  clear hu hv
  obtain ⟨W0, hW0⟩ : ∃ W0, W0 = (((w.alloc (.cells #[.bool xb, .slice xo xm xc, .slice po pm pc] 86)).alloc (.cells #[.bool yb, .slice yo ym yc, .slice qo qm qc] 86)).alloc (.cells #[.bool false, .slice none 0 0, .slice none 0 0] 86)) := ⟨_, rfl⟩
  have hB0 : Below w.heap.size w W0 := by rw [hW0]; exact (((Below.refl _ _).alloc (Nat.le_refl _) _).alloc (by simp) _).alloc (by simp <;> omega) _
  have hz0 : W0.heap.size = w.heap.size + 3 := by rw [hW0]; simp
  have HS : Hid (∀ w', Below (w.heap.size + 2) W0 w' → w'.cell? ⟨w.heap.size, 0, none⟩ = some (.bool xb) ∧ w'.cell? ⟨w.heap.size, 1, none⟩ = some (.slice xo xm xc) ∧ w'.cell? ⟨w.heap.size, 2, none⟩ = some (.slice po pm pc) ∧ w'.cell? ⟨w.heap.size + 1, 0, none⟩ = some (.bool yb) ∧ w'.cell? ⟨w.heap.size + 1, 1, none⟩ = some (.slice yo ym yc) ∧ w'.cell? ⟨w.heap.size + 1, 2, none⟩ = some (.slice qo qm qc)) := hid (fun w' hb => by
    refine ⟨?_, ?_, ?_, ?_, ?_, ?_⟩ <;> (rw [hb.cell (by simp <;> omega), hW0]; simp [go_sem]))
  have HT : Hid (∀ w', Below (w.heap.size + 3) W0 w' → (w'.cell? ⟨w.heap.size + 2, 0, none⟩ = some (.bool false) ∧ w'.cell? ⟨w.heap.size + 2, 1, none⟩ = some (.slice none 0 0) ∧ w'.cell? ⟨w.heap.size + 2, 2, none⟩ = some (.slice none 0 0)) ∧ (w'.frozen? ⟨w.heap.size + 2, 0, none⟩ = false ∧ w'.frozen? ⟨w.heap.size + 2, 1, none⟩ = false ∧ w'.frozen? ⟨w.heap.size + 2, 2, none⟩ = false)) := hid (fun w' hb => by
    refine ⟨⟨?_, ?_, ?_⟩, ?_, ?_, ?_⟩ <;> (first | (rw [hb.cell (by simp <;> omega), hW0]; simp [go_sem]; done) | (rw [hb.frozen (by simp <;> omega), hW0]; simp [go_sem]; done)))
  have HB0 := hid hB0; have Hz0 := hid hz0; have HW := hid hW0
  clear hW0 hB0 hz0
  have HS0 : Hid (∀ w', Below W0.heap.size W0 w' → w'.cell? ⟨w.heap.size, 0, none⟩ = some (.bool xb) ∧ w'.cell? ⟨w.heap.size, 1, none⟩ = some (.slice xo xm xc) ∧ w'.cell? ⟨w.heap.size, 2, none⟩ = some (.slice po pm pc) ∧ w'.cell? ⟨w.heap.size + 1, 0, none⟩ = some (.bool yb) ∧ w'.cell? ⟨w.heap.size + 1, 1, none⟩ = some (.slice yo ym yc) ∧ w'.cell? ⟨w.heap.size + 1, 2, none⟩ = some (.slice qo qm qc)) := hid (fun w' hb => HS.out _ (hb.mono (by have := Hz0.out; omega)))
  have Hx0 := hid (fun (w' : World) (hb : Below W0.heap.size W0 w') => Hx.out w' (bl_tr HB0.out hb))
  have HQ0 := hid (fun (w' : World) (hb : Below W0.heap.size W0 w') => HQ.out w' (bl_tr HB0.out hb))
  have hX0 := Below.refl W0.heap.size W0
  go_enter Tryz.func98, Tryz.ntmps98
  go_upto_region 1 with (fail)
  rw [← HW.out]
  go_cut [5] from 7 (fun s5 wx => Below W0.heap.size W0 wx ∧ NewI W0.heap.size wx s5 (x * d2) (K + K))
  case first =>
    have HKG : Hid (KK (Kc (.pointer (some ⟨w.heap.size, 0, none⟩))) (Kc (.agg #[.bool xb, .slice xo xm xc])) (Kc (.pointer (some ⟨w.heap.size + 1, 2, none⟩))) (Kc (.slice qo qm qc)) (fun w v => It w v (d2) K) (fun w v => It w v (x * d2) (K + K)) (Kt) (Kt) (Kt) (Kt) (Kt) (Kt)) := hid ⟨kc_keep _, kc_keep _, kc_keep _, kc_keep _, it_keepg _ _, it_keepg _ _, kt_keep, kt_keep, kt_keep, kt_keep, kt_keep, kt_keep⟩
    refine region_inv (by kernel_rfl) (fun L act w' => ∃ f0 f1 f2 f3 f4 f5 f6 f7, L = #[f0, f1, f2, f3, f4, f5, f6, f7] ∧ (f7 = true → f6 = true ∧ f5 = true) ∧ ∃ s7 s8 s9 s10 s11 s12 s5, act = { tmps := #[.agg #[.bool xb, .slice xo xm xc, .slice po pm pc], .agg #[.bool yb, .slice yo ym yc, .slice qo qm qc], .pointer (some ⟨w.heap.size, 0, none⟩), .pointer (some ⟨w.heap.size + 1, 0, none⟩), .pointer (some ⟨w.heap.size + 1 + 1, 0, none⟩), s5, undef, s7, s8, s9, s10, s11, s12, undef, undef, undef, undef, undef, undef, undef, undef, undef], defers := [] } ∧ BK W0.heap.size W0 (Kc (.pointer (some ⟨w.heap.size, 0, none⟩))) (Kc (.agg #[.bool xb, .slice xo xm xc])) (Kc (.pointer (some ⟨w.heap.size + 1, 2, none⟩))) (Kc (.slice qo qm qc)) (fun w v => It w v (d2) K) (fun w v => It w v (x * d2) (K + K)) (Kt) (Kt) (Kt) (Kt) (Kt) (Kt) f0 f1 f2 f3 f4 f5 false false false false false false s7 s8 s9 s10 s11 s12 undef undef undef undef undef undef f6 f7 s5 s12 w') ?_ ?_ ?_
    · exact ⟨_, _, _, _, _, _, _, _, rfl, nofun, _, _, _, _, _, _, _, rfl, BK.start hX0.drew hX0.size⟩
    · rintro L act w' i hs ⟨f0, f1, f2, f3, f4, f5, f6, f7, rfl, dq1, s7, s8, s9, s10, s11, s12, s5, rfl, J⟩ hi
      obtain ⟨hi, hn, hd⟩ := waits_spec (dep := [[], [0], [], [2], [3], [1, 4], [], [6, 5]]) (by kernel_rfl) hi
      have hiN : i < 8 := hi
      obtain ⟨k0, k1, k2, k3, k4, k5⟩ := HS0.out w' J.bel
      have HJ := hid J
      rcases (show i = 0 ∨ i = 1 ∨ i = 2 ∨ i = 3 ∨ i = 4 ∨ i = 5 ∨ i = 6 ∨ i = 7 by omega) with rfl | rfl | rfl | rfl | rfl | rfl | rfl | rfl
      · clear J hd hi hiN hn
        refine wpOp_step rfl (fun kq hK => ?_)
        go_simp
        exact hK _ _ ⟨true, f1, f2, f3, f4, f5, f6, f7, rfl, dq1, _, _, _, _, _, _, _, rfl, ⟨HJ.out.bel, HJ.out.siz, fun _ => rfl, HJ.out.v1, HJ.out.v2, HJ.out.v3, HJ.out.v4, HJ.out.v5, HJ.out.v6, HJ.out.v7, HJ.out.v8, HJ.out.v9, HJ.out.v10, HJ.out.v11, HJ.out.a1⟩⟩
      · have e0 : s7 = .pointer (some ⟨w.heap.size, 0, none⟩) := J.v0 (hd 0 (by simp))
        subst e0
        clear J hd hi hiN hn
        refine wpOp_step rfl (fun kq hK => ?_)
        go_simp
        exact hK _ _ ⟨f0, true, f2, f3, f4, f5, f6, f7, rfl, dq1, _, _, _, _, _, _, _, rfl, ⟨HJ.out.bel, HJ.out.siz, HJ.out.v0, fun _ => rfl, HJ.out.v2, HJ.out.v3, HJ.out.v4, HJ.out.v5, HJ.out.v6, HJ.out.v7, HJ.out.v8, HJ.out.v9, HJ.out.v10, HJ.out.v11, HJ.out.a1⟩⟩
      · clear J hd hi hiN hn
        refine wpOp_step rfl (fun kq hK => ?_)
        go_simp
        exact hK _ _ ⟨f0, f1, true, f3, f4, f5, f6, f7, rfl, dq1, _, _, _, _, _, _, _, rfl, ⟨HJ.out.bel, HJ.out.siz, HJ.out.v0, HJ.out.v1, fun _ => rfl, HJ.out.v3, HJ.out.v4, HJ.out.v5, HJ.out.v6, HJ.out.v7, HJ.out.v8, HJ.out.v9, HJ.out.v10, HJ.out.v11, HJ.out.a1⟩⟩
      · have e2 : s9 = .pointer (some ⟨w.heap.size + 1, 2, none⟩) := J.v2 (hd 2 (by simp))
        subst e2
        clear J hd hi hiN hn
        refine wpOp_step rfl (fun kq hK => ?_)
        go_simp
        exact hK _ _ ⟨f0, f1, f2, true, f4, f5, f6, f7, rfl, dq1, _, _, _, _, _, _, _, rfl, ⟨HJ.out.bel, HJ.out.siz, HJ.out.v0, HJ.out.v1, HJ.out.v2, fun _ => rfl, HJ.out.v4, HJ.out.v5, HJ.out.v6, HJ.out.v7, HJ.out.v8, HJ.out.v9, HJ.out.v10, HJ.out.v11, HJ.out.a1⟩⟩
      · obtain rfl : f4 = false := hn
        have e3 : s10 = .slice qo qm qc := J.v3 (hd 3 (by simp))
        subst e3
        have hw := J.bel
        clear J hd hi hiN
        refine wpOp_step rfl (fun kq hK => ?_)
        go_simp
        refine (signed_any false _ d2 K _ (HQ0.out _ hw)).mono ?_
        rintro e wz ⟨zv, rfl, HZ, hb⟩
        have J2 := HJ.out.step HKG.out hb
        exact hK _ _ ⟨f0, f1, f2, f3, true, f5, f6, f7, rfl, dq1, _, _, _, _, _, _, _, rfl, ⟨J2.bel, J2.siz, J2.v0, J2.v1, J2.v2, J2.v3, fun _ => HZ, J2.v5, J2.v6, J2.v7, J2.v8, J2.v9, J2.v10, J2.v11, J2.a1⟩⟩
      · obtain rfl : f5 = false := hn
        obtain rfl : f7 = false := by cases f7 with | false => rfl | true => exact absurd (dq1 rfl).2 (by simp)
        have e1 : s8 = .agg #[.bool xb, .slice xo xm xc] := J.v1 (hd 1 (by simp))
        subst e1
        have h4 := J.v4 (hd 4 (by simp))
        have hw := J.bel
        clear J hd hi hiN dq1
        refine wpOp_step rfl (fun kq hK => ?_)
        go_simp
        refine (times_short _ _ x d2 K K _ (Hx0.out _ hw) h4 (by omega) (by omega)).mono ?_
        rintro e wz ⟨zv, rfl, HZ, hb⟩
        have J2 := HJ.out.step HKG.out hb
        exact hK _ _ ⟨f0, f1, f2, f3, f4, true, f6, false, rfl, nofun, _, _, _, _, _, _, _, rfl, ⟨J2.bel, J2.siz, J2.v0, J2.v1, J2.v2, J2.v3, J2.v4, fun _ => HZ, J2.v6, J2.v7, J2.v8, J2.v9, J2.v10, J2.v11, fun e => (J2.a1 e).fresh⟩⟩
      · obtain rfl : f6 = false := hn
        obtain rfl : f7 = false := by cases f7 with | false => rfl | true => exact absurd (dq1 rfl).1 (by simp)
        clear J hd hi hiN dq1
        refine wpOp_step rfl (fun kq hK => ?_)
        go_simp
        exact hK _ _ ⟨f0, f1, f2, f3, f4, f5, true, false, rfl, nofun, _, _, _, _, _, _, _, rfl, HJ.out.alloc1 HKG.out _⟩
      · obtain rfl : f6 = true := hd 6 (by simp)
        obtain rfl : f5 = true := hd 5 (by simp)
        obtain ⟨p, v0, v1, rfl, hp, c0, c1, e0, e1, _⟩ := J.a1 rfl
        obtain ⟨sb, so, sm, sc, rfl, _⟩ := It.opened (J.v5 rfl)
        clear J hd hi hiN hn
        refine wpOp_step rfl (fun kq hK => ?_)
        go_simp
        exact hK _ _ ⟨f0, f1, f2, f3, f4, true, true, true, rfl, fun _ => ⟨rfl, rfl⟩, _, _, _, _, _, _, _, rfl, HJ.out.store1 HKG.out nofun nofun⟩
    rintro L act w' hs ⟨f0, f1, f2, f3, f4, f5, f6, f7, rfl, _, s7, s8, s9, s10, s11, s12, s5, rfl, J⟩ hr
    have hd := early_done (by kernel_rfl) hs hr 8
    obtain rfl : f0 = true := hd 0 (by omega) (by simp)
    obtain rfl : f1 = true := hd 1 (by omega) (by simp)
    obtain rfl : f2 = true := hd 2 (by omega) (by simp)
    obtain rfl : f3 = true := hd 3 (by omega) (by simp)
    obtain rfl : f4 = true := hd 4 (by omega) (by simp)
    obtain rfl : f5 = true := hd 5 (by omega) (by simp)
    obtain rfl : f6 = true := hd 6 (by omega) (by simp)
    obtain rfl : f7 = true := hd 7 (by omega) (by simp)
    obtain ⟨p1, u1a, u1b, rfl, hp1, c1a, c1b, g1a, g1b, _, _, hu1⟩ := J.a1 rfl
    have ev1 := hu1 rfl
    subst ev1
    have hg1 := J.v5 rfl
    have hbel := J.bel
    clear hd hr hs J
    go_wp2_with fail
    go_meet
    obtain ⟨gb, go', gm', gc', eg, hgg⟩ := It.opened hg1
    simp only [Value.agg.injEq, Array.mk.injEq, List.cons.injEq, and_true] at eg
    obtain ⟨rfl, rfl⟩ := eg
    exact ⟨hbel, p1, _, _, _, _, rfl, hp1, c1a, c1b, hg1⟩
  case rest =>
  obtain ⟨W1, rfl⟩ : ∃ W1, W1 = wc := ⟨_, rfl⟩
  obtain ⟨hp1, p5, b5, o5, m5, c5, rfl, x5p, x5a, x5b, x5h⟩ := hcut
  have x5l := World.block_lt_of_cell? _ _ x5a
  have HS1 : Hid (∀ w', Below W1.heap.size W1 w' → w'.cell? ⟨w.heap.size, 0, none⟩ = some (.bool xb) ∧ w'.cell? ⟨w.heap.size, 1, none⟩ = some (.slice xo xm xc) ∧ w'.cell? ⟨w.heap.size, 2, none⟩ = some (.slice po pm pc) ∧ w'.cell? ⟨w.heap.size + 1, 0, none⟩ = some (.bool yb) ∧ w'.cell? ⟨w.heap.size + 1, 1, none⟩ = some (.slice yo ym yc) ∧ w'.cell? ⟨w.heap.size + 1, 2, none⟩ = some (.slice qo qm qc)) := hid (fun w' hb => HS0.out _ (bl_tr hp1 hb))
  have HC5 : Hid (∀ w', Below W1.heap.size W1 w' → w'.cell? ⟨p5, 0, none⟩ = some (.bool b5) ∧ w'.cell? ⟨p5, 1, none⟩ = some (.slice o5 m5 c5)) := hid (fun w' hb => ⟨(hb.cell x5l).trans x5a, (hb.cell (p := ⟨p5, 1, none⟩) x5l).trans x5b⟩)
  have HI5 := hid x5h
  have Hy1 := hid (fun (w' : World) (hb : Below W1.heap.size W1 w') => Hy.out w' (bl_tr (bl_tr HB0.out hp1) hb))
  have HP1 := hid (fun (w' : World) (hb : Below W1.heap.size W1 w') => HP.out w' (bl_tr (bl_tr HB0.out hp1) hb))
  have HL1 := hid hp1; have H5p := hid x5p
  clear hp1 x5p x5a x5b x5h x5l hX0
  have hX1 := Below.refl W1.heap.size W1
  go_upto_region 2 with (fail)
  go_cut [6] from 7 (fun s6 wx => Below W1.heap.size W1 wx ∧ NewI W1.heap.size wx s6 (y * d1) (K + K))
  case first =>
    have HKG : Hid (KK (Kc (.pointer (some ⟨w.heap.size + 1, 0, none⟩))) (Kc (.agg #[.bool yb, .slice yo ym yc])) (Kc (.pointer (some ⟨w.heap.size, 2, none⟩))) (Kc (.slice po pm pc)) (fun w v => It w v (d1) K) (fun w v => It w v (y * d1) (K + K)) (Kt) (Kt) (Kt) (Kt) (Kt) (Kt)) := hid ⟨kc_keep _, kc_keep _, kc_keep _, kc_keep _, it_keepg _ _, it_keepg _ _, kt_keep, kt_keep, kt_keep, kt_keep, kt_keep, kt_keep⟩
    refine region_inv (by kernel_rfl) (fun L act w' => ∃ f0 f1 f2 f3 f4 f5 f6 f7, L = #[f0, f1, f2, f3, f4, f5, f6, f7] ∧ (f7 = true → f6 = true ∧ f5 = true) ∧ ∃ s13 s14 s15 s16 s17 s18 s6, act = { tmps := #[.agg #[.bool xb, .slice xo xm xc, .slice po pm pc], .agg #[.bool yb, .slice yo ym yc, .slice qo qm qc], .pointer (some ⟨w.heap.size, 0, none⟩), .pointer (some ⟨w.heap.size + 1, 0, none⟩), .pointer (some ⟨w.heap.size + 1 + 1, 0, none⟩), .pointer (some ⟨p5, 0, none⟩), s6, u7, u8, u9, u10, u11, u12, s13, s14, s15, s16, s17, s18, u19, u20, u21], defers := [] } ∧ BK W1.heap.size W1 (Kc (.pointer (some ⟨w.heap.size + 1, 0, none⟩))) (Kc (.agg #[.bool yb, .slice yo ym yc])) (Kc (.pointer (some ⟨w.heap.size, 2, none⟩))) (Kc (.slice po pm pc)) (fun w v => It w v (d1) K) (fun w v => It w v (y * d1) (K + K)) (Kt) (Kt) (Kt) (Kt) (Kt) (Kt) f0 f1 f2 f3 f4 f5 false false false false false false s13 s14 s15 s16 s17 s18 undef undef undef undef undef undef f6 f7 s6 s18 w') ?_ ?_ ?_
    · exact ⟨_, _, _, _, _, _, _, _, rfl, nofun, _, _, _, _, _, _, _, rfl, BK.start hX1.drew hX1.size⟩
    · rintro L act w' i hs ⟨f0, f1, f2, f3, f4, f5, f6, f7, rfl, dq1, s13, s14, s15, s16, s17, s18, s6, rfl, J⟩ hi
      obtain ⟨hi, hn, hd⟩ := waits_spec (dep := [[], [0], [], [2], [3], [1, 4], [], [6, 5]]) (by kernel_rfl) hi
      have hiN : i < 8 := hi
      obtain ⟨k0, k1, k2, k3, k4, k5⟩ := HS1.out w' J.bel
      have HJ := hid J
      rcases (show i = 0 ∨ i = 1 ∨ i = 2 ∨ i = 3 ∨ i = 4 ∨ i = 5 ∨ i = 6 ∨ i = 7 by omega) with rfl | rfl | rfl | rfl | rfl | rfl | rfl | rfl
      · clear J hd hi hiN hn
        refine wpOp_step rfl (fun kq hK => ?_)
        go_simp
        exact hK _ _ ⟨true, f1, f2, f3, f4, f5, f6, f7, rfl, dq1, _, _, _, _, _, _, _, rfl, ⟨HJ.out.bel, HJ.out.siz, fun _ => rfl, HJ.out.v1, HJ.out.v2, HJ.out.v3, HJ.out.v4, HJ.out.v5, HJ.out.v6, HJ.out.v7, HJ.out.v8, HJ.out.v9, HJ.out.v10, HJ.out.v11, HJ.out.a1⟩⟩
      · have e0 : s13 = .pointer (some ⟨w.heap.size + 1, 0, none⟩) := J.v0 (hd 0 (by simp))
        subst e0
        clear J hd hi hiN hn
        refine wpOp_step rfl (fun kq hK => ?_)
        go_simp
        exact hK _ _ ⟨f0, true, f2, f3, f4, f5, f6, f7, rfl, dq1, _, _, _, _, _, _, _, rfl, ⟨HJ.out.bel, HJ.out.siz, HJ.out.v0, fun _ => rfl, HJ.out.v2, HJ.out.v3, HJ.out.v4, HJ.out.v5, HJ.out.v6, HJ.out.v7, HJ.out.v8, HJ.out.v9, HJ.out.v10, HJ.out.v11, HJ.out.a1⟩⟩
      · clear J hd hi hiN hn
        refine wpOp_step rfl (fun kq hK => ?_)
        go_simp
        exact hK _ _ ⟨f0, f1, true, f3, f4, f5, f6, f7, rfl, dq1, _, _, _, _, _, _, _, rfl, ⟨HJ.out.bel, HJ.out.siz, HJ.out.v0, HJ.out.v1, fun _ => rfl, HJ.out.v3, HJ.out.v4, HJ.out.v5, HJ.out.v6, HJ.out.v7, HJ.out.v8, HJ.out.v9, HJ.out.v10, HJ.out.v11, HJ.out.a1⟩⟩
      · have e2 : s15 = .pointer (some ⟨w.heap.size, 2, none⟩) := J.v2 (hd 2 (by simp))
        subst e2
        clear J hd hi hiN hn
        refine wpOp_step rfl (fun kq hK => ?_)
        go_simp
        exact hK _ _ ⟨f0, f1, f2, true, f4, f5, f6, f7, rfl, dq1, _, _, _, _, _, _, _, rfl, ⟨HJ.out.bel, HJ.out.siz, HJ.out.v0, HJ.out.v1, HJ.out.v2, fun _ => rfl, HJ.out.v4, HJ.out.v5, HJ.out.v6, HJ.out.v7, HJ.out.v8, HJ.out.v9, HJ.out.v10, HJ.out.v11, HJ.out.a1⟩⟩
      · obtain rfl : f4 = false := hn
        have e3 : s16 = .slice po pm pc := J.v3 (hd 3 (by simp))
        subst e3
        have hw := J.bel
        clear J hd hi hiN
        refine wpOp_step rfl (fun kq hK => ?_)
        go_simp
        refine (signed_any false _ d1 K _ (HP1.out _ hw)).mono ?_
        rintro e wz ⟨zv, rfl, HZ, hb⟩
        have J2 := HJ.out.step HKG.out hb
        exact hK _ _ ⟨f0, f1, f2, f3, true, f5, f6, f7, rfl, dq1, _, _, _, _, _, _, _, rfl, ⟨J2.bel, J2.siz, J2.v0, J2.v1, J2.v2, J2.v3, fun _ => HZ, J2.v5, J2.v6, J2.v7, J2.v8, J2.v9, J2.v10, J2.v11, J2.a1⟩⟩
      · obtain rfl : f5 = false := hn
        obtain rfl : f7 = false := by cases f7 with | false => rfl | true => exact absurd (dq1 rfl).2 (by simp)
        have e1 : s14 = .agg #[.bool yb, .slice yo ym yc] := J.v1 (hd 1 (by simp))
        subst e1
        have h4 := J.v4 (hd 4 (by simp))
        have hw := J.bel
        clear J hd hi hiN dq1
        refine wpOp_step rfl (fun kq hK => ?_)
        go_simp
        refine (times_short _ _ y d1 K K _ (Hy1.out _ hw) h4 (by omega) (by omega)).mono ?_
        rintro e wz ⟨zv, rfl, HZ, hb⟩
        have J2 := HJ.out.step HKG.out hb
        exact hK _ _ ⟨f0, f1, f2, f3, f4, true, f6, false, rfl, nofun, _, _, _, _, _, _, _, rfl, ⟨J2.bel, J2.siz, J2.v0, J2.v1, J2.v2, J2.v3, J2.v4, fun _ => HZ, J2.v6, J2.v7, J2.v8, J2.v9, J2.v10, J2.v11, fun e => (J2.a1 e).fresh⟩⟩
      · obtain rfl : f6 = false := hn
        obtain rfl : f7 = false := by cases f7 with | false => rfl | true => exact absurd (dq1 rfl).1 (by simp)
        clear J hd hi hiN dq1
        refine wpOp_step rfl (fun kq hK => ?_)
        go_simp
        exact hK _ _ ⟨f0, f1, f2, f3, f4, f5, true, false, rfl, nofun, _, _, _, _, _, _, _, rfl, HJ.out.alloc1 HKG.out _⟩
      · obtain rfl : f6 = true := hd 6 (by simp)
        obtain rfl : f5 = true := hd 5 (by simp)
        obtain ⟨p, v0, v1, rfl, hp, c0, c1, e0, e1, _⟩ := J.a1 rfl
        obtain ⟨sb, so, sm, sc, rfl, _⟩ := It.opened (J.v5 rfl)
        clear J hd hi hiN hn
        refine wpOp_step rfl (fun kq hK => ?_)
        go_simp
        exact hK _ _ ⟨f0, f1, f2, f3, f4, true, true, true, rfl, fun _ => ⟨rfl, rfl⟩, _, _, _, _, _, _, _, rfl, HJ.out.store1 HKG.out nofun nofun⟩
    rintro L act w' hs ⟨f0, f1, f2, f3, f4, f5, f6, f7, rfl, _, s13, s14, s15, s16, s17, s18, s6, rfl, J⟩ hr
    have hd := early_done (by kernel_rfl) hs hr 8
    obtain rfl : f0 = true := hd 0 (by omega) (by simp)
    obtain rfl : f1 = true := hd 1 (by omega) (by simp)
    obtain rfl : f2 = true := hd 2 (by omega) (by simp)
    obtain rfl : f3 = true := hd 3 (by omega) (by simp)
    obtain rfl : f4 = true := hd 4 (by omega) (by simp)
    obtain rfl : f5 = true := hd 5 (by omega) (by simp)
    obtain rfl : f6 = true := hd 6 (by omega) (by simp)
    obtain rfl : f7 = true := hd 7 (by omega) (by simp)
    obtain ⟨p1, u1a, u1b, rfl, hp1, c1a, c1b, g1a, g1b, _, _, hu1⟩ := J.a1 rfl
    have ev1 := hu1 rfl
    subst ev1
    have hg1 := J.v5 rfl
    have hbel := J.bel
    clear hd hr hs J
    go_wp2_with fail
    go_meet
    obtain ⟨gb, go', gm', gc', eg, hgg⟩ := It.opened hg1
    simp only [Value.agg.injEq, Array.mk.injEq, List.cons.injEq, and_true] at eg
    obtain ⟨rfl, rfl⟩ := eg
    exact ⟨hbel, p1, _, _, _, _, rfl, hp1, c1a, c1b, hg1⟩
  case rest =>
  obtain ⟨W2, rfl⟩ : ∃ W2, W2 = wc := ⟨_, rfl⟩
  obtain ⟨hp2, p6, b6, o6, m6, c6, rfl, x6p, x6a, x6b, x6h⟩ := hcut
  obtain ⟨k50, k51⟩ := HC5.out _ hp2
  have HI6 := hid x6h; have HI52 := hid (HI5.out.below hp2 (Nat.le_refl _))
  have hB2 := hid (bl_tr HL1.out hp2)
  clear hX1 hp2 x6p x6h
  go_wp2_with fail
  refine (divided_any _ _ (x * d2) (y * d1) (K + K) _ HI52.out HI6.out).mono ?_
  rintro e w5 ⟨_, rfl, ⟨_, _, rfl, hn5, hd5⟩, hb5⟩
  obtain ⟨o7, m7, c7, rfl, H7⟩ := Nt.opened hn5
  obtain ⟨o8, m8, c8, rfl, H8⟩ := Nt.opened hd5
  have hX5 : Below W0.heap.size W0 w5 := bl_tr hB2.out hb5
  obtain ⟨⟨hr0, hr1, hr2⟩, hf0, hf1, hf2⟩ := HT.out _ (hX5.mono (by have := Hz0.out; omega))
  go_wp2
  have hz0 := Hz0.out; have hs5 := hX5.size
  have hw5 : Below w.heap.size w w5 := bl_tr HB0.out hX5
  refine bodyPost_ret (v := .agg #[.bool (decide (sgn (decide (x * d2 < 0) != decide (y * d1 < 0)) ((x * d2).natAbs : Int) < 0)), .slice o7 m7 c7, .slice o8 m8 c8]) (by simp [results, Tryz.results98, go_sem, hr0, hr1, hr2]) rfl ⟨_, rfl, ?_, ((hw5.setCell (by simp <;> omega) _).setCell (by simp <;> omega) _).setCell (by simp <;> omega) _⟩
  refine ⟨_, _, rfl, ?_, ?_⟩
  · exact nt_keeps (((((Keeps.refl _ _).setCell (u := .bool false) hr0 (fun x h => (by cases h)) _).setCell (u := .slice none 0 0) (by simp [go_sem, hr1]) (fun x h => (by cases h)) _).setCell (u := .slice none 0 0) (by simp [go_sem, hr2]) (fun x h => (by cases h)) _)) (H7.out _ (Below.refl _ _))
  · exact nt_keeps (((((Keeps.refl _ _).setCell (u := .bool false) hr0 (fun x h => (by cases h)) _).setCell (u := .slice none 0 0) (by simp [go_sem, hr1]) (fun x h => (by cases h)) _).setCell (u := .slice none 0 0) (by simp [go_sem, hr2]) (fun x h => (by cases h)) _)) (H8.out _ (Below.refl _ _))

set_option maxRecDepth 100000 in
set_option maxHeartbeats 1000000 in
theorem Quotient_zero (u v : Value) (x1 y1 x2 y2 : Int) (K : Nat) (w : World) (hu : Ra w u x1 y1 K) (hv : Ra w v x2 y2 K) (hz2 : rn x2 y2 = 0) (hK : K ≤ 150) :
    Calls Tryz.prog 39 #[u, v] w fun e w' => e = .returned (.tuple #[.agg #[.bool false, .slice none 0 0, .bool false, .slice none 0 0], .int .i64 10]) ∧ Below w.heap.size w w' := by
  have hR1 := fun (w' : World) (hb : Below w.heap.size w w') => readRatio_any u x1 y1 K w' (hu.below hb (Nat.le_refl _)) (by omega)
  have hR2 := fun (w' : World) (hb : Below w.heap.size w w') => readRatio_any v x2 y2 K w' (hv.below hb (Nat.le_refl _)) (by omega)
  obtain ⟨ab, ao, am, ac, bb, bo, bm, bc, rfl, _, _⟩ := Ra.opened hu
  obtain ⟨cb, co, cm, cc, db, d_o, dm, dc, rfl, _, _⟩ := Ra.opened hv
  obtain ⟨W0, hW0⟩ : ∃ W0, W0 = (((w.alloc (.cells #[.bool ab, .slice ao am ac, .bool bb, .slice bo bm bc] 26)).alloc (.cells #[.bool cb, .slice co cm cc, .bool db, .slice d_o dm dc] 26)).alloc (.cells #[.bool false, .slice none 0 0, .bool false, .slice none 0 0] 26)) := ⟨_, rfl⟩
  have hB0 : Below w.heap.size w W0 := by rw [hW0]; exact (((Below.refl _ _).alloc (Nat.le_refl _) _).alloc (by simp) _).alloc (by simp <;> omega) _
  have hz0 : W0.heap.size = w.heap.size + 3 := by rw [hW0]; simp
  have HS : Hid (∀ w', Below (w.heap.size + 2) W0 w' → w'.cell? ⟨w.heap.size, 0, none⟩ = some (.bool ab) ∧ w'.cell? ⟨w.heap.size, 1, none⟩ = some (.slice ao am ac) ∧ w'.cell? ⟨w.heap.size, 2, none⟩ = some (.bool bb) ∧ w'.cell? ⟨w.heap.size, 3, none⟩ = some (.slice bo bm bc) ∧ w'.cell? ⟨w.heap.size + 1, 0, none⟩ = some (.bool cb) ∧ w'.cell? ⟨w.heap.size + 1, 1, none⟩ = some (.slice co cm cc) ∧ w'.cell? ⟨w.heap.size + 1, 2, none⟩ = some (.bool db) ∧ w'.cell? ⟨w.heap.size + 1, 3, none⟩ = some (.slice d_o dm dc)) := hid (fun w' hb => by
    refine ⟨?_, ?_, ?_, ?_, ?_, ?_, ?_, ?_⟩ <;> (rw [hb.cell (by simp <;> omega), hW0]; simp [go_sem]))
  have HT : Hid (∀ w', Below (w.heap.size + 3) W0 w' → (w'.cell? ⟨w.heap.size + 2, 0, none⟩ = some (.bool false) ∧ w'.cell? ⟨w.heap.size + 2, 1, none⟩ = some (.slice none 0 0) ∧ w'.cell? ⟨w.heap.size + 2, 2, none⟩ = some (.bool false) ∧ w'.cell? ⟨w.heap.size + 2, 3, none⟩ = some (.slice none 0 0)) ∧ (w'.frozen? ⟨w.heap.size + 2, 0, none⟩ = false ∧ w'.frozen? ⟨w.heap.size + 2, 1, none⟩ = false ∧ w'.frozen? ⟨w.heap.size + 2, 2, none⟩ = false ∧ w'.frozen? ⟨w.heap.size + 2, 3, none⟩ = false)) := hid (fun w' hb => by
    refine ⟨⟨?_, ?_, ?_, ?_⟩, ?_, ?_, ?_, ?_⟩ <;> (first | (rw [hb.cell (by simp <;> omega), hW0]; simp [go_sem]; done) | (rw [hb.frozen (by simp <;> omega), hW0]; simp [go_sem]; done)))
  have HB0 := hid hB0; have Hz0 := hid hz0; have HW := hid hW0; have Hz2 := hid hz2; have HR1 := hid hR1; have HR2 := hid hR2
  clear hW0 hB0 hz0 hz2 hR1 hR2 hu hv
  have hX0 := Below.refl W0.heap.size W0
  go_enter Tryz.func39, Tryz.ntmps39
  go_upto_region 1 with (fail)
  rw [← HW.out]
  obtain ⟨k0, k1, k2, k3, k4, k5, k6, k7⟩ := HS.out _ (Below.refl _ _)
  go_wp2_with fail
  refine (HR2.out _ HB0.out).mono ?_
  rintro e w1 ⟨_, rfl, hf1, hb1⟩
  obtain ⟨fb, fo, fm, fc, fo2, fm2, fc2, rfl, HFI, _, _⟩ := Ft.opened hf1
  clear k0 k1 k2 k3 k4 k5 k6 k7
  obtain ⟨W2, hW2⟩ : ∃ W2, W2 = w1.alloc (.cells #[.bool fb, .slice fo fm fc, .slice fo2 fm2 fc2] 86) := ⟨_, rfl⟩
  have hal : Below w1.heap.size w1 W2 := by rw [hW2]; exact (Below.refl _ _).alloc (Nat.le_refl _) _
  have hX2 : Below W0.heap.size W0 W2 := bl_tr hb1 hal
  have hz2' : W2.heap.size = w1.heap.size + 1 := by rw [hW2]; simp
  have HS2 : Hid (∀ w', Kp W2.heap.size (w.heap.size + 2) W2 w' → (w'.cell? ⟨w.heap.size, 0, none⟩ = some (.bool ab) ∧ w'.cell? ⟨w.heap.size, 1, none⟩ = some (.slice ao am ac) ∧ w'.cell? ⟨w.heap.size, 2, none⟩ = some (.bool bb) ∧ w'.cell? ⟨w.heap.size, 3, none⟩ = some (.slice bo bm bc) ∧ w'.cell? ⟨w.heap.size + 1, 0, none⟩ = some (.bool cb) ∧ w'.cell? ⟨w.heap.size + 1, 1, none⟩ = some (.slice co cm cc) ∧ w'.cell? ⟨w.heap.size + 1, 2, none⟩ = some (.bool db) ∧ w'.cell? ⟨w.heap.size + 1, 3, none⟩ = some (.slice d_o dm dc)) ∧ w'.cell? ⟨w1.heap.size, 0, none⟩ = some (.bool fb) ∧ w'.cell? ⟨w1.heap.size, 1, none⟩ = some (.slice fo fm fc) ∧ w'.cell? ⟨w1.heap.size, 2, none⟩ = some (.slice fo2 fm2 fc2)) := hid (fun w' h => by
    have hs := HS.out _ (hX2.mono (by have := Hz0.out; omega))
    have e1 := hb1.size
    have e2 := Hz0.out
    refine ⟨⟨?_, ?_, ?_, ?_, ?_, ?_, ?_, ?_⟩, ?_, ?_, ?_⟩
    · exact (h.cell _ (by simp; omega) (by simp)).trans hs.1
    · exact (h.cell _ (by simp; omega) (by simp)).trans hs.2.1
    · exact (h.cell _ (by simp; omega) (by simp)).trans hs.2.2.1
    · exact (h.cell _ (by simp; omega) (by simp)).trans hs.2.2.2.1
    · exact (h.cell _ (by simp; omega) (by simp)).trans hs.2.2.2.2.1
    · exact (h.cell _ (by simp; omega) (by simp)).trans hs.2.2.2.2.2.1
    · exact (h.cell _ (by simp; omega) (by simp)).trans hs.2.2.2.2.2.2.1
    · exact (h.cell _ (by simp; omega) (by simp)).trans hs.2.2.2.2.2.2.2
    all_goals (rw [h.cell _ (by simp; omega) (by simp; omega), hW2]; simp [go_sem]))
  have HX2 := hid hX2; have HF2 := hid (hf1.below hal (Nat.le_refl _)); have HW2 := hid hW2; have HI2 := hid (HFI.out _ hal); have H1s := hid hb1.size
  clear hf1 hb1 hal hX2 hW2 hz2'
  go_upto_region 2 with (fail)
  rw [← HW2.out]
  obtain ⟨⟨k0, k1, k2, k3, k4, k5, k6, k7⟩, k8, k9, k10⟩ := HS2.out _ (Kp.of_below (Below.refl _ _))
  go_wp2_with fail
  rw [Hz2.out] at HI2
  refine (sign_z0 _ _ _ HI2.out).mono ?_
  rintro e w3 ⟨rfl, hb3⟩
  have hX3 := bl_tr HX2.out hb3
  obtain ⟨⟨hr0, hr1, hr2, hr3⟩, hf0, hf1, hf2, hf3⟩ := HT.out _ (hX3.mono (by have := Hz0.out; omega))
  go_wp2
  have hw3 : Below w.heap.size w w3 := bl_tr HB0.out hX3
  exact bodyPost_ret (v := .tuple #[.agg #[.bool false, .slice none 0 0, .bool false, .slice none 0 0], .int .i64 10]) (by simp [results, Tryz.results39, go_sem, hr0, hr1, hr2, hr3]) rfl ⟨rfl, (((hw3.setCell (by simp <;> omega) _).setCell (by simp <;> omega) _).setCell (by simp <;> omega) _).setCell (by simp <;> omega) _⟩

set_option maxRecDepth 100000 in
set_option maxHeartbeats 1000000 in
theorem Quotient_ne (u v : Value) (x1 y1 x2 y2 : Int) (K : Nat) (w : World) (hu : Ra w u x1 y1 K) (hv : Ra w v x2 y2 K) (hz2 : rn x2 y2 ≠ 0) (hK : K ≤ 150) :
    Calls Tryz.prog 39 #[u, v] w fun e w' => ∃ f, e = .returned (.tuple #[f, .int .i64 0]) ∧ FrR w w' f (lowN (sgn (decide (rn x1 y1 * rd y2 < 0) != decide (rn x2 y2 * rd y1 < 0)) ((rn x1 y1 * rd y2).natAbs : Int)) ((rn x2 y2 * rd y1).natAbs : Int)) (lowD (sgn (decide (rn x1 y1 * rd y2 < 0) != decide (rn x2 y2 * rd y1 < 0)) ((rn x1 y1 * rd y2).natAbs : Int)) ((rn x2 y2 * rd y1).natAbs : Int)) (2 * ((K + 1) / 2 + 1 + ((K + 1) / 2 + 1))) ∧ Below w.heap.size w w' := by
  have hR1 := fun (w' : World) (hb : Below w.heap.size w w') => readRatio_any u x1 y1 K w' (hu.below hb (Nat.le_refl _)) (by omega)
  have hR2 := fun (w' : World) (hb : Below w.heap.size w w') => readRatio_any v x2 y2 K w' (hv.below hb (Nat.le_refl _)) (by omega)
  obtain ⟨ab, ao, am, ac, bb, bo, bm, bc, rfl, _, _⟩ := Ra.opened hu
  obtain ⟨cb, co, cm, cc, db, d_o, dm, dc, rfl, _, _⟩ := Ra.opened hv
  obtain ⟨W0, hW0⟩ : ∃ W0, W0 = (((w.alloc (.cells #[.bool ab, .slice ao am ac, .bool bb, .slice bo bm bc] 26)).alloc (.cells #[.bool cb, .slice co cm cc, .bool db, .slice d_o dm dc] 26)).alloc (.cells #[.bool false, .slice none 0 0, .bool false, .slice none 0 0] 26)) := ⟨_, rfl⟩
  have hB0 : Below w.heap.size w W0 := by rw [hW0]; exact (((Below.refl _ _).alloc (Nat.le_refl _) _).alloc (by simp) _).alloc (by simp <;> omega) _
  have hz0 : W0.heap.size = w.heap.size + 3 := by rw [hW0]; simp
  have HS : Hid (∀ w', Below (w.heap.size + 2) W0 w' → w'.cell? ⟨w.heap.size, 0, none⟩ = some (.bool ab) ∧ w'.cell? ⟨w.heap.size, 1, none⟩ = some (.slice ao am ac) ∧ w'.cell? ⟨w.heap.size, 2, none⟩ = some (.bool bb) ∧ w'.cell? ⟨w.heap.size, 3, none⟩ = some (.slice bo bm bc) ∧ w'.cell? ⟨w.heap.size + 1, 0, none⟩ = some (.bool cb) ∧ w'.cell? ⟨w.heap.size + 1, 1, none⟩ = some (.slice co cm cc) ∧ w'.cell? ⟨w.heap.size + 1, 2, none⟩ = some (.bool db) ∧ w'.cell? ⟨w.heap.size + 1, 3, none⟩ = some (.slice d_o dm dc)) := hid (fun w' hb => by
    refine ⟨?_, ?_, ?_, ?_, ?_, ?_, ?_, ?_⟩ <;> (rw [hb.cell (by simp <;> omega), hW0]; simp [go_sem]))
  have HT : Hid (∀ w', Below (w.heap.size + 3) W0 w' → (w'.cell? ⟨w.heap.size + 2, 0, none⟩ = some (.bool false) ∧ w'.cell? ⟨w.heap.size + 2, 1, none⟩ = some (.slice none 0 0) ∧ w'.cell? ⟨w.heap.size + 2, 2, none⟩ = some (.bool false) ∧ w'.cell? ⟨w.heap.size + 2, 3, none⟩ = some (.slice none 0 0)) ∧ (w'.frozen? ⟨w.heap.size + 2, 0, none⟩ = false ∧ w'.frozen? ⟨w.heap.size + 2, 1, none⟩ = false ∧ w'.frozen? ⟨w.heap.size + 2, 2, none⟩ = false ∧ w'.frozen? ⟨w.heap.size + 2, 3, none⟩ = false)) := hid (fun w' hb => by
    refine ⟨⟨?_, ?_, ?_, ?_⟩, ?_, ?_, ?_, ?_⟩ <;> (first | (rw [hb.cell (by simp <;> omega), hW0]; simp [go_sem]; done) | (rw [hb.frozen (by simp <;> omega), hW0]; simp [go_sem]; done)))
  have HB0 := hid hB0; have Hz0 := hid hz0; have HW := hid hW0; have Hz2 := hid hz2; have HR1 := hid hR1; have HR2 := hid hR2
  clear hW0 hB0 hz0 hz2 hR1 hR2 hu hv
  have HDp := hid (show (0 : Int) < ((rn x2 y2 * rd y1).natAbs : Int) by
    have h0 : rn x2 y2 * rd y1 ≠ 0 := Int.mul_ne_zero Hz2.out (by have := rd_pos y1; omega)
    omega)
  obtain ⟨z1, hz1⟩ : ∃ z1, z1 = rn x1 y1 := ⟨_, rfl⟩
  obtain ⟨z2, hz2⟩ : ∃ z2, z2 = rn x2 y2 := ⟨_, rfl⟩
  obtain ⟨e1', he1⟩ : ∃ d, d = rd y1 := ⟨_, rfl⟩
  obtain ⟨e2', he2⟩ : ∃ d, d = rd y2 := ⟨_, rfl⟩
  rw [← hz1, ← he1] at HR1
  rw [← hz2, ← he2] at HR2
  rw [← hz2] at Hz2
  rw [← hz2, ← he1] at HDp
  rw [← hz1, ← hz2, ← he1, ← he2]
  obtain ⟨t, ht⟩ : ∃ t, t = cmpI z2 0 := ⟨_, rfl⟩
  have hct : ¬ t = 0 := by rw [ht]; have := Hz2.out; unfold cmpI; (repeat' split) <;> omega
  have Ht := hid ht
  clear ht hz1 hz2 he1 he2
  have hX0 := Below.refl W0.heap.size W0
  go_enter Tryz.func39, Tryz.ntmps39
  go_upto_region 1 with (fail)
  rw [← HW.out]
  obtain ⟨k0, k1, k2, k3, k4, k5, k6, k7⟩ := HS.out _ (Below.refl _ _)
  go_wp2_with fail
  refine (HR2.out _ HB0.out).mono ?_
  rintro e w1 ⟨_, rfl, hf1, hb1⟩
  obtain ⟨fb, fo, fm, fc, fo2, fm2, fc2, rfl, HFI, _, _⟩ := Ft.opened hf1
  clear k0 k1 k2 k3 k4 k5 k6 k7
  obtain ⟨W2, hW2⟩ : ∃ W2, W2 = w1.alloc (.cells #[.bool fb, .slice fo fm fc, .slice fo2 fm2 fc2] 86) := ⟨_, rfl⟩
  have hal : Below w1.heap.size w1 W2 := by rw [hW2]; exact (Below.refl _ _).alloc (Nat.le_refl _) _
  have hX2 : Below W0.heap.size W0 W2 := bl_tr hb1 hal
  have hz2' : W2.heap.size = w1.heap.size + 1 := by rw [hW2]; simp
  have HS2 : Hid (∀ w', Kp W2.heap.size (w.heap.size + 2) W2 w' → (w'.cell? ⟨w.heap.size, 0, none⟩ = some (.bool ab) ∧ w'.cell? ⟨w.heap.size, 1, none⟩ = some (.slice ao am ac) ∧ w'.cell? ⟨w.heap.size, 2, none⟩ = some (.bool bb) ∧ w'.cell? ⟨w.heap.size, 3, none⟩ = some (.slice bo bm bc) ∧ w'.cell? ⟨w.heap.size + 1, 0, none⟩ = some (.bool cb) ∧ w'.cell? ⟨w.heap.size + 1, 1, none⟩ = some (.slice co cm cc) ∧ w'.cell? ⟨w.heap.size + 1, 2, none⟩ = some (.bool db) ∧ w'.cell? ⟨w.heap.size + 1, 3, none⟩ = some (.slice d_o dm dc)) ∧ w'.cell? ⟨w1.heap.size, 0, none⟩ = some (.bool fb) ∧ w'.cell? ⟨w1.heap.size, 1, none⟩ = some (.slice fo fm fc) ∧ w'.cell? ⟨w1.heap.size, 2, none⟩ = some (.slice fo2 fm2 fc2)) := hid (fun w' h => by
    have hs := HS.out _ (hX2.mono (by have := Hz0.out; omega))
    have e1 := hb1.size
    have e2 := Hz0.out
    refine ⟨⟨?_, ?_, ?_, ?_, ?_, ?_, ?_, ?_⟩, ?_, ?_, ?_⟩
    · exact (h.cell _ (by simp; omega) (by simp)).trans hs.1
    · exact (h.cell _ (by simp; omega) (by simp)).trans hs.2.1
    · exact (h.cell _ (by simp; omega) (by simp)).trans hs.2.2.1
    · exact (h.cell _ (by simp; omega) (by simp)).trans hs.2.2.2.1
    · exact (h.cell _ (by simp; omega) (by simp)).trans hs.2.2.2.2.1
    · exact (h.cell _ (by simp; omega) (by simp)).trans hs.2.2.2.2.2.1
    · exact (h.cell _ (by simp; omega) (by simp)).trans hs.2.2.2.2.2.2.1
    · exact (h.cell _ (by simp; omega) (by simp)).trans hs.2.2.2.2.2.2.2
    all_goals (rw [h.cell _ (by simp; omega) (by simp; omega), hW2]; simp [go_sem]))
  have HX2 := hid hX2; have HF2 := hid (hf1.below hal (Nat.le_refl _)); have HW2 := hid hW2; have HI2 := hid (HFI.out _ hal); have H1s := hid hb1.size
  clear hf1 hb1 hal hX2 hW2 hz2'
  go_upto_region 2 with (fail)
  rw [← HW2.out]
  obtain ⟨⟨k0, k1, k2, k3, k4, k5, k6, k7⟩, k8, k9, k10⟩ := HS2.out _ (Kp.of_below (Below.refl _ _))
  go_wp2_with fail
  refine (sign_any _ z2 _ _ HI2.out).mono ?_
  rintro e w3 ⟨rfl, hb3⟩
  rw [← Ht.out]
  clear k0 k1 k2 k3 k4 k5 k6 k7 k8 k9 k10
  have hX3 : Below W2.heap.size W2 w3 := hb3
  have HB2 := hid (bl_tr HB0.out HX2.out)
  clear hb3
  go_upto_region 4 with (fail)
  go_region_held3 (fun w' => (w'.cell? ⟨w.heap.size, 0, none⟩ = some (.bool ab) ∧ w'.cell? ⟨w.heap.size, 1, none⟩ = some (.slice ao am ac) ∧ w'.cell? ⟨w.heap.size, 2, none⟩ = some (.bool bb) ∧ w'.cell? ⟨w.heap.size, 3, none⟩ = some (.slice bo bm bc) ∧ w'.cell? ⟨w.heap.size + 1, 0, none⟩ = some (.bool cb) ∧ w'.cell? ⟨w.heap.size + 1, 1, none⟩ = some (.slice co cm cc) ∧ w'.cell? ⟨w.heap.size + 1, 2, none⟩ = some (.bool db) ∧ w'.cell? ⟨w.heap.size + 1, 3, none⟩ = some (.slice d_o dm dc)) ∧ w'.cell? ⟨w1.heap.size, 0, none⟩ = some (.bool fb) ∧ w'.cell? ⟨w1.heap.size, 1, none⟩ = some (.slice fo fm fc) ∧ w'.cell? ⟨w1.heap.size, 2, none⟩ = some (.slice fo2 fm2 fc2)) ((refine HS2.out _ ?_; repeat (first | assumption | exact Kp.of_below (by assumption) | exact Kp.of_below (Below.drew (by assumption)) | (refine Kp.set ?_ (by simp) _)))) (first
    | (go_at_call 53; refine (HR1.out _ (bl_tr HB2.out hX3.drew)).mono ?_; rintro e w4 ⟨_, rfl, hf4, hb4⟩; obtain ⟨e4, o4, m4, c4, o4', m4', c4', rfl, _, _, _⟩ := Ft.opened hf4; have hX4 : Below W2.heap.size W2 w4 := hX3.drew.trans (hb4.mono hX3.size))
    | (go_at_call 98; refine (fover_any _ _ _ _ _ _ _ _ hf4 (HF2.out.below hX4 (Nat.le_refl _)) (by omega)).mono ?_; rintro e w5 ⟨_, rfl, hf5, hb5⟩; obtain ⟨e5, o5, m5, c5, o5', m5', c5', rfl, _, _, _⟩ := Ft.opened hf5; have hX5 : Below W2.heap.size W2 w5 := hX4.trans (hb5.mono hX4.size))
    | (go_at_call 67; refine (fracValue_any _ _ _ _ _ hf5 HDp.out (by omega)).mono ?_; rintro e w6 ⟨_, rfl, hr6, hb6⟩; obtain ⟨e6, o6, m6, c6, e7, o7, m7, c7, rfl, H6, H7⟩ := FrR.opened hr6; have hX6 : Below W2.heap.size W2 w6 := hX5.trans (hb6.mono hX5.size); obtain ⟨⟨hr0, hr1, hr2, hr3⟩, hf0, hf1', hf2', hf3'⟩ := HT.out _ ((bl_tr HX2.out hX6).mono (by have := Hz0.out; omega))))
  go_wp2
  have hz0 := Hz0.out; have hs2 := HX2.out.size; have hs5 := hX5.size
  have hw6 : Below w.heap.size w w6 := bl_tr HB2.out hX6
  have hlt : w.heap.size + 2 < w5.heap.size := by omega
  refine bodyPost_ret (v := .tuple #[.agg #[.bool e6, .slice o6 m6 c6, .bool e7, .slice o7 m7 c7], .int .i64 0]) (by simp [results, Tryz.results39, go_sem, hr0, hr1, hr2, hr3]) rfl ⟨_, rfl, ?_, (((hw6.setCell (by simp <;> omega) _).setCell (by simp <;> omega) _).setCell (by simp <;> omega) _).setCell (by simp <;> omega) _⟩
  refine ⟨_, _, _, _, rfl, ?_, ?_⟩
  · exact ((((H6.out.set hlt _).set hlt _).set hlt _).set hlt _).base (by omega)
  · exact ((((H7.out.set hlt _).set hlt _).set hlt _).set hlt _).base (by omega)
end Go.Proofs.YtilpkocmdpofpaaGreatDoor
