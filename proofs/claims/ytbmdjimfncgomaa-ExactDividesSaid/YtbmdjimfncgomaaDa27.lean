/- The law ExactDivides, its walk. Written by gen_divides.py. The law ExactDivides at any two arguments: it returns true, and what was there before stays. Where an argument has more than 24 words it returns ahead of everything else. How the arguments of the laws are opened (an api.Int reads as its sign and its list of words), and the last step of a row whose law returns true and leaves all that was there before. -/
import Derived.Test.YtbmdjimfncgomaaDa26
import Derived.Test.YtbmdjimfncgomaaDa25
import Derived.Test.YtbmdjimfncgomaaDa23
import Derived.ProofKit
import Derived.Below
import Derived.Lib.SmallJoins
import Derived.Deep.Slices
/- The law ExactDivides, its walk. Written by gen_divides.py. -/
namespace Go.Proofs.Ytbmdjimfncgomaa
open Go.RowKit

set_option maxRecDepth 100000 in
set_option maxHeartbeats 16000000 in
theorem exactDivides_walk (en : Int) (u v : Value) (na nb : Bool) (WA WB : List Int) (w : World) (hu : Lk w u na WA) (hv : Lk w v nb WB) (dA : Dig B32 WA) (dB : Dig B32 WB) (hA : WA.length ≤ 24) (hB : WB.length ≤ 24) (n0 : -9223372036854775808 ≤ en) (n1 : en < 9223372036854775808) :
    Calls Try.prog 4 #[u, v, .int .i64 en] w fun e w' => e = .returned (.bool true) ∧ Below w.heap.size w w' := by
  obtain ⟨_, ao, n, ac, rfl, Hu, Ena, En⟩ := Lk.opened hu
  obtain ⟨_, bo, m, bc, rfl, Hv, Enb, Em⟩ := Lk.opened hv
  have ena := Ena.out; have enb := Enb.out
  subst ena; subst enb
  rename_i na nb
  have hn : n ≤ 24 := by have := En.out; omega
  have hm : m ≤ 24 := by have := Em.out; omega
  have hWA : WA.length ≤ 1073741824 := by omega
  have hWB : WB.length ≤ 1073741824 := by omega
  have DA := hid dA; have DB := hid dB
  clear hu hv Ena Enb dA dB
  go_enter Try.func4, Try.ntmps4
  go_upto_region 3 with (fail)
  obtain ⟨W0, hW0⟩ : ∃ W0, W0 = ((w.alloc (.cells #[.bool na, .slice ao n ac] 24)).alloc (.cells #[.bool nb, .slice bo m bc] 24)) := ⟨_, rfl⟩
  have hB0 : Below w.heap.size w W0 := by rw [hW0]; exact ((Below.refl _ _).alloc (Nat.le_refl _) _).alloc (by simp) _
  have hz0 : W0.heap.size = w.heap.size + 2 := by rw [hW0]; simp
  have HS : Hid (∀ w', Below W0.heap.size W0 w' → w'.cell? ⟨w.heap.size, 0, none⟩ = some (.bool na) ∧ w'.cell? ⟨w.heap.size, 1, none⟩ = some (.slice ao n ac) ∧ w'.cell? ⟨w.heap.size + 1, 0, none⟩ = some (.bool nb) ∧ w'.cell? ⟨w.heap.size + 1, 1, none⟩ = some (.slice bo m bc)) := hid (fun w' hb => by
    refine ⟨?_, ?_, ?_, ?_⟩ <;> (rw [hb.cell (by rw [hz0]; simp), hW0]; simp [go_sem]))
  rw [← hW0]
  clear hW0
  have HB0 := hid hB0; have Hz0 := hid hz0
  clear hB0 hz0
  go_cut [7, 8] from 28 (fun s5 s6 wx => ∃ p q vx vy, s5 = .pointer (some ⟨p, 0, none⟩) ∧ s6 = .pointer (some ⟨q, 0, none⟩) ∧ Ei1 W0 wx p q vx vy na nb WA WB)
  case first =>
    refine region_inv (by kernel_rfl) (fun L a w' => ∃ b0 b1 b2 b3 b4 b5 b6 b7, L = #[b0, b1, b2, b3, b4, b5, b6, b7] ∧ (b6 = true → b1 = true ∧ b4 = true) ∧ (b7 = true → b3 = true ∧ b5 = true) ∧ ∃ s5 s6 s7 s8 s9 s10, a = { tmps := #[.agg #[.bool na, .slice ao n ac], .agg #[.bool nb, .slice bo m bc], .int .i64 en, .pointer (some ⟨w.heap.size, 0, none⟩), .pointer (some ⟨w.heap.size + 1, 0, none⟩), undef, .bool false, s5, s6, undef, undef, undef, undef, undef, undef, undef, undef, undef, undef, undef, undef, undef, undef, undef, undef, undef, undef, undef, .pointer (some ⟨w.heap.size, 1, none⟩), .slice ao n ac, .int .i64 (n : Int), .bool (decide (24 < (n : Int))), .bool (decide (24 < (n : Int))), .pointer (some ⟨w.heap.size + 1, 1, none⟩), .slice bo m bc, .int .i64 (m : Int), .bool (decide (24 < (m : Int))), .bool (decide (24 < (n : Int)) || decide (24 < (m : Int))), s7, s8, s9, s10, undef, undef, undef, undef, undef, undef, undef, undef, undef, undef, undef, undef, undef, undef, undef, undef, undef, undef, undef, undef, undef, undef, undef, undef, undef, undef, undef, undef, undef, undef, undef, undef, undef, undef, undef, undef, undef, undef, undef, undef, undef, undef, undef, undef, undef, undef, undef, undef, undef, undef, undef, undef, undef, undef, undef, undef, undef, undef, undef, undef, undef, undef, undef, undef, undef, undef, undef, undef, undef, undef, undef, undef, undef, undef, undef, undef, undef, undef, undef, undef, undef, undef, undef, undef, undef, undef, undef, undef, undef, undef, undef, undef, undef], defers := [] } ∧ PairJ .u32 (W0.heap.size) W0 (.agg #[.bool na, .slice ao n ac]) (.agg #[.bool nb, .slice bo m bc]) (fun w v => Lk w v na WA) (fun w v => Lk w v nb WB) b0 b1 b2 b3 b4 b5 b6 b7 s5 s6 s7 s8 s9 s10 w') ?_ ?_ ?_
    · exact ⟨_, _, _, _, _, _, _, _, rfl, nofun, nofun, _, _, _, _, _, _, rfl, PairJ.start (Below.refl _ _).drew (by simp)⟩
    · rintro L a w' i hs ⟨b0, b1, b2, b3, b4, b5, b6, b7, rfl, h61, h73, s5, s6, s7, s8, s9, s10, rfl, J⟩ hi
      obtain ⟨hi, hn, hd⟩ := waits_spec (dep := [[], [0], [], [2], [], [], [4, 1], [5, 3]]) (by kernel_rfl) hi
      have hi8 : i < 8 := hi
      obtain ⟨k0, k1, k2, k3⟩ := HS.out w' J.bel
      have HJ := hid J
      rcases (show i = 0 ∨ i = 1 ∨ i = 2 ∨ i = 3 ∨ i = 4 ∨ i = 5 ∨ i = 6 ∨ i = 7 by omega) with rfl | rfl | rfl | rfl | rfl | rfl | rfl | rfl
      · clear J hd hi hi8 hn
        refine wpOp_step rfl (fun K hK => ?_)
        go_simp
        exact hK _ _ ⟨true, b1, b2, b3, b4, b5, b6, b7, rfl, h61, h73, _, _, _, _, _, _, rfl, HJ.out.load0⟩
      · obtain rfl : b1 = false := hn
        obtain rfl : b6 = false := by cases b6 with | false => rfl | true => exact absurd (h61 rfl).1 (by simp)
        obtain rfl := J.l0 (hd 0 (by simp))
        have hw := HB0.out.trans (J.bel.mono (by have := HB0.out.size; omega))
        clear J hd hi hi8 h61
        refine wpOp_step rfl (fun K hK => ?_)
        go_simp
        refine (own_any _ na WA _ (Hu.out _ hw) hWA).mono ?_
        rintro e w1 ⟨v, rfl, hv, hb⟩
        exact hK _ _ ⟨b0, true, b2, b3, b4, b5, false, b7, rfl, nofun, h73, _, _, _, _, _, _, rfl, HJ.out.call1 Lk.keeps hb hv⟩
      · clear J hd hi hi8 hn
        refine wpOp_step rfl (fun K hK => ?_)
        go_simp
        exact hK _ _ ⟨b0, b1, true, b3, b4, b5, b6, b7, rfl, h61, h73, _, _, _, _, _, _, rfl, HJ.out.load2⟩
      · obtain rfl : b3 = false := hn
        obtain rfl : b7 = false := by cases b7 with | false => rfl | true => exact absurd (h73 rfl).1 (by simp)
        obtain rfl := J.l2 (hd 2 (by simp))
        have hw := HB0.out.trans (J.bel.mono (by have := HB0.out.size; omega))
        clear J hd hi hi8 h73
        refine wpOp_step rfl (fun K hK => ?_)
        go_simp
        refine (own_any _ nb WB _ (Hv.out _ hw) hWB).mono ?_
        rintro e w1 ⟨v, rfl, hv, hb⟩
        exact hK _ _ ⟨b0, b1, b2, true, b4, b5, b6, false, rfl, h61, nofun, _, _, _, _, _, _, rfl, HJ.out.call3 Lk.keeps hb hv⟩
      · obtain rfl : b4 = false := hn
        obtain rfl : b6 = false := by cases b6 with | false => rfl | true => exact absurd (h61 rfl).2 (by simp)
        clear J hd hi hi8 h61
        refine wpOp_step rfl (fun K hK => ?_)
        go_simp
        exact hK _ _ ⟨b0, b1, b2, b3, true, b5, false, b7, rfl, nofun, h73, _, _, _, _, _, _, rfl, HJ.out.alloc4 Lk.keeps Lk.keeps _⟩
      · obtain rfl : b5 = false := hn
        obtain rfl : b7 = false := by cases b7 with | false => rfl | true => exact absurd (h73 rfl).2 (by simp)
        clear J hd hi hi8 h73
        refine wpOp_step rfl (fun K hK => ?_)
        go_simp
        exact hK _ _ ⟨b0, b1, b2, b3, b4, true, b6, false, rfl, h61, nofun, _, _, _, _, _, _, rfl, HJ.out.alloc5 Lk.keeps Lk.keeps _⟩
      · obtain rfl : b4 = true := hd 4 (by simp)
        obtain rfl : b1 = true := hd 1 (by simp)
        obtain ⟨p, v0, v1, rfl, hp, c0, c1, f0, f1, _⟩ := J.p4 rfl
        obtain ⟨sb, so, sm, sc, rfl, _⟩ := Lk.opened (J.c1 rfl)
        clear J hd hi hi8 hn
        refine wpOp_step rfl (fun K hK => ?_)
        go_simp
        exact hK _ _ ⟨b0, true, b2, b3, true, b5, true, b7, rfl, fun _ => ⟨rfl, rfl⟩, h73, _, _, _, _, _, _, rfl, HJ.out.store6 Lk.keeps Lk.keeps nofun nofun⟩
      · obtain rfl : b5 = true := hd 5 (by simp)
        obtain rfl : b3 = true := hd 3 (by simp)
        obtain ⟨p, v0, v1, rfl, hp, c0, c1, f0, f1, _⟩ := J.p5 rfl
        obtain ⟨sb, so, sm, sc, rfl, _⟩ := Lk.opened (J.c3 rfl)
        clear J hd hi hi8 hn
        refine wpOp_step rfl (fun K hK => ?_)
        go_simp
        exact hK _ _ ⟨b0, b1, b2, true, b4, true, b6, true, rfl, h61, fun _ => ⟨rfl, rfl⟩, _, _, _, _, _, _, rfl, HJ.out.store7 Lk.keeps Lk.keeps nofun nofun⟩
    rintro L a w' hs ⟨b0, b1, b2, b3, b4, b5, b6, b7, rfl, _, _, s5, s6, s7, s8, s9, s10, rfl, J⟩ hr
    have hd := early_done (by kernel_rfl) hs hr 8
    obtain rfl : b1 = true := hd 1 (by omega) (by simp)
    obtain rfl : b3 = true := hd 3 (by omega) (by simp)
    obtain rfl : b4 = true := hd 4 (by omega) (by simp)
    obtain rfl : b5 = true := hd 5 (by omega) (by simp)
    obtain rfl : b6 = true := hd 6 (by omega) (by simp)
    obtain rfl : b7 = true := hd 7 (by omega) (by simp)
    obtain ⟨p, u0, u1, rfl, hp, c0, c1, f0, f1, _, _, hu⟩ := J.p4 rfl
    obtain ⟨q, t0, t1, rfl, hq, d0, d1, g0, g1, _, _, ht⟩ := J.p5 rfl
    have hpq := J.ne rfl rfl
    obtain rfl := hu rfl
    obtain rfl := ht rfl
    have hw := HB0.out.trans (J.bel.mono (by have := HB0.out.size; omega))
    have hbel := J.bel
    have H1 := J.c1 rfl
    have H2 := J.c3 rfl
    clear hd hr hs J
    go_wp2_with fail
    go_meet
    exact ⟨p, q, _, _, rfl, rfl, ⟨_, _, rfl, c0, c1⟩, ⟨_, _, rfl, d0, d1⟩, H1, H2, hbel⟩
  case rest =>
    obtain ⟨W1, rfl⟩ : ∃ W1, W1 = wc := ⟨_, rfl⟩
    obtain ⟨px, qx, _, _, rfl, rfl, ⟨_, _, rfl, px0, px1⟩, ⟨_, _, rfl, qx0, qx1⟩, hlx, hly, hlow⟩ := hcut
    obtain ⟨_, xo, xm, xc, exv, Hlx, Exb, Exm⟩ := Lk.opened hlx
    obtain ⟨_, yo, ym, yc, eyv, Hly, Eyb, Eym⟩ := Lk.opened hly
    cases exv
    cases eyv
    have exb := Exb.out; have eyb := Eyb.out
    subst exb; subst eyb
    rename_i na nb
    have hb1 : Below w.heap.size w W1 := HB0.out.trans (hlow.mono (by have := HB0.out.size; omega))
    have hpl := World.block_lt_of_cell? _ _ px0
    have hql := World.block_lt_of_cell? _ _ qx0
    have HX1 : Hid (∀ w', Below W1.heap.size W1 w' → (w'.cell? ⟨px, 0, none⟩ = some (.bool na) ∧ w'.cell? ⟨px, 1, none⟩ = some (.slice xo xm xc)) ∧ (w'.cell? ⟨qx, 0, none⟩ = some (.bool nb) ∧ w'.cell? ⟨qx, 1, none⟩ = some (.slice yo ym yc))) := hid (fun w' hb =>
      ⟨⟨(hb.cell hpl).trans px0, (hb.cell (p := ⟨px, 1, none⟩) hpl).trans px1⟩, (hb.cell hql).trans qx0, (hb.cell (p := ⟨qx, 1, none⟩) hql).trans qx1⟩)
    have HS1 : Hid (∀ w', Below W1.heap.size W1 w' → w'.cell? ⟨w.heap.size, 0, none⟩ = some (.bool na) ∧ w'.cell? ⟨w.heap.size, 1, none⟩ = some (.slice ao n ac) ∧ w'.cell? ⟨w.heap.size + 1, 0, none⟩ = some (.bool nb) ∧ w'.cell? ⟨w.heap.size + 1, 1, none⟩ = some (.slice bo m bc)) := hid (fun w' hb => HS.out _ (hlow.trans (hb.mono hlow.size)))
    have HB1 := hid hb1
    obtain ⟨x, hx⟩ : ∃ x, x = sgn na (val B32 WA) := ⟨_, rfl⟩
    obtain ⟨y, hy⟩ : ∃ y, y = sgn nb (val B32 WB) := ⟨_, rfl⟩
    have HAu : Hid (∀ w', Below w.heap.size w w' → Ai w' (.agg #[.bool na, .slice ao n ac]) x 24) := hid (fun w' hb => by rw [hx]; exact (Hu.out _ hb).ai DA.out hA)
    have HAv : Hid (∀ w', Below w.heap.size w w' → Ai w' (.agg #[.bool nb, .slice bo m bc]) y 24) := hid (fun w' hb => by rw [hy]; exact (Hv.out _ hb).ai DB.out hB)
    have Hx := hid hx; have Hy := hid hy
    clear hx hy hlx hly hlow hb1 hpl hql px0 px1 qx0 qx1 Exb Eyb HS HB0 Hz0
    go_upto_region 4 with (fail)
    go_cut [9, 10] from 28 (fun s5 s6 wx => ∃ p q vx vy, s5 = .pointer (some ⟨p, 0, none⟩) ∧ s6 = .pointer (some ⟨q, 0, none⟩) ∧ Ei2 W1 wx p q vx vy x y 48)
    case first =>
      refine region_inv (by kernel_rfl) (fun L a w' => ∃ b0 b1 b2 b3 b4 b5 b6 b7, L = #[b0, b1, b2, b3, b4, b5, b6, b7] ∧ (b6 = true → b1 = true ∧ b4 = true) ∧ (b7 = true → b3 = true ∧ b5 = true) ∧ ∃ s5 s6 s7 s8 s9 s10, a = { tmps := #[.agg #[.bool na, .slice ao n ac], .agg #[.bool nb, .slice bo m bc], .int .i64 en, .pointer (some ⟨w.heap.size, 0, none⟩), .pointer (some ⟨w.heap.size + 1, 0, none⟩), undef, .bool false, .pointer (some ⟨px, 0, none⟩), .pointer (some ⟨qx, 0, none⟩), s5, s6, undef, undef, undef, undef, undef, undef, undef, undef, undef, undef, undef, undef, undef, undef, undef, undef, undef, u28, u29, u30, u31, u32, u33, u34, u35, u36, u37, u38, u39, u40, u41, s7, s8, s9, s10, u46, u47, u48, u49, u50, u51, u52, u53, u54, u55, u56, u57, u58, u59, u60, u61, u62, u63, u64, u65, u66, u67, u68, u69, u70, u71, u72, u73, u74, u75, u76, u77, u78, u79, u80, u81, u82, u83, u84, u85, u86, u87, u88, u89, u90, u91, u92, u93, u94, u95, u96, u97, u98, u99, u100, u101, u102, u103, u104, u105, u106, u107, u108, u109, u110, u111, u112, u113, u114, u115, u116, u117, u118, u119, u120, u121, u122, u123, u124, u125, u126, u127, u128, u129, u130, u131, u132, u133, u134], defers := [] } ∧ PairJ .i64 (W1.heap.size) W1 (.agg #[.bool na, .slice ao n ac]) (.agg #[.bool nb, .slice bo m bc]) (fun w v => Zt w v x 48) (fun w v => Zt w v y 48) b0 b1 b2 b3 b4 b5 b6 b7 s5 s6 s7 s8 s9 s10 w') ?_ ?_ ?_
      · exact ⟨_, _, _, _, _, _, _, _, rfl, nofun, nofun, _, _, _, _, _, _, rfl, PairJ.start (Below.refl _ _).drew (by simp)⟩
      · rintro L a w' i hs ⟨b0, b1, b2, b3, b4, b5, b6, b7, rfl, h61, h73, s5, s6, s7, s8, s9, s10, rfl, J⟩ hi
        obtain ⟨hi, hn, hd⟩ := waits_spec (dep := [[], [0], [], [2], [], [], [4, 1], [5, 3]]) (by kernel_rfl) hi
        have hi8 : i < 8 := hi
        obtain ⟨k0, k1, k2, k3⟩ := HS1.out w' J.bel
        have HJ := hid J
        rcases (show i = 0 ∨ i = 1 ∨ i = 2 ∨ i = 3 ∨ i = 4 ∨ i = 5 ∨ i = 6 ∨ i = 7 by omega) with rfl | rfl | rfl | rfl | rfl | rfl | rfl | rfl
        · clear J hd hi hi8 hn
          refine wpOp_step rfl (fun K hK => ?_)
          go_simp
          exact hK _ _ ⟨true, b1, b2, b3, b4, b5, b6, b7, rfl, h61, h73, _, _, _, _, _, _, rfl, HJ.out.load0⟩
        · obtain rfl : b1 = false := hn
          obtain rfl : b6 = false := by cases b6 with | false => rfl | true => exact absurd (h61 rfl).1 (by simp)
          obtain rfl := J.l0 (hd 0 (by simp))
          have hw := HB1.out.trans (J.bel.mono (by have := HB1.out.size; omega))
          clear J hd hi hi8 h61
          refine wpOp_step rfl (fun K hK => ?_)
          go_simp
          refine (rfrom_any _ x 24 _ (HAu.out _ hw) (by decide)).mono ?_
          rintro e w1 ⟨v, rfl, hv, hb⟩
          exact hK _ _ ⟨b0, true, b2, b3, b4, b5, false, b7, rfl, nofun, h73, _, _, _, _, _, _, rfl, HJ.out.call1 Zt.keeps hb hv⟩
        · clear J hd hi hi8 hn
          refine wpOp_step rfl (fun K hK => ?_)
          go_simp
          exact hK _ _ ⟨b0, b1, true, b3, b4, b5, b6, b7, rfl, h61, h73, _, _, _, _, _, _, rfl, HJ.out.load2⟩
        · obtain rfl : b3 = false := hn
          obtain rfl : b7 = false := by cases b7 with | false => rfl | true => exact absurd (h73 rfl).1 (by simp)
          obtain rfl := J.l2 (hd 2 (by simp))
          have hw := HB1.out.trans (J.bel.mono (by have := HB1.out.size; omega))
          clear J hd hi hi8 h73
          refine wpOp_step rfl (fun K hK => ?_)
          go_simp
          refine (rfrom_any _ y 24 _ (HAv.out _ hw) (by decide)).mono ?_
          rintro e w1 ⟨v, rfl, hv, hb⟩
          exact hK _ _ ⟨b0, b1, b2, true, b4, b5, b6, false, rfl, h61, nofun, _, _, _, _, _, _, rfl, HJ.out.call3 Zt.keeps hb hv⟩
        · obtain rfl : b4 = false := hn
          obtain rfl : b6 = false := by cases b6 with | false => rfl | true => exact absurd (h61 rfl).2 (by simp)
          clear J hd hi hi8 h61
          refine wpOp_step rfl (fun K hK => ?_)
          go_simp
          exact hK _ _ ⟨b0, b1, b2, b3, true, b5, false, b7, rfl, nofun, h73, _, _, _, _, _, _, rfl, HJ.out.alloc4 Zt.keeps Zt.keeps _⟩
        · obtain rfl : b5 = false := hn
          obtain rfl : b7 = false := by cases b7 with | false => rfl | true => exact absurd (h73 rfl).2 (by simp)
          clear J hd hi hi8 h73
          refine wpOp_step rfl (fun K hK => ?_)
          go_simp
          exact hK _ _ ⟨b0, b1, b2, b3, b4, true, b6, false, rfl, h61, nofun, _, _, _, _, _, _, rfl, HJ.out.alloc5 Zt.keeps Zt.keeps _⟩
        · obtain rfl : b4 = true := hd 4 (by simp)
          obtain rfl : b1 = true := hd 1 (by simp)
          obtain ⟨p, v0, v1, rfl, hp, c0, c1, f0, f1, _⟩ := J.p4 rfl
          obtain ⟨sb, so, sm, sc, rfl, _⟩ := Zt.opened (J.c1 rfl)
          clear J hd hi hi8 hn
          refine wpOp_step rfl (fun K hK => ?_)
          go_simp
          exact hK _ _ ⟨b0, true, b2, b3, true, b5, true, b7, rfl, fun _ => ⟨rfl, rfl⟩, h73, _, _, _, _, _, _, rfl, HJ.out.store6 Zt.keeps Zt.keeps nofun nofun⟩
        · obtain rfl : b5 = true := hd 5 (by simp)
          obtain rfl : b3 = true := hd 3 (by simp)
          obtain ⟨p, v0, v1, rfl, hp, c0, c1, f0, f1, _⟩ := J.p5 rfl
          obtain ⟨sb, so, sm, sc, rfl, _⟩ := Zt.opened (J.c3 rfl)
          clear J hd hi hi8 hn
          refine wpOp_step rfl (fun K hK => ?_)
          go_simp
          exact hK _ _ ⟨b0, b1, b2, true, b4, true, b6, true, rfl, h61, fun _ => ⟨rfl, rfl⟩, _, _, _, _, _, _, rfl, HJ.out.store7 Zt.keeps Zt.keeps nofun nofun⟩
      rintro L a w' hs ⟨b0, b1, b2, b3, b4, b5, b6, b7, rfl, _, _, s5, s6, s7, s8, s9, s10, rfl, J⟩ hr
      have hd := early_done (by kernel_rfl) hs hr 8
      obtain rfl : b1 = true := hd 1 (by omega) (by simp)
      obtain rfl : b3 = true := hd 3 (by omega) (by simp)
      obtain rfl : b4 = true := hd 4 (by omega) (by simp)
      obtain rfl : b5 = true := hd 5 (by omega) (by simp)
      obtain rfl : b6 = true := hd 6 (by omega) (by simp)
      obtain rfl : b7 = true := hd 7 (by omega) (by simp)
      obtain ⟨p, u0, u1, rfl, hp, c0, c1, f0, f1, _, _, hu⟩ := J.p4 rfl
      obtain ⟨q, t0, t1, rfl, hq, d0, d1, g0, g1, _, _, ht⟩ := J.p5 rfl
      have hpq := J.ne rfl rfl
      obtain rfl := hu rfl
      obtain rfl := ht rfl
      have hw := HB1.out.trans (J.bel.mono (by have := HB1.out.size; omega))
      have hbel := J.bel
      have H1 := J.c1 rfl
      have H2 := J.c3 rfl
      clear hd hr hs J
      go_wp2_with fail
      go_meet
      exact ⟨p, q, _, _, rfl, rfl, ⟨_, _, rfl, c0, c1⟩, ⟨_, _, rfl, d0, d1⟩, H1, H2, hbel⟩
    case rest =>
      obtain ⟨W2, rfl⟩ : ∃ W2, W2 = wc := ⟨_, rfl⟩
      obtain ⟨pp, qq, _, _, rfl, rfl, ⟨_, _, rfl, pp0, pp1⟩, ⟨_, _, rfl, qq0, qq1⟩, hzx, hzy, hlow⟩ := hcut
      obtain ⟨pb, po, pm, pc, ezv, Hzx, Hzxs, Ezx⟩ := Zt.opened hzx
      obtain ⟨qb, qo, qm, qc, ewv, Hzy, Hzys, Ezy⟩ := Zt.opened hzy
      cases ezv
      cases ewv
      have hb2 : Below w.heap.size w W2 := HB1.out.trans (hlow.mono (by have := HB1.out.size; omega))
      have hpl := World.block_lt_of_cell? _ _ pp0
      have hql := World.block_lt_of_cell? _ _ qq0
      have HF : Hid (∀ w', Below W2.heap.size W2 w' → (w'.cell? ⟨pp, 0, none⟩ = some (.bool pb) ∧ w'.cell? ⟨pp, 1, none⟩ = some (.slice po pm pc)) ∧ (w'.cell? ⟨qq, 0, none⟩ = some (.bool qb) ∧ w'.cell? ⟨qq, 1, none⟩ = some (.slice qo qm qc)) ∧ (w'.cell? ⟨px, 0, none⟩ = some (.bool na) ∧ w'.cell? ⟨px, 1, none⟩ = some (.slice xo xm xc)) ∧ (w'.cell? ⟨qx, 0, none⟩ = some (.bool nb) ∧ w'.cell? ⟨qx, 1, none⟩ = some (.slice yo ym yc))) := hid (fun w' hb =>
        ⟨⟨(hb.cell hpl).trans pp0, (hb.cell (p := ⟨pp, 1, none⟩) hpl).trans pp1⟩, ⟨(hb.cell hql).trans qq0, (hb.cell (p := ⟨qq, 1, none⟩) hql).trans qq1⟩, HX1.out _ (hlow.trans (hb.mono hlow.size))⟩)
      have HS2 : Hid (∀ w', Below W2.heap.size W2 w' → w'.cell? ⟨w.heap.size, 0, none⟩ = some (.bool na) ∧ w'.cell? ⟨w.heap.size, 1, none⟩ = some (.slice ao n ac) ∧ w'.cell? ⟨w.heap.size + 1, 0, none⟩ = some (.bool nb) ∧ w'.cell? ⟨w.heap.size + 1, 1, none⟩ = some (.slice bo m bc)) := hid (fun w' hb => HS1.out _ (hlow.trans (hb.mono hlow.size)))
      have HKx : Hid (∀ w', Below W2.heap.size W2 w' → Lk w' (.agg #[.bool na, .slice xo xm xc]) na WA) := hid (fun w' hb => Hlx.out _ (hlow.trans (hb.mono hlow.size)))
      have HKy : Hid (∀ w', Below W2.heap.size W2 w' → Lk w' (.agg #[.bool nb, .slice yo ym yc]) nb WB) := hid (fun w' hb => Hly.out _ (hlow.trans (hb.mono hlow.size)))
      have HAx : Hid (∀ w', Below W2.heap.size W2 w' → Ai w' (.agg #[.bool na, .slice xo xm xc]) x 24) := hid (fun w' hb => by rw [Hx.out]; exact (HKx.out _ hb).ai DA.out hA)
      have HAy : Hid (∀ w', Below W2.heap.size W2 w' → Ai w' (.agg #[.bool nb, .slice yo ym yc]) y 24) := hid (fun w' hb => by rw [Hy.out]; exact (HKy.out _ hb).ai DB.out hB)
      have HAn : Hid (∀ w', Below W2.heap.size W2 w' → Ai w' (.agg #[.bool na, .slice xo xm xc]) x n) := hid (fun w' hb => by rw [Hx.out]; exact (HKx.out _ hb).ai DA.out (by have := En.out; omega))
      have HB2 := hid hb2
      clear hzx hzy hlow hb2 hpl hql pp0 pp1 qq0 qq1 HS1 HB1 HX1 Hlx Hly
      go_upto_region 5 with (fail)
      have HXY : Hid (∀ w', Below W2.heap.size W2 w' → w'.cell? ⟨px, 0, none⟩ = some (.bool na) ∧ w'.cell? ⟨px, 1, none⟩ = some (.slice xo xm xc) ∧ w'.cell? ⟨qx, 0, none⟩ = some (.bool nb) ∧ w'.cell? ⟨qx, 1, none⟩ = some (.slice yo ym yc)) := hid (fun w' hb => ⟨(HF.out _ hb).2.2.1.1, (HF.out _ hb).2.2.1.2, (HF.out _ hb).2.2.2.1, (HF.out _ hb).2.2.2.2⟩)
      have HPQ : Hid (∀ w', Below W2.heap.size W2 w' → w'.cell? ⟨pp, 0, none⟩ = some (.bool pb) ∧ w'.cell? ⟨pp, 1, none⟩ = some (.slice po pm pc) ∧ w'.cell? ⟨qq, 0, none⟩ = some (.bool qb) ∧ w'.cell? ⟨qq, 1, none⟩ = some (.slice qo qm qc)) := hid (fun w' hb => ⟨(HF.out _ hb).1.1, (HF.out _ hb).1.2, (HF.out _ hb).2.1.1, (HF.out _ hb).2.1.2⟩)
      obtain ⟨de, hde⟩ : ∃ de, de = divErr y := ⟨_, rfl⟩
      obtain ⟨re, hre⟩ : ∃ re, re = rootErr x := ⟨_, rfl⟩
      obtain ⟨pe, hpe⟩ : ∃ pe, pe = powErr en := ⟨_, rfl⟩
      have h1 := fun w' hb => ediv_res _ _ x y 24 w' (HAx.out w' hb) (HAy.out w' hb) (by decide)
      have h2 := fun w' hb => rdiv_res _ _ x y 48 w' (Hzx.out w' hb) (Hzy.out w' hb) (by decide)
      have h3 := fun w' hb => eroot_res _ x 24 w' (HAx.out w' hb) (by decide)
      have h4 := fun w' hb => rroot_res _ x 48 w' (Hzx.out w' hb) (by decide)
      have h5 := fun w' hb hc => epow_res _ x en n w' hc (HAn.out w' hb) (by omega)
      have h6 := fun w' hb => rpow_res _ x en 48 w' (Hzx.out w' hb) (by decide)
      rw [← hde] at h1 h2
      rw [← hre] at h3 h4
      rw [← hpe] at h5 h6
      have HE1 := hid h1; have HE2 := hid h2; have HE3 := hid h3; have HE4 := hid h4; have HE5 := hid h5; have HE6 := hid h6
      clear h1 h2 h3 h4 h5 h6 hde hre hpe
      obtain ⟨k0, k1, k2, k3⟩ := HXY.out _ (Below.refl _ _)
      go_wp2_with fail
      refine (HE1.out _ (Below.refl _ _)).mono ?_
      rintro e wa ⟨_, _, rfl, hq, hr, hba⟩
      obtain ⟨b11, o11, m11, c11, rfl, HR11⟩ := IntE.opened hq
      obtain ⟨b12, o12, m12, c12, rfl, HR12⟩ := IntE.opened hr
      clear k0 k1 k2 k3
      go_upto_region 6 with (fail)
      obtain ⟨W3, hW3⟩ : ∃ W3, W3 = ((wa.alloc (.cells #[.bool b11, .slice o11 m11 c11] 24)).alloc (.cells #[.bool b12, .slice o12 m12 c12] 24)) := ⟨_, rfl⟩
      have hal : Below wa.heap.size wa W3 := by rw [hW3]; exact ((Below.refl _ _).alloc (Nat.le_refl _) _).alloc (by simp) _
      have hz : W3.heap.size = wa.heap.size + 2 := by rw [hW3]; simp
      have hpw : Below W2.heap.size W2 W3 := (hba).trans (hal.mono (hba).size)
      have HC11 : Hid (∀ w', Below W3.heap.size W3 w' → w'.cell? ⟨wa.heap.size, 0, none⟩ = some (.bool b11) ∧ w'.cell? ⟨wa.heap.size, 1, none⟩ = some (.slice o11 m11 c11) ∧ w'.cell? ⟨wa.heap.size + 1, 0, none⟩ = some (.bool b12) ∧ w'.cell? ⟨wa.heap.size + 1, 1, none⟩ = some (.slice o12 m12 c12)) := hid (fun w' hb => by
        refine ⟨?_, ?_, ?_, ?_⟩ <;> (rw [hb.cell (by rw [hz]; simp), hW3]; simp [go_sem]))
      have H2W3 : Hid (Below W2.heap.size W2 W3) := hid (hpw)
      have HL11 := hid hal; have HNW3 := hid hpw
      rw [← hW3]
      clear hW3 hal hz hpw
      clear hq hr hba
      obtain ⟨k0, k1, k2, k3⟩ := HPQ.out _ H2W3.out
      go_wp2_with fail
      refine (HE2.out _ H2W3.out).mono ?_
      rintro e wb ⟨_, _, rfl, hq, hr, hbb⟩
      obtain ⟨b14, o14, m14, c14, rfl, HR14⟩ := ZE.opened hq
      obtain ⟨b15, o15, m15, c15, rfl, HR15⟩ := ZE.opened hr
      clear k0 k1 k2 k3
      go_upto_region 7 with (fail)
      obtain ⟨W4, hW4⟩ : ∃ W4, W4 = ((wb.alloc (.cells #[.bool b14, .slice o14 m14 c14] 28)).alloc (.cells #[.bool b15, .slice o15 m15 c15] 28)) := ⟨_, rfl⟩
      have hal : Below wb.heap.size wb W4 := by rw [hW4]; exact ((Below.refl _ _).alloc (Nat.le_refl _) _).alloc (by simp) _
      have hz : W4.heap.size = wb.heap.size + 2 := by rw [hW4]; simp
      have hpw : Below W3.heap.size W3 W4 := (hbb).trans (hal.mono (hbb).size)
      have HC14 : Hid (∀ w', Below W4.heap.size W4 w' → w'.cell? ⟨wb.heap.size, 0, none⟩ = some (.bool b14) ∧ w'.cell? ⟨wb.heap.size, 1, none⟩ = some (.slice o14 m14 c14) ∧ w'.cell? ⟨wb.heap.size + 1, 0, none⟩ = some (.bool b15) ∧ w'.cell? ⟨wb.heap.size + 1, 1, none⟩ = some (.slice o15 m15 c15)) := hid (fun w' hb => by
        refine ⟨?_, ?_, ?_, ?_⟩ <;> (rw [hb.cell (by rw [hz]; simp), hW4]; simp [go_sem]))
      have H2W4 : Hid (Below W2.heap.size W2 W4) := hid (H2W3.out.trans (hpw.mono H2W3.out.size))
      have HL14 := hid hal; have HNW4 := hid hpw
      rw [← hW4]
      clear hW4 hal hz hpw
      clear hq hr hbb
      obtain ⟨a0, a1, a2, a3⟩ := HC11.out _ HNW4.out
      obtain ⟨a4, a5, a6, a7⟩ := HC14.out _ (Below.refl _ _)
      have h3a : Below wa.heap.size wa W4 := HL11.out.trans (HNW4.out.mono HL11.out.size)
      have H3a := hid h3a
      clear h3a
      go_wp2_with fail
      refine (is_res _ _ de (x.fdiv y) _ (HR11.out _ H3a.out) (HR14.out _ HL14.out)).mono ?_
      rintro e wc1 ⟨rfl, hb1⟩
      have H4c := hid hb1
      clear hb1 a0 a1 a2 a3 a4 a5 a6 a7
      obtain ⟨a0, a1, a2, a3⟩ := HC11.out _ (HNW4.out.trans (H4c.out.mono HNW4.out.size))
      obtain ⟨a4, a5, a6, a7⟩ := HC14.out _ H4c.out
      go_wp2_with fail
      refine (is_res _ _ de (x.fmod y) _ (HR12.out _ (H3a.out.trans (H4c.out.mono H3a.out.size))) (HR15.out _ (HL14.out.trans (H4c.out.mono HL14.out.size)))).mono ?_
      rintro e wd ⟨rfl, hb2⟩
      have H4d : Hid (Below W4.heap.size W4 wd) := hid (H4c.out.trans (hb2.mono H4c.out.size))
      clear hb2 a0 a1 a2 a3 a4 a5 a6 a7
      have H2d : Hid (Below W2.heap.size W2 wd) := hid (H2W4.out.trans (H4d.out.mono H2W4.out.size))
      obtain ⟨k0, k1, k2, k3⟩ := HXY.out _ H2d.out
      clear HC11 HC14 HR11 HR12 HR14 HR15 HL11 HL14 HNW3 HNW4 H3a H4c H4d HE1 HE2
      go_wp2_with fail
      refine (HE3.out _ H2d.out).mono ?_
      rintro e we ⟨_, rfl, hr, hbe⟩
      obtain ⟨b18, o18, m18, c18, rfl, HR18⟩ := IntE.opened hr
      clear k0 k1 k2 k3
      go_upto_region 9 with (fail)
      have hde : Below W2.heap.size W2 we := H2d.out.trans (hbe.mono H2d.out.size)
      obtain ⟨W5, hW5⟩ : ∃ W5, W5 = (we.alloc (.cells #[.bool b18, .slice o18 m18 c18] 24)) := ⟨_, rfl⟩
      have hal : Below we.heap.size we W5 := by rw [hW5]; exact (Below.refl _ _).alloc (Nat.le_refl _) _
      have hz : W5.heap.size = we.heap.size + 1 := by rw [hW5]; simp
      have hpw : Below W2.heap.size W2 W5 := (hde).trans (hal.mono (hde).size)
      have HC18 : Hid (∀ w', Below W5.heap.size W5 w' → w'.cell? ⟨we.heap.size, 0, none⟩ = some (.bool b18) ∧ w'.cell? ⟨we.heap.size, 1, none⟩ = some (.slice o18 m18 c18)) := hid (fun w' hb => by
        refine ⟨?_, ?_⟩ <;> (rw [hb.cell (by rw [hz]; simp), hW5]; simp [go_sem]))
      have H2W5 : Hid (Below W2.heap.size W2 W5) := hid (hpw)
      have HL18 := hid hal; have HNW5 := hid hpw
      rw [← hW5]
      clear hW5 hal hz hpw
      clear hr hbe hde
      obtain ⟨k0, k1, k2, k3⟩ := HPQ.out _ H2W5.out
      go_wp2_with fail
      refine (HE4.out _ H2W5.out).mono ?_
      rintro e wf ⟨_, rfl, hr, hbf⟩
      obtain ⟨b20, o20, m20, c20, rfl, HR20⟩ := ZE.opened hr
      clear k0 k1 k2 k3
      go_upto_region 10 with (fail)
      obtain ⟨W6, hW6⟩ : ∃ W6, W6 = (wf.alloc (.cells #[.bool b20, .slice o20 m20 c20] 28)) := ⟨_, rfl⟩
      have hal : Below wf.heap.size wf W6 := by rw [hW6]; exact (Below.refl _ _).alloc (Nat.le_refl _) _
      have hz : W6.heap.size = wf.heap.size + 1 := by rw [hW6]; simp
      have hpw : Below W5.heap.size W5 W6 := (hbf).trans (hal.mono (hbf).size)
      have HC20 : Hid (∀ w', Below W6.heap.size W6 w' → w'.cell? ⟨wf.heap.size, 0, none⟩ = some (.bool b20) ∧ w'.cell? ⟨wf.heap.size, 1, none⟩ = some (.slice o20 m20 c20)) := hid (fun w' hb => by
        refine ⟨?_, ?_⟩ <;> (rw [hb.cell (by rw [hz]; simp), hW6]; simp [go_sem]))
      have H2W6 : Hid (Below W2.heap.size W2 W6) := hid (H2W5.out.trans (hpw.mono H2W5.out.size))
      have HL20 := hid hal; have HNW6 := hid hpw
      rw [← hW6]
      clear hW6 hal hz hpw
      clear hr hbf
      obtain ⟨a0, a1⟩ := HC18.out _ HNW6.out
      obtain ⟨a4, a5⟩ := HC20.out _ (Below.refl _ _)
      go_wp2_with fail
      refine (is_res _ _ re (rootZ x) _ (HR18.out _ (HL18.out.trans (HNW6.out.mono HL18.out.size))) (HR20.out _ HL20.out)).mono ?_
      rintro e wg ⟨rfl, hbg⟩
      have H2g : Hid (Below W2.heap.size W2 wg) := hid (H2W6.out.trans (hbg.mono H2W6.out.size))
      clear hbg a0 a1 a4 a5 HC18 HC20 HR18 HR20 HL18 HL20 HNW5 HNW6 HE3 HE4 H2d H2W3 H2W4 H2W5 H2W6
      go_upto_region 12 with (fail)
      obtain ⟨cq, hcq⟩ : ∃ cq : Bool, cq = decide (en < 0 ∨ 1024 < en ∨ (0 ≤ en ∧ en ≤ 1024 ∧ (n : Int) * en ≤ 2048)) := ⟨_, rfl⟩
      have HCo : Hid (cq = true → en < 0 ∨ 1024 < en ∨ (0 ≤ en ∧ en ≤ 1024 ∧ (n + 1) / 2 * en.toNat ≤ 2048)) := hid (fun ht => by
        rw [hcq] at ht
        rcases of_decide_eq_true ht with h | h | ⟨h0, h1, h2⟩
        · exact Or.inl h
        · exact Or.inr (Or.inl h)
        · refine Or.inr (Or.inr ⟨h0, h1, ?_⟩)
          have e1 : (n : Int) * en = ((n * en.toNat : Nat) : Int) := by rw [Int.natCast_mul, Int.toNat_of_nonneg h0]
          rcases Nat.eq_zero_or_pos n with hz | hz
          · subst hz; simp
          · have := Nat.mul_le_mul_right en.toNat (show (n + 1) / 2 ≤ n by omega)
            omega)
      have HCq := hid hcq
      clear hcq
      go_cut [100] from 87 (fun s100 wx => s100 = .bool cq ∧ Below W2.heap.size W2 wx)
      case first =>
        obtain ⟨k0, k1, _, _⟩ := HS2.out _ H2g.out
        have hw0 : ∀ h0 : 0 ≤ en, en ≤ 1024 → IntKind.i64.wrap ((n : Int) * en) = (n : Int) * en := fun h0 h1 => by
          have a := Int.mul_nonneg (show (0 : Int) ≤ (n : Int) by omega) h0
          have b := Int.mul_le_mul (show (n : Int) ≤ 24 by omega) h1 h0 (by decide)
          exact IntWalk.i64_in _ (by omega)
        rcases (show en < 0 ∨ (¬ en < 0 ∧ 1024 < en) ∨ (0 ≤ en ∧ en ≤ 1024) by omega) with g0 | ⟨g0, g1⟩ | ⟨g0, g1⟩
        · obtain rfl : cq = true := by rw [HCq.out]; exact decide_eq_true (Or.inl g0)
          clear hw0
          go_wp2_with fail
          go_meet
          exact ⟨rfl, H2g.out⟩
        · obtain rfl : cq = true := by rw [HCq.out]; exact decide_eq_true (Or.inr (Or.inl g1))
          clear hw0
          go_wp2_with fail
          go_meet
          exact ⟨rfl, H2g.out⟩
        · have g3 := hw0 g0 g1
          have g4 : ¬ en < 0 := by omega
          have g5 : ¬ 1024 < en := by omega
          have ecq : cq = decide ((n : Int) * en ≤ 2048) := by rw [HCq.out]; apply decide_eq_decide.2; omega
          have HEc := hid ecq
          clear hw0 ecq
          go_wp2_with fail
          go_meet
          exact ⟨by rw [HEc.out], H2g.out⟩
      case rest =>
      obtain ⟨WX0, rfl⟩ : ∃ WX0, WX0 = wc := ⟨_, rfl⟩
      obtain ⟨rfl, h2X⟩ := hcut
      have H2g : Hid (Below W2.heap.size W2 WX0) := hid h2X
      clear h2X
      go_upto_if 100 with (fail)
      go_cut [23] from 101 (fun s23 wx => s23 = .bool true ∧ Below W2.heap.size W2 wx)
      case first =>
        cases cq with
        | true =>
            go_upto_region 13 with (fail)
            obtain ⟨k0, k1, _, _⟩ := HXY.out _ H2g.out
            go_wp2_with fail
            refine (HE5.out _ H2g.out (by first | exact HCo.out rfl | exact HCo.out trivial | exact HCo.out)).mono ?_
            rintro e wh ⟨_, rfl, hr, hbh⟩
            obtain ⟨b24, o24, m24, c24, rfl, HR24⟩ := IntE.opened hr
            clear k0 k1
            go_upto_region 14 with (fail)
            have h2h : Below W2.heap.size W2 wh := H2g.out.trans (hbh.mono H2g.out.size)
            obtain ⟨W7, hW7⟩ : ∃ W7, W7 = (wh.alloc (.cells #[.bool b24, .slice o24 m24 c24] 24)) := ⟨_, rfl⟩
            have hal : Below wh.heap.size wh W7 := by rw [hW7]; exact (Below.refl _ _).alloc (Nat.le_refl _) _
            have hz : W7.heap.size = wh.heap.size + 1 := by rw [hW7]; simp
            have hpw : Below W2.heap.size W2 W7 := (h2h).trans (hal.mono (h2h).size)
            have HC24 : Hid (∀ w', Below W7.heap.size W7 w' → w'.cell? ⟨wh.heap.size, 0, none⟩ = some (.bool b24) ∧ w'.cell? ⟨wh.heap.size, 1, none⟩ = some (.slice o24 m24 c24)) := hid (fun w' hb => by
              refine ⟨?_, ?_⟩ <;> (rw [hb.cell (by rw [hz]; simp), hW7]; simp [go_sem]))
            have H2W7 : Hid (Below W2.heap.size W2 W7) := hid (hpw)
            have HL24 := hid hal; have HNW7 := hid hpw
            rw [← hW7]
            clear hW7 hal hz hpw
            clear hr hbh h2h
            obtain ⟨k0, k1, _, _⟩ := HPQ.out _ H2W7.out
            go_wp2_with fail
            refine (HE6.out _ H2W7.out).mono ?_
            rintro e wi ⟨_, rfl, hr, hbi⟩
            obtain ⟨b26, o26, m26, c26, rfl, HR26⟩ := ZE.opened hr
            clear k0 k1
            go_upto_region 15 with (fail)
            obtain ⟨W8, hW8⟩ : ∃ W8, W8 = (wi.alloc (.cells #[.bool b26, .slice o26 m26 c26] 28)) := ⟨_, rfl⟩
            have hal : Below wi.heap.size wi W8 := by rw [hW8]; exact (Below.refl _ _).alloc (Nat.le_refl _) _
            have hz : W8.heap.size = wi.heap.size + 1 := by rw [hW8]; simp
            have hpw : Below W7.heap.size W7 W8 := (hbi).trans (hal.mono (hbi).size)
            have HC26 : Hid (∀ w', Below W8.heap.size W8 w' → w'.cell? ⟨wi.heap.size, 0, none⟩ = some (.bool b26) ∧ w'.cell? ⟨wi.heap.size, 1, none⟩ = some (.slice o26 m26 c26)) := hid (fun w' hb => by
              refine ⟨?_, ?_⟩ <;> (rw [hb.cell (by rw [hz]; simp), hW8]; simp [go_sem]))
            have H2W8 : Hid (Below W2.heap.size W2 W8) := hid (H2W7.out.trans (hpw.mono H2W7.out.size))
            have HL26 := hid hal; have HNW8 := hid hpw
            rw [← hW8]
            clear hW8 hal hz hpw
            clear hr hbi
            obtain ⟨a0, a1⟩ := HC24.out _ HNW8.out
            obtain ⟨a4, a5⟩ := HC26.out _ (Below.refl _ _)
            go_wp2_with fail
            refine (is_res _ _ pe (x ^ en.toNat) _ (HR24.out _ (HL24.out.trans (HNW8.out.mono HL24.out.size))) (HR26.out _ HL26.out)).mono ?_
            rintro e wj ⟨rfl, hbj⟩
            have H2j : Hid (Below W2.heap.size W2 wj) := hid (H2W8.out.trans (hbj.mono H2W8.out.size))
            clear hbj
            go_wp2_with fail
            go_meet
            exact ⟨rfl, H2j.out⟩
        | false =>
            go_wp2_with fail
            go_meet
            exact ⟨rfl, H2g.out⟩
      case rest =>
        obtain ⟨WA0, rfl⟩ : ∃ WA0, WA0 = wc := ⟨_, rfl⟩
        obtain ⟨rfl, h2A⟩ := hcut
        have H2V := hid h2A
        clear h2A
        obtain ⟨a0, a1, _, _⟩ := HXY.out _ H2V.out
        obtain ⟨a2, a3, _, _⟩ := HS2.out _ H2V.out
        go_wp2_with fail
        refine (likeInt_any _ _ na WA _ (HKx.out _ H2V.out) (Hu.out _ (HB2.out.trans (H2V.out.mono HB2.out.size)))).mono ?_
        rintro e v3 ⟨rfl, hb3⟩
        have H2T := hid (H2V.out.trans (hb3.mono H2V.out.size))
        clear hb3 a0 a1 a2 a3
        obtain ⟨_, _, a0, a1⟩ := HXY.out _ H2T.out
        obtain ⟨_, _, a2, a3⟩ := HS2.out _ H2T.out
        go_wp2_with fail
        refine (likeInt_any _ _ nb WB _ (HKy.out _ H2T.out) (Hv.out _ (HB2.out.trans (H2T.out.mono HB2.out.size)))).mono ?_
        rintro e v4 ⟨rfl, hb4⟩
        have HFin := hid (HB2.out.trans ((H2T.out.trans (hb4.mono H2T.out.size)).mono HB2.out.size))
        clear hb4 a0 a1 a2 a3
        go_wp2
        go_ret
        exact ⟨rfl, HFin.out⟩
end Go.Proofs.Ytbmdjimfncgomaa

/- The law ExactDivides at any two arguments: it returns true, and what was there before stays. Where an argument has more than 24 words it returns ahead of everything else. -/
namespace Go.Proofs.Ytbmdjimfncgomaa
open Go.RowKit

set_option maxRecDepth 100000 in
theorem exactDivides_long (en : Int) (u v : Value) (na nb : Bool) (WA WB : List Int) (w : World) (hu : Lk w u na WA) (hv : Lk w v nb WB) (h : 24 < WA.length ∨ (WA.length ≤ 24 ∧ 24 < WB.length)) :
    Calls Try.prog 4 #[u, v, .int .i64 en] w fun e w' => e = .returned (.bool true) ∧ Below w.heap.size w w' := by
  obtain ⟨na1, ao, n, ac, rfl, _, _, En⟩ := Lk.opened hu
  obtain ⟨nb1, bo, m, bc, rfl, _, _, Em⟩ := Lk.opened hv
  have hn := En.out; have hm := Em.out
  rw [← hn, ← hm] at h
  clear hu hv hn hm En Em
  have hB : Below w.heap.size w ((w.alloc (.cells #[.bool na1, .slice ao n ac] 24)).alloc (.cells #[.bool nb1, .slice bo m bc] 24)) := ((Below.refl _ _).alloc (Nat.le_refl _) _).alloc (by simp) _
  have HB := hid hB
  clear hB
  rcases h with h | ⟨h1, h⟩
  · have h40 : (24 : Int) < (n : Int) := by omega
    go_enter Try.func4, Try.ntmps4
    all_goals go_wp2
    all_goals (go_ret; exact ⟨rfl, HB.out⟩)
  · have h40 : (24 : Int) < (m : Int) := by omega
    have h41 : ¬ (24 : Int) < (n : Int) := by omega
    go_enter Try.func4, Try.ntmps4
    all_goals go_wp2
    all_goals (go_ret; exact ⟨rfl, HB.out⟩)

theorem exactDivides_any (en : Int) (u v : Value) (na nb : Bool) (WA WB : List Int) (w : World) (hu : Lk w u na WA) (hv : Lk w v nb WB) (dA : Dig B32 WA) (dB : Dig B32 WB) (n0 : -9223372036854775808 ≤ en) (n1 : en < 9223372036854775808) :
    Calls Try.prog 4 #[u, v, .int .i64 en] w fun e w' => e = .returned (.bool true) ∧ Below w.heap.size w w' := by
  by_cases hA : WA.length ≤ 24
  · by_cases hB : WB.length ≤ 24
    · exact exactDivides_walk en u v na nb WA WB w hu hv dA dB hA hB n0 n1
    · exact exactDivides_long en u v na nb WA WB w hu hv (Or.inr ⟨hA, by omega⟩)
  · exact exactDivides_long en u v na nb WA WB w hu hv (Or.inl (by omega))
end Go.Proofs.Ytbmdjimfncgomaa

/- How the arguments of the laws are opened (an api.Int reads as its sign and its list of words), and the last step of a row whose law returns true and leaves all that was there before. -/
namespace Go.Proofs.Ytbmdjimfncgomaa
open Go.ChangeShapes Go.WideShapes Go.ChangeAt Go.RowKit Go.Joins

theorem Try.ownKnobNone : ownKnob Try.prog.godebug = none := by kernel_rfl
theorem Try.laidOutAll : laidOutB Try.prog = true := by kernel_rfl

/-- The number that a value is. -/
def intOf : Value → Int | .int _ x => x | _ => 0

set_option maxRecDepth 100000 in
theorem openInt {H : Type} {enc : TypeId × Value → H} {r : Reach} {b0 : Nat} {W : World} {sp : Nat → Bool} {v : Value} {d : DataW H} {p : List MemPlace}
    (hv : Value.okWide Try.prog W r b0 24 v) (h : DataW.Trod enc Try.prog W 0 sp true 24 v d p) : ∃ neg L, Lk W v neg L ∧ Dig B32 L := by
  obtain ⟨c0, c1, y0, y1, m, rfl, rfl, rfl, hy0, hy1⟩ := open_agg2 Try.underlying24 (by kernel_rfl) (by kernel_rfl) hv h
  obtain ⟨b, e0, _⟩ := DataW.trod_bool Try.underlying4 hy0
  simp at e0
  subst e0
  rcases Go.Deep.open_slice1 Try.underlying22 (by kernel_rfl) hy1 with ⟨e1, _⟩ | ⟨a, len, cap, k, n, V, D, Pl, e1, hb, hl, hm, hmm, _, hx⟩
  · simp at e1
    subst e1
    exact ⟨b, [], ⟨none, 0, rfl, Rd.nil _ _⟩, fun x hx => by cases hx⟩
  · simp at e1
    subst e1
    have hk : len ≤ k := by rw [hmm]; split <;> omega
    have hw : ∀ i, i < len → ∃ x, V i = .int .u32 x ∧ 0 ≤ x ∧ x < B32 ∧ W.cell? (a.add i) = some (.int .u32 x) := by
      intro i hi
      obtain ⟨hc, ht⟩ := hx i (by omega)
      obtain ⟨x, ex, _, hwf⟩ := DataW.trod_int Try.underlying74 ht
      simp at ex
      simp [Lit.wf, IntKind.min, IntKind.max, IntKind.signed, IntKind.bits] at hwf
      refine ⟨x, ex, by omega, by unfold B32; omega, by rw [hc, ex]⟩
    have hget : ∀ i, i < len → (((List.range len).map fun i => intOf (V i))[i]?.getD 0) = intOf (V i) := by
      intro i hi
      simp [hi]
    refine ⟨b, (List.range len).map fun i => intOf (V i), ⟨some a, cap, by simp, ?_⟩, ?_⟩
    · refine ⟨by simpa using hl, by unfold maxLen at hm; omega, fun hp => ?_, fun b off e i hi => ?_⟩
      · obtain ⟨x, _, _, _, hc⟩ := hw 0 (by simpa using hp)
        have hs := World.cell?_spot hc
        obtain ⟨ab, aoff, asp⟩ := a
        have : asp = none := by simpa [Addr.add] using hs
        exact ⟨ab, aoff, by rw [this]⟩
      · simp at hi
        obtain rfl := Option.some.inj e
        obtain ⟨x, ex, _, _, hc⟩ := hw i hi
        rw [hget i hi, ex]
        have ea : Addr.add ⟨b, off, none⟩ i = ⟨b, off + i, none⟩ := by
          by_cases h0 : i = 0 <;> simp [Addr.add, h0]
        rw [ea] at hc
        simpa [intOf] using hc
    · intro x hx
      obtain ⟨i, hi, rfl⟩ := List.mem_map.1 hx
      obtain ⟨y, ey, y0, y1, _⟩ := hw i (by simpa using hi)
      rw [ey]
      exact ⟨y0, y1⟩

/-- What lies below a bound reads as it did, whatever was made above it. -/
theorem allStays {H : Type} {enc : TypeId × Value → H} {P : Program} (hl : laidOutB P = true) {W W' : World} {sp' : Nat → Bool} : ∀ {ts : List TypeId} {vs : List Value} {ds : List (DataW H)} {ps : List MemPlace},
    (∀ t ∈ ts, P.readableRec t = true ∧ t < P.types.size) → DataW.TrodAll enc P W 0 (fun _ => true) true ts vs ds ps → (∀ p ∈ ps, W.sameAt W' p) → (∀ p ∈ ps, sp' p.block = true) → DataW.TrodAll enc P W' 0 sp' true ts vs ds ps
  | [], _, _, _, _, h, _, _ => by
    obtain ⟨rfl, rfl, rfl⟩ := trodAll_nil h
    exact trodAll_mk0
  | t :: ts, _, _, _, ht, h, hs, hp => by
    obtain ⟨v, vs1, d, ds1, a, b, rfl, rfl, rfl, h1, h2⟩ := trodAll_cons h
    refine ⟨a, b, ?_, ?_, rfl⟩
    · exact WideElems.Trod_stays hl (ht t (by simp)).1 (ht t (by simp)).2 h1 (fun p k => hs p (by simp [k])) (fun p k => hp p (by simp [k]))
    · exact allStays hl (fun u k => ht u (by simp [k])) h2 (fun p k => hs p (by simp [k])) (fun p k => hp p (by simp [k]))

/-- The last step of a row: the law returns true, its arguments read as they did. -/
theorem lawTrue {H : Type} {enc : TypeId × Value → H} {P : Program} {f : Func} {s : ChangeSpec} {apart fresh handsOn : Bool} {W W' : World} {args : Array Value} {ds gs : List (DataW H)} {before : List MemPlace} {tb : TypeId}
    (hl : laidOutB P = true) (hr : ∀ t ∈ f.params.toList, P.readableRec t = true ∧ t < P.types.size) (hv : s.vars = []) (hres : f.resultTypes = #[tb]) (hb : P.underlying tb = some .bool)
    (hfn : s.fn H (ds ++ gs) = { results := [.lit (.bool true)], args := ds })
    (hW : DataW.Whole enc P f.params.toList s.vars apart W args.toList ds gs before) (hlow : Below W.heap.size W W') :
    s.post enc P f apart fresh handsOn false W args (.bool true) W' := by
  have hW' := hW
  obtain ⟨p, q, hA, hV, hpq, _, _⟩ := hW
  rw [hv] at hV
  obtain ⟨rfl, rfl⟩ := trodVars_none hV
  have hlt := hW'.lt
  have e0 : before = p := by rw [hpq]; simp
  subst e0
  refine ⟨ds, [], before, [], before, [], hW', ?_, ?_, ?_, ?_, fun h => by cases h⟩
  · rw [hfn, hres]
    exact trodAll_mk1 (shut_bool hb _)
  · rw [hfn]
    exact allStays hl hr hA (fun p k => hlow.same (hlt p k)) (fun p k => by simpa using hlt p k)
  · rw [hfn, hv]
    rfl
  · exact World.keptBut_mono (fun p k => ⟨k, Or.inr (Or.inl k)⟩) (hlow.frame (· ∈ before))
end Go.Proofs.Ytbmdjimfncgomaa
