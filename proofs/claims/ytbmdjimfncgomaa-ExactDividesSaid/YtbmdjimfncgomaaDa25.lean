/- The law ExactInts. Written by gen_ints.py. -/
import Derived.Test.YtbmdjimfncgomaaDa23
import Derived.Test.YtbmdjimfncgomaaDa17
import Derived.Test.YtbmdjimfncgomaaDa24
import Derived.Test.YtbmdjimfncgomaaDa10
/- The law ExactInts. Written by gen_ints.py. -/
namespace Go.Proofs.Ytbmdjimfncgomaa
open Go.RowKit

theorem Lk.keeps {neg : Bool} {W : List Int} (w w' : World) (v : Value) (hk : Keeps .u32 w w') (h : Lk w v neg W) : Lk w' v neg W := by
  obtain ⟨ao, c, rfl, h⟩ := h; exact ⟨ao, c, rfl, h.keeps hk⟩
theorem Lk.below {neg : Bool} {W : List Int} {w w' : World} {v : Value} {B : Nat} (h : Lk w v neg W) (hb : Below B w w') (hB : w.heap.size ≤ B) : Lk w' v neg W := by
  obtain ⟨ao, c, rfl, h⟩ := h; exact ⟨ao, c, rfl, h.below hb hB⟩
theorem Lk.opened {w : World} {v : Value} {neg : Bool} {W : List Int} (h : Lk w v neg W) : ∃ b ao m c, v = .agg #[.bool b, .slice ao m c] ∧ Hid (∀ w', Below w.heap.size w w' → Lk w' (.agg #[.bool b, .slice ao m c]) neg W) ∧ Hid (b = neg) ∧ Hid (m = W.length) := by
  obtain ⟨ao, c, rfl, h⟩ := h
  exact ⟨neg, ao, W.length, c, rfl, hid (fun w' hb => ⟨ao, c, rfl, h.below hb (Nat.le_refl _)⟩), hid rfl, hid rfl⟩
theorem Lk.ai {w : World} {v : Value} {neg : Bool} {W : List Int} (h : Lk w v neg W) (hd : Dig B32 W) {K : Nat} (hK : W.length ≤ K) : Ai w v (sgn neg (val B32 W)) K := by
  obtain ⟨ao, c, rfl, h⟩ := h; exact ⟨neg, ao, c, W, rfl, h, hd, hK, rfl⟩
theorem Zt.keeps {z : Int} {K : Nat} (w w' : World) (v : Value) (hk : Keeps .i64 w w') (h : Zt w v z K) : Zt w' v z K := by
  obtain ⟨s, rfl, ao, c, L, rfl, h⟩ := h
  exact ⟨_, rfl, ao, c, L, rfl, h.rd.keeps hk, h.dig, h.nrm, h.eq, h.le⟩

/-- Behind 'x, y := own(a), own(b)'. -/
structure Ei1 (W0 wx : World) (p q : Nat) (vx vy : Value) (na nb : Bool) (WA WB : List Int) : Prop where
  cx : ∃ a b, vx = .agg #[a, b] ∧ wx.cell? ⟨p, 0, none⟩ = some a ∧ wx.cell? ⟨p, 1, none⟩ = some b
  cy : ∃ a b, vy = .agg #[a, b] ∧ wx.cell? ⟨q, 0, none⟩ = some a ∧ wx.cell? ⟨q, 1, none⟩ = some b
  lx : Lk wx vx na WA
  ly : Lk wx vy nb WB
  low : Below W0.heap.size W0 wx
/-- Behind 'p, q := From(a), From(b)'. -/
structure Ei2 (W0 wx : World) (p q : Nat) (vx vy : Value) (x y : Int) (K : Nat) : Prop where
  cx : ∃ a b, vx = .agg #[a, b] ∧ wx.cell? ⟨p, 0, none⟩ = some a ∧ wx.cell? ⟨p, 1, none⟩ = some b
  cy : ∃ a b, vy = .agg #[a, b] ∧ wx.cell? ⟨q, 0, none⟩ = some a ∧ wx.cell? ⟨q, 1, none⟩ = some b
  lx : Zt wx vx x K
  ly : Zt wx vy y K
  low : Below W0.heap.size W0 wx


/-- A result: in normal form, its words may be written over. -/
def El (w : World) (B : Nat) (v : Value) (z : Int) : Prop := An w v z 200 ∧ Sp w B v
theorem Sp.below {w w' : World} {B B' : Nat} {v : Value} (h : Sp w B v) (hb : Below B' w w') (hB : w.heap.size ≤ B') : Sp w' B v := by
  obtain ⟨b, ao, n, c, e, h1, h2, h3, hp⟩ := h
  refine ⟨b, ao, n, c, e, h1, h2, h3, fun hn => ?_⟩
  obtain ⟨g, off, ea, hg, hc⟩ := hp hn
  refine ⟨g, off, ea, hg, fun i hi => ?_⟩
  obtain ⟨⟨x, x0, x1, hx⟩, hf⟩ := hc i hi
  have hl := Nat.lt_of_lt_of_le (World.block_lt_of_cell? w _ hx) hB
  exact ⟨⟨x, x0, x1, (hb.cell hl).trans hx⟩, (hb.frozen hl).trans hf⟩
theorem El.below {w w' : World} {B B' : Nat} {v : Value} {z : Int} (h : El w B v z) (hb : Below B' w w') (hB : w.heap.size ≤ B') : El w' B v z := ⟨h.1.below hb hB, h.2.below hb hB⟩
theorem FrA.el {w1 w : World} {v : Value} {z : Int} {K B : Nat} (h : FrA w1 w v z K) (hK : K ≤ 200) (hB : B ≤ w1.heap.size) : El w B v z := by
  obtain ⟨s, rfl, L, ho, hd, hn, hv, hl⟩ := h
  obtain ⟨ao, c, rfl⟩ := owns_slice ho
  refine ⟨⟨ao, c, L, rfl, owns_any ho rfl, hd, hn, hv, by omega⟩, _, ao, L.length, c, rfl, by omega, ?_, ?_, fun hp => ?_⟩
  · rcases ho.2 with ⟨e, h0⟩ | ⟨g, cap, cur, e, _, _, hnc, _⟩
    · omega
    · obtain ⟨_, _, rfl⟩ := Value.slice.inj e; exact hnc
  · exact (owns_any ho rfl).most
  · rcases ho.2 with ⟨e, h0⟩ | ⟨g, cap, cur, e, hg, hh, hnc, _⟩
    · omega
    · obtain ⟨rfl, _, rfl⟩ := Value.slice.inj e
      refine ⟨g, 0, rfl, by omega, fun i hi => ⟨?_, frozen_of_row w g _ _ _ hh⟩⟩
      have hdi := hd.at B32_pos i
      exact ⟨_, hdi.1, hdi.2, (owns_any ho rfl).cell g 0 rfl i hi⟩
theorem El.opened {w : World} {B : Nat} {v : Value} {z : Int} (h : El w B v z) : ∃ b ao m c, v = .agg #[.bool b, .slice ao m c] ∧ Hid (∀ w', Below w.heap.size w w' → El w' B (.agg #[.bool b, .slice ao m c]) z) := by
  obtain ⟨⟨ao, c, L, rfl, hr⟩, h2⟩ := h
  exact ⟨_, ao, L.length, c, rfl, hid (fun w' hb => El.below ⟨⟨ao, c, L, rfl, hr⟩, h2⟩ hb (Nat.le_refl _))⟩

theorem Zt.spd {w w' : World} {B : Nat} {v : Value} {z : Int} {K : Nat} (h : Zt w v z K) (hs : Spd B w w') : Zt w' v z K := by
  obtain ⟨s, rfl, ao, c, L, rfl, h⟩ := h
  exact ⟨_, rfl, ao, c, L, rfl, ⟨h.rd.cap, h.rd.most, h.rd.adr, fun b off e i hi => hs.cel _ _ (h.rd.cell b off e i hi) (fun x e => by cases e)⟩, h.dig, h.nrm, h.eq, h.le⟩
theorem Sp.spd {w w' : World} {B B' : Nat} {v : Value} (h : Sp w B v) (hs : Spd B' w w') : Sp w' B v := by
  obtain ⟨b, ao, n, c, e, h1, h2, h3, hp⟩ := h
  refine ⟨b, ao, n, c, e, h1, h2, h3, fun hn => ?_⟩
  obtain ⟨g, off, ea, hg, hc⟩ := hp hn
  refine ⟨g, off, ea, hg, fun i hi => ?_⟩
  obtain ⟨⟨x, x0, x1, hx⟩, hf⟩ := hc i hi
  obtain ⟨y, y0, y1, hy⟩ := hs.u32 _ _ hx x0 x1
  exact ⟨⟨y, y0, y1, hy⟩, (hs.frz _ (World.block_lt_of_cell? w _ hx)).trans hf⟩

/-- The six answers. -/
def zsI (x y : Int) : Nat → Int
  | 0 => x
  | 1 => -x
  | 2 => x + y
  | 3 => x + -y
  | 4 => x * y
  | _ => (Int.gcd x y : Int)
structure Ei3 (W2 wx : World) (B g : Nat) (zs : Nat → Int) : Prop where
  el : ∀ i, i < 6 → ∃ b ao m c, wx.cell? ⟨g, 2 * i, none⟩ = some (.bool b) ∧ wx.cell? ⟨g, 2 * i + 1, none⟩ = some (.slice ao m c) ∧ El wx B (.agg #[.bool b, .slice ao m c]) (zs i)
  low : Below B W2 wx
structure Ei4 (W2 wx : World) (B g : Nat) (zs : Nat → Int) : Prop where
  el : ∀ i, i < 6 → ∃ b ao m c, wx.cell? ⟨g, 2 * i, none⟩ = some (.bool b) ∧ wx.cell? ⟨g, 2 * i + 1, none⟩ = some (.slice ao m c) ∧ Zt wx (.agg #[.bool b, .slice ao m c]) (zs i) 200
  low : Below B W2 wx

set_option maxRecDepth 100000 in
set_option maxHeartbeats 16000000 in
theorem exactInts_walk (u v : Value) (na nb : Bool) (WA WB : List Int) (w : World) (hu : Lk w u na WA) (hv : Lk w v nb WB) (dA : Dig B32 WA) (dB : Dig B32 WB) (hA : WA.length ≤ 40) (hB : WB.length ≤ 40) :
    Calls Try.prog 3 #[u, v] w fun e w' => e = .returned (.bool true) ∧ Below w.heap.size w w' := by
  obtain ⟨_, ao, n, ac, rfl, Hu, Ena, En⟩ := Lk.opened hu
  obtain ⟨_, bo, m, bc, rfl, Hv, Enb, Em⟩ := Lk.opened hv
  have ena := Ena.out; have enb := Enb.out
  subst ena; subst enb
  rename_i na nb
  have hn : n ≤ 40 := by have := En.out; omega
  have hm : m ≤ 40 := by have := Em.out; omega
  have hWA : WA.length ≤ 1073741824 := by omega
  have hWB : WB.length ≤ 1073741824 := by omega
  have DA := hid dA; have DB := hid dB
  clear hu hv Ena Enb dA dB
  go_enter Try.func3, Try.ntmps3
  go_upto_region 3 with (fail)
  obtain ⟨W0, hW0⟩ : ∃ W0, W0 = ((w.alloc (.cells #[.bool na, .slice ao n ac] 24)).alloc (.cells #[.bool nb, .slice bo m bc] 24)) := ⟨_, rfl⟩
  have hB0 : Below w.heap.size w W0 := by rw [hW0]; exact ((Below.refl _ _).alloc (Nat.le_refl _) _).alloc (by simp) _
  have hz0 : W0.heap.size = w.heap.size + 2 := by rw [hW0]; simp
  have HS : Hid (∀ w', Below W0.heap.size W0 w' → w'.cell? ⟨w.heap.size, 0, none⟩ = some (.bool na) ∧ w'.cell? ⟨w.heap.size, 1, none⟩ = some (.slice ao n ac) ∧ w'.cell? ⟨w.heap.size + 1, 0, none⟩ = some (.bool nb) ∧ w'.cell? ⟨w.heap.size + 1, 1, none⟩ = some (.slice bo m bc)) := hid (fun w' hb => by
    refine ⟨?_, ?_, ?_, ?_⟩ <;> (rw [hb.cell (by rw [hz0]; simp), hW0]; simp [go_sem]))
  rw [← hW0]
  clear hW0
  have HB0 := hid hB0; have Hz0 := hid hz0
  clear hB0 hz0
  go_cut [5, 6] from 15 (fun s5 s6 wx => ∃ p q vx vy, s5 = .pointer (some ⟨p, 0, none⟩) ∧ s6 = .pointer (some ⟨q, 0, none⟩) ∧ Ei1 W0 wx p q vx vy na nb WA WB)
  case first =>
    refine region_inv (by kernel_rfl) (fun L a w' => ∃ b0 b1 b2 b3 b4 b5 b6 b7, L = #[b0, b1, b2, b3, b4, b5, b6, b7] ∧ (b6 = true → b1 = true ∧ b4 = true) ∧ (b7 = true → b3 = true ∧ b5 = true) ∧ ∃ s5 s6 s7 s8 s9 s10, a = { tmps := #[.agg #[.bool na, .slice ao n ac], .agg #[.bool nb, .slice bo m bc], .pointer (some ⟨w.heap.size, 0, none⟩), .pointer (some ⟨w.heap.size + 1, 0, none⟩), .bool false, s5, s6, undef, undef, undef, undef, undef, undef, undef, undef, .pointer (some ⟨w.heap.size, 1, none⟩), .slice ao n ac, .int .i64 (n : Int), .bool (decide (40 < (n : Int))), .bool (decide (40 < (n : Int))), .pointer (some ⟨w.heap.size + 1, 1, none⟩), .slice bo m bc, .int .i64 (m : Int), .bool (decide (40 < (m : Int))), .bool (decide (40 < (n : Int)) || decide (40 < (m : Int))), s7, s8, s9, s10, undef, undef, undef, undef, undef, undef, undef, undef, undef, undef, undef, undef, undef, undef, undef, undef, undef, undef, undef, undef, undef, undef, undef, undef, undef, undef, undef, undef, undef, undef, undef, undef, undef, undef, undef, undef, undef, undef, undef, undef, undef, undef, undef, undef, undef, undef, undef, undef, undef, undef, undef, undef, undef, undef, undef, undef, undef, undef, undef, undef, undef, undef, undef, undef, undef, undef, undef, undef, undef, undef, undef, undef, undef, undef, undef, undef, undef, undef, undef, undef, undef, undef, undef, undef, undef, undef, undef, undef, undef, undef, undef, undef, undef, undef, undef, undef, undef, undef, undef], defers := [] } ∧ PairJ .u32 (W0.heap.size) W0 (.agg #[.bool na, .slice ao n ac]) (.agg #[.bool nb, .slice bo m bc]) (fun w v => Lk w v na WA) (fun w v => Lk w v nb WB) b0 b1 b2 b3 b4 b5 b6 b7 s5 s6 s7 s8 s9 s10 w') ?_ ?_ ?_
    · exact ⟨_, _, _, _, _, _, _, _, rfl, nofun, nofun, _, _, _, _, _, _, rfl, PairJ.start (Below.refl _ _).drew (by simp)⟩
    · rintro L a w' i hs ⟨b0, b1, b2, b3, b4, b5, b6, b7, rfl, h61, h73, s5, s6, s7, s8, s9, s10, rfl, J⟩ hi
      obtain ⟨hi, hn, hd⟩ := waits_spec (dep := [[], [0], [], [2], [], [], [4, 1], [5, 3]]) (by kernel_rfl) hi
      have hi8 : i < 8 := hi
      obtain ⟨k0, k1, k2, k3⟩ := HS.out w' J.bel
      have HJ := hid J
      rcases (show i = 0 ∨ i = 1 ∨ i = 2 ∨ i = 3 ∨ i = 4 ∨ i = 5 ∨ i = 6 ∨ i = 7 by omega) with rfl | rfl | rfl | rfl | rfl | rfl | rfl | rfl
      · clear J hd hi hi8 hn
        refine wpOp_step rfl (fun K hK => ?_)
        go_simp
        exact hK _ _ ⟨true, b1, b2, b3, b4, b5, b6, b7, rfl, h61, h73, _, _, _, _, _, _, rfl, HJ.out.load0⟩
      · obtain rfl : b1 = false := hn
        obtain rfl : b6 = false := by cases b6 with | false => rfl | true => exact absurd (h61 rfl).1 (by simp)
        obtain rfl := J.l0 (hd 0 (by simp))
        have hw := HB0.out.trans (J.bel.mono (by have := HB0.out.size; omega))
        clear J hd hi hi8 h61
        refine wpOp_step rfl (fun K hK => ?_)
        go_simp
        refine (own_any _ na WA _ (Hu.out _ hw) hWA).mono ?_
        rintro e w1 ⟨v, rfl, hv, hb⟩
        exact hK _ _ ⟨b0, true, b2, b3, b4, b5, false, b7, rfl, nofun, h73, _, _, _, _, _, _, rfl, HJ.out.call1 Lk.keeps hb hv⟩
      · clear J hd hi hi8 hn
        refine wpOp_step rfl (fun K hK => ?_)
        go_simp
        exact hK _ _ ⟨b0, b1, true, b3, b4, b5, b6, b7, rfl, h61, h73, _, _, _, _, _, _, rfl, HJ.out.load2⟩
      · obtain rfl : b3 = false := hn
        obtain rfl : b7 = false := by cases b7 with | false => rfl | true => exact absurd (h73 rfl).1 (by simp)
        obtain rfl := J.l2 (hd 2 (by simp))
        have hw := HB0.out.trans (J.bel.mono (by have := HB0.out.size; omega))
        clear J hd hi hi8 h73
        refine wpOp_step rfl (fun K hK => ?_)
        go_simp
        refine (own_any _ nb WB _ (Hv.out _ hw) hWB).mono ?_
        rintro e w1 ⟨v, rfl, hv, hb⟩
        exact hK _ _ ⟨b0, b1, b2, true, b4, b5, b6, false, rfl, h61, nofun, _, _, _, _, _, _, rfl, HJ.out.call3 Lk.keeps hb hv⟩
      · obtain rfl : b4 = false := hn
        obtain rfl : b6 = false := by cases b6 with | false => rfl | true => exact absurd (h61 rfl).2 (by simp)
        clear J hd hi hi8 h61
        refine wpOp_step rfl (fun K hK => ?_)
        go_simp
        exact hK _ _ ⟨b0, b1, b2, b3, true, b5, false, b7, rfl, nofun, h73, _, _, _, _, _, _, rfl, HJ.out.alloc4 Lk.keeps Lk.keeps _⟩
      · obtain rfl : b5 = false := hn
        obtain rfl : b7 = false := by cases b7 with | false => rfl | true => exact absurd (h73 rfl).2 (by simp)
        clear J hd hi hi8 h73
        refine wpOp_step rfl (fun K hK => ?_)
        go_simp
        exact hK _ _ ⟨b0, b1, b2, b3, b4, true, b6, false, rfl, h61, nofun, _, _, _, _, _, _, rfl, HJ.out.alloc5 Lk.keeps Lk.keeps _⟩
      · obtain rfl : b4 = true := hd 4 (by simp)
        obtain rfl : b1 = true := hd 1 (by simp)
        obtain ⟨p, v0, v1, rfl, hp, c0, c1, f0, f1, _⟩ := J.p4 rfl
        obtain ⟨sb, so, sm, sc, rfl, _⟩ := Lk.opened (J.c1 rfl)
        clear J hd hi hi8 hn
        refine wpOp_step rfl (fun K hK => ?_)
        go_simp
        exact hK _ _ ⟨b0, true, b2, b3, true, b5, true, b7, rfl, fun _ => ⟨rfl, rfl⟩, h73, _, _, _, _, _, _, rfl, HJ.out.store6 Lk.keeps Lk.keeps nofun nofun⟩
      · obtain rfl : b5 = true := hd 5 (by simp)
        obtain rfl : b3 = true := hd 3 (by simp)
        obtain ⟨p, v0, v1, rfl, hp, c0, c1, f0, f1, _⟩ := J.p5 rfl
        obtain ⟨sb, so, sm, sc, rfl, _⟩ := Lk.opened (J.c3 rfl)
        clear J hd hi hi8 hn
        refine wpOp_step rfl (fun K hK => ?_)
        go_simp
        exact hK _ _ ⟨b0, b1, b2, true, b4, true, b6, true, rfl, h61, fun _ => ⟨rfl, rfl⟩, _, _, _, _, _, _, rfl, HJ.out.store7 Lk.keeps Lk.keeps nofun nofun⟩
    rintro L a w' hs ⟨b0, b1, b2, b3, b4, b5, b6, b7, rfl, _, _, s5, s6, s7, s8, s9, s10, rfl, J⟩ hr
    have hd := early_done (by kernel_rfl) hs hr 8
    obtain rfl : b1 = true := hd 1 (by omega) (by simp)
    obtain rfl : b3 = true := hd 3 (by omega) (by simp)
    obtain rfl : b4 = true := hd 4 (by omega) (by simp)
    obtain rfl : b5 = true := hd 5 (by omega) (by simp)
    obtain rfl : b6 = true := hd 6 (by omega) (by simp)
    obtain rfl : b7 = true := hd 7 (by omega) (by simp)
    obtain ⟨p, u0, u1, rfl, hp, c0, c1, f0, f1, _, _, hu⟩ := J.p4 rfl
    obtain ⟨q, t0, t1, rfl, hq, d0, d1, g0, g1, _, _, ht⟩ := J.p5 rfl
    have hpq := J.ne rfl rfl
    obtain rfl := hu rfl
    obtain rfl := ht rfl
    have hw := HB0.out.trans (J.bel.mono (by have := HB0.out.size; omega))
    have hbel := J.bel
    have H1 := J.c1 rfl
    have H2 := J.c3 rfl
    clear hd hr hs J
    go_wp2_with fail
    go_meet
    exact ⟨p, q, _, _, rfl, rfl, ⟨_, _, rfl, c0, c1⟩, ⟨_, _, rfl, d0, d1⟩, H1, H2, hbel⟩
  case rest =>
    obtain ⟨W1, rfl⟩ : ∃ W1, W1 = wc := ⟨_, rfl⟩
    obtain ⟨px, qx, _, _, rfl, rfl, ⟨_, _, rfl, px0, px1⟩, ⟨_, _, rfl, qx0, qx1⟩, hlx, hly, hlow⟩ := hcut
    obtain ⟨_, xo, xm, xc, exv, Hlx, Exb, Exm⟩ := Lk.opened hlx
    obtain ⟨_, yo, ym, yc, eyv, Hly, Eyb, Eym⟩ := Lk.opened hly
    cases exv
    cases eyv
    have exb := Exb.out; have eyb := Eyb.out
    subst exb; subst eyb
    rename_i na nb
    have hb1 : Below w.heap.size w W1 := HB0.out.trans (hlow.mono (by have := HB0.out.size; omega))
    have hpl := World.block_lt_of_cell? _ _ px0
    have hql := World.block_lt_of_cell? _ _ qx0
    have HX1 : Hid (∀ w', Below W1.heap.size W1 w' → (w'.cell? ⟨px, 0, none⟩ = some (.bool na) ∧ w'.cell? ⟨px, 1, none⟩ = some (.slice xo xm xc)) ∧ (w'.cell? ⟨qx, 0, none⟩ = some (.bool nb) ∧ w'.cell? ⟨qx, 1, none⟩ = some (.slice yo ym yc))) := hid (fun w' hb =>
      ⟨⟨(hb.cell hpl).trans px0, (hb.cell (p := ⟨px, 1, none⟩) hpl).trans px1⟩, (hb.cell hql).trans qx0, (hb.cell (p := ⟨qx, 1, none⟩) hql).trans qx1⟩)
    have HS1 : Hid (∀ w', Below W1.heap.size W1 w' → w'.cell? ⟨w.heap.size, 0, none⟩ = some (.bool na) ∧ w'.cell? ⟨w.heap.size, 1, none⟩ = some (.slice ao n ac) ∧ w'.cell? ⟨w.heap.size + 1, 0, none⟩ = some (.bool nb) ∧ w'.cell? ⟨w.heap.size + 1, 1, none⟩ = some (.slice bo m bc)) := hid (fun w' hb => HS.out _ (hlow.trans (hb.mono hlow.size)))
    have HB1 := hid hb1
    obtain ⟨x, hx⟩ : ∃ x, x = sgn na (val B32 WA) := ⟨_, rfl⟩
    obtain ⟨y, hy⟩ : ∃ y, y = sgn nb (val B32 WB) := ⟨_, rfl⟩
    have HAu : Hid (∀ w', Below w.heap.size w w' → Ai w' (.agg #[.bool na, .slice ao n ac]) x 40) := hid (fun w' hb => by rw [hx]; exact (Hu.out _ hb).ai DA.out hA)
    have HAv : Hid (∀ w', Below w.heap.size w w' → Ai w' (.agg #[.bool nb, .slice bo m bc]) y 40) := hid (fun w' hb => by rw [hy]; exact (Hv.out _ hb).ai DB.out hB)
    have Hx := hid hx; have Hy := hid hy
    clear hx hy hlx hly hlow hb1 hpl hql px0 px1 qx0 qx1 Exb Eyb HS HB0 Hz0
    go_upto_region 4 with (fail)
    go_cut [7, 8] from 15 (fun s5 s6 wx => ∃ p q vx vy, s5 = .pointer (some ⟨p, 0, none⟩) ∧ s6 = .pointer (some ⟨q, 0, none⟩) ∧ Ei2 W1 wx p q vx vy x y 80)
    case first =>
      refine region_inv (by kernel_rfl) (fun L a w' => ∃ b0 b1 b2 b3 b4 b5 b6 b7, L = #[b0, b1, b2, b3, b4, b5, b6, b7] ∧ (b6 = true → b1 = true ∧ b4 = true) ∧ (b7 = true → b3 = true ∧ b5 = true) ∧ ∃ s5 s6 s7 s8 s9 s10, a = { tmps := #[.agg #[.bool na, .slice ao n ac], .agg #[.bool nb, .slice bo m bc], .pointer (some ⟨w.heap.size, 0, none⟩), .pointer (some ⟨w.heap.size + 1, 0, none⟩), .bool false, .pointer (some ⟨px, 0, none⟩), .pointer (some ⟨qx, 0, none⟩), s5, s6, undef, undef, undef, undef, undef, undef, u15, u16, u17, u18, u19, u20, u21, u22, u23, u24, u25, u26, u27, u28, s7, s8, s9, s10, u33, u34, u35, u36, u37, u38, u39, u40, u41, u42, u43, u44, u45, u46, u47, u48, u49, u50, u51, u52, u53, u54, u55, u56, u57, u58, u59, u60, u61, u62, u63, u64, u65, u66, u67, u68, u69, u70, u71, u72, u73, u74, u75, u76, u77, u78, u79, u80, u81, u82, u83, u84, u85, u86, u87, u88, u89, u90, u91, u92, u93, u94, u95, u96, u97, u98, u99, u100, u101, u102, u103, u104, u105, u106, u107, u108, u109, u110, u111, u112, u113, u114, u115, u116, u117, u118, u119, u120, u121, u122, u123, u124, u125, u126, u127], defers := [] } ∧ PairJ .i64 (W1.heap.size) W1 (.agg #[.bool na, .slice ao n ac]) (.agg #[.bool nb, .slice bo m bc]) (fun w v => Zt w v x 80) (fun w v => Zt w v y 80) b0 b1 b2 b3 b4 b5 b6 b7 s5 s6 s7 s8 s9 s10 w') ?_ ?_ ?_
      · exact ⟨_, _, _, _, _, _, _, _, rfl, nofun, nofun, _, _, _, _, _, _, rfl, PairJ.start (Below.refl _ _).drew (by simp)⟩
      · rintro L a w' i hs ⟨b0, b1, b2, b3, b4, b5, b6, b7, rfl, h61, h73, s5, s6, s7, s8, s9, s10, rfl, J⟩ hi
        obtain ⟨hi, hn, hd⟩ := waits_spec (dep := [[], [0], [], [2], [], [], [4, 1], [5, 3]]) (by kernel_rfl) hi
        have hi8 : i < 8 := hi
        obtain ⟨k0, k1, k2, k3⟩ := HS1.out w' J.bel
        have HJ := hid J
        rcases (show i = 0 ∨ i = 1 ∨ i = 2 ∨ i = 3 ∨ i = 4 ∨ i = 5 ∨ i = 6 ∨ i = 7 by omega) with rfl | rfl | rfl | rfl | rfl | rfl | rfl | rfl
        · clear J hd hi hi8 hn
          refine wpOp_step rfl (fun K hK => ?_)
          go_simp
          exact hK _ _ ⟨true, b1, b2, b3, b4, b5, b6, b7, rfl, h61, h73, _, _, _, _, _, _, rfl, HJ.out.load0⟩
        · obtain rfl : b1 = false := hn
          obtain rfl : b6 = false := by cases b6 with | false => rfl | true => exact absurd (h61 rfl).1 (by simp)
          obtain rfl := J.l0 (hd 0 (by simp))
          have hw := HB1.out.trans (J.bel.mono (by have := HB1.out.size; omega))
          clear J hd hi hi8 h61
          refine wpOp_step rfl (fun K hK => ?_)
          go_simp
          refine (rfrom_any _ x 40 _ (HAu.out _ hw) (by decide)).mono ?_
          rintro e w1 ⟨v, rfl, hv, hb⟩
          exact hK _ _ ⟨b0, true, b2, b3, b4, b5, false, b7, rfl, nofun, h73, _, _, _, _, _, _, rfl, HJ.out.call1 Zt.keeps hb hv⟩
        · clear J hd hi hi8 hn
          refine wpOp_step rfl (fun K hK => ?_)
          go_simp
          exact hK _ _ ⟨b0, b1, true, b3, b4, b5, b6, b7, rfl, h61, h73, _, _, _, _, _, _, rfl, HJ.out.load2⟩
        · obtain rfl : b3 = false := hn
          obtain rfl : b7 = false := by cases b7 with | false => rfl | true => exact absurd (h73 rfl).1 (by simp)
          obtain rfl := J.l2 (hd 2 (by simp))
          have hw := HB1.out.trans (J.bel.mono (by have := HB1.out.size; omega))
          clear J hd hi hi8 h73
          refine wpOp_step rfl (fun K hK => ?_)
          go_simp
          refine (rfrom_any _ y 40 _ (HAv.out _ hw) (by decide)).mono ?_
          rintro e w1 ⟨v, rfl, hv, hb⟩
          exact hK _ _ ⟨b0, b1, b2, true, b4, b5, b6, false, rfl, h61, nofun, _, _, _, _, _, _, rfl, HJ.out.call3 Zt.keeps hb hv⟩
        · obtain rfl : b4 = false := hn
          obtain rfl : b6 = false := by cases b6 with | false => rfl | true => exact absurd (h61 rfl).2 (by simp)
          clear J hd hi hi8 h61
          refine wpOp_step rfl (fun K hK => ?_)
          go_simp
          exact hK _ _ ⟨b0, b1, b2, b3, true, b5, false, b7, rfl, nofun, h73, _, _, _, _, _, _, rfl, HJ.out.alloc4 Zt.keeps Zt.keeps _⟩
        · obtain rfl : b5 = false := hn
          obtain rfl : b7 = false := by cases b7 with | false => rfl | true => exact absurd (h73 rfl).2 (by simp)
          clear J hd hi hi8 h73
          refine wpOp_step rfl (fun K hK => ?_)
          go_simp
          exact hK _ _ ⟨b0, b1, b2, b3, b4, true, b6, false, rfl, h61, nofun, _, _, _, _, _, _, rfl, HJ.out.alloc5 Zt.keeps Zt.keeps _⟩
        · obtain rfl : b4 = true := hd 4 (by simp)
          obtain rfl : b1 = true := hd 1 (by simp)
          obtain ⟨p, v0, v1, rfl, hp, c0, c1, f0, f1, _⟩ := J.p4 rfl
          obtain ⟨sb, so, sm, sc, rfl, _⟩ := Zt.opened (J.c1 rfl)
          clear J hd hi hi8 hn
          refine wpOp_step rfl (fun K hK => ?_)
          go_simp
          exact hK _ _ ⟨b0, true, b2, b3, true, b5, true, b7, rfl, fun _ => ⟨rfl, rfl⟩, h73, _, _, _, _, _, _, rfl, HJ.out.store6 Zt.keeps Zt.keeps nofun nofun⟩
        · obtain rfl : b5 = true := hd 5 (by simp)
          obtain rfl : b3 = true := hd 3 (by simp)
          obtain ⟨p, v0, v1, rfl, hp, c0, c1, f0, f1, _⟩ := J.p5 rfl
          obtain ⟨sb, so, sm, sc, rfl, _⟩ := Zt.opened (J.c3 rfl)
          clear J hd hi hi8 hn
          refine wpOp_step rfl (fun K hK => ?_)
          go_simp
          exact hK _ _ ⟨b0, b1, b2, true, b4, true, b6, true, rfl, h61, fun _ => ⟨rfl, rfl⟩, _, _, _, _, _, _, rfl, HJ.out.store7 Zt.keeps Zt.keeps nofun nofun⟩
      rintro L a w' hs ⟨b0, b1, b2, b3, b4, b5, b6, b7, rfl, _, _, s5, s6, s7, s8, s9, s10, rfl, J⟩ hr
      have hd := early_done (by kernel_rfl) hs hr 8
      obtain rfl : b1 = true := hd 1 (by omega) (by simp)
      obtain rfl : b3 = true := hd 3 (by omega) (by simp)
      obtain rfl : b4 = true := hd 4 (by omega) (by simp)
      obtain rfl : b5 = true := hd 5 (by omega) (by simp)
      obtain rfl : b6 = true := hd 6 (by omega) (by simp)
      obtain rfl : b7 = true := hd 7 (by omega) (by simp)
      obtain ⟨p, u0, u1, rfl, hp, c0, c1, f0, f1, _, _, hu⟩ := J.p4 rfl
      obtain ⟨q, t0, t1, rfl, hq, d0, d1, g0, g1, _, _, ht⟩ := J.p5 rfl
      have hpq := J.ne rfl rfl
      obtain rfl := hu rfl
      obtain rfl := ht rfl
      have hw := HB1.out.trans (J.bel.mono (by have := HB1.out.size; omega))
      have hbel := J.bel
      have H1 := J.c1 rfl
      have H2 := J.c3 rfl
      clear hd hr hs J
      go_wp2_with fail
      go_meet
      exact ⟨p, q, _, _, rfl, rfl, ⟨_, _, rfl, c0, c1⟩, ⟨_, _, rfl, d0, d1⟩, H1, H2, hbel⟩
    case rest =>
      obtain ⟨W2, rfl⟩ : ∃ W2, W2 = wc := ⟨_, rfl⟩
      obtain ⟨pp, qq, _, _, rfl, rfl, ⟨_, _, rfl, pp0, pp1⟩, ⟨_, _, rfl, qq0, qq1⟩, hzx, hzy, hlow⟩ := hcut
      obtain ⟨pb, po, pm, pc, ezv, Hzx, Hzxs, Ezx⟩ := Zt.opened hzx
      obtain ⟨qb, qo, qm, qc, ewv, Hzy, Hzys, Ezy⟩ := Zt.opened hzy
      cases ezv
      cases ewv
      have hb2 : Below w.heap.size w W2 := HB1.out.trans (hlow.mono (by have := HB1.out.size; omega))
      have hpl := World.block_lt_of_cell? _ _ pp0
      have hql := World.block_lt_of_cell? _ _ qq0
      have HF : Hid (∀ w', Below W2.heap.size W2 w' → (w'.cell? ⟨pp, 0, none⟩ = some (.bool pb) ∧ w'.cell? ⟨pp, 1, none⟩ = some (.slice po pm pc)) ∧ (w'.cell? ⟨qq, 0, none⟩ = some (.bool qb) ∧ w'.cell? ⟨qq, 1, none⟩ = some (.slice qo qm qc)) ∧ (w'.cell? ⟨px, 0, none⟩ = some (.bool na) ∧ w'.cell? ⟨px, 1, none⟩ = some (.slice xo xm xc)) ∧ (w'.cell? ⟨qx, 0, none⟩ = some (.bool nb) ∧ w'.cell? ⟨qx, 1, none⟩ = some (.slice yo ym yc))) := hid (fun w' hb =>
        ⟨⟨(hb.cell hpl).trans pp0, (hb.cell (p := ⟨pp, 1, none⟩) hpl).trans pp1⟩, ⟨(hb.cell hql).trans qq0, (hb.cell (p := ⟨qq, 1, none⟩) hql).trans qq1⟩, HX1.out _ (hlow.trans (hb.mono hlow.size))⟩)
      have HS2 : Hid (∀ w', Below W2.heap.size W2 w' → w'.cell? ⟨w.heap.size, 0, none⟩ = some (.bool na) ∧ w'.cell? ⟨w.heap.size, 1, none⟩ = some (.slice ao n ac) ∧ w'.cell? ⟨w.heap.size + 1, 0, none⟩ = some (.bool nb) ∧ w'.cell? ⟨w.heap.size + 1, 1, none⟩ = some (.slice bo m bc)) := hid (fun w' hb => HS1.out _ (hlow.trans (hb.mono hlow.size)))
      have HKx : Hid (∀ w', Below W2.heap.size W2 w' → Lk w' (.agg #[.bool na, .slice xo xm xc]) na WA) := hid (fun w' hb => Hlx.out _ (hlow.trans (hb.mono hlow.size)))
      have HKy : Hid (∀ w', Below W2.heap.size W2 w' → Lk w' (.agg #[.bool nb, .slice yo ym yc]) nb WB) := hid (fun w' hb => Hly.out _ (hlow.trans (hb.mono hlow.size)))
      have HAx : Hid (∀ w', Below W2.heap.size W2 w' → Ai w' (.agg #[.bool na, .slice xo xm xc]) x 40) := hid (fun w' hb => by rw [Hx.out]; exact (HKx.out _ hb).ai DA.out hA)
      have HAy : Hid (∀ w', Below W2.heap.size W2 w' → Ai w' (.agg #[.bool nb, .slice yo ym yc]) y 40) := hid (fun w' hb => by rw [Hy.out]; exact (HKy.out _ hb).ai DB.out hB)
      have HB2 := hid hb2
      clear hzx hzy hlow hb2 hpl hql pp0 pp1 qq0 qq1 HS1 HB1 HX1 Hlx Hly
      go_upto_region 5 with (fail)
      have HXY : Hid (∀ w', Below W2.heap.size W2 w' → w'.cell? ⟨px, 0, none⟩ = some (.bool na) ∧ w'.cell? ⟨px, 1, none⟩ = some (.slice xo xm xc) ∧ w'.cell? ⟨qx, 0, none⟩ = some (.bool nb) ∧ w'.cell? ⟨qx, 1, none⟩ = some (.slice yo ym yc)) := hid (fun w' hb => ⟨(HF.out _ hb).2.2.1.1, (HF.out _ hb).2.2.1.2, (HF.out _ hb).2.2.2.1, (HF.out _ hb).2.2.2.2⟩)
      go_cut [9] from 15 (fun s9 wx => ∃ g, s9 = .slice (some ⟨g, 0, none⟩) 6 6 ∧ Ei3 W2 wx W2.heap.size g (zsI x y))
      case first =>
        go_region_held3 (fun w' => w'.cell? ⟨px, 0, none⟩ = some (.bool na) ∧ w'.cell? ⟨px, 1, none⟩ = some (.slice xo xm xc) ∧ w'.cell? ⟨qx, 0, none⟩ = some (.bool nb) ∧ w'.cell? ⟨qx, 1, none⟩ = some (.slice yo ym yc)) ((refine HXY.out _ ?_; first | assumption | exact Below.refl _ _ | exact (Below.refl _ _).drew | exact hB6.alloc hB6.size _)) (first
          | (go_at_call 8; refine (Normal_any _ x 40 _ (HAx.out _ ((Below.refl _ _).drew)) (by decide)).mono ?_; rintro e w1 ⟨_, rfl, hf1, hb1⟩; obtain ⟨b1, o1, m1, c1, rfl, H1⟩ := El.opened (FrA.el (B := W2.heap.size) hf1 (by decide) (by simp)); have hB1 : Below W2.heap.size W2 w1 := ((Below.refl _ _).drew).trans (hb1.mono (by simp)))
          | (go_at_call 9; refine (Neg_any _ x 40 _ (HAx.out _ hB1) (by decide)).mono ?_; rintro e w2 ⟨_, rfl, hf2, hb2⟩; obtain ⟨b2, o2, m2, c2, rfl, H2⟩ := El.opened (FrA.el (B := W2.heap.size) hf2 (by decide) hB1.size); have hB2 : Below W2.heap.size W2 w2 := hB1.trans (hb2.mono hB1.size))
          | (go_at_call 10; refine (Add_any _ _ x y 40 40 41 _ (HAx.out _ hB2) (HAy.out _ hB2) (by decide) (by decide) (by decide)).mono ?_; rintro e w3 ⟨_, rfl, hf3, hb3⟩; obtain ⟨b3, o3, m3, c3, rfl, H3⟩ := El.opened (FrA.el (B := W2.heap.size) hf3 (by decide) hB2.size); have hB3 : Below W2.heap.size W2 w3 := hB2.trans (hb3.mono hB2.size))
          | (go_at_call 11; refine (Sub_any _ _ x y 40 40 41 _ (HAx.out _ hB3) (HAy.out _ hB3) (by decide) (by decide) (by decide)).mono ?_; rintro e w4 ⟨_, rfl, hf4, hb4⟩; obtain ⟨b4, o4, m4, c4, rfl, H4⟩ := El.opened (FrA.el (B := W2.heap.size) hf4 (by decide) hB3.size); have hB4 : Below W2.heap.size W2 w4 := hB3.trans (hb4.mono hB3.size))
          | (go_at_call 12; refine (Mul_short _ _ x y 40 40 41 _ (HAx.out _ hB4) (HAy.out _ hB4) (by decide) (by decide) (by decide)).mono ?_; rintro e w5 ⟨_, rfl, hf5, hb5⟩; obtain ⟨b5, o5, m5, c5, rfl, H5⟩ := El.opened (FrA.el (B := W2.heap.size) hf5 (by decide) hB4.size); have hB5 : Below W2.heap.size W2 w5 := hB4.trans (hb5.mono hB4.size))
          | (go_at_call 13; refine (Gcd_any _ _ x y 40 _ (HAx.out _ hB5) (HAy.out _ hB5) (by decide)).mono ?_; rintro e w6 ⟨_, rfl, hf6, hb6⟩; obtain ⟨b6, o6, m6, c6, rfl, H6⟩ := El.opened (FrA.el (B := W2.heap.size) hf6 (by decide) hB5.size); have hB6 : Below W2.heap.size W2 w6 := hB5.trans (hb6.mono hB5.size)))
        obtain ⟨W7, hW7⟩ : ∃ W7, W7 = w6.alloc (.cells #[.bool b1, .slice o1 m1 c1, .bool b2, .slice o2 m2 c2, .bool b3, .slice o3 m3 c3, .bool b4, .slice o4 m4 c4, .bool b5, .slice o5 m5 c5, .bool b6, .slice o6 m6 c6] 24) := ⟨_, rfl⟩
        have hO : Obs 24 W7 w6.heap.size [.bool b1, .slice o1 m1 c1, .bool b2, .slice o2 m2 c2, .bool b3, .slice o3 m3 c3, .bool b4, .slice o4 m4 c4, .bool b5, .slice o5 m5 c5, .bool b6, .slice o6 m6 c6] := by rw [hW7]; exact Obs.new _ _ _
        have hBW : Below W2.heap.size W2 W7 := by rw [hW7]; exact hB6.alloc hB6.size _
        have hC6 : Below w6.heap.size w6 W7 := by rw [hW7]; exact (Below.refl _ _).alloc (Nat.le_refl _) _
        have hC5 : Below w5.heap.size w5 W7 := hb6.trans (hC6.mono hb6.size)
        have hC4 : Below w4.heap.size w4 W7 := hb5.trans (hC5.mono hb5.size)
        have hC3 : Below w3.heap.size w3 W7 := hb4.trans (hC4.mono hb4.size)
        have hC2 : Below w2.heap.size w2 W7 := hb3.trans (hC3.mono hb3.size)
        have hC1 : Below w1.heap.size w1 W7 := hb2.trans (hC2.mono hb2.size)
        have hE : Ei3 W2 W7 W2.heap.size w6.heap.size (zsI x y) := by
          refine ⟨fun i hi => ?_, hBW⟩
          rcases (show i = 0 ∨ i = 1 ∨ i = 2 ∨ i = 3 ∨ i = 4 ∨ i = 5 by omega) with rfl | rfl | rfl | rfl | rfl | rfl
          · exact ⟨b1, o1, m1, c1, hO.cell 0 _ rfl, hO.cell 1 _ rfl, H1.out _ hC1⟩
          · exact ⟨b2, o2, m2, c2, hO.cell 2 _ rfl, hO.cell 3 _ rfl, H2.out _ hC2⟩
          · exact ⟨b3, o3, m3, c3, hO.cell 4 _ rfl, hO.cell 5 _ rfl, H3.out _ hC3⟩
          · exact ⟨b4, o4, m4, c4, hO.cell 6 _ rfl, hO.cell 7 _ rfl, H4.out _ hC4⟩
          · exact ⟨b5, o5, m5, c5, hO.cell 8 _ rfl, hO.cell 9 _ rfl, H5.out _ hC5⟩
          · exact ⟨b6, o6, m6, c6, hO.cell 10 _ rfl, hO.cell 11 _ rfl, H6.out _ hC6⟩
        rw [← hW7]
        have HE := hid hE
        clear hE hO hC1 hC2 hC3 hC4 hC5 hC6 hBW hW7
        go_wp2_with fail
        go_meet
        exact ⟨_, rfl, HE.out⟩
      case rest =>
        obtain ⟨W3, rfl⟩ : ∃ W3, W3 = wc := ⟨_, rfl⟩
        obtain ⟨gl, rfl, HE3⟩ := hcut
        have hlow3 := HE3.low
        have HL3 := hid HE3
        clear HE3
        have Hzx2 : Hid (∀ w', Below W2.heap.size W2 w' → Zt w' (.agg #[.bool pb, .slice po pm pc]) x 80) := Hzx
        have Hzy2 : Hid (∀ w', Below W2.heap.size W2 w' → Zt w' (.agg #[.bool qb, .slice qo qm qc]) y 80) := Hzy
        have HPQ : Hid (∀ w', Below W2.heap.size W2 w' → w'.cell? ⟨pp, 0, none⟩ = some (.bool pb) ∧ w'.cell? ⟨pp, 1, none⟩ = some (.slice po pm pc) ∧ w'.cell? ⟨qq, 0, none⟩ = some (.bool qb) ∧ w'.cell? ⟨qq, 1, none⟩ = some (.slice qo qm qc)) := hid (fun w' hb => ⟨(HF.out _ hb).1.1, (HF.out _ hb).1.2, (HF.out _ hb).2.1.1, (HF.out _ hb).2.1.2⟩)
        go_upto_region 6 with (fail)
        go_cut [10] from 15 (fun s10 wx => ∃ g, s10 = .slice (some ⟨g, 0, none⟩) 6 6 ∧ Ei4 W2 wx W2.heap.size g (zsI x y) ∧ Below W3.heap.size W3 wx)
        case first =>
          go_region_held3 (fun w' => w'.cell? ⟨pp, 0, none⟩ = some (.bool pb) ∧ w'.cell? ⟨pp, 1, none⟩ = some (.slice po pm pc) ∧ w'.cell? ⟨qq, 0, none⟩ = some (.bool qb) ∧ w'.cell? ⟨qq, 1, none⟩ = some (.slice qo qm qc)) ((refine HPQ.out _ ?_; first | assumption | exact hlow3.drew | exact hB5.alloc hB5.size _)) (first
            | (go_at_call 14; refine (rneg_any _ x 80 _ (Hzx2.out _ (hlow3.drew))).mono ?_; rintro e w1 ⟨_, rfl, hz1, hb1⟩; obtain ⟨b1, o1, m1, c1, rfl, H1, _, _⟩ := Zt.opened hz1; have hB1 : Below W2.heap.size W2 w1 := (hlow3.drew).trans (hb1.mono hlow3.size))
            | (go_at_call 15; refine (radd_any _ _ x y 80 _ (Hzx2.out _ hB1) (Hzy2.out _ hB1) (by decide)).mono ?_; rintro e w2 ⟨_, rfl, hz2, hb2⟩; obtain ⟨b2, o2, m2, c2, rfl, H2, _, _⟩ := Zt.opened hz2; have hB2 : Below W2.heap.size W2 w2 := hB1.trans (hb2.mono hB1.size))
            | (go_at_call 16; refine (rsub_any _ _ x y 80 _ (Hzx2.out _ hB2) (Hzy2.out _ hB2) (by decide)).mono ?_; rintro e w3 ⟨_, rfl, hz3, hb3⟩; obtain ⟨b3, o3, m3, c3, rfl, H3, _, _⟩ := Zt.opened hz3; have hB3 : Below W2.heap.size W2 w3 := hB2.trans (hb3.mono hB2.size))
            | (go_at_call 17; refine (rmul_any _ _ x y 80 80 _ (Hzx2.out _ hB3) (Hzy2.out _ hB3) (by decide) (by decide)).mono ?_; rintro e w4 ⟨_, rfl, hz4, hb4⟩; obtain ⟨b4, o4, m4, c4, rfl, H4, _, _⟩ := Zt.opened hz4; have hB4 : Below W2.heap.size W2 w4 := hB3.trans (hb4.mono hB3.size))
            | (go_at_call 18; refine (rgcd_any _ _ x y 80 _ (Hzx2.out _ hB4) (Hzy2.out _ hB4) (by decide) (by decide)).mono ?_; rintro e w5 ⟨_, rfl, hz5, hb5⟩; obtain ⟨b5, o5, m5, c5, rfl, H5, _, _⟩ := Zt.opened hz5; have hB5 : Below W2.heap.size W2 w5 := hB4.trans (hb5.mono hB4.size)))
          obtain ⟨W7, hW7⟩ : ∃ W7, W7 = w5.alloc (.cells #[.bool pb, .slice po pm pc, .bool b1, .slice o1 m1 c1, .bool b2, .slice o2 m2 c2, .bool b3, .slice o3 m3 c3, .bool b4, .slice o4 m4 c4, .bool b5, .slice o5 m5 c5] 28) := ⟨_, rfl⟩
          have hO : Obs 28 W7 w5.heap.size [.bool pb, .slice po pm pc, .bool b1, .slice o1 m1 c1, .bool b2, .slice o2 m2 c2, .bool b3, .slice o3 m3 c3, .bool b4, .slice o4 m4 c4, .bool b5, .slice o5 m5 c5] := by rw [hW7]; exact Obs.new _ _ _
          have hBW : Below W2.heap.size W2 W7 := by rw [hW7]; exact hB5.alloc hB5.size _
          have hC5 : Below w5.heap.size w5 W7 := by rw [hW7]; exact (Below.refl _ _).alloc (Nat.le_refl _) _
          have hC4 : Below w4.heap.size w4 W7 := hb5.trans (hC5.mono hb5.size)
          have hC3 : Below w3.heap.size w3 W7 := hb4.trans (hC4.mono hb4.size)
          have hC2 : Below w2.heap.size w2 W7 := hb3.trans (hC3.mono hb3.size)
          have hC1 : Below w1.heap.size w1 W7 := hb2.trans (hC2.mono hb2.size)
          have hC0 : Below W3.heap.size W3 W7 := (Below.refl _ _).drew.trans (hb1.trans (hC1.mono hb1.size))
          have hE : Ei4 W2 W7 W2.heap.size w5.heap.size (zsI x y) := by
            refine ⟨fun i hi => ?_, hBW⟩
            rcases (show i = 0 ∨ i = 1 ∨ i = 2 ∨ i = 3 ∨ i = 4 ∨ i = 5 by omega) with rfl | rfl | rfl | rfl | rfl | rfl
            · exact ⟨pb, po, pm, pc, hO.cell 0 _ rfl, hO.cell 1 _ rfl, (Hzx2.out _ hBW).mono (by decide)⟩
            · exact ⟨b1, o1, m1, c1, hO.cell 2 _ rfl, hO.cell 3 _ rfl, (H1.out _ hC1).mono (by decide)⟩
            · exact ⟨b2, o2, m2, c2, hO.cell 4 _ rfl, hO.cell 5 _ rfl, (H2.out _ hC2).mono (by decide)⟩
            · exact ⟨b3, o3, m3, c3, hO.cell 6 _ rfl, hO.cell 7 _ rfl, by have h := (H3.out _ hC3).mono (show 81 ≤ 200 by decide); rw [Int.sub_eq_add_neg] at h; exact h⟩
            · exact ⟨b4, o4, m4, c4, hO.cell 8 _ rfl, hO.cell 9 _ rfl, (H4.out _ hC4).mono (by decide)⟩
            · exact ⟨b5, o5, m5, c5, hO.cell 10 _ rfl, hO.cell 11 _ rfl, (H5.out _ hC5).mono (by decide)⟩
          rw [← hW7]
          have HE := hid hE; have HC0 := hid hC0
          clear hE hO hC0 hC1 hC2 hC3 hC4 hC5 hBW hW7
          go_wp2_with fail
          go_meet
          exact ⟨_, rfl, HE.out, HC0.out⟩
        case rest =>
          obtain ⟨W4, rfl⟩ : ∃ W4, W4 = wc := ⟨_, rfl⟩
          obtain ⟨gm, rfl, HE4, hb34⟩ := hcut
          have hE3 : Ei3 W2 W4 W2.heap.size gl (zsI x y) := ⟨fun i hi => by
            obtain ⟨b, ao, m, c, e0, e1, hel⟩ := HL3.out.el i hi
            exact ⟨b, ao, m, c, (hb34.cell (World.block_lt_of_cell? _ _ e0)).trans e0, (hb34.cell (World.block_lt_of_cell? _ _ e1)).trans e1, hel.below hb34 (Nat.le_refl _)⟩, HE4.low⟩
          have H3 := hid hE3; have H4 := hid HE4
          clear hE3 HE4 hb34 HL3 hlow3 HXY
          go_wp2
          go_loopw [68] (fun iv wr => ∃ k : Nat, k ≤ 6 ∧ iv = .int .i64 k ∧ Below W4.heap.size W4 wr) (fun iv _ => 6 - (intOf iv).toNat)
          case atStart => exact ⟨0, by decide, rfl, Below.refl _ _⟩
          case round =>
            obtain ⟨k, hk, rfl, hlow⟩ := hrel
            by_cases hlt : k < 6
            · obtain ⟨b, eo, em, ec, e0, e1, hel⟩ := H3.out.el k hlt
              obtain ⟨fb, fo, fm, fc, f0, f1, hzt⟩ := H4.out.el k hlt
              have HE := hid hel; have HZ := hid hzt
              have l0 := World.block_lt_of_cell? _ _ e0
              have l1 := World.block_lt_of_cell? _ _ f0
              have HC : Hid (∀ w', Below W4.heap.size W4 w' → w'.cell? ⟨gl, k * 2, none⟩ = some (.bool b) ∧ w'.cell? ⟨gl, k * 2 + 1, none⟩ = some (.slice eo em ec) ∧ w'.cell? ⟨gm, k * 2, none⟩ = some (.bool fb) ∧ w'.cell? ⟨gm, k * 2 + 1, none⟩ = some (.slice fo fm fc)) := hid (fun w' hb => by
                rw [Nat.mul_comm]
                exact ⟨(hb.cell l0).trans e0, (hb.cell (p := ⟨gl, 2 * k + 1, none⟩) l0).trans e1, (hb.cell l1).trans f0, (hb.cell (p := ⟨gm, 2 * k + 1, none⟩) l1).trans f1⟩)
              have hk0 : (0 : Int) ≤ (k : Int) := by omega
              have hk6 : (k : Int) < 6 := by omega
              clear hel hzt e0 e1 f0 f1 l0 l1
              go_wp2
              go_region_held3 (fun w' => w'.cell? ⟨gl, k * 2, none⟩ = some (.bool b) ∧ w'.cell? ⟨gl, k * 2 + 1, none⟩ = some (.slice eo em ec) ∧ w'.cell? ⟨gm, k * 2, none⟩ = some (.bool fb) ∧ w'.cell? ⟨gm, k * 2 + 1, none⟩ = some (.slice fo fm fc)) ((refine HC.out _ ?_; first | assumption | exact hlow.drew)) (first
                | (go_at_call 19; refine (sameInt_any _ _ (zsI x y k) 200 200 _ (HE.out.below hlow.drew (Nat.le_refl _)).1 (HZ.out.below hlow.drew (Nat.le_refl _)) (by decide)).mono ?_; rintro e w1 ⟨rfl, hb1⟩; have hlow1 : Below W4.heap.size W4 w1 := hlow.drew.trans (hb1.mono hlow.size)))
              have HL1 := hid hlow1
              clear hb1 hlow1
              go_wp2
              go_roundw
              case rel => exact ⟨k + 1, by omega, by go_num, HL1.out⟩
              case measure => simp [intOf]; omega
            · have hge : ¬ (k : Int) < 6 := by omega
              have HSp0 := hid (Spd.of_below hlow H4.out.low.size)
              clear hlow
              go_wp2
              go_loopw [84] (fun iv wx => ∃ k : Nat, k ≤ 6 ∧ iv = .int .i64 k ∧ Spd W2.heap.size W4 wx) (fun iv _ => 6 - (intOf iv).toNat)
              case atStart => exact ⟨0, by decide, rfl, HSp0.out⟩
              case round =>
                obtain ⟨k, hk, rfl, hsp⟩ := hrel
                by_cases hlt : k < 6
                · obtain ⟨b, eo, em, ec, e0, e1, hel⟩ := H3.out.el k hlt
                  have c0 := hsp.cel _ _ e0 (fun x e => by cases e)
                  have c1 := hsp.cel _ _ e1 (fun x e => by cases e)
                  rw [Nat.mul_comm 2 k] at c0 c1
                  have hspo := spoil_any W2.heap.size _ _ (hel.2.spd hsp) (Nat.le_trans H4.out.low.size hsp.siz)
                  have HSpo := hid hspo; have HSp := hid hsp
                  have hk0 : (0 : Int) ≤ (k : Int) := by omega
                  have hk6 : (k : Int) < 6 := by omega
                  clear hel hspo hsp e0 e1 HSp0
                  go_wp2_with fail
                  refine HSpo.out.mono ?_
                  rintro e w1 ⟨rfl, hs1⟩
                  have HS1 := hid (HSp.out.trans hs1)
                  clear hs1
                  go_wp2
                  go_roundw
                  case rel => exact ⟨k + 1, by omega, by go_num, HS1.out⟩
                  case measure => simp [intOf]; omega
                · have hge : ¬ (k : Int) < 6 := by omega
                  have hl2 : Below W2.heap.size W2 wr := H4.out.low.trans hsp.low
                  have hadd := Add_any _ _ x y 40 40 41 wr (HAx.out _ hl2) (HAy.out _ hl2) (by decide) (by decide) (by decide)
                  obtain ⟨⟨pp0, pp1⟩, ⟨qq0, qq1⟩, ⟨px0, px1⟩, qx0, qx1⟩ := HF.out _ hl2
                  obtain ⟨fb, fo, fm, fc, f0, f1, hzt⟩ := H4.out.el 2 (by decide)
                  have g0 := hsp.cel _ _ f0 (fun x e => by cases e)
                  have g1 := hsp.cel _ _ f1 (fun x e => by cases e)
                  have hz5 := hzt.spd hsp
                  have HAd := hid hadd; have HL2 := hid hl2; have HZ5 := hid hz5; have HG := hid (And.intro g0 g1)
                  clear hadd hl2 hz5 hzt f0 f1 g0 g1 hsp HSp0
                  go_wp2_with fail
                  refine HAd.out.mono ?_
                  rintro e w1 ⟨_, rfl, hf1, hb1⟩
                  obtain ⟨b1, o1, m1, c1, rfl, H1⟩ := El.opened (FrA.el (B := 0) hf1 (by decide) (Nat.zero_le _))
                  obtain ⟨W6, hW6⟩ : ∃ W6, W6 = w1.alloc (.cells #[.bool b1, .slice o1 m1 c1] 24) := ⟨_, rfl⟩
                  have h16 : Below w1.heap.size w1 W6 := by rw [hW6]; exact (Below.refl _ _).alloc (Nat.le_refl _) _
                  have h56 : Below wr.heap.size wr W6 := hb1.trans (h16.mono hb1.size)
                  have hO : Obs 24 W6 w1.heap.size [.bool b1, .slice o1 m1 c1] := by rw [hW6]; exact Obs.new _ _ _
                  have HW6 := hid hW6
                  have H26 : Hid (Below W2.heap.size W2 W6) := hid (HL2.out.trans (h56.mono HL2.out.size))
                  have lO := hO.lt
                  have HALL : Hid (∀ w', Below W6.heap.size W6 w' → (w'.cell? ⟨px, 0, none⟩ = some (.bool na) ∧ w'.cell? ⟨px, 1, none⟩ = some (.slice xo xm xc) ∧ w'.cell? ⟨qx, 0, none⟩ = some (.bool nb) ∧ w'.cell? ⟨qx, 1, none⟩ = some (.slice yo ym yc)) ∧ (w'.cell? ⟨pp, 0, none⟩ = some (.bool pb) ∧ w'.cell? ⟨pp, 1, none⟩ = some (.slice po pm pc) ∧ w'.cell? ⟨qq, 0, none⟩ = some (.bool qb) ∧ w'.cell? ⟨qq, 1, none⟩ = some (.slice qo qm qc))) := hid (fun w' hb => by
                    have h := H26.out.trans (hb.mono H26.out.size)
                    obtain ⟨⟨a1, a2⟩, ⟨a3, a4⟩, ⟨a5, a6⟩, a7, a8⟩ := HF.out _ h
                    exact ⟨⟨a5, a6, a7, a8⟩, a1, a2, a3, a4⟩)
                  have HREST : Hid (∀ w', Below W6.heap.size W6 w' → (w'.cell? ⟨px, 0, none⟩ = some (.bool na) ∧ w'.cell? ⟨px, 1, none⟩ = some (.slice xo xm xc) ∧ w'.cell? ⟨qx, 0, none⟩ = some (.bool nb) ∧ w'.cell? ⟨qx, 1, none⟩ = some (.slice yo ym yc)) ∧ (w'.cell? ⟨w.heap.size, 0, none⟩ = some (.bool na) ∧ w'.cell? ⟨w.heap.size, 1, none⟩ = some (.slice ao n ac) ∧ w'.cell? ⟨w.heap.size + 1, 0, none⟩ = some (.bool nb) ∧ w'.cell? ⟨w.heap.size + 1, 1, none⟩ = some (.slice bo m bc)) ∧ (w'.cell? ⟨w1.heap.size, 0, none⟩ = some (.bool b1) ∧ w'.cell? ⟨w1.heap.size, 1, none⟩ = some (.slice o1 m1 c1)) ∧ (w'.cell? ⟨gm, 4, none⟩ = some (.bool fb) ∧ w'.cell? ⟨gm, 5, none⟩ = some (.slice fo fm fc))) := hid (fun w' hb => by
                    have h := H26.out.trans (hb.mono H26.out.size)
                    obtain ⟨_, _, ⟨a5, a6⟩, a7, a8⟩ := HF.out _ h
                    refine ⟨⟨a5, a6, a7, a8⟩, HS2.out _ h, ⟨(hb.cell lO).trans (hO.cell 0 _ rfl), (hb.cell (p := ⟨w1.heap.size, 1, none⟩) lO).trans (hO.cell 1 _ rfl)⟩, ?_⟩
                    have hh : Below wr.heap.size wr w' := h56.trans (hb.mono h56.size)
                    exact ⟨(hh.cell (World.block_lt_of_cell? _ _ HG.out.1)).trans HG.out.1, (hh.cell (World.block_lt_of_cell? _ _ HG.out.2)).trans HG.out.2⟩)
                  have HZ6 : Hid (Zt W6 (.agg #[.bool fb, .slice fo fm fc]) (x + y) 200) := hid (HZ5.out.below h56 (Nat.le_refl _))
                  have HA6 : Hid (An W6 (.agg #[.bool b1, .slice o1 m1 c1]) (x + y) 200) := hid (H1.out _ h16).1
                  clear hf1 hb1 h16 h56 hO hW6 lO HL2 HZ5 HG H1
                  go_upto_region 19 with (fail)
                  rw [← HW6.out]
                  clear HW6
                  go_cut [14] from 15 (fun s14 wy => s14 = .bool true ∧ Below W6.heap.size W6 wy)
                  case first =>
                    have HQ8 : Hid (∀ w', Below W6.heap.size W6 w' → w'.cell? ⟨px, 0, none⟩ = some (.bool na) ∧ w'.cell? ⟨px, 1, none⟩ = some (.slice xo xm xc) ∧ w'.cell? ⟨qx, 0, none⟩ = some (.bool nb) ∧ w'.cell? ⟨qx, 1, none⟩ = some (.slice yo ym yc) ∧ w'.cell? ⟨pp, 0, none⟩ = some (.bool pb) ∧ w'.cell? ⟨pp, 1, none⟩ = some (.slice po pm pc) ∧ w'.cell? ⟨qq, 0, none⟩ = some (.bool qb) ∧ w'.cell? ⟨qq, 1, none⟩ = some (.slice qo qm qc)) := hid (fun w' hb => by
                      obtain ⟨⟨a1, a2, a3, a4⟩, a5, a6, a7, a8⟩ := HALL.out _ hb
                      exact ⟨a1, a2, a3, a4, a5, a6, a7, a8⟩)
                    have HT6 : Hid (∀ w', Below W6.heap.size W6 w' → Below W2.heap.size W2 w') := hid (fun w' hb => H26.out.trans (hb.mono H26.out.size))
                    clear pp0 pp1 qq0 qq1 px0 px1 qx0 qx1
                    go_region_held3 (fun w' => w'.cell? ⟨px, 0, none⟩ = some (.bool na) ∧ w'.cell? ⟨px, 1, none⟩ = some (.slice xo xm xc) ∧ w'.cell? ⟨qx, 0, none⟩ = some (.bool nb) ∧ w'.cell? ⟨qx, 1, none⟩ = some (.slice yo ym yc) ∧ w'.cell? ⟨pp, 0, none⟩ = some (.bool pb) ∧ w'.cell? ⟨pp, 1, none⟩ = some (.slice po pm pc) ∧ w'.cell? ⟨qq, 0, none⟩ = some (.bool qb) ∧ w'.cell? ⟨qq, 1, none⟩ = some (.slice qo qm qc)) ((refine HQ8.out _ ?_; first | assumption | exact Below.refl _ _ | exact (Below.refl _ _).drew)) (first
                      | (go_at_call 21; refine (Sign_any _ x 40 _ (HAx.out _ (HT6.out _ (Below.refl _ _).drew)) (by decide)).mono ?_; rintro e v1 ⟨rfl, hb1⟩; have hC1 : Below W6.heap.size W6 v1 := (Below.refl _ _).drew.trans hb1)
                      | (go_at_call 22; refine (rsign_any _ x 80 _ (Hzx.out _ (HT6.out _ hC1))).mono ?_; rintro e v2 ⟨rfl, hb2⟩; have hC2 : Below W6.heap.size W6 v2 := hC1.trans (hb2.mono hC1.size))
                      | (go_at_call 23; refine (Cmp_any _ _ x y 40 40 _ (HAx.out _ (HT6.out _ hC2)) (HAy.out _ (HT6.out _ hC2)) (by decide) (by decide)).mono ?_; rintro e v3 ⟨rfl, hb3⟩; have hC3 : Below W6.heap.size W6 v3 := hC2.trans (hb3.mono hC2.size))
                      | (go_at_call 24; refine (rcmp_any _ _ x y 80 _ (Hzx.out _ (HT6.out _ hC3)) (Hzy.out _ (HT6.out _ hC3)) (by decide)).mono ?_; rintro e v4 ⟨rfl, hb4⟩; have hC4 : Below W6.heap.size W6 v4 := hC3.trans (hb4.mono hC3.size)))
                    have HC4 := hid hC4
                    clear hb1 hb2 hb3 hb4 hC1 hC2 hC3 hC4
                    go_wp2_with fail
                    go_meet
                    exact ⟨rfl, HC4.out⟩
                  case rest =>
                    obtain ⟨W7, rfl⟩ : ∃ W7, W7 = wc := ⟨_, rfl⟩
                    obtain ⟨rfl, h67⟩ := hcut
                    have HQR : Hid (∀ w', Below W7.heap.size W7 w' → w'.cell? ⟨px, 0, none⟩ = some (.bool na) ∧ w'.cell? ⟨px, 1, none⟩ = some (.slice xo xm xc) ∧ w'.cell? ⟨qx, 0, none⟩ = some (.bool nb) ∧ w'.cell? ⟨qx, 1, none⟩ = some (.slice yo ym yc) ∧ w'.cell? ⟨w.heap.size, 0, none⟩ = some (.bool na) ∧ w'.cell? ⟨w.heap.size, 1, none⟩ = some (.slice ao n ac) ∧ w'.cell? ⟨w.heap.size + 1, 0, none⟩ = some (.bool nb) ∧ w'.cell? ⟨w.heap.size + 1, 1, none⟩ = some (.slice bo m bc) ∧ w'.cell? ⟨w1.heap.size, 0, none⟩ = some (.bool b1) ∧ w'.cell? ⟨w1.heap.size, 1, none⟩ = some (.slice o1 m1 c1) ∧ w'.cell? ⟨gm, 4, none⟩ = some (.bool fb) ∧ w'.cell? ⟨gm, 5, none⟩ = some (.slice fo fm fc)) := hid (fun w' hb => by
                      obtain ⟨⟨a1, a2, a3, a4⟩, ⟨a5, a6, a7, a8⟩, ⟨a9, a10⟩, a11, a12⟩ := HREST.out _ (h67.trans (hb.mono h67.size))
                      exact ⟨a1, a2, a3, a4, a5, a6, a7, a8, a9, a10, a11, a12⟩)
                    have HT7 : Hid (∀ w', Below W7.heap.size W7 w' → Below W2.heap.size W2 w') := hid (fun w' hb => H26.out.trans ((h67.trans (hb.mono h67.size)).mono H26.out.size))
                    have HT8 : Hid (∀ w', Below W7.heap.size W7 w' → Below w.heap.size w w') := hid (fun w' hb => HB2.out.trans ((HT7.out _ hb).mono HB2.out.size))
                    have HA7 : Hid (∀ w', Below W7.heap.size W7 w' → An w' (.agg #[.bool b1, .slice o1 m1 c1]) (x + y) 200) := hid (fun w' hb => HA6.out.below (h67.trans (hb.mono h67.size)) (Nat.le_refl _))
                    have HZ7 : Hid (∀ w', Below W7.heap.size W7 w' → Zt w' (.agg #[.bool fb, .slice fo fm fc]) (x + y) 200) := hid (fun w' hb => HZ6.out.below (h67.trans (hb.mono h67.size)) (Nat.le_refl _))
                    clear h67 HREST HALL pp0 pp1 qq0 qq1 px0 px1 qx0 qx1
                    go_upto_region 20 with (fail)
                    go_region_held3 (fun w' => w'.cell? ⟨px, 0, none⟩ = some (.bool na) ∧ w'.cell? ⟨px, 1, none⟩ = some (.slice xo xm xc) ∧ w'.cell? ⟨qx, 0, none⟩ = some (.bool nb) ∧ w'.cell? ⟨qx, 1, none⟩ = some (.slice yo ym yc) ∧ w'.cell? ⟨w.heap.size, 0, none⟩ = some (.bool na) ∧ w'.cell? ⟨w.heap.size, 1, none⟩ = some (.slice ao n ac) ∧ w'.cell? ⟨w.heap.size + 1, 0, none⟩ = some (.bool nb) ∧ w'.cell? ⟨w.heap.size + 1, 1, none⟩ = some (.slice bo m bc) ∧ w'.cell? ⟨w1.heap.size, 0, none⟩ = some (.bool b1) ∧ w'.cell? ⟨w1.heap.size, 1, none⟩ = some (.slice o1 m1 c1) ∧ w'.cell? ⟨gm, 4, none⟩ = some (.bool fb) ∧ w'.cell? ⟨gm, 5, none⟩ = some (.slice fo fm fc)) ((refine HQR.out _ ?_; first | assumption | exact Below.refl _ _ | exact (Below.refl _ _).drew)) (first
                      | (go_at_call_of 25 (xo); refine (likeInt_any _ _ na WA _ (HKx.out _ (HT7.out _ (Below.refl _ _).drew)) (Hu.out _ (HT8.out _ (Below.refl _ _).drew))).mono ?_; rintro e v1 ⟨rfl, hb1⟩; have hC1 : Below W7.heap.size W7 v1 := (Below.refl _ _).drew.trans hb1)
                      | (go_at_call_of 25 (yo); refine (likeInt_any _ _ nb WB _ (HKy.out _ (HT7.out _ hC1)) (Hv.out _ (HT8.out _ hC1))).mono ?_; rintro e v2 ⟨rfl, hb2⟩; have hC2 : Below W7.heap.size W7 v2 := hC1.trans (hb2.mono hC1.size))
                      | (go_at_call 19; refine (sameInt_any _ _ (x + y) 200 200 _ (HA7.out _ hC2) (HZ7.out _ hC2) (by decide)).mono ?_; rintro e v3 ⟨rfl, hb3⟩; have hC3 : Below W7.heap.size W7 v3 := hC2.trans (hb3.mono hC2.size)))
                    have HFin := hid (HT8.out _ hC3)
                    clear hb1 hb2 hb3 hC1 hC2 hC3
                    go_wp2
                    go_ret
                    exact ⟨rfl, HFin.out⟩

end Go.Proofs.Ytbmdjimfncgomaa
