/- What the laws ask of a ratio and its error, the program's beside the document's: Over, Make, Whole; isRatio over both. The law ExactSmall, its walk. Written by gen_small.py. The law ExactSmall at any two arguments: it returns true, and what was there before stays. Where an argument has more than 24 words it returns ahead of everything else. -/
import Derived.Test.YtbmdjimfncgomaaSa15
import Derived.Test.YtbmdjimfncgomaaSa16
/- What the laws ask of a ratio and its error, the program's beside the document's: Over, Make, Whole; isRatio over both. -/
namespace Go.Proofs.Ytbmdjimfncgomaa
open Go.RowKit

/-- A ratio that the program gives back, with its error: that of n over d, in new memory. -/
def RatE (w : World) (B : Nat) (v : Value) (err n d : Int) : Prop := ∃ b1 o1 m1 c1 b2 o2 m2 c2, v = .agg #[.bool b1, .slice o1 m1 c1, .bool b2, .slice o2 m2 c2] ∧ Sp w B (.agg #[.bool b1, .slice o1 m1 c1]) ∧ Sp w B (.agg #[.bool b2, .slice o2 m2 c2]) ∧
  ((d ≠ 0 ∧ err = 0 ∧ An w (.agg #[.bool b1, .slice o1 m1 c1]) (n.fdiv (gsg n d)) 200 ∧ An w (.agg #[.bool b2, .slice o2 m2 c2]) (d.fdiv (gsg n d)) 200) ∨ (d = 0 ∧ err = 10 ∧ b1 = false ∧ m1 = 0 ∧ b2 = false ∧ m2 = 0))
/-- The document's. -/
def QotE (w : World) (q : Value) (err n d : Int) : Prop := ∃ b1 o1 m1 c1 b2 o2 m2 c2, q = .agg #[.bool b1, .slice o1 m1 c1, .bool b2, .slice o2 m2 c2] ∧
  ((d ≠ 0 ∧ err = 0 ∧ Zt w (.agg #[.bool b1, .slice o1 m1 c1]) (n.fdiv (gsg n d)) 200 ∧ Zt w (.agg #[.bool b2, .slice o2 m2 c2]) (d.fdiv (gsg n d)) 200) ∨ (d = 0 ∧ err = 10))
theorem RatE.below {w w' : World} {B B' : Nat} {v : Value} {err n d : Int} (h : RatE w B v err n d) (hb : Below B' w w') (hB : w.heap.size ≤ B') : RatE w' B v err n d := by
  obtain ⟨b1, o1, m1, c1, b2, o2, m2, c2, rfl, h1, h2, h3⟩ := h
  refine ⟨b1, o1, m1, c1, b2, o2, m2, c2, rfl, h1.below hb hB, h2.below hb hB, ?_⟩
  rcases h3 with ⟨a, b, c, d⟩ | h
  · exact Or.inl ⟨a, b, c.below hb hB, d.below hb hB⟩
  · exact Or.inr h
theorem QotE.below {w w' : World} {B' : Nat} {v : Value} {err n d : Int} (h : QotE w v err n d) (hb : Below B' w w') (hB : w.heap.size ≤ B') : QotE w' v err n d := by
  obtain ⟨b1, o1, m1, c1, b2, o2, m2, c2, rfl, h3⟩ := h
  refine ⟨b1, o1, m1, c1, b2, o2, m2, c2, rfl, ?_⟩
  rcases h3 with ⟨a, b, c, d⟩ | h
  · exact Or.inl ⟨a, b, c.below hb hB, d.below hb hB⟩
  · exact Or.inr h
theorem RatE.opened {w : World} {B : Nat} {v : Value} {err n d : Int} (h : RatE w B v err n d) : ∃ b1 o1 m1 c1 b2 o2 m2 c2, v = .agg #[.bool b1, .slice o1 m1 c1, .bool b2, .slice o2 m2 c2] ∧ Hid (∀ w', Below w.heap.size w w' → RatE w' B (.agg #[.bool b1, .slice o1 m1 c1, .bool b2, .slice o2 m2 c2]) err n d) := by
  have h' := h
  obtain ⟨b1, o1, m1, c1, b2, o2, m2, c2, rfl, _⟩ := h
  exact ⟨b1, o1, m1, c1, b2, o2, m2, c2, rfl, hid (fun w' hb => h'.below hb (Nat.le_refl _))⟩
theorem QotE.opened {w : World} {v : Value} {err n d : Int} (h : QotE w v err n d) : ∃ b1 o1 m1 c1 b2 o2 m2 c2, v = .agg #[.bool b1, .slice o1 m1 c1, .bool b2, .slice o2 m2 c2] ∧ Hid (∀ w', Below w.heap.size w w' → QotE w' (.agg #[.bool b1, .slice o1 m1 c1, .bool b2, .slice o2 m2 c2]) err n d) := by
  have h' := h
  obtain ⟨b1, o1, m1, c1, b2, o2, m2, c2, rfl, _⟩ := h
  exact ⟨b1, o1, m1, c1, b2, o2, m2, c2, rfl, hid (fun w' hb => h'.below hb (Nat.le_refl _))⟩
theorem sp_empty (w : World) (B : Nat) (b : Bool) : Sp w B (.agg #[.bool b, .slice none 0 0]) := ⟨b, none, 0, 0, rfl, by decide, Nat.le_refl _, by decide, fun h => by omega⟩
theorem FrR.rat {w1 w : World} {v : Value} {x y n d : Int} {K B : Nat} (h : FrR w1 w v x y K) (hK : K ≤ 200) (hB : B ≤ w1.heap.size) (hd : d ≠ 0) (hx : x = n.fdiv (gsg n d)) (hy : y = d.fdiv (gsg n d)) : RatE w B v 0 n d := by
  obtain ⟨b1, o1, m1, c1, b2, o2, m2, c2, rfl, H1, H2⟩ := FrR.opened h
  have e1 := FrA.el H1.out hK hB
  have e2 := FrA.el H2.out hK hB
  rw [hx] at e1
  rw [hy] at e2
  exact ⟨b1, o1, m1, c1, b2, o2, m2, c2, rfl, e1.2, e2.2, Or.inl ⟨hd, rfl, e1.1, e2.1⟩⟩
theorem rat_zero (w : World) (B : Nat) (n : Int) : RatE w B (.agg #[.bool false, .slice none 0 0, .bool false, .slice none 0 0]) 10 n 0 :=
  ⟨_, _, _, _, _, _, _, _, rfl, sp_empty w B _, sp_empty w B _, Or.inr ⟨rfl, rfl, rfl, rfl, rfl, rfl⟩⟩

theorem over_res (n d : Int) (w : World) (B : Nat) (hB : B ≤ w.heap.size) (n0 : -9223372036854775808 ≤ n) (n1 : n < 9223372036854775808) (d0 : -9223372036854775808 ≤ d) (d1 : d < 9223372036854775808) :
    Calls Try.prog 33 #[.int .i64 n, .int .i64 d] w fun e w' => ∃ f err, e = .returned (.tuple #[f, .int .i64 err]) ∧ RatE w' B f err n d ∧ Below w.heap.size w w' := by
  by_cases hd : d = 0
  · subst hd
    refine (Over_zero n w n0 n1).mono ?_
    rintro e w' ⟨rfl, hb⟩
    exact ⟨_, _, rfl, rat_zero _ _ _, hb⟩
  · refine (Over_any n d w n0 n1 d0 d1 hd).mono ?_
    rintro e w' ⟨f, rfl, hf, hb⟩
    exact ⟨_, _, rfl, hf.rat (by decide) hB hd (low_same n d hd).1 (low_same n d hd).2, hb⟩
theorem make_res (u v : Value) (x y : Int) (w : World) (B : Nat) (hB : B ≤ w.heap.size) (hu : Ai w u x 24) (hv : Ai w v y 24) :
    Calls Try.prog 36 #[u, v] w fun e w' => ∃ f err, e = .returned (.tuple #[f, .int .i64 err]) ∧ RatE w' B f err x y ∧ Below w.heap.size w w' := by
  by_cases hd : y = 0
  · subst hd
    refine (Make_zero u v x 24 w hu hv (by decide)).mono ?_
    rintro e w' ⟨rfl, hb⟩
    exact ⟨_, _, rfl, rat_zero _ _ _, hb⟩
  · refine (Make_any u v x y 24 w hu hv hd (by decide)).mono ?_
    rintro e w' ⟨f, rfl, hf, hb⟩
    exact ⟨_, _, rfl, hf.rat (by decide) hB hd (low_same x y hd).1 (low_same x y hd).2, hb⟩
theorem rmake_res (u v : Value) (n d : Int) (K : Nat) (w : World) (hu : Zt w u n K) (hv : Zt w v d K) (hK4 : 4 ≤ K) (hK : K ≤ 100) :
    Calls Try.prog 34 #[u, v] w fun e w' => ∃ q err, e = .returned (.tuple #[q, .int .i64 err]) ∧ QotE w' q err n d ∧ Below w.heap.size w w' := by
  by_cases hd : d = 0
  · subst hd
    refine (rmake_zero u v n K w hu hv).mono ?_
    rintro e w' ⟨rfl, hb⟩
    exact ⟨_, _, rfl, ⟨_, _, _, _, _, _, _, _, rfl, Or.inr ⟨rfl, rfl⟩⟩, hb⟩
  · refine (rmake_any u v n d K w hu hv hd (by omega) hK4).mono ?_
    rintro e w' ⟨f, rfl, ⟨b1, o1, m1, c1, b2, o2, m2, c2, rfl, h1, h2⟩, hb⟩
    exact ⟨_, _, rfl, ⟨_, _, _, _, _, _, _, _, rfl, Or.inl ⟨hd, rfl, h1.mono (by omega), h2.mono (by omega)⟩⟩, hb⟩
theorem isRatio_res (v q : Value) (e f n d : Int) (B : Nat) (w : World) (hv : RatE w B v e n d) (hq : QotE w q f n d) :
    Calls Try.prog 40 #[v, .int .i64 e, q, .int .i64 f] w fun e w' => e = .returned (.bool true) ∧ Below w.heap.size w w' := by
  obtain ⟨b1, o1, m1, c1, b2, o2, m2, c2, rfl, _, _, h3⟩ := hv
  obtain ⟨p1, q1, n1, d1, p2, q2, n2, d2, rfl, g3⟩ := hq
  rcases h3 with ⟨hd, rfl, a1, a2⟩ | ⟨hd, rfl, rfl, rfl, rfl, rfl⟩
  · rcases g3 with ⟨_, rfl, z1, z2⟩ | ⟨h0, _⟩
    · exact isRatio_same _ _ _ _ 200 200 w ⟨_, _, _, _, _, _, _, _, rfl, a1, a2⟩ ⟨_, _, _, _, _, _, _, _, rfl, z1, z2⟩ (by decide)
    · exact absurd h0 hd
  · rcases g3 with ⟨h0, _⟩ | ⟨_, rfl⟩
    · exact absurd hd h0
    · exact isRatio_none o1 o2 c1 c2 10 w (by decide) _ ⟨_, _, _, _, _, _, _, _, rfl⟩
theorem whole_res (u : Value) (x : Int) (w : World) (B : Nat) (hB : B ≤ w.heap.size) (hu : Ai w u x 24) :
    Calls Try.prog 37 #[u] w fun e w' => ∃ f, e = .returned f ∧ RatE w' B f 0 x 1 ∧ Below w.heap.size w w' := by
  refine (Whole_any u x 24 w hu (by decide)).mono ?_
  rintro e w' ⟨f, rfl, hf, hb⟩
  have hl := low_same x 1 (by decide)
  have hr : ratN x 1 = x := by unfold ratN sgn; by_cases h : x < 0 <;> simp [h] <;> omega
  rw [hr] at hl
  exact ⟨_, rfl, hf.rat (by decide) hB (by decide) hl.1 hl.2, hb⟩
theorem RatE.rt {w : World} {B : Nat} {v : Value} {x : Int} (h : RatE w B v 0 x 1) : Rt w v x 1 200 := by
  obtain ⟨b1, o1, m1, c1, b2, o2, m2, c2, rfl, _, _, h3⟩ := h
  have hg : gsg x 1 = 1 := by unfold gsg; simp
  rcases h3 with ⟨_, _, a1, a2⟩ | ⟨h, _⟩
  · rw [hg, Int.fdiv_one] at a1 a2
    exact ⟨b1, o1, m1, c1, b2, o2, m2, c2, rfl, a1, a2⟩
  · exact absurd h (by decide)
theorem RatE.sps {w : World} {B : Nat} {b1 b2 : Bool} {o1 o2 : Option Addr} {m1 c1 m2 c2 : Nat} {err n d : Int} (h : RatE w B (.agg #[.bool b1, .slice o1 m1 c1, .bool b2, .slice o2 m2 c2]) err n d) : Sp w B (.agg #[.bool b1, .slice o1 m1 c1]) ∧ Sp w B (.agg #[.bool b2, .slice o2 m2 c2]) := by
  obtain ⟨p1, q1, n1, d1, p2, q2, n2, d2, e, h1, h2, _⟩ := h
  injection e with e
  simp at e
  obtain ⟨rfl, ⟨rfl, rfl, rfl⟩, rfl, rfl, rfl, rfl⟩ := e
  exact ⟨h1, h2⟩
end Go.Proofs.Ytbmdjimfncgomaa

/- The law ExactSmall, its walk. Written by gen_small.py. -/
namespace Go.Proofs.Ytbmdjimfncgomaa
open Go.RowKit

set_option maxRecDepth 100000 in
set_option maxHeartbeats 16000000 in
theorem exactSmall_walk (en ed : Int) (u v : Value) (na nb : Bool) (WA WB : List Int) (w : World) (hu : Lk w u na WA) (hv : Lk w v nb WB) (dA : Dig B32 WA) (dB : Dig B32 WB) (hA : WA.length ≤ 24) (hB : WB.length ≤ 24) (n0 : -9223372036854775808 ≤ en) (n1 : en < 9223372036854775808) (d0 : -9223372036854775808 ≤ ed) (d1 : ed < 9223372036854775808) :
    Calls Try.prog 5 #[.int .i64 en, .int .i64 ed, u, v] w fun e w' => e = .returned (.bool true) ∧ Below w.heap.size w w' := by
  obtain ⟨_, ao, n, ac, rfl, Hu, Ena, En⟩ := Lk.opened hu
  obtain ⟨_, bo, m, bc, rfl, Hv, Enb, Em⟩ := Lk.opened hv
  have ena := Ena.out; have enb := Enb.out
  subst ena; subst enb
  rename_i na nb
  have hn : n ≤ 24 := by have := En.out; omega
  have hm : m ≤ 24 := by have := Em.out; omega
  have hWA : WA.length ≤ 1073741824 := by omega
  have hWB : WB.length ≤ 1073741824 := by omega
  have DA := hid dA; have DB := hid dB
  clear hu hv Ena Enb dA dB
  go_enter Try.func5, Try.ntmps5
  go_upto_region 3 with (fail)
  obtain ⟨W0, hW0⟩ : ∃ W0, W0 = ((w.alloc (.cells #[.bool na, .slice ao n ac] 24)).alloc (.cells #[.bool nb, .slice bo m bc] 24)) := ⟨_, rfl⟩
  have hB0 : Below w.heap.size w W0 := by rw [hW0]; exact ((Below.refl _ _).alloc (Nat.le_refl _) _).alloc (by simp) _
  have hz0 : W0.heap.size = w.heap.size + 2 := by rw [hW0]; simp
  have HS : Hid (∀ w', Below W0.heap.size W0 w' → w'.cell? ⟨w.heap.size, 0, none⟩ = some (.bool na) ∧ w'.cell? ⟨w.heap.size, 1, none⟩ = some (.slice ao n ac) ∧ w'.cell? ⟨w.heap.size + 1, 0, none⟩ = some (.bool nb) ∧ w'.cell? ⟨w.heap.size + 1, 1, none⟩ = some (.slice bo m bc)) := hid (fun w' hb => by
    refine ⟨?_, ?_, ?_, ?_⟩ <;> (rw [hb.cell (by rw [hz0]; simp), hW0]; simp [go_sem]))
  rw [← hW0]
  clear hW0
  have HB0 := hid hB0; have Hz0 := hid hz0
  clear hB0 hz0
  go_cut [9, 10] from 31 (fun s5 s6 wx => ∃ p q vx vy, s5 = .pointer (some ⟨p, 0, none⟩) ∧ s6 = .pointer (some ⟨q, 0, none⟩) ∧ Ei1 W0 wx p q vx vy na nb WA WB)
  case first =>
    refine region_inv (by kernel_rfl) (fun L a w' => ∃ b0 b1 b2 b3 b4 b5 b6 b7, L = #[b0, b1, b2, b3, b4, b5, b6, b7] ∧ (b6 = true → b1 = true ∧ b4 = true) ∧ (b7 = true → b3 = true ∧ b5 = true) ∧ ∃ s5 s6 s7 s8 s9 s10, a = { tmps := #[.int .i64 en, .int .i64 ed, .agg #[.bool na, .slice ao n ac], .agg #[.bool nb, .slice bo m bc], undef, undef, .pointer (some ⟨w.heap.size, 0, none⟩), .pointer (some ⟨w.heap.size + 1, 0, none⟩), .bool false, s5, s6, undef, undef, undef, undef, undef, undef, undef, undef, undef, undef, undef, undef, undef, undef, undef, undef, undef, undef, undef, undef, .pointer (some ⟨w.heap.size, 1, none⟩), .slice ao n ac, .int .i64 (n : Int), .bool (decide (24 < (n : Int))), .bool (decide (24 < (n : Int))), .pointer (some ⟨w.heap.size + 1, 1, none⟩), .slice bo m bc, .int .i64 (m : Int), .bool (decide (24 < (m : Int))), .bool (decide (24 < (n : Int)) || decide (24 < (m : Int))), s7, s8, s9, s10, undef, undef, undef, undef, undef, undef, undef, undef, undef, undef, undef, undef, undef, undef, undef, undef, undef, undef, undef, undef, undef, undef, undef, undef, undef, undef, undef, undef, undef, undef, undef, undef, undef, undef, undef, undef, undef, undef, undef, undef, undef, undef, undef, undef, undef, undef, undef, undef, undef, undef, undef, undef, undef, undef, undef, undef, undef, undef, undef, undef, undef, undef, undef, undef, undef, undef, undef, undef, undef, undef, undef, undef, undef, undef, undef, undef, undef, undef, undef, undef, undef, undef, undef, undef, undef, undef, undef, undef, undef, undef, undef, undef, undef, undef, undef, undef, undef, undef, undef, undef, undef, undef, undef, undef, undef, undef, undef, undef, undef, undef, undef, undef, undef, undef, undef], defers := [] } ∧ PairJ .u32 (W0.heap.size) W0 (.agg #[.bool na, .slice ao n ac]) (.agg #[.bool nb, .slice bo m bc]) (fun w v => Lk w v na WA) (fun w v => Lk w v nb WB) b0 b1 b2 b3 b4 b5 b6 b7 s5 s6 s7 s8 s9 s10 w') ?_ ?_ ?_
    · exact ⟨_, _, _, _, _, _, _, _, rfl, nofun, nofun, _, _, _, _, _, _, rfl, PairJ.start (Below.refl _ _).drew (by simp)⟩
    · rintro L a w' i hs ⟨b0, b1, b2, b3, b4, b5, b6, b7, rfl, h61, h73, s5, s6, s7, s8, s9, s10, rfl, J⟩ hi
      obtain ⟨hi, hn, hd⟩ := waits_spec (dep := [[], [0], [], [2], [], [], [4, 1], [5, 3]]) (by kernel_rfl) hi
      have hi8 : i < 8 := hi
      obtain ⟨k0, k1, k2, k3⟩ := HS.out w' J.bel
      have HJ := hid J
      rcases (show i = 0 ∨ i = 1 ∨ i = 2 ∨ i = 3 ∨ i = 4 ∨ i = 5 ∨ i = 6 ∨ i = 7 by omega) with rfl | rfl | rfl | rfl | rfl | rfl | rfl | rfl
      · clear J hd hi hi8 hn
        refine wpOp_step rfl (fun K hK => ?_)
        go_simp
        exact hK _ _ ⟨true, b1, b2, b3, b4, b5, b6, b7, rfl, h61, h73, _, _, _, _, _, _, rfl, HJ.out.load0⟩
      · obtain rfl : b1 = false := hn
        obtain rfl : b6 = false := by cases b6 with | false => rfl | true => exact absurd (h61 rfl).1 (by simp)
        obtain rfl := J.l0 (hd 0 (by simp))
        have hw := HB0.out.trans (J.bel.mono (by have := HB0.out.size; omega))
        clear J hd hi hi8 h61
        refine wpOp_step rfl (fun K hK => ?_)
        go_simp
        refine (own_any _ na WA _ (Hu.out _ hw) hWA).mono ?_
        rintro e w1 ⟨v, rfl, hv, hb⟩
        exact hK _ _ ⟨b0, true, b2, b3, b4, b5, false, b7, rfl, nofun, h73, _, _, _, _, _, _, rfl, HJ.out.call1 Lk.keeps hb hv⟩
      · clear J hd hi hi8 hn
        refine wpOp_step rfl (fun K hK => ?_)
        go_simp
        exact hK _ _ ⟨b0, b1, true, b3, b4, b5, b6, b7, rfl, h61, h73, _, _, _, _, _, _, rfl, HJ.out.load2⟩
      · obtain rfl : b3 = false := hn
        obtain rfl : b7 = false := by cases b7 with | false => rfl | true => exact absurd (h73 rfl).1 (by simp)
        obtain rfl := J.l2 (hd 2 (by simp))
        have hw := HB0.out.trans (J.bel.mono (by have := HB0.out.size; omega))
        clear J hd hi hi8 h73
        refine wpOp_step rfl (fun K hK => ?_)
        go_simp
        refine (own_any _ nb WB _ (Hv.out _ hw) hWB).mono ?_
        rintro e w1 ⟨v, rfl, hv, hb⟩
        exact hK _ _ ⟨b0, b1, b2, true, b4, b5, b6, false, rfl, h61, nofun, _, _, _, _, _, _, rfl, HJ.out.call3 Lk.keeps hb hv⟩
      · obtain rfl : b4 = false := hn
        obtain rfl : b6 = false := by cases b6 with | false => rfl | true => exact absurd (h61 rfl).2 (by simp)
        clear J hd hi hi8 h61
        refine wpOp_step rfl (fun K hK => ?_)
        go_simp
        exact hK _ _ ⟨b0, b1, b2, b3, true, b5, false, b7, rfl, nofun, h73, _, _, _, _, _, _, rfl, HJ.out.alloc4 Lk.keeps Lk.keeps _⟩
      · obtain rfl : b5 = false := hn
        obtain rfl : b7 = false := by cases b7 with | false => rfl | true => exact absurd (h73 rfl).2 (by simp)
        clear J hd hi hi8 h73
        refine wpOp_step rfl (fun K hK => ?_)
        go_simp
        exact hK _ _ ⟨b0, b1, b2, b3, b4, true, b6, false, rfl, h61, nofun, _, _, _, _, _, _, rfl, HJ.out.alloc5 Lk.keeps Lk.keeps _⟩
      · obtain rfl : b4 = true := hd 4 (by simp)
        obtain rfl : b1 = true := hd 1 (by simp)
        obtain ⟨p, v0, v1, rfl, hp, c0, c1, f0, f1, _⟩ := J.p4 rfl
        obtain ⟨sb, so, sm, sc, rfl, _⟩ := Lk.opened (J.c1 rfl)
        clear J hd hi hi8 hn
        refine wpOp_step rfl (fun K hK => ?_)
        go_simp
        exact hK _ _ ⟨b0, true, b2, b3, true, b5, true, b7, rfl, fun _ => ⟨rfl, rfl⟩, h73, _, _, _, _, _, _, rfl, HJ.out.store6 Lk.keeps Lk.keeps nofun nofun⟩
      · obtain rfl : b5 = true := hd 5 (by simp)
        obtain rfl : b3 = true := hd 3 (by simp)
        obtain ⟨p, v0, v1, rfl, hp, c0, c1, f0, f1, _⟩ := J.p5 rfl
        obtain ⟨sb, so, sm, sc, rfl, _⟩ := Lk.opened (J.c3 rfl)
        clear J hd hi hi8 hn
        refine wpOp_step rfl (fun K hK => ?_)
        go_simp
        exact hK _ _ ⟨b0, b1, b2, true, b4, true, b6, true, rfl, h61, fun _ => ⟨rfl, rfl⟩, _, _, _, _, _, _, rfl, HJ.out.store7 Lk.keeps Lk.keeps nofun nofun⟩
    rintro L a w' hs ⟨b0, b1, b2, b3, b4, b5, b6, b7, rfl, _, _, s5, s6, s7, s8, s9, s10, rfl, J⟩ hr
    have hd := early_done (by kernel_rfl) hs hr 8
    obtain rfl : b1 = true := hd 1 (by omega) (by simp)
    obtain rfl : b3 = true := hd 3 (by omega) (by simp)
    obtain rfl : b4 = true := hd 4 (by omega) (by simp)
    obtain rfl : b5 = true := hd 5 (by omega) (by simp)
    obtain rfl : b6 = true := hd 6 (by omega) (by simp)
    obtain rfl : b7 = true := hd 7 (by omega) (by simp)
    obtain ⟨p, u0, u1, rfl, hp, c0, c1, f0, f1, _, _, hu⟩ := J.p4 rfl
    obtain ⟨q, t0, t1, rfl, hq, d0, d1, g0, g1, _, _, ht⟩ := J.p5 rfl
    have hpq := J.ne rfl rfl
    obtain rfl := hu rfl
    obtain rfl := ht rfl
    have hw := HB0.out.trans (J.bel.mono (by have := HB0.out.size; omega))
    have hbel := J.bel
    have H1 := J.c1 rfl
    have H2 := J.c3 rfl
    clear hd hr hs J
    go_wp2_with fail
    go_meet
    exact ⟨p, q, _, _, rfl, rfl, ⟨_, _, rfl, c0, c1⟩, ⟨_, _, rfl, d0, d1⟩, H1, H2, hbel⟩
  case rest =>
    obtain ⟨W1, rfl⟩ : ∃ W1, W1 = wc := ⟨_, rfl⟩
    obtain ⟨px, qx, _, _, rfl, rfl, ⟨_, _, rfl, px0, px1⟩, ⟨_, _, rfl, qx0, qx1⟩, hlx, hly, hlow⟩ := hcut
    obtain ⟨_, xo, xm, xc, exv, Hlx, Exb, Exm⟩ := Lk.opened hlx
    obtain ⟨_, yo, ym, yc, eyv, Hly, Eyb, Eym⟩ := Lk.opened hly
    cases exv
    cases eyv
    have exb := Exb.out; have eyb := Eyb.out
    subst exb; subst eyb
    rename_i na nb
    have hb1 : Below w.heap.size w W1 := HB0.out.trans (hlow.mono (by have := HB0.out.size; omega))
    have hpl := World.block_lt_of_cell? _ _ px0
    have hql := World.block_lt_of_cell? _ _ qx0
    have HX1 : Hid (∀ w', Below W1.heap.size W1 w' → (w'.cell? ⟨px, 0, none⟩ = some (.bool na) ∧ w'.cell? ⟨px, 1, none⟩ = some (.slice xo xm xc)) ∧ (w'.cell? ⟨qx, 0, none⟩ = some (.bool nb) ∧ w'.cell? ⟨qx, 1, none⟩ = some (.slice yo ym yc))) := hid (fun w' hb =>
      ⟨⟨(hb.cell hpl).trans px0, (hb.cell (p := ⟨px, 1, none⟩) hpl).trans px1⟩, (hb.cell hql).trans qx0, (hb.cell (p := ⟨qx, 1, none⟩) hql).trans qx1⟩)
    have HS1 : Hid (∀ w', Below W1.heap.size W1 w' → w'.cell? ⟨w.heap.size, 0, none⟩ = some (.bool na) ∧ w'.cell? ⟨w.heap.size, 1, none⟩ = some (.slice ao n ac) ∧ w'.cell? ⟨w.heap.size + 1, 0, none⟩ = some (.bool nb) ∧ w'.cell? ⟨w.heap.size + 1, 1, none⟩ = some (.slice bo m bc)) := hid (fun w' hb => HS.out _ (hlow.trans (hb.mono hlow.size)))
    have HB1 := hid hb1
    obtain ⟨x, hx⟩ : ∃ x, x = sgn na (val B32 WA) := ⟨_, rfl⟩
    obtain ⟨y, hy⟩ : ∃ y, y = sgn nb (val B32 WB) := ⟨_, rfl⟩
    have HAu : Hid (∀ w', Below w.heap.size w w' → Ai w' (.agg #[.bool na, .slice ao n ac]) x 24) := hid (fun w' hb => by rw [hx]; exact (Hu.out _ hb).ai DA.out hA)
    have HAv : Hid (∀ w', Below w.heap.size w w' → Ai w' (.agg #[.bool nb, .slice bo m bc]) y 24) := hid (fun w' hb => by rw [hy]; exact (Hv.out _ hb).ai DB.out hB)
    have Hx := hid hx; have Hy := hid hy
    clear hx hy hlx hly hlow hb1 hpl hql px0 px1 qx0 qx1 Exb Eyb HS HB0 Hz0
    go_upto_region 4 with (fail)
    go_cut [11, 12] from 31 (fun s5 s6 wx => ∃ p q vx vy, s5 = .pointer (some ⟨p, 0, none⟩) ∧ s6 = .pointer (some ⟨q, 0, none⟩) ∧ Ei2 W1 wx p q vx vy x y 48)
    case first =>
      refine region_inv (by kernel_rfl) (fun L a w' => ∃ b0 b1 b2 b3 b4 b5 b6 b7, L = #[b0, b1, b2, b3, b4, b5, b6, b7] ∧ (b6 = true → b1 = true ∧ b4 = true) ∧ (b7 = true → b3 = true ∧ b5 = true) ∧ ∃ s5 s6 s7 s8 s9 s10, a = { tmps := #[.int .i64 en, .int .i64 ed, .agg #[.bool na, .slice ao n ac], .agg #[.bool nb, .slice bo m bc], undef, undef, .pointer (some ⟨w.heap.size, 0, none⟩), .pointer (some ⟨w.heap.size + 1, 0, none⟩), .bool false, .pointer (some ⟨px, 0, none⟩), .pointer (some ⟨qx, 0, none⟩), s5, s6, undef, undef, undef, undef, undef, undef, undef, undef, undef, undef, undef, undef, undef, undef, undef, undef, undef, undef, u31, u32, u33, u34, u35, u36, u37, u38, u39, u40, u41, u42, u43, u44, s7, s8, s9, s10, u49, u50, u51, u52, u53, u54, u55, u56, u57, u58, u59, u60, u61, u62, u63, u64, u65, u66, u67, u68, u69, u70, u71, u72, u73, u74, u75, u76, u77, u78, u79, u80, u81, u82, u83, u84, u85, u86, u87, u88, u89, u90, u91, u92, u93, u94, u95, u96, u97, u98, u99, u100, u101, u102, u103, u104, u105, u106, u107, u108, u109, u110, u111, u112, u113, u114, u115, u116, u117, u118, u119, u120, u121, u122, u123, u124, u125, u126, u127, u128, u129, u130, u131, u132, u133, u134, u135, u136, u137, u138, u139, u140, u141, u142, u143, u144, u145, u146, u147, u148, u149, u150, u151, u152, u153, u154, u155, u156, u157, u158, u159], defers := [] } ∧ PairJ .i64 (W1.heap.size) W1 (.agg #[.bool na, .slice ao n ac]) (.agg #[.bool nb, .slice bo m bc]) (fun w v => Zt w v x 48) (fun w v => Zt w v y 48) b0 b1 b2 b3 b4 b5 b6 b7 s5 s6 s7 s8 s9 s10 w') ?_ ?_ ?_
      · exact ⟨_, _, _, _, _, _, _, _, rfl, nofun, nofun, _, _, _, _, _, _, rfl, PairJ.start (Below.refl _ _).drew (by simp)⟩
      · rintro L a w' i hs ⟨b0, b1, b2, b3, b4, b5, b6, b7, rfl, h61, h73, s5, s6, s7, s8, s9, s10, rfl, J⟩ hi
        obtain ⟨hi, hn, hd⟩ := waits_spec (dep := [[], [0], [], [2], [], [], [4, 1], [5, 3]]) (by kernel_rfl) hi
        have hi8 : i < 8 := hi
        obtain ⟨k0, k1, k2, k3⟩ := HS1.out w' J.bel
        have HJ := hid J
        rcases (show i = 0 ∨ i = 1 ∨ i = 2 ∨ i = 3 ∨ i = 4 ∨ i = 5 ∨ i = 6 ∨ i = 7 by omega) with rfl | rfl | rfl | rfl | rfl | rfl | rfl | rfl
        · clear J hd hi hi8 hn
          refine wpOp_step rfl (fun K hK => ?_)
          go_simp
          exact hK _ _ ⟨true, b1, b2, b3, b4, b5, b6, b7, rfl, h61, h73, _, _, _, _, _, _, rfl, HJ.out.load0⟩
        · obtain rfl : b1 = false := hn
          obtain rfl : b6 = false := by cases b6 with | false => rfl | true => exact absurd (h61 rfl).1 (by simp)
          obtain rfl := J.l0 (hd 0 (by simp))
          have hw := HB1.out.trans (J.bel.mono (by have := HB1.out.size; omega))
          clear J hd hi hi8 h61
          refine wpOp_step rfl (fun K hK => ?_)
          go_simp
          refine (rfrom_any _ x 24 _ (HAu.out _ hw) (by decide)).mono ?_
          rintro e w1 ⟨v, rfl, hv, hb⟩
          exact hK _ _ ⟨b0, true, b2, b3, b4, b5, false, b7, rfl, nofun, h73, _, _, _, _, _, _, rfl, HJ.out.call1 Zt.keeps hb hv⟩
        · clear J hd hi hi8 hn
          refine wpOp_step rfl (fun K hK => ?_)
          go_simp
          exact hK _ _ ⟨b0, b1, true, b3, b4, b5, b6, b7, rfl, h61, h73, _, _, _, _, _, _, rfl, HJ.out.load2⟩
        · obtain rfl : b3 = false := hn
          obtain rfl : b7 = false := by cases b7 with | false => rfl | true => exact absurd (h73 rfl).1 (by simp)
          obtain rfl := J.l2 (hd 2 (by simp))
          have hw := HB1.out.trans (J.bel.mono (by have := HB1.out.size; omega))
          clear J hd hi hi8 h73
          refine wpOp_step rfl (fun K hK => ?_)
          go_simp
          refine (rfrom_any _ y 24 _ (HAv.out _ hw) (by decide)).mono ?_
          rintro e w1 ⟨v, rfl, hv, hb⟩
          exact hK _ _ ⟨b0, b1, b2, true, b4, b5, b6, false, rfl, h61, nofun, _, _, _, _, _, _, rfl, HJ.out.call3 Zt.keeps hb hv⟩
        · obtain rfl : b4 = false := hn
          obtain rfl : b6 = false := by cases b6 with | false => rfl | true => exact absurd (h61 rfl).2 (by simp)
          clear J hd hi hi8 h61
          refine wpOp_step rfl (fun K hK => ?_)
          go_simp
          exact hK _ _ ⟨b0, b1, b2, b3, true, b5, false, b7, rfl, nofun, h73, _, _, _, _, _, _, rfl, HJ.out.alloc4 Zt.keeps Zt.keeps _⟩
        · obtain rfl : b5 = false := hn
          obtain rfl : b7 = false := by cases b7 with | false => rfl | true => exact absurd (h73 rfl).2 (by simp)
          clear J hd hi hi8 h73
          refine wpOp_step rfl (fun K hK => ?_)
          go_simp
          exact hK _ _ ⟨b0, b1, b2, b3, b4, true, b6, false, rfl, h61, nofun, _, _, _, _, _, _, rfl, HJ.out.alloc5 Zt.keeps Zt.keeps _⟩
        · obtain rfl : b4 = true := hd 4 (by simp)
          obtain rfl : b1 = true := hd 1 (by simp)
          obtain ⟨p, v0, v1, rfl, hp, c0, c1, f0, f1, _⟩ := J.p4 rfl
          obtain ⟨sb, so, sm, sc, rfl, _⟩ := Zt.opened (J.c1 rfl)
          clear J hd hi hi8 hn
          refine wpOp_step rfl (fun K hK => ?_)
          go_simp
          exact hK _ _ ⟨b0, true, b2, b3, true, b5, true, b7, rfl, fun _ => ⟨rfl, rfl⟩, h73, _, _, _, _, _, _, rfl, HJ.out.store6 Zt.keeps Zt.keeps nofun nofun⟩
        · obtain rfl : b5 = true := hd 5 (by simp)
          obtain rfl : b3 = true := hd 3 (by simp)
          obtain ⟨p, v0, v1, rfl, hp, c0, c1, f0, f1, _⟩ := J.p5 rfl
          obtain ⟨sb, so, sm, sc, rfl, _⟩ := Zt.opened (J.c3 rfl)
          clear J hd hi hi8 hn
          refine wpOp_step rfl (fun K hK => ?_)
          go_simp
          exact hK _ _ ⟨b0, b1, b2, true, b4, true, b6, true, rfl, h61, fun _ => ⟨rfl, rfl⟩, _, _, _, _, _, _, rfl, HJ.out.store7 Zt.keeps Zt.keeps nofun nofun⟩
      rintro L a w' hs ⟨b0, b1, b2, b3, b4, b5, b6, b7, rfl, _, _, s5, s6, s7, s8, s9, s10, rfl, J⟩ hr
      have hd := early_done (by kernel_rfl) hs hr 8
      obtain rfl : b1 = true := hd 1 (by omega) (by simp)
      obtain rfl : b3 = true := hd 3 (by omega) (by simp)
      obtain rfl : b4 = true := hd 4 (by omega) (by simp)
      obtain rfl : b5 = true := hd 5 (by omega) (by simp)
      obtain rfl : b6 = true := hd 6 (by omega) (by simp)
      obtain rfl : b7 = true := hd 7 (by omega) (by simp)
      obtain ⟨p, u0, u1, rfl, hp, c0, c1, f0, f1, _, _, hu⟩ := J.p4 rfl
      obtain ⟨q, t0, t1, rfl, hq, d0, d1, g0, g1, _, _, ht⟩ := J.p5 rfl
      have hpq := J.ne rfl rfl
      obtain rfl := hu rfl
      obtain rfl := ht rfl
      have hw := HB1.out.trans (J.bel.mono (by have := HB1.out.size; omega))
      have hbel := J.bel
      have H1 := J.c1 rfl
      have H2 := J.c3 rfl
      clear hd hr hs J
      go_wp2_with fail
      go_meet
      exact ⟨p, q, _, _, rfl, rfl, ⟨_, _, rfl, c0, c1⟩, ⟨_, _, rfl, d0, d1⟩, H1, H2, hbel⟩
    case rest =>
      obtain ⟨W2, rfl⟩ : ∃ W2, W2 = wc := ⟨_, rfl⟩
      obtain ⟨pp, qq, _, _, rfl, rfl, ⟨_, _, rfl, pp0, pp1⟩, ⟨_, _, rfl, qq0, qq1⟩, hzx, hzy, hlow⟩ := hcut
      obtain ⟨pb, po, pm, pc, ezv, Hzx, Hzxs, Ezx⟩ := Zt.opened hzx
      obtain ⟨qb, qo, qm, qc, ewv, Hzy, Hzys, Ezy⟩ := Zt.opened hzy
      cases ezv
      cases ewv
      have hb2 : Below w.heap.size w W2 := HB1.out.trans (hlow.mono (by have := HB1.out.size; omega))
      have hpl := World.block_lt_of_cell? _ _ pp0
      have hql := World.block_lt_of_cell? _ _ qq0
      have HF : Hid (∀ w', Below W2.heap.size W2 w' → (w'.cell? ⟨pp, 0, none⟩ = some (.bool pb) ∧ w'.cell? ⟨pp, 1, none⟩ = some (.slice po pm pc)) ∧ (w'.cell? ⟨qq, 0, none⟩ = some (.bool qb) ∧ w'.cell? ⟨qq, 1, none⟩ = some (.slice qo qm qc)) ∧ (w'.cell? ⟨px, 0, none⟩ = some (.bool na) ∧ w'.cell? ⟨px, 1, none⟩ = some (.slice xo xm xc)) ∧ (w'.cell? ⟨qx, 0, none⟩ = some (.bool nb) ∧ w'.cell? ⟨qx, 1, none⟩ = some (.slice yo ym yc))) := hid (fun w' hb =>
        ⟨⟨(hb.cell hpl).trans pp0, (hb.cell (p := ⟨pp, 1, none⟩) hpl).trans pp1⟩, ⟨(hb.cell hql).trans qq0, (hb.cell (p := ⟨qq, 1, none⟩) hql).trans qq1⟩, HX1.out _ (hlow.trans (hb.mono hlow.size))⟩)
      have HS2 : Hid (∀ w', Below W2.heap.size W2 w' → w'.cell? ⟨w.heap.size, 0, none⟩ = some (.bool na) ∧ w'.cell? ⟨w.heap.size, 1, none⟩ = some (.slice ao n ac) ∧ w'.cell? ⟨w.heap.size + 1, 0, none⟩ = some (.bool nb) ∧ w'.cell? ⟨w.heap.size + 1, 1, none⟩ = some (.slice bo m bc)) := hid (fun w' hb => HS1.out _ (hlow.trans (hb.mono hlow.size)))
      have HKx : Hid (∀ w', Below W2.heap.size W2 w' → Lk w' (.agg #[.bool na, .slice xo xm xc]) na WA) := hid (fun w' hb => Hlx.out _ (hlow.trans (hb.mono hlow.size)))
      have HKy : Hid (∀ w', Below W2.heap.size W2 w' → Lk w' (.agg #[.bool nb, .slice yo ym yc]) nb WB) := hid (fun w' hb => Hly.out _ (hlow.trans (hb.mono hlow.size)))
      have HAx : Hid (∀ w', Below W2.heap.size W2 w' → Ai w' (.agg #[.bool na, .slice xo xm xc]) x 24) := hid (fun w' hb => by rw [Hx.out]; exact (HKx.out _ hb).ai DA.out hA)
      have HAy : Hid (∀ w', Below W2.heap.size W2 w' → Ai w' (.agg #[.bool nb, .slice yo ym yc]) y 24) := hid (fun w' hb => by rw [Hy.out]; exact (HKy.out _ hb).ai DB.out hB)
      have HB2 := hid hb2
      clear hzx hzy hlow hb2 hpl hql pp0 pp1 qq0 qq1 HS1 HB1 HX1 Hlx Hly
      go_upto_region 5 with (fail)
      have HXY : Hid (∀ w', Below W2.heap.size W2 w' → w'.cell? ⟨px, 0, none⟩ = some (.bool na) ∧ w'.cell? ⟨px, 1, none⟩ = some (.slice xo xm xc) ∧ w'.cell? ⟨qx, 0, none⟩ = some (.bool nb) ∧ w'.cell? ⟨qx, 1, none⟩ = some (.slice yo ym yc)) := hid (fun w' hb => ⟨(HF.out _ hb).2.2.1.1, (HF.out _ hb).2.2.1.2, (HF.out _ hb).2.2.2.1, (HF.out _ hb).2.2.2.2⟩)
      have HPQ : Hid (∀ w', Below W2.heap.size W2 w' → w'.cell? ⟨pp, 0, none⟩ = some (.bool pb) ∧ w'.cell? ⟨pp, 1, none⟩ = some (.slice po pm pc) ∧ w'.cell? ⟨qq, 0, none⟩ = some (.bool qb) ∧ w'.cell? ⟨qq, 1, none⟩ = some (.slice qo qm qc)) := hid (fun w' hb => ⟨(HF.out _ hb).1.1, (HF.out _ hb).1.2, (HF.out _ hb).2.1.1, (HF.out _ hb).2.1.2⟩)
      go_wp2_with fail
      refine (over_res en ed W2 W2.heap.size (Nat.le_refl _) n0 n1 d0 d1).mono ?_
      rintro e wa ⟨_, e13, rfl, hr, hba⟩
      obtain ⟨b13, o13, m13, c13, B13, O13, M13, C13, rfl, HR13⟩ := RatE.opened hr
      go_upto_region 6 with (fail)
      obtain ⟨W3, hW3⟩ : ∃ W3, W3 = wa.alloc (.cells #[.bool b13, .slice o13 m13 c13, .bool B13, .slice O13 M13 C13] 56) := ⟨_, rfl⟩
      have hal : Below wa.heap.size wa W3 := by rw [hW3]; exact (Below.refl _ _).alloc (Nat.le_refl _) _
      have hz : W3.heap.size = wa.heap.size + 1 := by rw [hW3]; simp
      have hpw : Below W2.heap.size W2 W3 := (hba).trans (hal.mono (hba).size)
      have HC13 : Hid (∀ w', Below W3.heap.size W3 w' → w'.cell? ⟨wa.heap.size, 0, none⟩ = some (.bool b13) ∧ w'.cell? ⟨wa.heap.size, 1, none⟩ = some (.slice o13 m13 c13) ∧ w'.cell? ⟨wa.heap.size, 2, none⟩ = some (.bool B13) ∧ w'.cell? ⟨wa.heap.size, 3, none⟩ = some (.slice O13 M13 C13)) := hid (fun w' hb => by
        refine ⟨?_, ?_, ?_, ?_⟩ <;> (rw [hb.cell (by rw [hz]; simp), hW3]; simp [go_sem]))
      have H2W3 : Hid (Below W2.heap.size W2 W3) := hid (hpw)
      have HL13 := hid hal; have HNW3 := hid hpw
      rw [← hW3]
      clear hW3 hal hz hpw
      clear hr hba
      go_wp2_with fail
      refine (rof_any en W3 n0 n1).mono ?_
      rintro e wb ⟨vb, rfl, hvb, hbb⟩
      go_wp2_with fail
      refine (rof_any ed wb d0 d1).mono ?_
      rintro e wc1 ⟨vc, rfl, hvc, hbc⟩
      go_wp2_with fail
      refine (rmake_res vb vc en ed 4 wc1 (hvb.below hbc (Nat.le_refl _)) hvc (by decide) (by decide)).mono ?_
      rintro e wd ⟨_, e15, rfl, hq, hbd⟩
      have hbW : Below W3.heap.size W3 wd := hbb.trans ((hbc.mono hbb.size).trans (hbd.mono (by have := hbb.size; have := hbc.size; omega)))
      obtain ⟨b15, o15, m15, c15, B15, O15, M15, C15, rfl, HR15⟩ := QotE.opened hq
      go_upto_region 7 with (fail)
      obtain ⟨W4, hW4⟩ : ∃ W4, W4 = wd.alloc (.cells #[.bool b15, .slice o15 m15 c15, .bool B15, .slice O15 M15 C15] 60) := ⟨_, rfl⟩
      have hal : Below wd.heap.size wd W4 := by rw [hW4]; exact (Below.refl _ _).alloc (Nat.le_refl _) _
      have hz : W4.heap.size = wd.heap.size + 1 := by rw [hW4]; simp
      have hpw : Below W3.heap.size W3 W4 := (hbW).trans (hal.mono (hbW).size)
      have HC15 : Hid (∀ w', Below W4.heap.size W4 w' → w'.cell? ⟨wd.heap.size, 0, none⟩ = some (.bool b15) ∧ w'.cell? ⟨wd.heap.size, 1, none⟩ = some (.slice o15 m15 c15) ∧ w'.cell? ⟨wd.heap.size, 2, none⟩ = some (.bool B15) ∧ w'.cell? ⟨wd.heap.size, 3, none⟩ = some (.slice O15 M15 C15)) := hid (fun w' hb => by
        refine ⟨?_, ?_, ?_, ?_⟩ <;> (rw [hb.cell (by rw [hz]; simp), hW4]; simp [go_sem]))
      have H2W4 : Hid (Below W2.heap.size W2 W4) := hid (H2W3.out.trans (hpw.mono H2W3.out.size))
      have HL15 := hid hal; have HNW4 := hid hpw
      rw [← hW4]
      clear hW4 hal hz hpw
      clear hq hbb hbc hbd hbW hvb hvc
      obtain ⟨k0, k1, k2, k3⟩ := HXY.out _ H2W4.out
      go_wp2_with fail
      refine (make_res _ _ x y W4 W2.heap.size H2W4.out.size (HAx.out _ H2W4.out) (HAy.out _ H2W4.out)).mono ?_
      rintro e we ⟨_, e17, rfl, hr, hbe⟩
      obtain ⟨b17, o17, m17, c17, B17, O17, M17, C17, rfl, HR17⟩ := RatE.opened hr
      clear k0 k1 k2 k3
      go_upto_region 8 with (fail)
      obtain ⟨W5, hW5⟩ : ∃ W5, W5 = we.alloc (.cells #[.bool b17, .slice o17 m17 c17, .bool B17, .slice O17 M17 C17] 56) := ⟨_, rfl⟩
      have hal : Below we.heap.size we W5 := by rw [hW5]; exact (Below.refl _ _).alloc (Nat.le_refl _) _
      have hz : W5.heap.size = we.heap.size + 1 := by rw [hW5]; simp
      have hpw : Below W4.heap.size W4 W5 := (hbe).trans (hal.mono (hbe).size)
      have HC17 : Hid (∀ w', Below W5.heap.size W5 w' → w'.cell? ⟨we.heap.size, 0, none⟩ = some (.bool b17) ∧ w'.cell? ⟨we.heap.size, 1, none⟩ = some (.slice o17 m17 c17) ∧ w'.cell? ⟨we.heap.size, 2, none⟩ = some (.bool B17) ∧ w'.cell? ⟨we.heap.size, 3, none⟩ = some (.slice O17 M17 C17)) := hid (fun w' hb => by
        refine ⟨?_, ?_, ?_, ?_⟩ <;> (rw [hb.cell (by rw [hz]; simp), hW5]; simp [go_sem]))
      have H2W5 : Hid (Below W2.heap.size W2 W5) := hid (H2W4.out.trans (hpw.mono H2W4.out.size))
      have HL17 := hid hal; have HNW5 := hid hpw
      rw [← hW5]
      clear hW5 hal hz hpw
      clear hr hbe
      obtain ⟨k0, k1, k2, k3⟩ := HPQ.out _ H2W5.out
      go_wp2_with fail
      refine (rmake_res _ _ x y 48 W5 (Hzx.out _ H2W5.out) (Hzy.out _ H2W5.out) (by decide) (by decide)).mono ?_
      rintro e wf ⟨_, e19, rfl, hq, hbf⟩
      obtain ⟨b19, o19, m19, c19, B19, O19, M19, C19, rfl, HR19⟩ := QotE.opened hq
      clear k0 k1 k2 k3
      go_upto_region 9 with (fail)
      obtain ⟨W6, hW6⟩ : ∃ W6, W6 = wf.alloc (.cells #[.bool b19, .slice o19 m19 c19, .bool B19, .slice O19 M19 C19] 60) := ⟨_, rfl⟩
      have hal : Below wf.heap.size wf W6 := by rw [hW6]; exact (Below.refl _ _).alloc (Nat.le_refl _) _
      have hz : W6.heap.size = wf.heap.size + 1 := by rw [hW6]; simp
      have hpw : Below W5.heap.size W5 W6 := (hbf).trans (hal.mono (hbf).size)
      have HC19 : Hid (∀ w', Below W6.heap.size W6 w' → w'.cell? ⟨wf.heap.size, 0, none⟩ = some (.bool b19) ∧ w'.cell? ⟨wf.heap.size, 1, none⟩ = some (.slice o19 m19 c19) ∧ w'.cell? ⟨wf.heap.size, 2, none⟩ = some (.bool B19) ∧ w'.cell? ⟨wf.heap.size, 3, none⟩ = some (.slice O19 M19 C19)) := hid (fun w' hb => by
        refine ⟨?_, ?_, ?_, ?_⟩ <;> (rw [hb.cell (by rw [hz]; simp), hW6]; simp [go_sem]))
      have H2W6 : Hid (Below W2.heap.size W2 W6) := hid (H2W5.out.trans (hpw.mono H2W5.out.size))
      have HL19 := hid hal; have HNW6 := hid hpw
      rw [← hW6]
      clear hW6 hal hz hpw
      clear hq hbf
      obtain ⟨k0, k1, k2, k3⟩ := HXY.out _ H2W6.out
      go_wp2_with fail
      refine (whole_res _ x W6 W2.heap.size H2W6.out.size (HAx.out _ H2W6.out)).mono ?_
      rintro e wg ⟨_, rfl, hr, hbg⟩
      obtain ⟨b21, o21, m21, c21, B21, O21, M21, C21, rfl, HR21⟩ := RatE.opened hr
      clear k0 k1 k2 k3
      go_upto_region 10 with (fail)
      obtain ⟨W7, hW7⟩ : ∃ W7, W7 = wg.alloc (.cells #[.bool b21, .slice o21 m21 c21, .bool B21, .slice O21 M21 C21] 56) := ⟨_, rfl⟩
      have hal : Below wg.heap.size wg W7 := by rw [hW7]; exact (Below.refl _ _).alloc (Nat.le_refl _) _
      have hz : W7.heap.size = wg.heap.size + 1 := by rw [hW7]; simp
      have hpw : Below W6.heap.size W6 W7 := (hbg).trans (hal.mono (hbg).size)
      have HC21 : Hid (∀ w', Below W7.heap.size W7 w' → w'.cell? ⟨wg.heap.size, 0, none⟩ = some (.bool b21) ∧ w'.cell? ⟨wg.heap.size, 1, none⟩ = some (.slice o21 m21 c21) ∧ w'.cell? ⟨wg.heap.size, 2, none⟩ = some (.bool B21) ∧ w'.cell? ⟨wg.heap.size, 3, none⟩ = some (.slice O21 M21 C21)) := hid (fun w' hb => by
        refine ⟨?_, ?_, ?_, ?_⟩ <;> (rw [hb.cell (by rw [hz]; simp), hW7]; simp [go_sem]))
      have H2W7 : Hid (Below W2.heap.size W2 W7) := hid (H2W6.out.trans (hpw.mono H2W6.out.size))
      have HL21 := hid hal; have HNW7 := hid hpw
      rw [← hW7]
      clear hW7 hal hz hpw
      clear hr hbg
      obtain ⟨k0, k1, k2, k3⟩ := HXY.out _ H2W7.out
      go_wp2_with fail
      refine (Small_any _ x 24 W7 (HAx.out _ H2W7.out) (by decide)).mono ?_
      rintro e wh ⟨rfl, hbh⟩
      obtain ⟨sv, hsv⟩ : ∃ sv, sv = fitV x := ⟨_, rfl⟩
      obtain ⟨sf, hsf⟩ : ∃ sf, sf = fit x := ⟨_, rfl⟩
      rw [← hsv, ← hsf]
      have hsv0 : -9223372036854775808 ≤ sv ∧ sv < 9223372036854775808 := by
        by_cases h : -9223372036854775808 ≤ x ∧ x < 9223372036854775808
        · rw [hsv, (fit_yes h).2]; exact h
        · rw [hsv, (fit_no h).2]; exact ⟨by decide, by decide⟩
      have HSV := hid hsv; have HSF := hid hsf; have HSV0 := hid hsv0
      clear hsv hsf hsv0 k0 k1 k2 k3
      go_wp2_with fail
      refine (rof_any sv wh HSV0.out.1 HSV0.out.2).mono ?_
      rintro e wi ⟨_, rfl, hvi, hbi⟩
      obtain ⟨b24, o24, m24, c24, rfl, HZ24, _, _⟩ := Zt.opened hvi
      have hbW : Below W7.heap.size W7 wi := hbh.trans (hbi.mono hbh.size)
      go_upto_region 12 with (fail)
      obtain ⟨W8, hW8⟩ : ∃ W8, W8 = wi.alloc (.cells #[.bool b24, .slice o24 m24 c24] 28) := ⟨_, rfl⟩
      have hal : Below wi.heap.size wi W8 := by rw [hW8]; exact (Below.refl _ _).alloc (Nat.le_refl _) _
      have hz : W8.heap.size = wi.heap.size + 1 := by rw [hW8]; simp
      have hpw : Below W7.heap.size W7 W8 := (hbW).trans (hal.mono (hbW).size)
      have HC24 : Hid (∀ w', Below W8.heap.size W8 w' → w'.cell? ⟨wi.heap.size, 0, none⟩ = some (.bool b24) ∧ w'.cell? ⟨wi.heap.size, 1, none⟩ = some (.slice o24 m24 c24)) := hid (fun w' hb => by
        refine ⟨?_, ?_⟩ <;> (rw [hb.cell (by rw [hz]; simp), hW8]; simp [go_sem]))
      have H2W8 : Hid (Below W2.heap.size W2 W8) := hid (H2W7.out.trans (hpw.mono H2W7.out.size))
      have HL24 := hid hal; have HNW8 := hid hpw
      rw [← hW8]
      clear hW8 hal hz hpw
      clear hbh hbi hbW hvi
      go_wp2_with fail
      refine (rof_any (-9223372036854775808) W8 (by decide) (by decide)).mono ?_
      rintro e wj ⟨_, rfl, hvj, hbj⟩
      obtain ⟨b25, o25, m25, c25, rfl, HZ25, _, _⟩ := Zt.opened hvj
      go_wp2_with fail
      refine (rof_any 9223372036854775807 wj (by decide) (by decide)).mono ?_
      rintro e wk ⟨_, rfl, hvk, hbk⟩
      obtain ⟨b26, o26, m26, c26, rfl, HZ26, _, _⟩ := Zt.opened hvk
      have hbW : Below W8.heap.size W8 wk := hbj.trans (hbk.mono hbj.size)
      have HZ25k := hid (fun w' (hb : Below wk.heap.size wk w') => HZ25.out _ (hbk.trans (hb.mono hbk.size)))
      go_upto_region 13 with (fail)
      obtain ⟨W9, hW9⟩ : ∃ W9, W9 = (wk.alloc (.cells #[.bool b25, .slice o25 m25 c25] 28)).alloc (.cells #[.bool b26, .slice o26 m26 c26] 28) := ⟨_, rfl⟩
      have hal : Below wk.heap.size wk W9 := by rw [hW9]; exact ((Below.refl _ _).alloc (Nat.le_refl _) _).alloc (by simp) _
      have hz : W9.heap.size = wk.heap.size + 2 := by rw [hW9]; simp
      have HC25 : Hid (∀ w', Below W9.heap.size W9 w' → w'.cell? ⟨wk.heap.size, 0, none⟩ = some (.bool b25) ∧ w'.cell? ⟨wk.heap.size, 1, none⟩ = some (.slice o25 m25 c25) ∧ w'.cell? ⟨wk.heap.size + 1, 0, none⟩ = some (.bool b26) ∧ w'.cell? ⟨wk.heap.size + 1, 1, none⟩ = some (.slice o26 m26 c26)) := hid (fun w' hb => by
        refine ⟨?_, ?_, ?_, ?_⟩ <;> (rw [hb.cell (by rw [hz]; simp), hW9]; simp [go_sem]))
      have h89 : Below W8.heap.size W8 W9 := hbW.trans (hal.mono hbW.size)
      have H2W9 : Hid (Below W2.heap.size W2 W9) := hid (H2W8.out.trans (h89.mono H2W8.out.size))
      have H89 := hid h89
      have HZl : Hid (∀ w', Below W9.heap.size W9 w' → Zt w' (.agg #[.bool b25, .slice o25 m25 c25]) (-9223372036854775808) 48) := hid (fun w' hb => (HZ25k.out _ (hal.trans (hb.mono hal.size))).mono (by decide))
      have HZh : Hid (∀ w', Below W9.heap.size W9 w' → Zt w' (.agg #[.bool b26, .slice o26 m26 c26]) 9223372036854775807 48) := hid (fun w' hb => (HZ26.out _ (hal.trans (hb.mono hal.size))).mono (by decide))
      have HZp : Hid (∀ w', Below W9.heap.size W9 w' → Zt w' (.agg #[.bool pb, .slice po pm pc]) x 48) := hid (fun w' hb => Hzx.out _ (H2W9.out.trans (hb.mono H2W9.out.size)))
      have HCp : Hid (∀ w', Below W9.heap.size W9 w' → w'.cell? ⟨pp, 0, none⟩ = some (.bool pb) ∧ w'.cell? ⟨pp, 1, none⟩ = some (.slice po pm pc)) := hid (fun w' hb => by
        obtain ⟨a1, a2, _, _⟩ := HPQ.out _ (H2W9.out.trans (hb.mono H2W9.out.size))
        exact ⟨a1, a2⟩)
      rw [← hW9]
      clear hW9 hal hz h89 hbj hbk hbW hvj hvk HZ25 HZ25k HZ26
      go_cut [27] from 82 (fun s27 wx => s27 = .bool sf ∧ Below W9.heap.size W9 wx)
      case first =>
        obtain ⟨k0, k1, k2, k3⟩ := HC25.out _ (Below.refl _ _)
        obtain ⟨k4, k5⟩ := HCp.out _ (Below.refl _ _)
        by_cases hx1 : x < -9223372036854775808
        · obtain rfl : sf = false := by rw [HSF.out]; exact (fit_no (by omega)).1
          go_wp2_with fail
          refine (rcmp_any _ _ (-9223372036854775808) x 48 W9 (HZl.out _ (Below.refl _ _)) (HZp.out _ (Below.refl _ _)) (by decide)).mono ?_
          rintro e wl ⟨rfl, hbl⟩
          rw [cmpI_gt hx1]
          have HBL := hid hbl
          clear hbl
          go_wp2_with fail
          go_meet
          exact ⟨rfl, HBL.out⟩
        · obtain ⟨t, ht⟩ : ∃ t, t = cmpI (-9223372036854775808) x := ⟨_, rfl⟩
          have htl : t ≤ 0 := by rw [ht]; unfold cmpI; split <;> (try split) <;> omega
          go_wp2_with fail
          refine (rcmp_any _ _ (-9223372036854775808) x 48 W9 (HZl.out _ (Below.refl _ _)) (HZp.out _ (Below.refl _ _)) (by decide)).mono ?_
          rintro e wl ⟨rfl, hbl⟩
          rw [← ht]
          clear ht k0 k1 k2 k3 k4 k5
          obtain ⟨k0, k1, k2, k3⟩ := HC25.out _ hbl
          obtain ⟨k4, k5⟩ := HCp.out _ hbl
          obtain ⟨t2, ht2⟩ : ∃ t2, t2 = cmpI x 9223372036854775807 := ⟨_, rfl⟩
          by_cases hx2 : 9223372036854775807 < x
          · obtain rfl : sf = false := by rw [HSF.out]; exact (fit_no (by omega)).1
            have htg : ¬ t2 ≤ 0 := by rw [ht2, cmpI_gt hx2]; decide
            go_wp2_with fail
            refine (rcmp_any _ _ x 9223372036854775807 48 wl (HZp.out _ hbl) (HZh.out _ hbl) (by decide)).mono ?_
            rintro e wm ⟨rfl, hbm⟩
            rw [← ht2]
            have HBL := hid (hbl.trans (hbm.mono hbl.size))
            clear hbl hbm ht2
            go_wp2_with fail
            go_meet
            exact ⟨by rw [decide_eq_false (show ¬ t2 ≤ 0 by omega)], HBL.out⟩
          · obtain rfl : sf = true := by rw [HSF.out]; exact (fit_yes (by omega)).1
            have htg : t2 ≤ 0 := by rw [ht2]; unfold cmpI; split <;> (try split) <;> omega
            go_wp2_with fail
            refine (rcmp_any _ _ x 9223372036854775807 48 wl (HZp.out _ hbl) (HZh.out _ hbl) (by decide)).mono ?_
            rintro e wm ⟨rfl, hbm⟩
            rw [← ht2]
            have HBL := hid (hbl.trans (hbm.mono hbl.size))
            clear hbl hbm ht2
            go_wp2_with fail
            go_meet
            exact ⟨rfl, HBL.out⟩
      case rest =>
        obtain ⟨WA0, rfl⟩ : ∃ WA0, WA0 = wc := ⟨_, rfl⟩
        obtain ⟨rfl, h9A⟩ := hcut
        have H2A : Hid (Below W2.heap.size W2 WA0) := hid (H2W9.out.trans (h9A.mono H2W9.out.size))
        have H8A : Hid (Below W8.heap.size W8 WA0) := hid (H89.out.trans (h9A.mono H89.out.size))
        have HZ24A : Hid (∀ w', Below WA0.heap.size WA0 w' → Zt w' (.agg #[.bool b24, .slice o24 m24 c24]) sv 48) := hid (fun w' hb => (HZ24.out _ (HL24.out.trans ((H8A.out.trans (hb.mono H8A.out.size)).mono HL24.out.size))).mono (by decide))
        clear h9A HC25 HZl HZh HZp HCp H89 HZ24
        go_upto_region 14 with (fail)
        go_cut [28] from 96 (fun s28 wx => s28 = .bool true ∧ Below WA0.heap.size WA0 wx)
        case first =>
          obtain ⟨k0, k1⟩ := HC24.out _ H8A.out
          obtain ⟨k2, k3, _, _⟩ := HPQ.out _ H2A.out
          cases sf with
          | false =>
            have hs0 : sv = 0 := by rw [HSV.out]; unfold fitV; rw [← HSF.out]; rfl
            subst hs0
            go_wp2_with fail
            go_meet
            exact ⟨rfl, Below.refl _ _⟩
          | true =>
            have hs0 : sv = x := by rw [HSV.out]; unfold fitV; rw [← HSF.out]; rfl
            have hr := rcmp_any _ _ sv x 48 WA0 (HZ24A.out _ (Below.refl _ _)) (Hzx.out _ H2A.out) (by decide)
            rw [hs0, cmpI_self] at hr
            have HR := hid hr
            clear hr hs0
            go_wp2_with fail
            refine HR.out.mono ?_
            rintro e wl ⟨rfl, hbl⟩
            have HBL := hid hbl
            clear hbl
            go_wp2_with fail
            go_meet
            exact ⟨rfl, HBL.out⟩
        case rest =>
          obtain ⟨WB0, rfl⟩ : ∃ WB0, WB0 = wc := ⟨_, rfl⟩
          obtain ⟨rfl, hAB⟩ := hcut
          have H2B : Hid (Below W2.heap.size W2 WB0) := hid (H2A.out.trans (hAB.mono H2A.out.size))
          have H8B := hid (H8A.out.trans (hAB.mono H8A.out.size))
          have H7B := hid (HNW8.out.trans (H8B.out.mono HNW8.out.size))
          have H6B := hid (HNW7.out.trans (H7B.out.mono HNW7.out.size))
          have H5B := hid (HNW6.out.trans (H6B.out.mono HNW6.out.size))
          have H4B := hid (HNW5.out.trans (H5B.out.mono HNW5.out.size))
          have H3B := hid (HNW4.out.trans (H4B.out.mono HNW4.out.size))
          have K13 := hid (fun w' (hb : Below WB0.heap.size WB0 w') => HC13.out _ (H3B.out.trans (hb.mono H3B.out.size)))
          have K15 := hid (fun w' (hb : Below WB0.heap.size WB0 w') => HC15.out _ (H4B.out.trans (hb.mono H4B.out.size)))
          have K17 := hid (fun w' (hb : Below WB0.heap.size WB0 w') => HC17.out _ (H5B.out.trans (hb.mono H5B.out.size)))
          have K19 := hid (fun w' (hb : Below WB0.heap.size WB0 w') => HC19.out _ (H6B.out.trans (hb.mono H6B.out.size)))
          have K21 := hid (fun w' (hb : Below WB0.heap.size WB0 w') => HC21.out _ (H7B.out.trans (hb.mono H7B.out.size)))
          have R13 := hid (fun w' (hb : Below WB0.heap.size WB0 w') => HR13.out _ (HL13.out.trans ((H3B.out.trans (hb.mono H3B.out.size)).mono HL13.out.size)))
          have R15 := hid (fun w' (hb : Below WB0.heap.size WB0 w') => HR15.out _ (HL15.out.trans ((H4B.out.trans (hb.mono H4B.out.size)).mono HL15.out.size)))
          have R17 := hid (fun w' (hb : Below WB0.heap.size WB0 w') => HR17.out _ (HL17.out.trans ((H5B.out.trans (hb.mono H5B.out.size)).mono HL17.out.size)))
          have R19 := hid (fun w' (hb : Below WB0.heap.size WB0 w') => HR19.out _ (HL19.out.trans ((H6B.out.trans (hb.mono H6B.out.size)).mono HL19.out.size)))
          have R21 := hid (fun w' (hb : Below WB0.heap.size WB0 w') => HR21.out _ (HL21.out.trans ((H7B.out.trans (hb.mono H7B.out.size)).mono HL21.out.size)))
          clear hAB HZ24A HC24 H8B H7B H6B H5B H4B H3B HC13 HC15 HC17 HC19 HC21 HR13 HR15 HR17 HR19 HR21 HNW3 HNW4 HNW5 HNW6 HNW7 HNW8 HL13 HL15 HL17 HL19 HL21 HL24 H2W3 H2W4 H2W5 H2W6 H2W7 H2W8 H2W9 H8A H2A
          go_upto_region 15 with (fail)
          go_cut [29] from 116 (fun s29 wx => s29 = .bool true ∧ Below WB0.heap.size WB0 wx)
          case first =>
            go_wp2_with fail
            refine (of_any en WB0 n0 n1).mono ?_
            rintro e v1 ⟨fo, rfl, hfo, hb1⟩
            have hel := (FrA.el (B := W2.heap.size) hfo (by decide) H2B.out.size).1
            go_wp2_with fail
            refine (rof_any en v1 n0 n1).mono ?_
            rintro e v2 ⟨zo, rfl, hzo, hb2⟩
            go_wp2_with fail
            refine (sameInt_any fo zo en 200 4 v2 (hel.below hb2 (Nat.le_refl _)) hzo (by decide)).mono ?_
            rintro e v3 ⟨rfl, hb3⟩
            have hB3 : Below WB0.heap.size WB0 v3 := hb1.trans ((hb2.trans (hb3.mono hb2.size)).mono hb1.size)
            have HB3 := hid hB3
            clear hel hfo hzo hb1 hb2 hb3 hB3
            obtain ⟨f0, f1, f2, f3⟩ := K13.out _ HB3.out
            obtain ⟨f4, f5, f6, f7⟩ := K15.out _ HB3.out
            go_wp2_with fail
            refine (isRatio_res _ _ e13 e15 en ed W2.heap.size v3 (R13.out _ HB3.out) (R15.out _ HB3.out)).mono ?_
            rintro e v4 ⟨rfl, hb4⟩
            have HB4 := hid (HB3.out.trans (hb4.mono HB3.out.size))
            clear hb4 f0 f1 f2 f3 f4 f5 f6 f7
            obtain ⟨f0, f1, f2, f3⟩ := K17.out _ HB4.out
            obtain ⟨f4, f5, f6, f7⟩ := K19.out _ HB4.out
            go_wp2_with fail
            refine (isRatio_res _ _ e17 e19 x y W2.heap.size v4 (R17.out _ HB4.out) (R19.out _ HB4.out)).mono ?_
            rintro e v5 ⟨rfl, hb5⟩
            have HB5 := hid (HB4.out.trans (hb5.mono HB4.out.size))
            clear hb5 f0 f1 f2 f3 f4 f5 f6 f7
            go_wp2_with fail
            go_meet
            exact ⟨rfl, HB5.out⟩
          case rest =>
            obtain ⟨WC0, rfl⟩ : ∃ WC0, WC0 = wc := ⟨_, rfl⟩
            obtain ⟨rfl, hBC⟩ := hcut
            have HBC := hid hBC
            clear hBC
            have H2C : Hid (Below W2.heap.size W2 WC0) := hid (H2B.out.trans (HBC.out.mono H2B.out.size))
            have HS16 : Hid (∀ w', Below WC0.heap.size WC0 w' → w'.cell? ⟨wg.heap.size, 0, none⟩ = some (.bool b21) ∧ w'.cell? ⟨wg.heap.size, 1, none⟩ = some (.slice o21 m21 c21) ∧ w'.cell? ⟨wg.heap.size, 2, none⟩ = some (.bool B21) ∧ w'.cell? ⟨wg.heap.size, 3, none⟩ = some (.slice O21 M21 C21) ∧ w'.cell? ⟨pp, 0, none⟩ = some (.bool pb) ∧ w'.cell? ⟨pp, 1, none⟩ = some (.slice po pm pc)) := hid (fun w' hb => by
              obtain ⟨a1, a2, a3, a4⟩ := K21.out _ (HBC.out.trans (hb.mono HBC.out.size))
              obtain ⟨a5, a6, _, _⟩ := HPQ.out _ (H2C.out.trans (hb.mono H2C.out.size))
              exact ⟨a1, a2, a3, a4, a5, a6⟩)
            have HZC : Hid (∀ w', Below WC0.heap.size WC0 w' → Zt w' (.agg #[.bool pb, .slice po pm pc]) x 48) := hid (fun w' hb => Hzx.out _ (H2C.out.trans (hb.mono H2C.out.size)))
            have R21C := hid (fun w' (hb : Below WC0.heap.size WC0 w') => R21.out _ (HBC.out.trans (hb.mono HBC.out.size)))
            go_upto_region 16 with (fail)
            go_cut [30] from 135 (fun s30 wx => s30 = .bool true ∧ Below WC0.heap.size WC0 wx)
            case first =>
              go_region_held3 (fun w' => w'.cell? ⟨wg.heap.size, 0, none⟩ = some (.bool b21) ∧ w'.cell? ⟨wg.heap.size, 1, none⟩ = some (.slice o21 m21 c21) ∧ w'.cell? ⟨wg.heap.size, 2, none⟩ = some (.bool B21) ∧ w'.cell? ⟨wg.heap.size, 3, none⟩ = some (.slice O21 M21 C21) ∧ w'.cell? ⟨pp, 0, none⟩ = some (.bool pb) ∧ w'.cell? ⟨pp, 1, none⟩ = some (.slice po pm pc)) ((refine HS16.out _ ?_; first | assumption | exact Below.refl _ _ | exact (Below.refl _ _).drew)) (first
                | (go_at_call 42; refine (rwhole_any _ x 48 _ (HZC.out _ (Below.refl _ _).drew) (by decide)).mono ?_; rintro e u1 ⟨_, rfl, hq1, hbu1⟩; have hU1 : Below WC0.heap.size WC0 u1 := (Below.refl _ _).drew.trans hbu1)
                | (go_at_call 41; refine (rsame_any _ _ x 1 200 48 _ (R21C.out _ hU1).rt hq1 (by decide)).mono ?_; rintro e u2 ⟨rfl, hbu2⟩; have hU2 : Below WC0.heap.size WC0 u2 := hU1.trans (hbu2.mono hU1.size)))
              have HU2 := hid hU2
              clear hbu1 hbu2 hU1 hU2 hq1
              go_wp2_with fail
              go_meet
              exact ⟨rfl, HU2.out⟩
            case rest =>
              obtain ⟨WD0, rfl⟩ : ∃ WD0, WD0 = wc := ⟨_, rfl⟩
              obtain ⟨rfl, hCD⟩ := hcut
              have HBD := hid (HBC.out.trans (hCD.mono HBC.out.size))
              have H2D : Hid (Below W2.heap.size W2 WD0) := hid (H2C.out.trans (hCD.mono H2C.out.size))
              obtain ⟨f0, f1, f2, f3⟩ := K17.out _ HBD.out
              obtain ⟨g0, g1, g2, g3⟩ := K21.out _ HBD.out
              have hs17 := (R17.out _ HBD.out).sps
              have hs21 := (R21.out _ HBD.out).sps
              clear hCD HS16 HZC R21C K13 K15 K19 R13 R15 R19
              go_wp2_with fail
              refine (spoilRatio_any W2.heap.size _ _ _ _ _ _ _ _ WD0 hs17.1 hs17.2 H2D.out.size).mono ?_
              rintro e v1 ⟨rfl, hs1⟩
              have g0 := hs1.cel _ _ g0 (fun x e => by cases e)
              have g1 := hs1.cel _ _ g1 (fun x e => by cases e)
              have g2 := hs1.cel _ _ g2 (fun x e => by cases e)
              have g3 := hs1.cel _ _ g3 (fun x e => by cases e)
              have hp1 := hs21.1.spd hs1
              have hp2 := hs21.2.spd hs1
              clear f0 f1 f2 f3 hs17 hs21
              go_wp2_with fail
              refine (spoilRatio_any W2.heap.size _ _ _ _ _ _ _ _ v1 hp1 hp2 (Nat.le_trans H2D.out.size hs1.siz)).mono ?_
              rintro e v2 ⟨rfl, hs2⟩
              have h2v : Below W2.heap.size W2 v2 := H2D.out.trans (hs1.trans hs2).low
              have H2V := hid h2v
              clear g0 g1 g2 g3 hp1 hp2 hs1 hs2 h2v
              obtain ⟨a0, a1, _, _⟩ := HXY.out _ H2V.out
              obtain ⟨a2, a3, _, _⟩ := HS2.out _ H2V.out
              go_wp2_with fail
              refine (likeInt_any _ _ na WA _ (HKx.out _ H2V.out) (Hu.out _ (HB2.out.trans (H2V.out.mono HB2.out.size)))).mono ?_
              rintro e v3 ⟨rfl, hb3⟩
              have H2T := hid (H2V.out.trans (hb3.mono H2V.out.size))
              clear hb3 a0 a1 a2 a3
              obtain ⟨_, _, a0, a1⟩ := HXY.out _ H2T.out
              obtain ⟨_, _, a2, a3⟩ := HS2.out _ H2T.out
              go_wp2_with fail
              refine (likeInt_any _ _ nb WB _ (HKy.out _ H2T.out) (Hv.out _ (HB2.out.trans (H2T.out.mono HB2.out.size)))).mono ?_
              rintro e v4 ⟨rfl, hb4⟩
              have HFin := hid (HB2.out.trans ((H2T.out.trans (hb4.mono H2T.out.size)).mono HB2.out.size))
              clear hb4 a0 a1 a2 a3
              go_wp2
              go_ret
              exact ⟨rfl, HFin.out⟩
end Go.Proofs.Ytbmdjimfncgomaa

/- The law ExactSmall at any two arguments: it returns true, and what was there before stays. Where an argument has more than 24 words it returns ahead of everything else. -/
namespace Go.Proofs.Ytbmdjimfncgomaa
open Go.RowKit

set_option maxRecDepth 100000 in
theorem exactSmall_long (en ed : Int) (u v : Value) (na nb : Bool) (WA WB : List Int) (w : World) (hu : Lk w u na WA) (hv : Lk w v nb WB) (h : 24 < WA.length ∨ (WA.length ≤ 24 ∧ 24 < WB.length)) :
    Calls Try.prog 5 #[.int .i64 en, .int .i64 ed, u, v] w fun e w' => e = .returned (.bool true) ∧ Below w.heap.size w w' := by
  obtain ⟨na1, ao, n, ac, rfl, _, _, En⟩ := Lk.opened hu
  obtain ⟨nb1, bo, m, bc, rfl, _, _, Em⟩ := Lk.opened hv
  have hn := En.out; have hm := Em.out
  rw [← hn, ← hm] at h
  clear hu hv hn hm En Em
  have hB : Below w.heap.size w ((w.alloc (.cells #[.bool na1, .slice ao n ac] 24)).alloc (.cells #[.bool nb1, .slice bo m bc] 24)) := ((Below.refl _ _).alloc (Nat.le_refl _) _).alloc (by simp) _
  have HB := hid hB
  clear hB
  rcases h with h | ⟨h1, h⟩
  · have h40 : (24 : Int) < (n : Int) := by omega
    go_enter Try.func5, Try.ntmps5
    all_goals go_wp2
    all_goals (go_ret; exact ⟨rfl, HB.out⟩)
  · have h40 : (24 : Int) < (m : Int) := by omega
    have h41 : ¬ (24 : Int) < (n : Int) := by omega
    go_enter Try.func5, Try.ntmps5
    all_goals go_wp2
    all_goals (go_ret; exact ⟨rfl, HB.out⟩)

theorem exactSmall_any (en ed : Int) (u v : Value) (na nb : Bool) (WA WB : List Int) (w : World) (hu : Lk w u na WA) (hv : Lk w v nb WB) (dA : Dig B32 WA) (dB : Dig B32 WB) (n0 : -9223372036854775808 ≤ en) (n1 : en < 9223372036854775808) (d0 : -9223372036854775808 ≤ ed) (d1 : ed < 9223372036854775808) :
    Calls Try.prog 5 #[.int .i64 en, .int .i64 ed, u, v] w fun e w' => e = .returned (.bool true) ∧ Below w.heap.size w w' := by
  by_cases hA : WA.length ≤ 24
  · by_cases hB : WB.length ≤ 24
    · exact exactSmall_walk en ed u v na nb WA WB w hu hv dA dB hA hB n0 n1 d0 d1
    · exact exactSmall_long en ed u v na nb WA WB w hu hv (Or.inr ⟨hA, by omega⟩)
  · exact exactSmall_long en ed u v na nb WA WB w hu hv (Or.inl (by omega))
end Go.Proofs.Ytbmdjimfncgomaa
