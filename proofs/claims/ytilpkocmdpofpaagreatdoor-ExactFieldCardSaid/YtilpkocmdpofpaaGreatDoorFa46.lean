/- exact.decimals of a number below 100: its one group's digits. (exact.integer).text and exact.Text of numbers closer to 0 than 100. exact.Show of ratios whose lowest form has numbers closer to 0 than 100; over and shows of the laws. -/
import Derived.Maps.AppendAt
import Derived.Test.YtilpkocmdpofpaaGreatDoorFa45
import Derived.Test.YtilpkocmdpofpaaGreatDoorFa13
import Derived.Test.YtilpkocmdpofpaaGreatDoorFa35
/- exact.decimals of a number below 100: its one group's digits. -/
namespace Go.Proofs.YtilpkocmdpofpaaGreatDoor
open Go.RowKit Go.Shelf
attribute [local go_sem] Oper.semAt_some

theorem nt_one {w : World} {ao : Option Addr} {c : Nat} {L : List Int} {y : Int} {K : Nat} (h : NtL w ao c L y K) (y0 : 0 < y) (y1 : y < B64) : L = [y] := by
  refine val_inj B64_pos h.dig (fun x hx => by simp at hx; omega) h.nrm ?_ ?_
  · simp [Nrm, trimL]; omega
  · rw [h.eq]; simp [val]

theorem Tryz.infoS : (Tryz.prog.info? 9).map (fun i => (i.zero, i.size, i.bytes)) = some (some (.string ⟨#[]⟩), 1, 16) := by kernel_rfl

theorem cell_one_at (w : World) (g : Nat) (x : Value) (h : w.cell? ⟨g, 0, none⟩ = some x) : ∀ j u, [x][j]? = some u → w.cell? ((⟨g, 0, none⟩ : Addr).add j) = some u := by
  intro j u hj
  match j, hj with
  | 0, hj =>
    simp at hj
    subst hj
    simpa [Addr.add] using h
  | j + 1, hj => simp at hj
theorem cell_al {w : World} {a : Addr} {v : Value} (o : Obj) (h : w.cell? a = some v) : (w.alloc o).cell? a = some v := (World.grownBy_alloc w o none).cell h (by simp)
theorem frozen_al {w : World} {a : Addr} {v : Value} (o : Obj) (h : w.cell? a = some v) : (w.alloc o).frozen? a = w.frozen? a := frozen_kept h (World.grownBy_alloc w o none) (by simp)

theorem dec_len (i : Nat) (h : i < 100) : (Lib.decDigits i).length ≤ 2 := by
  rw [Lib.decDigits]
  split
  · simp
  · rw [Lib.decDigits]
    split
    · simp
    · omega

/-- What one round's append and store leave. -/
theorem text_stored {w W : World} {b : Nat} {v v0 : Value} {s : ByteArray} (cs : Array Value) (hB : Below w.heap.size w W) (hb : w.heap.size ≤ b) (hc : W.cell? ⟨b, 0, none⟩ = some v0) (hf : W.frozen? ⟨b, 0, none⟩ = false) :
    Below w.heap.size W (((W.setCell ⟨b, 0, none⟩ v).alloc (.cells #[.string s] 9)).alloc (.cells (#[.string s] ++ cs) 9)).drew.drew ∧
    (((W.setCell ⟨b, 0, none⟩ v).alloc (.cells #[.string s] 9)).alloc (.cells (#[.string s] ++ cs) 9)).drew.drew.cell? ⟨b, 0, none⟩ = some v ∧
    (((W.setCell ⟨b, 0, none⟩ v).alloc (.cells #[.string s] 9)).alloc (.cells (#[.string s] ++ cs) 9)).drew.drew.cell? ⟨W.heap.size + 1, 0, none⟩ = some (.string s) ∧
    (((W.setCell ⟨b, 0, none⟩ v).alloc (.cells #[.string s] 9)).alloc (.cells (#[.string s] ++ cs) 9)).drew.drew.frozen? ⟨b, 0, none⟩ = false := by
  have hs := hB.size
  have h1 : (W.setCell ⟨b, 0, none⟩ v).cell? ⟨b, 0, none⟩ = some v := World.cell?_setCell_same' _ _ _ (by rw [hc]; rfl)
  have hz : (W.setCell ⟨b, 0, none⟩ v).heap.size = W.heap.size := by simp
  refine ⟨?_, cell_al _ (cell_al _ h1), ?_, ?_⟩
  · exact ((((Below.refl _ W).setCell (p := ⟨b, 0, none⟩) hb _).alloc (by rw [hz]; exact hs) _).alloc (by rw [World.size_alloc, hz]; omega) _).drew.drew
  · have e : W.heap.size + 1 = ((W.setCell ⟨b, 0, none⟩ v).alloc (.cells #[.string s] 9)).heap.size := by rw [World.size_alloc, hz]
    rw [e]
    show (World.alloc _ _).cell? _ = _
    rw [cell_of_row _ _ 0 _ _ _ (World.alloc_heap_new _ _)]
    simp [Array.getElem?_append]
  · show (World.alloc _ _).frozen? _ = _
    rw [frozen_al _ (cell_al _ h1), frozen_al _ h1, World.frozen?_setCell]
    exact hf

set_option maxRecDepth 100000 in
set_option maxHeartbeats 1000000 in
theorem decimals_one (i : Nat) (K : Nat) (v : Value) (w : World) (hA : Nt w v i K) (hy0 : 0 < i) (hy : i < 100) :
    Calls Tryz.prog 59 #[v] w fun e w' => e = .returned (.string ⟨(Lib.decDigits i).toArray⟩) ∧ Below w.heap.size w w' := by
  obtain ⟨ao, ca, L, rfl, hA⟩ := hA
  obtain rfl : L = [(i : Int)] := nt_one hA (by omega) (by unfold B64; omega)
  have HA1 : Nt w (.slice ao 1 ca) i 1 := ⟨ao, ca, [(i : Int)], rfl, hA.rd, hA.dig, hA.nrm, hA.eq, Nat.le_refl _⟩
  obtain ⟨s, hs⟩ : ∃ s : ByteArray, s = ⟨(Lib.decDigits i).toArray⟩ := ⟨_, rfl⟩
  have HF : ∀ (l : Nat) (W : World), CallsIn (Fence.wide.inRound l) 2 Tryz.prog 110 #[.int .u64 i, .int .i64 10] W fun e w' => e = .returned (.string s) ∧ w' = W :=
    fun l W => CallsIn.inRound l (callsIn_wide.2 (by rw [hs]; exact format_small i hy W))
  have hlen : s.size ≤ 2 := by rw [hs]; exact dec_len i hy
  rw [← hs]
  have HD := hid (show Lib.strCells s = Lib.byteCells (Lib.decDigits i) ∧ s = ⟨(Lib.decDigits i).toArray⟩ from ⟨by rw [hs]; rfl, hs⟩)
  clear hs
  refine (callsIn_wide (n := 5)).1 ?_
  refine callsIn_of_wp_marks Tryz.func59 rfl trivial ?_ rfl
  simp only [Tryz.ntmps59, List.size_toArray, List.length_cons, List.length_nil, Nat.reduceAdd, Nat.reduceSub, Array.replicate_succ, Array.replicate_zero, List.push_toArray, List.append_toArray, List.nil_append, List.cons_append]
  gi_wp2_with (refine ⟨trivial, ?_⟩; gi_at_call 109; refine (groups_in _ _ _ _ _).mono ?_; rintro e w' ⟨rfl, rfl⟩)
  obtain ⟨w0, hw0⟩ : ∃ w0, ((w.alloc (.cells #[] 9)).alloc (.cells #[.slice (some ⟨w.heap.size, 0, none⟩) 0 0] 139)) = w0 := ⟨_, rfl⟩
  have hB0 : Below w.heap.size w w0 := by rw [← hw0]; exact ((Below.refl _ w).alloc (Nat.le_refl _) _).alloc (by simp) _
  have hsz : w0.heap.size = w.heap.size + 2 := by rw [← hw0]; simp
  have hc0 : w0.cell? ⟨w.heap.size + 1, 0, none⟩ = some (.slice (some ⟨w.heap.size, 0, none⟩) 0 0) := by rw [← hw0]; simp
  have hf0 : w0.frozen? ⟨w.heap.size + 1, 0, none⟩ = false := by rw [← hw0]; simp
  rw [hw0]
  have bN := Boxed.new w0 82 (.slice ao 1 ca)
  have hB1 : Below w.heap.size w (w0.alloc (.cells #[.slice ao 1 ca] 82)) := hB0.alloc hB0.size _
  refine wpIn_rangeFunc_ownG rfl (by omega) (gf := 163) (lb := #[.pointer (some ⟨w.heap.size + 1 + 1, 0, none⟩)]) rfl trivial (enters_of Tryz.func163 (by kernel_rfl) rfl)
    (groups1_stops _ (by omega) (w.heap.size + 1 + 1) w.heap.size (i : Int) (by omega) (by omega) ao 1 ca _ (by simp; omega) (by rw [← hsz]; exact bN.cell) (HA1.below hB1 (Nat.le_refl _)) (by omega)) belowK_t (belowK_b (by simp; omega)) (Below.refl _ _) (fun _ => rfl)
    (fun pre W => (((pre = [] ∧ W.cell? ⟨w.heap.size + 1, 0, none⟩ = some (.slice (some ⟨w.heap.size, 0, none⟩) 0 0)) ∨
      (pre.length = 1 ∧ ∃ g cap, 0 < cap ∧ W.cell? ⟨w.heap.size + 1, 0, none⟩ = some (.slice (some ⟨g, 0, none⟩) 1 cap) ∧ W.cell? ⟨g, 0, none⟩ = some (.string s))) ∧ W.frozen? ⟨w.heap.size + 1, 0, none⟩ = false) ∧ Below w.heap.size w W)
    (fun _ _ _ => False)
    (OwnFrom.and (Own.from (fun p A B row hq hg hr => by
      obtain ⟨h1 | ⟨hp, g, cap, hcap, h1, h2⟩, h3⟩ := hq
      · exact ⟨.inl ⟨h1.1, cell_kept h1.2 hg hr⟩, (frozen_kept h1.2 hg hr).trans h3⟩
      · exact ⟨.inr ⟨hp, g, cap, hcap, cell_kept h1 hg hr, cell_kept h2 hg hr⟩, (frozen_kept h1 hg hr).trans h3⟩) _) (ownFrom_below (Nat.le_refl _) (by simp; omega)))
    (fun _ _ _ _ _ hq _ _ => hq)
    ⟨⟨.inl ⟨rfl, cell_al _ hc0⟩, (frozen_al _ hc0).trans hf0⟩, hB1⟩
    (fun x => { tmps := #[.slice ao 1 ca, undef, .string ⟨#[]⟩, .pointer (some ⟨w.heap.size + 1, 0, none⟩), .int .u64 x.1, undef, undef, undef, .slice (some ⟨w.heap.size, 0, none⟩) 0 0, .slice ao 1 ca, .func (.func 163) #[] #[.pointer (some ⟨w.heap.size + 1 + 1, 0, none⟩)], .int .u64 x.1, undef, undef, undef, undef, undef, undef, undef, undef, undef, undef, undef, undef, undef, undef, undef, undef, undef, undef, undef, undef, undef, undef, undef, undef, undef, undef, undef, undef, undef], defers := [] }) ?assign ?body ?done ?stop
  case assign =>
    intro l x W K hK
    gi_wp2
    exact hK
  case body =>
    rintro l pre ⟨x, rfl⟩ W ⟨⟨hq, hf⟩, hB⟩ hlt
    rcases hq with ⟨rfl, hc⟩ | ⟨hp, _⟩
    · have hns : ¬ 281474976710656 < Builtin.nextslicecap 1 0 * Tryz.t9.bytes := by rw [nextslicecap_zero (by omega)]; rw [show Tryz.t9.bytes = 16 by kernel_rfl]; omega
      have hcap : 0 < (Question.appendCap 1 0 9).cut (W.tape (W.drawn + 1) (Question.appendCap 1 0 9)) := grownCap_ge W.drew 1 0 9
      have hBs := hB.size
      have hl1 : w.heap.size + 1 < W.heap.size := World.block_lt_of_cell? W _ hc
      have hl2 : ¬ w.heap.size + 1 = W.heap.size := by omega
      have hl3 : ¬ w.heap.size = W.heap.size := by omega
      have hl4 : w.heap.size + 1 < W.heap.size + 1 := by omega
      have hl5 : ¬ w.heap.size + 1 = W.heap.size + 1 := by omega
      have hmx : Tryz.prog.follows .mixedOrders = true := by kernel_rfl
      gi_wp2
      gi_region_with_o (refine ⟨trivial, ?_⟩; gi_at_call 110; refine (HF _ _).mono ?_; rintro e w' ⟨rfl, rfl⟩)
      all_goals gi_wp2
      all_goals
        have HT := text_stored (s := s) (v := .slice (some ⟨W.heap.size + 1, 0, none⟩) 1 ((Question.appendCap 1 0 9).cut (W.tape (W.drawn + 1) (Question.appendCap 1 0 9)))) (Builtin.zeroCells #[.string ⟨#[]⟩] ((Question.appendCap 1 0 9).cut (W.tape (W.drawn + 1) (Question.appendCap 1 0 9)) - 1)) hB (by omega : w.heap.size ≤ w.heap.size + 1) hc hf
        exact ⟨((KeepsOthers.setCell _ _ _).trans ((KeepsOthers.alloc _ _).trans ((KeepsOthers.alloc _ _).trans ((KeepsOthers.drew _).trans (KeepsOthers.drew _))))).from _, HT.1, ⟨⟨.inr ⟨rfl, W.heap.size + 1, _, hcap, HT.2.1, HT.2.2.1⟩, HT.2.2.2⟩, hB.trans HT.1⟩⟩
    · exact absurd hlt (by simp at hlt; omega)
  case done =>
    rintro D ys W hD rfl ⟨⟨hq, hf⟩, hB⟩ hK
    rcases hq with ⟨h, _⟩ | ⟨_, g, cap, hcap, hc, hs1⟩
    · cases h
    · have hBu := Lib.fresh_isBuilder 147 5 W
      have HW := hid (fun w' (h : Bu W.heap.size W.heap.size [] w') (h2 : W.heap.size ≤ w'.heap.size) => writeString_any W.heap.size W.heap.size [] s w' h (by simp; omega) h2)
      have hl1 : w.heap.size + 1 < W.heap.size := World.block_lt_of_cell? W _ hc
      have hl2 : g < W.heap.size := World.block_lt_of_cell? W _ hs1
      have hcapI : ¬ cap = 0 := by omega
      gi_wp2_with (refine ⟨trivial, ?_⟩; gi_at_call 111; refine (callsIn_wide.2 (HW.out _ hBu (by simp))).mono ?_; rintro e w2 ⟨rfl, hb2, hbel⟩)
      gi_loopw [7] (fun p wr => p = .int .i64 (-1) ∧ wr = w2) (fun _ _ => 0)
      case atStart => exact ⟨rfl, rfl⟩
      case round =>
        obtain ⟨rfl, rfl⟩ := hrel
        have hb3 : Bu W.heap.size W.heap.size (Lib.byteCells (Lib.decDigits i)) wr := by rw [← HD.out.1]; simpa using hb2
        gi_wp2_with (refine ⟨trivial, ?_⟩; gi_at_call 112; refine (callsIn_wide.2 (bstring_any W.heap.size W.heap.size (Lib.decDigits i) _ hb3 (by have := hbel.size; simp at this; omega))).mono ?_; rintro e w3 ⟨rfl, hbel2⟩)
        have hDl := (Array.getElem?_eq_some_iff.1 hK).1
        have hK3 : w3.heap[D]? = some (.deferred (some [])) := by
          rw [hbel2.block D hDl, hbel.block D hDl]; exact (heap_alloc_old W _ hDl).trans hK
        have hB3 : Below w.heap.size w w3 := ((hB.trans ((Below.refl _ W).alloc hB.size _)).trans (hbel.mono hB.size)).trans (hbel2.mono hB.size)
        refine ⟨by simp, .inl ⟨_, _, rfl, run_takeDeferred hK3, ?_⟩⟩
        refine ⟨_, results_tmp rfl _ _ _, ?_, hB3.trans (belowK_b (w := w) (Nat.le_refl _) w3 D _ _ (by simp at hD; omega) hK3 rfl rfl)⟩
        exact congrArg (fun t => Ending.returned (Value.string t)) HD.out.2.symm
  case stop =>
    rintro D c pre W _ _ h _
    exact h.elim
end Go.Proofs.YtilpkocmdpofpaaGreatDoor

/- (exact.integer).text and exact.Text of numbers closer to 0 than 100. -/
namespace Go.Proofs.YtilpkocmdpofpaaGreatDoor
open Go.RowKit

set_option maxRecDepth 100000 in
set_option maxHeartbeats 1000000 in
theorem text_pos (i : Nat) (K : Nat) (v : Value) (w : World) (h : It w v i K) (h0 : 0 < i) (h1 : i < 100) :
    Calls Tryz.prog 83 #[v] w fun e w' => e = .returned (.string ⟨(Lib.decDigits i).toArray⟩) ∧ Below w.heap.size w w' := by
  obtain ⟨xb, xo, xm, xc, rfl, Hx, Hxs, Hxb⟩ := It.opened h
  obtain rfl : xb = false := by rw [Hxb.out]; exact decide_eq_false (by omega)
  clear h
  obtain ⟨s, hs⟩ : ∃ s : ByteArray, s = ⟨(Lib.decDigits i).toArray⟩ := ⟨_, rfl⟩
  have HD := hid (fun (w' : World) (hb : Below w.heap.size w w') => by have := decimals_one i K _ w' (by simpa using Hxs.out w' hb) h0 h1; rw [← hs] at this; exact this)
  rw [← hs]
  clear hs
  have hB0 : Below w.heap.size w (w.alloc (.cells #[.bool false, .slice xo xm xc] 84)) := (Below.refl _ _).alloc (Nat.le_refl _) _
  have HB0 := hid hB0
  clear hB0
  go_enter Tryz.func83, Tryz.ntmps83
  go_wp2_with fail
  refine (HD.out _ HB0.out).mono ?_
  rintro e w1 ⟨rfl, hb1⟩
  go_wp2
  go_ret
  exact ⟨rfl, HB0.out.trans (hb1.mono (by simp))⟩

set_option maxRecDepth 100000 in
set_option maxHeartbeats 1000000 in
theorem text_neg (i : Nat) (K : Nat) (v : Value) (w : World) (h : It w v (-(i : Int)) K) (h0 : 0 < i) (h1 : i < 100) :
    Calls Tryz.prog 83 #[v] w fun e w' => e = .returned (.string (⟨#[45]⟩ ++ ⟨(Lib.decDigits i).toArray⟩)) ∧ Below w.heap.size w w' := by
  obtain ⟨xb, xo, xm, xc, rfl, Hx, Hxs, Hxb⟩ := It.opened h
  obtain rfl : xb = true := by rw [Hxb.out]; exact decide_eq_true (by omega)
  clear h
  obtain ⟨s, hs⟩ : ∃ s : ByteArray, s = ⟨(Lib.decDigits i).toArray⟩ := ⟨_, rfl⟩
  have HD := hid (fun (w' : World) (hb : Below w.heap.size w w') => by have := decimals_one i K _ w' (by simpa using Hxs.out w' hb) h0 h1; rw [← hs] at this; exact this)
  have hsz : ¬ 9223372036854775807 < 1 + s.size := by have := dec_len i h1; rw [hs]; show ¬ 9223372036854775807 < 1 + (Lib.decDigits i).length; omega
  rw [← hs]
  clear hs
  have hB0 : Below w.heap.size w (w.alloc (.cells #[.bool true, .slice xo xm xc] 84)) := (Below.refl _ _).alloc (Nat.le_refl _) _
  have HB0 := hid hB0
  clear hB0
  go_enter Tryz.func83, Tryz.ntmps83
  go_wp2_with fail
  refine (HD.out _ HB0.out).mono ?_
  rintro e w1 ⟨rfl, hb1⟩
  go_wp2
  go_ret
  exact ⟨rfl, HB0.out.trans (hb1.mono (by simp))⟩

/-- The text of a number closer to 0 than 100. -/
def tx (z : Int) : ByteArray := if z < 0 then ⟨#[45]⟩ ++ ⟨(Lib.decDigits z.natAbs).toArray⟩ else ⟨(Lib.decDigits z.natAbs).toArray⟩
theorem text_any (z : Int) (K : Nat) (v : Value) (w : World) (h : It w v z K) (h0 : z ≠ 0) (h1 : z.natAbs < 100) :
    Calls Tryz.prog 83 #[v] w fun e w' => e = .returned (.string (tx z)) ∧ Below w.heap.size w w' := by
  unfold tx
  by_cases hz : z < 0
  · rw [if_pos hz]
    exact text_neg z.natAbs K v w (by rw [show -((z.natAbs : Nat) : Int) = z by omega]; exact h) (by omega) h1
  · rw [if_neg hz]
    exact text_pos z.natAbs K v w (by rw [show ((z.natAbs : Nat) : Int) = z by omega]; exact h) (by omega) h1

set_option maxRecDepth 100000 in
set_option maxHeartbeats 1000000 in
theorem Text_any (z : Int) (K : Nat) (v : Value) (w : World) (h : Ai w v z K) (hK : K ≤ 1073741824) (h0 : z ≠ 0) (h1 : z.natAbs < 100) :
    Calls Tryz.prog 23 #[v] w fun e w' => e = .returned (.string (tx z)) ∧ Below w.heap.size w w' := by
  obtain ⟨xb, xo, xm, xc, rfl, Hx⟩ := Ai.opened h
  clear h
  have H0 := hid h0
  clear h0
  go_enter Tryz.func23, Tryz.ntmps23
  go_wp2_with fail
  refine (read_any _ z K _ (Hx.out _ ((Below.refl _ _).alloc (Nat.le_refl _) _)) hK).mono ?_
  rintro e w1 ⟨v1, rfl, hv1, hb1⟩
  go_wp2_with fail
  refine (text_any z _ _ _ hv1 H0.out h1).mono ?_
  rintro e w2 ⟨rfl, hb2⟩
  go_wp2
  go_ret
  exact ⟨rfl, (((Below.refl w.heap.size w).alloc (Nat.le_refl _) _).trans (hb1.mono (by simp))).trans (hb2.mono (by have := hb1.size; simp at this; omega))⟩
end Go.Proofs.YtilpkocmdpofpaaGreatDoor

/- exact.Show of ratios whose lowest form has numbers closer to 0 than 100; over and shows of the laws. -/
namespace Go.Proofs.YtilpkocmdpofpaaGreatDoor
open Go.RowKit

theorem tx_len (z : Int) (h : z.natAbs < 100) : (tx z).size ≤ 3 := by
  have := dec_len z.natAbs h
  unfold tx
  split
  · simp [ByteArray.size_append]; show 1 + (Lib.decDigits z.natAbs).length ≤ 3; omega
  · show (Lib.decDigits z.natAbs).length ≤ 3; omega

set_option maxRecDepth 100000 in
set_option maxHeartbeats 1000000 in
theorem Show_whole (v : Value) (x y N : Int) (K : Nat) (w : World) (hv : Ra w v x y K) (hy : y ≠ 0) (hK : K ≤ 1073741820)
    (hN : lowN (sgn (decide (x < 0) != decide (y < 0)) (x.natAbs : Int)) (y.natAbs : Int) = N) (hD : lowD (sgn (decide (x < 0) != decide (y < 0)) (x.natAbs : Int)) (y.natAbs : Int) = 1) (h0 : N ≠ 0) (h1 : N.natAbs < 100) :
    Calls Tryz.prog 17 #[v] w fun e w' => e = .returned (.string (tx N)) ∧ Below w.heap.size w w' := by
  have hRR := fun (w' : World) (hb : Below w.heap.size w w') => readRatio_ne v x y K w' (hv.below hb (Nat.le_refl _)) hy (by omega)
  obtain ⟨xb, xo, xm, xc, yb, yo, ym, yc, rfl, _, _⟩ := Ra.opened hv
  have HRR := hid hRR
  obtain ⟨s1, hs1⟩ : ∃ s1, s1 = tx N := ⟨_, rfl⟩
  have hz1 : s1.size ≤ 3 := by rw [hs1]; exact tx_len N h1
  have HT := hid (fun (v' : Value) (w' : World) (h : Ai w' v' N (2 * ((K + 1) / 2))) => by have := Text_any N _ v' w' h (by omega) h0 h1; rw [← hs1] at this; exact this)
  have H1 := hid (fun (z d : Int) (Kz : Nat) (f : Value) (w' : World) (h : Ft w' f z d Kz) (hd : 0 < d) (hk : Kz ≤ 1073741823) => fracValue_any f z d Kz w' h hd hk)
  rw [← hs1]
  have HO1 := hid (show decide (((1 : Int).natAbs : Int) = 1) = true from rfl)
  have HN := hid hN; have HD := hid hD; have Hy := hid hy
  clear hs1 hRR hv hN hD hy h0
  have hB0 : Below w.heap.size w (w.alloc (.cells #[.bool xb, .slice xo xm xc, .bool yb, .slice yo ym yc] 26)) := (Below.refl _ _).alloc (Nat.le_refl _) _
  have HB0 := hid hB0
  clear hB0
  go_enter Tryz.func17, Tryz.ntmps17
  go_wp2_with fail
  refine (HRR.out _ HB0.out).mono ?_
  rintro e w1 ⟨f, rfl, hf, hb1⟩
  have HB1 := hid (show Below w.heap.size w w1 from HB0.out.trans (hb1.mono (by simp)))
  clear hb1
  go_wp2_with fail
  refine (H1.out _ _ _ _ _ hf (by have := Hy.out; omega) (by omega)).mono ?_
  rintro e w2 ⟨_, rfl, hr, hb2⟩
  rw [HN.out, HD.out] at hr
  obtain ⟨b1, o1, m1, c1, b2, o2, m2, c2, rfl, HR1, HR2⟩ := FrR.opened hr
  have HB2 := hid (show Below w.heap.size w w2 from HB1.out.trans (hb2.mono HB1.out.size))
  clear hr hf hb2
  obtain ⟨W3, hW3⟩ : ∃ W3, W3 = w2.alloc (.cells #[.bool b1, .slice o1 m1 c1, .bool b2, .slice o2 m2 c2] 26) := ⟨_, rfl⟩
  have hal : Below w2.heap.size w2 W3 := by rw [hW3]; exact (Below.refl _ _).alloc (Nat.le_refl _) _
  have HS : Hid (∀ w', Below W3.heap.size W3 w' → w'.cell? ⟨w2.heap.size, 0, none⟩ = some (.bool b1) ∧ w'.cell? ⟨w2.heap.size, 1, none⟩ = some (.slice o1 m1 c1) ∧ w'.cell? ⟨w2.heap.size, 2, none⟩ = some (.bool b2) ∧ w'.cell? ⟨w2.heap.size, 3, none⟩ = some (.slice o2 m2 c2)) := hid (fun w' hb => by
    refine ⟨?_, ?_, ?_, ?_⟩ <;> (rw [hb.cell (by rw [hW3]; simp), hW3]; simp [go_sem]))
  have HAL := hid hal; have HW3 := hid hW3
  clear hal hW3
  go_wp2_with fail
  rw [← HW3.out]
  refine (HT.out _ _ (HR1.out.ai.below HAL.out (Nat.le_refl _))).mono ?_
  rintro e w4 ⟨rfl, hb4⟩
  obtain ⟨k0, k1, k2, k3⟩ := HS.out _ hb4
  have HB4 := hid (show Below w2.heap.size w2 w4 from HAL.out.trans (hb4.mono HAL.out.size))
  clear hb4
  go_wp2_with fail
  refine (read_any _ 1 _ _ (HR2.out.ai.below HB4.out (Nat.le_refl _)) (by omega)).mono ?_
  rintro e w5 ⟨_, rfl, hv5, hb5⟩
  obtain ⟨b5, o5, m5, c5, rfl, H5, H5s, H5b⟩ := It.opened hv5
  have HI := hid (fun w' hb => isOne_any _ _ _ w' (H5s.out w' hb))
  have HB5 := hid (show Below w2.heap.size w2 w5 from HB4.out.trans (hb5.mono HB4.out.size))
  clear hb5 hv5
  have hfld : ∀ w : World, (Instr.field 84 (.agg #[.bool b5, .slice o5 m5 c5]) 1).run Tryz.prog w = .ok (.slice o5 m5 c5) w := fun w => by kernel_rfl
  go_wp2_with fail
  refine (HI.out _ (Below.refl _ _)).mono ?_
  rintro e w6 ⟨rfl, h6⟩
  obtain rfl : w5 = w6 := h6.symm
  rw [HO1.out]
  go_wp2
  go_ret
  exact ⟨rfl, HB2.out.trans (HB5.out.mono HB2.out.size)⟩

set_option maxRecDepth 100000 in
set_option maxHeartbeats 1000000 in
theorem Show_quot (v : Value) (x y N D : Int) (K : Nat) (w : World) (hv : Ra w v x y K) (hy : y ≠ 0) (hK : K ≤ 1073741820)
    (hN : lowN (sgn (decide (x < 0) != decide (y < 0)) (x.natAbs : Int)) (y.natAbs : Int) = N) (hD : lowD (sgn (decide (x < 0) != decide (y < 0)) (x.natAbs : Int)) (y.natAbs : Int) = D) (h0 : N ≠ 0) (h1 : N.natAbs < 100) (d0 : 1 < D) (d1 : D < 100) :
    Calls Tryz.prog 17 #[v] w fun e w' => e = .returned (.string (tx N ++ ⟨#[47]⟩ ++ ⟨(Lib.decDigits D.natAbs).toArray⟩)) ∧ Below w.heap.size w w' := by
  have hRR := fun (w' : World) (hb : Below w.heap.size w w') => readRatio_ne v x y K w' (hv.below hb (Nat.le_refl _)) hy (by omega)
  obtain ⟨xb, xo, xm, xc, yb, yo, ym, yc, rfl, _, _⟩ := Ra.opened hv
  have HRR := hid hRR
  obtain ⟨s1, hs1⟩ : ∃ s1, s1 = tx N := ⟨_, rfl⟩
  have hz1 : s1.size ≤ 3 := by rw [hs1]; exact tx_len N h1
  have HT := hid (fun (v' : Value) (w' : World) (h : Ai w' v' N (2 * ((K + 1) / 2))) => by have := Text_any N _ v' w' h (by omega) h0 h1; rw [← hs1] at this; exact this)
  have H1 := hid (fun (z d : Int) (Kz : Nat) (f : Value) (w' : World) (h : Ft w' f z d Kz) (hd : 0 < d) (hk : Kz ≤ 1073741823) => fracValue_any f z d Kz w' h hd hk)
  rw [← hs1]
  obtain ⟨s2, hs2⟩ : ∃ s2 : ByteArray, s2 = ⟨(Lib.decDigits D.natAbs).toArray⟩ := ⟨_, rfl⟩
  have hz2 : s2.size ≤ 2 := by rw [hs2]; exact dec_len D.natAbs (by omega)
  have hq1 : ¬ 9223372036854775807 < s1.size + 1 := by omega
  have hq2 : ¬ 9223372036854775807 < s1.size + 1 + s2.size := by omega
  have HDD := hid (fun (v' : Value) (w' : World) (Kd : Nat) (h : Nt w' v' (D.natAbs : Int) Kd) => by have := decimals_one D.natAbs Kd v' w' h (by omega) (by omega); rw [← hs2] at this; exact this)
  rw [← hs2]
  have HO1 := hid (show decide ((D.natAbs : Int) = 1) = false from decide_eq_false (by omega))
  have HN := hid hN; have HD := hid hD; have Hy := hid hy
  clear hs1 hs2 hRR hv hN hD hy h0
  have hB0 : Below w.heap.size w (w.alloc (.cells #[.bool xb, .slice xo xm xc, .bool yb, .slice yo ym yc] 26)) := (Below.refl _ _).alloc (Nat.le_refl _) _
  have HB0 := hid hB0
  clear hB0
  go_enter Tryz.func17, Tryz.ntmps17
  go_wp2_with fail
  refine (HRR.out _ HB0.out).mono ?_
  rintro e w1 ⟨f, rfl, hf, hb1⟩
  have HB1 := hid (show Below w.heap.size w w1 from HB0.out.trans (hb1.mono (by simp)))
  clear hb1
  go_wp2_with fail
  refine (H1.out _ _ _ _ _ hf (by have := Hy.out; omega) (by omega)).mono ?_
  rintro e w2 ⟨_, rfl, hr, hb2⟩
  rw [HN.out, HD.out] at hr
  obtain ⟨b1, o1, m1, c1, b2, o2, m2, c2, rfl, HR1, HR2⟩ := FrR.opened hr
  have HB2 := hid (show Below w.heap.size w w2 from HB1.out.trans (hb2.mono HB1.out.size))
  clear hr hf hb2
  obtain ⟨W3, hW3⟩ : ∃ W3, W3 = w2.alloc (.cells #[.bool b1, .slice o1 m1 c1, .bool b2, .slice o2 m2 c2] 26) := ⟨_, rfl⟩
  have hal : Below w2.heap.size w2 W3 := by rw [hW3]; exact (Below.refl _ _).alloc (Nat.le_refl _) _
  have HS : Hid (∀ w', Below W3.heap.size W3 w' → w'.cell? ⟨w2.heap.size, 0, none⟩ = some (.bool b1) ∧ w'.cell? ⟨w2.heap.size, 1, none⟩ = some (.slice o1 m1 c1) ∧ w'.cell? ⟨w2.heap.size, 2, none⟩ = some (.bool b2) ∧ w'.cell? ⟨w2.heap.size, 3, none⟩ = some (.slice o2 m2 c2)) := hid (fun w' hb => by
    refine ⟨?_, ?_, ?_, ?_⟩ <;> (rw [hb.cell (by rw [hW3]; simp), hW3]; simp [go_sem]))
  have HAL := hid hal; have HW3 := hid hW3
  clear hal hW3
  go_wp2_with fail
  rw [← HW3.out]
  refine (HT.out _ _ (HR1.out.ai.below HAL.out (Nat.le_refl _))).mono ?_
  rintro e w4 ⟨rfl, hb4⟩
  obtain ⟨k0, k1, k2, k3⟩ := HS.out _ hb4
  have HB4 := hid (show Below w2.heap.size w2 w4 from HAL.out.trans (hb4.mono HAL.out.size))
  clear hb4
  go_wp2_with fail
  refine (read_any _ D _ _ (HR2.out.ai.below HB4.out (Nat.le_refl _)) (by omega)).mono ?_
  rintro e w5 ⟨_, rfl, hv5, hb5⟩
  obtain ⟨b5, o5, m5, c5, rfl, H5, H5s, H5b⟩ := It.opened hv5
  have HI := hid (fun w' hb => isOne_any _ _ _ w' (H5s.out w' hb))
  have HB5 := hid (show Below w2.heap.size w2 w5 from HB4.out.trans (hb5.mono HB4.out.size))
  clear hb5 hv5
  have hfld : ∀ w : World, (Instr.field 84 (.agg #[.bool b5, .slice o5 m5 c5]) 1).run Tryz.prog w = .ok (.slice o5 m5 c5) w := fun w => by kernel_rfl
  go_wp2_with fail
  refine (HI.out _ (Below.refl _ _)).mono ?_
  rintro e w6 ⟨rfl, h6⟩
  obtain rfl : w5 = w6 := h6.symm
  rw [HO1.out]
  go_wp2_with fail
  refine (HDD.out _ _ _ (H5s.out _ (Below.refl _ _))).mono ?_
  rintro e w7 ⟨rfl, hb7⟩
  go_wp2
  go_ret
  exact ⟨rfl, (HB2.out.trans (HB5.out.mono HB2.out.size)).trans (hb7.mono (HB2.out.trans (HB5.out.mono HB2.out.size)).size)⟩
end Go.Proofs.YtilpkocmdpofpaaGreatDoor
