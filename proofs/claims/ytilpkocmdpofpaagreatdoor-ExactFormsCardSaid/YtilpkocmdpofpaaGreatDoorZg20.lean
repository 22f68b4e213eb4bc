/- Decimal digits, padded; exact.padded. exact.decimals of a number below 100: its one group's digits. -/
import Derived.Test.YtilpkocmdpofpaaGreatDoorZg02
import Derived.Test.YtilpkocmdpofpaaGreatDoorZg19
import Derived.Maps.AppendAt
import Derived.Test.YtilpkocmdpofpaaGreatDoorZg06
/- Decimal digits, padded; exact.padded. -/
namespace Go.Proofs.YtilpkocmdpofpaaGreatDoor
open Go.RowKit

/-- The k last decimal digits, with zeros ahead. -/
def padD : Nat → Nat → List UInt8
  | 0, _ => []
  | k + 1, r => padD k (r / 10) ++ [UInt8.ofNat (48 + r % 10)]
theorem dec_small {n : Nat} (h : n < 10) : Lib.decDigits n = [UInt8.ofNat (48 + n)] := by
  rw [Lib.decDigits, dif_pos h]
theorem dec_big {n : Nat} (h : ¬ n < 10) : Lib.decDigits n = Lib.decDigits (n / 10) ++ [UInt8.ofNat (48 + n % 10)] := by
  rw [Lib.decDigits, dif_neg h]
theorem dec_join : ∀ (k q r : Nat), 0 < q → r < 10 ^ k → Lib.decDigits (q * 10 ^ k + r) = Lib.decDigits q ++ padD k r
  | 0, q, r, hq, hr => by
    have : r = 0 := by simpa using hr
    subst this
    simp [padD]
  | k + 1, q, r, hq, hr => by
    have h1 : 0 < q * 10 ^ (k + 1) := Nat.mul_pos hq (Nat.pow_pos (by decide))
    have h2 : q * 10 ^ (k + 1) = q * 10 ^ k * 10 := by rw [Nat.pow_succ, Nat.mul_assoc]
    have h3 : 0 < q * 10 ^ k := Nat.mul_pos hq (Nat.pow_pos (by decide))
    rw [dec_big (by omega), h2, show (q * 10 ^ k * 10 + r) / 10 = q * 10 ^ k + r / 10 by omega, show (q * 10 ^ k * 10 + r) % 10 = r % 10 by omega, dec_join k q (r / 10) hq (by rw [Nat.pow_succ] at hr; omega), padD, List.append_assoc]
theorem pad_dec : ∀ (k r : Nat), 0 < k → r < 10 ^ k → (Lib.decDigits r).length ≤ k ∧ padD k r = List.replicate (k - (Lib.decDigits r).length) 48 ++ Lib.decDigits r
  | 0, _, h, _ => absurd h (by decide)
  | k + 1, r, _, hr => by
    by_cases h10 : r < 10
    · rw [dec_small h10]
      refine ⟨by simp, ?_⟩
      have h0 : ∀ j, padD j 0 = List.replicate j 48 := by
        intro j
        induction j with
        | zero => rfl
        | succ j ih => rw [padD, Nat.zero_div, ih, List.replicate_succ']; rfl
      rw [padD, show r / 10 = 0 by omega, h0, Nat.mod_eq_of_lt h10]
      simp
    · have hk : 0 < k := by
        rcases Nat.eq_zero_or_pos k with e | e
        · subst e; simp at hr; omega
        · exact e
      obtain ⟨h1, h2⟩ := pad_dec k (r / 10) hk (by rw [Nat.pow_succ] at hr; omega)
      rw [dec_big h10, padD, h2]
      refine ⟨by simp; omega, ?_⟩
      simp [List.append_assoc]
/-- The digits of the groups, the lowest first. -/
def joinG : List Nat → List UInt8
  | [] => []
  | [x] => Lib.decDigits x
  | x :: y :: l => joinG (y :: l) ++ padD 19 x
theorem gls_ne {n : Nat} (h : n ≠ 0) : gls n ≠ [] := by rw [gls_pos h]; simp
theorem join_gls : ∀ (k n : Nat), n ≤ k → n ≠ 0 → joinG (gls n) = Lib.decDigits n
  | 0, n, hk, hn => absurd (by omega) hn
  | k + 1, n, hk, hn => by
    rw [gls_pos hn]
    by_cases hd : n / 10000000000000000000 = 0
    · rw [hd, gls_zero, joinG, Nat.mod_eq_of_lt (by omega)]
    · have ih := join_gls k (n / 10000000000000000000) (by have := Nat.div_lt_self (show 0 < n by omega) (show 1 < 10000000000000000000 by decide); omega) hd
      cases hg : gls (n / 10000000000000000000) with
      | nil => exact absurd hg (gls_ne hd)
      | cons y l =>
        rw [joinG, ← hg, ih]
        have h := dec_join 19 (n / 10000000000000000000) (n % 10000000000000000000) (by omega) (Nat.mod_lt _ (by decide))
        rw [← h]
        congr 1
        rw [show (10 : Nat) ^ 19 = 10000000000000000000 by decide]
        exact Nat.div_add_mod' n 10000000000000000000
theorem repeat_zero (c : Nat) : Lib.repeatL (⟨#[48]⟩ : ByteArray).data.toList c = List.replicate c 48 := by
  induction c with
  | zero => rfl
  | succ c ih => rw [Lib.repeatL, ih, List.replicate_succ]; rfl

set_option maxRecDepth 100000 in
set_option maxHeartbeats 1000000 in
theorem padded_any (l : List UInt8) (size : Nat) (w : World) (hl : l.length ≤ 1000000) (hs : size ≤ 1000000) :
    Calls Tryz.prog 58 #[.string ⟨l.toArray⟩, .int .i64 (size : Int)] w fun e w' => e = .returned (.string ⟨(List.replicate (size - l.length) 48 ++ l).toArray⟩) ∧ Below w.heap.size w w' := by
  obtain ⟨s, hs0⟩ : ∃ s : ByteArray, s = ⟨l.toArray⟩ := ⟨_, rfl⟩
  have hz : s.size = l.length := by rw [hs0]; rfl
  obtain ⟨c, hc⟩ : ∃ c : Nat, c = size - l.length := ⟨_, rfl⟩
  obtain ⟨t, ht⟩ : ∃ t : ByteArray, t = ⟨(List.replicate c 48).toArray⟩ := ⟨_, rfl⟩
  have htz : t.size = c := by rw [ht]; show (List.replicate c (48 : UInt8)).length = c; simp
  have hR := Tryz.strings_Repeat ⟨#[48]⟩ c w (by omega) (by show 1 * c ≤ _; omega)
  rw [repeat_zero, ← ht] at hR
  have hmx : max (0 : Int) ((size : Int) - (s.size : Int)) = (c : Int) := by rw [hz, hc]; omega
  have HE := hid (show (⟨(List.replicate (size - l.length) 48 ++ l).toArray⟩ : ByteArray) = t ++ s by
    rw [ht, hs0, hc]
    apply ByteArray.ext
    simp [ByteArray.data_append])
  have hq : ¬ 9223372036854775807 < t.size + s.size := by omega
  have hw1 : (0 : Int) ≤ (size : Int) := by omega
  have hw2 : (size : Int) ≤ 1000000 := by omega
  have hw3 : (0 : Int) ≤ (s.size : Int) := by omega
  have hw4 : (s.size : Int) ≤ 1000000 := by omega
  rw [HE.out, ← hs0]
  have HR := hid hR; have Hmx := hid hmx
  clear hs0 hz hc ht htz hR hmx
  go_enter Tryz.func58, Tryz.ntmps58
  go_wp2_with fail
  rw [Hmx.out]
  refine HR.out.mono ?_
  rintro e w1 ⟨rfl, hb⟩
  go_wp2
  go_ret
  exact ⟨rfl, hb⟩
end Go.Proofs.YtilpkocmdpofpaaGreatDoor

/- exact.decimals of a number below 100: its one group's digits. -/
namespace Go.Proofs.YtilpkocmdpofpaaGreatDoor
open Go.RowKit Go.Shelf
attribute [local go_sem] Oper.semAt_some

theorem nt_one {w : World} {ao : Option Addr} {c : Nat} {L : List Int} {y : Int} {K : Nat} (h : NtL w ao c L y K) (y0 : 0 < y) (y1 : y < B64) : L = [y] := by
  refine val_inj B64_pos h.dig (fun x hx => by simp at hx; omega) h.nrm ?_ ?_
  · simp [Nrm, trimL]; omega
  · rw [h.eq]; simp [val]

theorem Tryz.infoS : (Tryz.prog.info? 9).map (fun i => (i.zero, i.size, i.bytes)) = some (some (.string ⟨#[]⟩), 1, 16) := by kernel_rfl

theorem cell_one_at (w : World) (g : Nat) (x : Value) (h : w.cell? ⟨g, 0, none⟩ = some x) : ∀ j u, [x][j]? = some u → w.cell? ((⟨g, 0, none⟩ : Addr).add j) = some u := by
  intro j u hj
  match j, hj with
  | 0, hj =>
    simp at hj
    subst hj
    simpa [Addr.add] using h
  | j + 1, hj => simp at hj
theorem cell_al {w : World} {a : Addr} {v : Value} (o : Obj) (h : w.cell? a = some v) : (w.alloc o).cell? a = some v := (World.grownBy_alloc w o none).cell h (by simp)
theorem frozen_al {w : World} {a : Addr} {v : Value} (o : Obj) (h : w.cell? a = some v) : (w.alloc o).frozen? a = w.frozen? a := frozen_kept h (World.grownBy_alloc w o none) (by simp)

theorem dec_len (i : Nat) (h : i < 100) : (Lib.decDigits i).length ≤ 2 := by
  rw [Lib.decDigits]
  split
  · simp
  · rw [Lib.decDigits]
    split
    · simp
    · omega

/-- What one round's append and store leave. -/
theorem text_stored {w W : World} {b : Nat} {v v0 : Value} {s : ByteArray} (cs : Array Value) (hB : Below w.heap.size w W) (hb : w.heap.size ≤ b) (hc : W.cell? ⟨b, 0, none⟩ = some v0) (hf : W.frozen? ⟨b, 0, none⟩ = false) :
    Below w.heap.size W (((W.setCell ⟨b, 0, none⟩ v).alloc (.cells #[.string s] 9)).alloc (.cells (#[.string s] ++ cs) 9)).drew.drew ∧
    (((W.setCell ⟨b, 0, none⟩ v).alloc (.cells #[.string s] 9)).alloc (.cells (#[.string s] ++ cs) 9)).drew.drew.cell? ⟨b, 0, none⟩ = some v ∧
    (((W.setCell ⟨b, 0, none⟩ v).alloc (.cells #[.string s] 9)).alloc (.cells (#[.string s] ++ cs) 9)).drew.drew.cell? ⟨W.heap.size + 1, 0, none⟩ = some (.string s) ∧
    (((W.setCell ⟨b, 0, none⟩ v).alloc (.cells #[.string s] 9)).alloc (.cells (#[.string s] ++ cs) 9)).drew.drew.frozen? ⟨b, 0, none⟩ = false := by
  have hs := hB.size
  have h1 : (W.setCell ⟨b, 0, none⟩ v).cell? ⟨b, 0, none⟩ = some v := World.cell?_setCell_same' _ _ _ (by rw [hc]; rfl)
  have hz : (W.setCell ⟨b, 0, none⟩ v).heap.size = W.heap.size := by simp
  refine ⟨?_, cell_al _ (cell_al _ h1), ?_, ?_⟩
  · exact ((((Below.refl _ W).setCell (p := ⟨b, 0, none⟩) hb _).alloc (by rw [hz]; exact hs) _).alloc (by rw [World.size_alloc, hz]; omega) _).drew.drew
  · have e : W.heap.size + 1 = ((W.setCell ⟨b, 0, none⟩ v).alloc (.cells #[.string s] 9)).heap.size := by rw [World.size_alloc, hz]
    rw [e]
    show (World.alloc _ _).cell? _ = _
    rw [cell_of_row _ _ 0 _ _ _ (World.alloc_heap_new _ _)]
    simp [Array.getElem?_append]
  · show (World.alloc _ _).frozen? _ = _
    rw [frozen_al _ (cell_al _ h1), frozen_al _ h1, World.frozen?_setCell]
    exact hf

set_option maxRecDepth 100000 in
set_option maxHeartbeats 1000000 in
theorem decimals_one (i : Nat) (K : Nat) (v : Value) (w : World) (hA : Nt w v i K) (hy0 : 0 < i) (hy : i < 100) :
    Calls Tryz.prog 59 #[v] w fun e w' => e = .returned (.string ⟨(Lib.decDigits i).toArray⟩) ∧ Below w.heap.size w w' := by
  obtain ⟨ao, ca, L, rfl, hA⟩ := hA
  obtain rfl : L = [(i : Int)] := nt_one hA (by omega) (by unfold B64; omega)
  have HA1 : Nt w (.slice ao 1 ca) i 1 := ⟨ao, ca, [(i : Int)], rfl, hA.rd, hA.dig, hA.nrm, hA.eq, Nat.le_refl _⟩
  obtain ⟨s, hs⟩ : ∃ s : ByteArray, s = ⟨(Lib.decDigits i).toArray⟩ := ⟨_, rfl⟩
  have HF : ∀ (l : Nat) (W : World), CallsIn (Fence.wide.inRound l) 2 Tryz.prog 110 #[.int .u64 i, .int .i64 10] W fun e w' => e = .returned (.string s) ∧ w' = W :=
    fun l W => CallsIn.inRound l (callsIn_wide.2 (by rw [hs]; exact format_small i hy W))
  have hlen : s.size ≤ 2 := by rw [hs]; exact dec_len i hy
  rw [← hs]
  have HD := hid (show Lib.strCells s = Lib.byteCells (Lib.decDigits i) ∧ s = ⟨(Lib.decDigits i).toArray⟩ from ⟨by rw [hs]; rfl, hs⟩)
  clear hs
  refine (callsIn_wide (n := 5)).1 ?_
  refine callsIn_of_wp_marks Tryz.func59 rfl trivial ?_ rfl
  simp only [Tryz.ntmps59, List.size_toArray, List.length_cons, List.length_nil, Nat.reduceAdd, Nat.reduceSub, Array.replicate_succ, Array.replicate_zero, List.push_toArray, List.append_toArray, List.nil_append, List.cons_append]
  gi_wp2_with (refine ⟨trivial, ?_⟩; gi_at_call 109; refine (groups_in _ _ _ _ _).mono ?_; rintro e w' ⟨rfl, rfl⟩)
  obtain ⟨w0, hw0⟩ : ∃ w0, ((w.alloc (.cells #[] 9)).alloc (.cells #[.slice (some ⟨w.heap.size, 0, none⟩) 0 0] 139)) = w0 := ⟨_, rfl⟩
  have hB0 : Below w.heap.size w w0 := by rw [← hw0]; exact ((Below.refl _ w).alloc (Nat.le_refl _) _).alloc (by simp) _
  have hsz : w0.heap.size = w.heap.size + 2 := by rw [← hw0]; simp
  have hc0 : w0.cell? ⟨w.heap.size + 1, 0, none⟩ = some (.slice (some ⟨w.heap.size, 0, none⟩) 0 0) := by rw [← hw0]; simp
  have hf0 : w0.frozen? ⟨w.heap.size + 1, 0, none⟩ = false := by rw [← hw0]; simp
  rw [hw0]
  have bN := Boxed.new w0 82 (.slice ao 1 ca)
  have hB1 : Below w.heap.size w (w0.alloc (.cells #[.slice ao 1 ca] 82)) := hB0.alloc hB0.size _
  refine wpIn_rangeFunc_ownG rfl (by omega) (gf := 163) (lb := #[.pointer (some ⟨w.heap.size + 1 + 1, 0, none⟩)]) rfl trivial (enters_of Tryz.func163 (by kernel_rfl) rfl)
    (groups1_stops _ (by omega) (w.heap.size + 1 + 1) w.heap.size (i : Int) (by omega) (by omega) ao 1 ca _ (by simp; omega) (by rw [← hsz]; exact bN.cell) (HA1.below hB1 (Nat.le_refl _)) (by omega)) belowK_t (belowK_b (by simp; omega)) (Below.refl _ _) (fun _ => rfl)
    (fun pre W => (((pre = [] ∧ W.cell? ⟨w.heap.size + 1, 0, none⟩ = some (.slice (some ⟨w.heap.size, 0, none⟩) 0 0)) ∨
      (pre.length = 1 ∧ ∃ g cap, 0 < cap ∧ W.cell? ⟨w.heap.size + 1, 0, none⟩ = some (.slice (some ⟨g, 0, none⟩) 1 cap) ∧ W.cell? ⟨g, 0, none⟩ = some (.string s))) ∧ W.frozen? ⟨w.heap.size + 1, 0, none⟩ = false) ∧ Below w.heap.size w W)
    (fun _ _ _ => False)
    (OwnFrom.and (Own.from (fun p A B row hq hg hr => by
      obtain ⟨h1 | ⟨hp, g, cap, hcap, h1, h2⟩, h3⟩ := hq
      · exact ⟨.inl ⟨h1.1, cell_kept h1.2 hg hr⟩, (frozen_kept h1.2 hg hr).trans h3⟩
      · exact ⟨.inr ⟨hp, g, cap, hcap, cell_kept h1 hg hr, cell_kept h2 hg hr⟩, (frozen_kept h1 hg hr).trans h3⟩) _) (ownFrom_below (Nat.le_refl _) (by simp; omega)))
    (fun _ _ _ _ _ hq _ _ => hq)
    ⟨⟨.inl ⟨rfl, cell_al _ hc0⟩, (frozen_al _ hc0).trans hf0⟩, hB1⟩
    (fun x => { tmps := #[.slice ao 1 ca, undef, .string ⟨#[]⟩, .pointer (some ⟨w.heap.size + 1, 0, none⟩), .int .u64 x.1, undef, undef, undef, .slice (some ⟨w.heap.size, 0, none⟩) 0 0, .slice ao 1 ca, .func (.func 163) #[] #[.pointer (some ⟨w.heap.size + 1 + 1, 0, none⟩)], .int .u64 x.1, undef, undef, undef, undef, undef, undef, undef, undef, undef, undef, undef, undef, undef, undef, undef, undef, undef, undef, undef, undef, undef, undef, undef, undef, undef, undef, undef, undef, undef], defers := [] }) ?assign ?body ?done ?stop
  case assign =>
    intro l x W K hK
    gi_wp2
    exact hK
  case body =>
    rintro l pre ⟨x, rfl⟩ W ⟨⟨hq, hf⟩, hB⟩ hlt
    rcases hq with ⟨rfl, hc⟩ | ⟨hp, _⟩
    · have hns : ¬ 281474976710656 < Builtin.nextslicecap 1 0 * Tryz.t9.bytes := by rw [nextslicecap_zero (by omega)]; rw [show Tryz.t9.bytes = 16 by kernel_rfl]; omega
      have hcap : 0 < (Question.appendCap 1 0 9).cut (W.tape (W.drawn + 1) (Question.appendCap 1 0 9)) := grownCap_ge W.drew 1 0 9
      have hBs := hB.size
      have hl1 : w.heap.size + 1 < W.heap.size := World.block_lt_of_cell? W _ hc
      have hl2 : ¬ w.heap.size + 1 = W.heap.size := by omega
      have hl3 : ¬ w.heap.size = W.heap.size := by omega
      have hl4 : w.heap.size + 1 < W.heap.size + 1 := by omega
      have hl5 : ¬ w.heap.size + 1 = W.heap.size + 1 := by omega
      have hmx : Tryz.prog.follows .mixedOrders = true := by kernel_rfl
      gi_wp2
      gi_region_with_o (refine ⟨trivial, ?_⟩; gi_at_call 110; refine (HF _ _).mono ?_; rintro e w' ⟨rfl, rfl⟩)
      all_goals gi_wp2
      all_goals
        have HT := text_stored (s := s) (v := .slice (some ⟨W.heap.size + 1, 0, none⟩) 1 ((Question.appendCap 1 0 9).cut (W.tape (W.drawn + 1) (Question.appendCap 1 0 9)))) (Builtin.zeroCells #[.string ⟨#[]⟩] ((Question.appendCap 1 0 9).cut (W.tape (W.drawn + 1) (Question.appendCap 1 0 9)) - 1)) hB (by omega : w.heap.size ≤ w.heap.size + 1) hc hf
        exact ⟨((KeepsOthers.setCell _ _ _).trans ((KeepsOthers.alloc _ _).trans ((KeepsOthers.alloc _ _).trans ((KeepsOthers.drew _).trans (KeepsOthers.drew _))))).from _, HT.1, ⟨⟨.inr ⟨rfl, W.heap.size + 1, _, hcap, HT.2.1, HT.2.2.1⟩, HT.2.2.2⟩, hB.trans HT.1⟩⟩
    · exact absurd hlt (by simp at hlt; omega)
  case done =>
    rintro D ys W hD rfl ⟨⟨hq, hf⟩, hB⟩ hK
    rcases hq with ⟨h, _⟩ | ⟨_, g, cap, hcap, hc, hs1⟩
    · cases h
    · have hBu := Lib.fresh_isBuilder 147 5 W
      have HW := hid (fun w' (h : Bu W.heap.size W.heap.size [] w') (h2 : W.heap.size ≤ w'.heap.size) => writeString_any W.heap.size W.heap.size [] s w' h (by simp; omega) h2)
      have hl1 : w.heap.size + 1 < W.heap.size := World.block_lt_of_cell? W _ hc
      have hl2 : g < W.heap.size := World.block_lt_of_cell? W _ hs1
      have hcapI : ¬ cap = 0 := by omega
      gi_wp2_with (refine ⟨trivial, ?_⟩; gi_at_call 111; refine (callsIn_wide.2 (HW.out _ hBu (by simp))).mono ?_; rintro e w2 ⟨rfl, hb2, hbel⟩)
      gi_loopw [7] (fun p wr => p = .int .i64 (-1) ∧ wr = w2) (fun _ _ => 0)
      case atStart => exact ⟨rfl, rfl⟩
      case round =>
        obtain ⟨rfl, rfl⟩ := hrel
        have hb3 : Bu W.heap.size W.heap.size (Lib.byteCells (Lib.decDigits i)) wr := by rw [← HD.out.1]; simpa using hb2
        gi_wp2_with (refine ⟨trivial, ?_⟩; gi_at_call 112; refine (callsIn_wide.2 (bstring_any W.heap.size W.heap.size (Lib.decDigits i) _ hb3 (by have := hbel.size; simp at this; omega))).mono ?_; rintro e w3 ⟨rfl, hbel2⟩)
        have hDl := (Array.getElem?_eq_some_iff.1 hK).1
        have hK3 : w3.heap[D]? = some (.deferred (some [])) := by
          rw [hbel2.block D hDl, hbel.block D hDl]; exact (Below.heap_alloc W _ _ hDl).trans hK
        have hB3 : Below w.heap.size w w3 := ((hB.trans ((Below.refl _ W).alloc hB.size _)).trans (hbel.mono hB.size)).trans (hbel2.mono hB.size)
        refine ⟨by simp, .inl ⟨_, _, rfl, run_takeDeferred hK3, ?_⟩⟩
        refine ⟨_, results_tmp rfl _ _ _, ?_, hB3.trans (belowK_b (w := w) (Nat.le_refl _) w3 D _ _ (by simp at hD; omega) hK3 rfl rfl)⟩
        exact congrArg (fun t => Ending.returned (Value.string t)) HD.out.2.symm
  case stop =>
    rintro D c pre W _ _ h _
    exact h.elim
end Go.Proofs.YtilpkocmdpofpaaGreatDoor
