/- What the law ExactDivides asks of an integer and its error, the program's beside the document's: Div, Root, Power; is over both. exact.groups: the iterator at numbers of one limb below the group's size: one round. A region that draws its order: what holds between two of its operations, for any number of values and of boxes that it makes. exact.groups: the iterator at numbers of any size: the groups of 19 digits, the lowest first. exact.pieces: the iterator over a text's pieces of 19 bytes. -/
import Derived.Test.YthgccegjopieoaaDoorTx06
import Derived.Test.YthgccegjopieoaaDoorTx09
import Derived.Test.YthgccegjopieoaaDoorTx10
import Derived.RangeFuncNested
import Derived.RangeFuncBound
import Derived.RangeFuncCalls
import Derived.RangeFuncLeaves
import Derived.Shelf.Abstract
import Derived.Shelf.RegionOpen
import Derived.WalkKit
import Derived.OwnWalkIn
import Derived.TacticsInMore
import Derived.LoopNIn
import Derived.LoopIn
import Derived.Test.YthgccegjopieoaaDoorTx03
import Derived.Laws.IdiomCopy
import Derived.Test.YthgccegjopieoaaDoorTx05
import Derived.Test.YthgccegjopieoaaDoorTx02
/- What the law ExactDivides asks of an integer and its error, the program's beside the document's: Div, Root, Power; is over both. -/
namespace Go.Proofs.YthgccegjopieoaaDoor
open Go.RowKit

/-- An integer that the program gives back, with its error. -/
def IntE (w : World) (v : Value) (err z : Int) : Prop := ∃ b o m c, v = .agg #[.bool b, .slice o m c] ∧ ((err = 0 ∧ ∃ K, An w v z K) ∨ (err ≠ 0 ∧ b = false ∧ m = 0))
/-- The document's. -/
def ZE (w : World) (v : Value) (err z : Int) : Prop := ∃ b o m c, v = .agg #[.bool b, .slice o m c] ∧ ((err = 0 ∧ ∃ K, K ≤ 268435456 ∧ Zt w v z K) ∨ err ≠ 0)
theorem IntE.below {w w' : World} {B : Nat} {v : Value} {err z : Int} (h : IntE w v err z) (hb : Below B w w') (hB : w.heap.size ≤ B) : IntE w' v err z := by
  obtain ⟨b, o, m, c, e, h⟩ := h
  refine ⟨b, o, m, c, e, ?_⟩
  rcases h with ⟨h1, K, h2⟩ | h
  · exact Or.inl ⟨h1, K, h2.below hb hB⟩
  · exact Or.inr h
theorem ZE.below {w w' : World} {B : Nat} {v : Value} {err z : Int} (h : ZE w v err z) (hb : Below B w w') (hB : w.heap.size ≤ B) : ZE w' v err z := by
  obtain ⟨b, o, m, c, e, h⟩ := h
  refine ⟨b, o, m, c, e, ?_⟩
  rcases h with ⟨h1, K, hK, h2⟩ | h
  · exact Or.inl ⟨h1, K, hK, h2.below hb hB⟩
  · exact Or.inr h
theorem IntE.opened {w : World} {v : Value} {err z : Int} (h : IntE w v err z) : ∃ b o m c, v = .agg #[.bool b, .slice o m c] ∧ Hid (∀ w', Below w.heap.size w w' → IntE w' (.agg #[.bool b, .slice o m c]) err z) := by
  have h' := h
  obtain ⟨b, o, m, c, rfl, _⟩ := h
  exact ⟨b, o, m, c, rfl, hid (fun w' hb => h'.below hb (Nat.le_refl _))⟩
theorem ZE.opened {w : World} {v : Value} {err z : Int} (h : ZE w v err z) : ∃ b o m c, v = .agg #[.bool b, .slice o m c] ∧ Hid (∀ w', Below w.heap.size w w' → ZE w' (.agg #[.bool b, .slice o m c]) err z) := by
  have h' := h
  obtain ⟨b, o, m, c, rfl, _⟩ := h
  exact ⟨b, o, m, c, rfl, hid (fun w' hb => h'.below hb (Nat.le_refl _))⟩
theorem FrA.an {w0 w : World} {v : Value} {z : Int} {K : Nat} (h : FrA w0 w v z K) : An w v z K := by
  obtain ⟨s, rfl, L, ho, hd, hn, hv, hl⟩ := h
  obtain ⟨ao, c, rfl⟩ := owns_slice ho
  exact ⟨ao, c, L, rfl, owns_any ho rfl, hd, hn, hv, hl⟩
set_option maxRecDepth 100000 in
set_option maxHeartbeats 1000000 in
theorem is_res (v q : Value) (e z : Int) (w : World) (hv : IntE w v e z) (hq : ZE w q e z) :
    Calls Tryd.prog 9 #[v, .int .i64 e, q, .int .i64 e] w fun e w' => e = .returned (.bool true) ∧ Below w.heap.size w w' := by
  obtain ⟨b, o, m, c, rfl, hv⟩ := hv
  obtain ⟨b2, o2, m2, c2, rfl, hq⟩ := hq
  have hB : Below w.heap.size w ((w.alloc (.cells #[.bool b, .slice o m c] 24)).alloc (.cells #[.bool b2, .slice o2 m2 c2] 30)) := ((Below.refl _ _).alloc (Nat.le_refl _) _).alloc (by simp) _
  have HB := hid hB
  clear hB
  by_cases he : e = 0
  · subst he
    have hs : ∃ K K2, An w (.agg #[.bool b, .slice o m c]) z K ∧ K2 ≤ 268435456 ∧ Zt w (.agg #[.bool b2, .slice o2 m2 c2]) z K2 := by
      rcases hv with ⟨_, K, h⟩ | ⟨h, _⟩
      · rcases hq with ⟨_, K2, h2, h3⟩ | h2
        · exact ⟨K, K2, h, h2, h3⟩
        · exact absurd rfl h2
      · exact absurd rfl h
    obtain ⟨K, K2, h1, h2, h3⟩ := hs
    have hS := fun (w' : World) (hb : Below w.heap.size w w') => sameInt_any _ _ z K K2 w' (h1.below hb (Nat.le_refl _)) (h3.below hb (Nat.le_refl _)) h2
    have HS := hid hS
    clear hS h1 h2 h3 hv hq
    go_enter Tryd.func9, Tryd.ntmps9
    go_wp2_with fail
    refine (HS.out _ HB.out).mono ?_
    rintro e w' ⟨rfl, hb⟩
    go_wp2
    go_ret
    exact ⟨rfl, HB.out.trans (hb.mono HB.out.size)⟩
  · have hs : b = false ∧ m = 0 := by
      rcases hv with ⟨h, _⟩ | ⟨_, h⟩
      · exact absurd h he
      · exact h
    obtain ⟨rfl, rfl⟩ := hs
    have heb : (e != 0) = true := by simpa using he
    clear hv hq
    go_enter Tryd.func9, Tryd.ntmps9
    go_wp2_with fail
    refine (noInt_any o c _).mono ?_
    rintro e w' ⟨rfl, hb⟩
    go_wp2
    go_ret
    exact ⟨rfl, HB.out.trans (hb.mono HB.out.size)⟩
end Go.Proofs.YthgccegjopieoaaDoor

/- exact.groups: the iterator at numbers of one limb below the group's size: one round. -/
namespace Go.Proofs.YthgccegjopieoaaDoor
open Go.RowKit Go.Shelf
attribute [local go_sem] Oper.semAt_some

set_option maxHeartbeats 1000000 in
theorem groups_in (n : Nat) (a : Option Addr) (k c : Nat) (w : World) :
    CallsIn Fence.wide n Tryd.prog 43 #[.slice a k c] w fun e w' => e = .returned (.func (.func 52) #[] #[.pointer (some ⟨w.heap.size, 0, none⟩)]) ∧ w' = w.alloc (.cells #[.slice a k c] 39) := by
  refine callsIn_of_wp Tryd.func43 rfl trivial ?_ rfl
  simp only [Tryd.ntmps43, List.size_toArray, List.length_cons, List.length_nil, Nat.reduceAdd, Nat.reduceSub, Array.replicate_succ, Array.replicate_zero, List.push_toArray, List.append_toArray, List.nil_append, List.cons_append]
  gi_wp2
  go_ret
  exact ⟨rfl, rfl⟩

end Go.Proofs.YthgccegjopieoaaDoor

/- A region that draws its order: what holds between two of its operations, for any number of values and of boxes that it makes. -/
namespace Go.Proofs.YthgccegjopieoaaDoor
open Go.RowKit

def KeepAll (w w' : World) : Prop := ∀ k, Keeps k w w'
theorem KeepAll.of_below {w w' : World} (h : Below w.heap.size w w') : KeepAll w w' := fun _ => Keeps.below h (Nat.le_refl _)
theorem KeepAll.refl (w : World) : KeepAll w w := fun k => Keeps.refl k w
theorem KeepAll.trans {a b c : World} (h : KeepAll a b) (g : KeepAll b c) : KeepAll a c := fun k => (h k).trans (g k)
/-- A property of a value that stays where no number's cell turns. -/
def KeepV (G : World → Value → Prop) : Prop := ∀ w w' v, KeepAll w w' → G w v → G w' v
def Vals : List (Bool × (World → Value → Prop) × Value) → World → Prop
  | [], _ => True
  | (b, G, s) :: l, w => (b = true → G w s) ∧ Vals l w
def AllKeep : List (Bool × (World → Value → Prop) × Value) → Prop
  | [] => True
  | (_, G, _) :: l => KeepV G ∧ AllKeep l
theorem Vals.keep {w w' : World} : ∀ {l : List (Bool × (World → Value → Prop) × Value)}, AllKeep l → KeepAll w w' → Vals l w → Vals l w'
  | [], _, _, _ => trivial
  | (_, _, _) :: _, k, hk, h => ⟨fun e => k.1 _ _ _ hk (h.1 e), Vals.keep k.2 hk h.2⟩

/-- s points to a block of n cells that the region has made; b: it has been written with v. -/
def BoxN (B : Nat) (w : World) (n : Nat) (s : Value) (b : Bool) (v : Value) : Prop :=
  ∃ (p : Nat) (vs : List Value), s = .pointer (some ⟨p, 0, none⟩) ∧ B ≤ p ∧ p < w.heap.size ∧ vs.length = n ∧ (∀ i, i < n → w.cell? ⟨p, i, none⟩ = some (vs.getD i undef)) ∧ (∀ i, i < n → w.frozen? ⟨p, i, none⟩ = false) ∧ (∀ i k x, i < n → vs.getD i undef ≠ .int k x) ∧ (b = true → v = .agg vs.toArray)
theorem BoxN.below {B : Nat} {w w' : World} {n : Nat} {s v : Value} {b : Bool} (h : BoxN B w n s b v) (hb : Below w.heap.size w w') : BoxN B w' n s b v := by
  obtain ⟨p, vs, rfl, hp, hl, hn, hc, hf, hi, hv⟩ := h
  exact ⟨p, vs, rfl, hp, Nat.lt_of_lt_of_le hl hb.size, hn, fun i h => (hb.cell (p := ⟨p, i, none⟩) hl).trans (hc i h), fun i h => (hb.frozen (p := ⟨p, i, none⟩) hl).trans (hf i h), hi, hv⟩
theorem BoxN.fresh {B : Nat} {w : World} {n : Nat} {s v v' : Value} (h : BoxN B w n s false v) : BoxN B w n s false v' := by
  obtain ⟨p, vs, rfl, hp, hl, hn, hc, hf, hi, _⟩ := h
  exact ⟨p, vs, rfl, hp, hl, hn, hc, hf, hi, nofun⟩
theorem BoxN.done {B : Nat} {w : World} {n : Nat} {s : Value} {us : List Value} (h : BoxN B w n s true (.agg us.toArray)) : ∃ p, s = .pointer (some ⟨p, 0, none⟩) ∧ B ≤ p ∧ p < w.heap.size ∧ ∀ i, i < n → w.cell? ⟨p, i, none⟩ = some (us.getD i undef) ∧ w.frozen? ⟨p, i, none⟩ = false := by
  obtain ⟨p, vs, rfl, hp, hl, hn, hc, hf, hi, hv⟩ := h
  have e := hv rfl
  simp only [Value.agg.injEq] at e
  have e' : us = vs := by simpa using congrArg Array.toList e
  subst e'
  exact ⟨p, rfl, hp, hl, fun i h => ⟨hc i h, hf i h⟩⟩

def Boxes (B : Nat) : List (Nat × Bool × Bool × Value × Value) → World → Prop
  | [], _ => True
  | (n, p, q, t, x) :: l, w => (p = true → BoxN B w n t q x) ∧ Boxes B l w
theorem Boxes.below {B : Nat} {w w' : World} (hb : Below w.heap.size w w') : ∀ {l : List (Nat × Bool × Bool × Value × Value)}, Boxes B l w → Boxes B l w'
  | [], _ => trivial
  | (_, _, _, _, _) :: _, h => ⟨fun e => (h.1 e).below hb, Boxes.below hb h.2⟩
def AwayAll (p : Bool) (t : Value) : List (Nat × Bool × Bool × Value × Value) → Prop
  | [] => True
  | (_, p', _, t', _) :: l => (p = true → p' = true → t ≠ t') ∧ AwayAll p t l
def Apart : List (Nat × Bool × Bool × Value × Value) → Prop
  | [] => True
  | (_, p, _, t, _) :: l => AwayAll p t l ∧ Apart l

structure RX (B : Nat) (W0 : World) (l : List (Bool × (World → Value → Prop) × Value)) (bx : List (Nat × Bool × Bool × Value × Value)) (w : World) : Prop where
  bel : Below B W0 w
  siz : B ≤ w.heap.size
  vals : Vals l w
  boxes : Boxes B bx w
  ne : Apart bx
theorem RX.step {B : Nat} {W0 w w' : World} {l : List (Bool × (World → Value → Prop) × Value)} {bx : List (Nat × Bool × Bool × Value × Value)} (h : RX B W0 l bx w) (k : AllKeep l) (hb : Below w.heap.size w w') : RX B W0 l bx w' :=
  ⟨h.bel.trans (hb.mono h.siz), Nat.le_trans h.siz hb.size, h.vals.keep k (KeepAll.of_below hb), h.boxes.below hb, h.ne⟩
theorem bl_new {w : World} (o : Obj) : Below w.heap.size w (w.alloc o) := (Below.refl _ _).alloc (Nat.le_refl _) o
end Go.Proofs.YthgccegjopieoaaDoor

/- exact.groups: the iterator at numbers of any size: the groups of 19 digits, the lowest first. -/
namespace Go.Proofs.YthgccegjopieoaaDoor
open Go.RowKit Go.Shelf
attribute [local go_sem] Oper.semAt_some

/-- The groups of a number's digits, the lowest first. -/
def gls (n : Nat) : List Nat := if h : n = 0 then [] else (n % 10000000000000000000) :: gls (n / 10000000000000000000)
termination_by n
decreasing_by exact Nat.div_lt_self (by omega) (by decide)
theorem gls_zero : gls 0 = [] := by rw [gls]; rfl
theorem gls_pos {n : Nat} (h : n ≠ 0) : gls n = (n % 10000000000000000000) :: gls (n / 10000000000000000000) := by
  rw [gls, dif_neg h]
abbrev Grp := { x : Nat // x < 10000000000000000000 }

/-- The call hands back a number in new memory, and a rest. -/
def RetDO (w : World) (n m : Int) (K : Nat) (e : Ending) (w' : World) : Prop := ∃ v, e = .returned (.tuple #[v, .int .u64 m]) ∧ OwnV w' w.heap.size v n K ∧ Below w.heap.size w w'
set_option maxRecDepth 100000 in
set_option maxHeartbeats 2000000 in
theorem divideLimb_own (va : Value) (a x : Int) (K : Nat) (w : World) (hA : Nt w va a K) (hK : K ≤ 1073741824) (x0 : 0 < x) (x1 : x < B64) :
    Calls Tryd.prog 53 #[va, .int .u64 x] w (RetDO w (a / x) (a % x) K) := by
  obtain ⟨ao, ca, LA, rfl, hA⟩ := hA
  obtain ⟨n, hn⟩ : ∃ n, n = LA.length := ⟨_, rfl⟩
  have hn30 : n ≤ 1073741824 := by have := hA.le; omega
  rw [← hn]
  have HA := hid hA; have Hn := hid hn; have X1 := hid x1
  clear hA hn x1
  obtain ⟨i0, hi, hz0, hz1, hz2⟩ := info_parts Tryd.info75
  go_enter Tryd.func53, Tryd.ntmps53
  go_wp2_with (at_make; refine wpList_make_row w rfl _ _ 39 rfl 75 i0 .u64 Tryd.underlying39 hi hz0 hz1 .i64 .i64 _ _ n rfl rfl rfl rfl (by rw [hz2]; omega) (by unfold maxLen; omega) ?_)
  intro w1 hrow hg1
  have hb1 := grown_below hg1
  have H0 : DivI w w1 w.heap.size LA x n [] 0 := ⟨by simpa using hrow, grown_any hg1, by simpa using Hn.out, Dig.nil _, Int.le_refl 0, x0, by rw [List.drop_of_length_le (by have := Hn.out; omega)]; simp [val]⟩
  have HG1 := hid (HA.out.rd.ne (Nat.le_refl w.heap.size))
  clear hrow hg1
  go_wp2
  go_loopw [7, 8] (fun rv iv wr => ∃ j : Nat, ∃ QT r, j ≤ n ∧ iv = .int .i64 ((j : Int) - 1) ∧ rv = .int .u64 r ∧ DivI w wr w.heap.size LA x j QT r ∧ Below w.heap.size w wr) (fun _ iv _ => (intOf iv + 1).toNat)
  case atStart => exact ⟨n, [], 0, Nat.le_refl _, rfl, rfl, H0, hb1⟩
  case round =>
    obtain ⟨j, QT, r, hj, rfl, rfl, H, hb⟩ := hrel
    cases j with
    | zero =>
      have hr : Row .u64 75 wr w.heap.size QT := by have := H.row; simpa using this
      have hl : QT.length = n := by have := H.len; have := Hn.out; omega
      have he := H.eq
      rw [List.drop_zero, HA.out.eq] at he
      have hqr := (Int.ediv_emod_unique x0 (a := a) (r := r) (q := val B64 QT)).2 ⟨by rw [he, Int.mul_comm]; omega, H.r0, H.r1⟩
      have ht := trim64_any (some ⟨w.heap.size, 0, none⟩) n QT wr (row_rd hr (by omega) (by omega))
      have hres := own_row (c := n) (K := K) hr H.dig hqr.1.symm (by omega) (by omega) (by have := HA.out.le; have := Hn.out; omega) (Nat.le_refl _)
      rw [hl] at ht
      have HT := hid ht; have Hres := hid hres; have HQ := hid hqr.2
      clear ht hres hr hl he hqr H H0 hb1
      go_wp2_with (go_at_call 51; refine HT.out.mono ?_; rintro e w2 ⟨rfl, rfl⟩)
      go_ret2
      exact ⟨_, by rw [HQ.out]; rfl, Hres.out, hb⟩
    | succ j =>
      have hjn : j < n := by omega
      obtain ⟨b, o, rfl⟩ := HA.out.rd.adr (by have := Hn.out; omega)
      have hc := (HA.out.rd.keptNew H.gr HG1.out).cell b o rfl j (by have := Hn.out; omega)
      have hd := HA.out.dig.at B64_pos j
      obtain ⟨y, hy⟩ : ∃ y, y = LA[j]?.getD 0 := ⟨_, rfl⟩
      rw [← hy] at hc hd
      have HS := hid (fun nq => H.step x0 y hy hd.1 hd.2 nq)
      have hq := H.row.cell j (by have := H.len; simp; omega)
      have hf := H.row.frozen j
      obtain ⟨u, hu⟩ : ∃ u, u = ((List.replicate (j + 1) 0 ++ QT)[j]?.getD 0 : Int) := ⟨_, rfl⟩
      rw [← hu] at hq
      have HC := hid (div64_any r y x H.r0 H.r1 hd.1 hd.2 X1.out wr)
      have HH := hid H
      have hk0 : (0 : Int) ≤ (j : Int) := by omega
      clear H H0 hb1 hd hy hu
      go_wp2_with (go_at_call 59; refine HC.out.mono ?_; rintro e w2 ⟨rfl, nq, rfl⟩)
      go_roundw
      case rel => exact ⟨j, _, _, by omega, by go_num, rfl, HS.out nq, ((below_drewN hb nq).setCell (Nat.le_refl _) _)⟩
      case measure => simp [intOf]


/-- Rows of limbs stay. -/
def KeepT (W W' : World) : Prop := ∀ (k : Nat) (cs : Array Value) (z : Nat × Nat), W.heap[k]? = some (Obj.cells cs 75 z) → W'.heap[k]? = some (Obj.cells cs 75 z)
theorem KeepT.trans {A B C : World} (h : KeepT A B) (k : KeepT B C) : KeepT A C := fun i cs z e => k i cs z (h i cs z e)
theorem KeepT.below {W W' : World} (h : Below W.heap.size W W') : KeepT W W' := fun k _ _ e => (h.block k (Array.getElem?_eq_some_iff.1 e).1).trans e
theorem KeepT.put {B : Nat} (W : World) (l : Nat) (o o' : Obj) (_ : B ≤ l) (h : W.heap[l]? = some o) (hc : o.isCells = false) (_ : o.isWalk = false) : KeepT W (W.putObj l o') := fun k cs z e => by
  refine (World.putObj_heap_other (fun hk => ?_)).trans e
  subst hk
  rw [e] at h
  cases h
  cases hc
theorem OwnV.keepT {W W' : World} {B : Nat} {v : Value} {n : Int} {K : Nat} (h : OwnV W B v n K) (hk : KeepT W W') : OwnV W' B v n K := by
  rcases h with ⟨g, c, L, S, e, h, hK⟩ | h
  · exact .inl ⟨g, c, L, S, e, ⟨hk _ _ _ h.row, h.dig, h.nrm, h.eq, h.cap, h.most, h.base⟩, hK⟩
  · exact .inr h

set_option maxRecDepth 100000 in
set_option maxHeartbeats 1000000 in
theorem groups1_any (n : Nat) (hn : 1 ≤ n) (Bn y K : Nat) (hK : K ≤ 1000000) (a : Option Addr) (k c : Nat) (w : World) (hBn : Bn < w.heap.size) (hc : w.cell? ⟨Bn, 0, none⟩ = some (.slice a k c)) (hA : Nt w (.slice a k c) y K) :
    SeqStopsK Fence.wide n Tryd.prog 52 #[.pointer (some ⟨Bn, 0, none⟩)] (fun x : Grp => #[.int .u64 (x.1 : Int)]) KeepT (fun ys => ys.map (·.1) = gls y) (fun _ => True) (gls y).length w := fun l J Jx W hW hJ _ hY h0 => by
  have hBW : W.cell? ⟨Bn, 0, none⟩ = some (.slice a k c) := (hW.cell (p := ⟨Bn, 0, none⟩) hBn).trans hc
  have HA := hid (hA.below hW (Nat.le_refl _))
  have HJ := hid (fun pre A B hp (hg : Below A.heap.size A B) => hJ pre A B none hp (below_grown hg) (fun r h => by cases h))
  have HY := hid hY
  have H0 := hid h0
  clear hJ hY h0 hA hc
  refine callsIn_of_wp Tryd.func52 rfl trivial ?_ rfl
  simp only [Tryd.ntmps52, List.size_toArray, List.length_cons, List.length_nil, Nat.reduceAdd, Nat.reduceSub, Array.replicate_succ, Array.replicate_zero, List.push_toArray, List.append_toArray, List.nil_append, List.cons_append]
  gi_wp2
  gi_loopw [3] (fun p wr => ∃ (pre : List Grp) (q : Nat), gls y = pre.map (·.1) ++ gls q ∧ Nt wr p q K ∧ J pre wr) (fun p wr => natOf wr p)
  case atStart => exact ⟨[], y, rfl, HA.out, H0.out⟩
  case round =>
    obtain ⟨pre, q, he, hp, hj⟩ := hrel
    obtain ⟨a', k', c', rfl, _⟩ := Nt.opened hp
    have hl0 := Nt.len0 hp
    by_cases hq : q = 0
    · subst hq
      obtain rfl : k' = 0 := hl0.2 rfl
      have HE := hid he; have HJ0 := hid hj
      clear he hj hl0 hp HA H0 HY
      gi_wp2
      go_end0
      exact ⟨⟨_, rfl⟩, .inl ⟨pre, by have := HE.out; rw [gls_zero, List.append_nil] at this; exact this.symm, HJ0.out⟩⟩
    · have hk0 : k' ≠ 0 := fun h => hq (by have := hl0.1 h; omega)
      have hkI : ¬ (k' : Int) = 0 := by omega
      have hkJ : (0 : Int) < k' := by omega
      have hlen : pre.length < (gls y).length := by rw [he, gls_pos hq]; simp
      obtain ⟨x, hxe⟩ : ∃ x : Nat, x = q % 10000000000000000000 := ⟨_, rfl⟩
      obtain ⟨d, hde⟩ : ∃ d : Nat, d = q / 10000000000000000000 := ⟨_, rfl⟩
      have hx : x < 10000000000000000000 := by rw [hxe]; exact Nat.mod_lt _ (by decide)
      have he2 : gls q = x :: gls d := by rw [gls_pos hq, hxe, hde]
      have Hdq := hid (show d < q by rw [hde]; exact Nat.div_lt_self (by omega) (by decide))
      have HE := hid (show gls y = (pre ++ [(⟨x, hx⟩ : Grp)]).map (·.1) ++ gls d by rw [he, he2]; simp)
      have HP := hid hp; have Hj := hid hj; have HL := hid hlen
      have hdl := divideLimb_own (.slice a' k' c') q 10000000000000000000 K wr hp (by omega) (by omega) (by unfold B64; omega)
      rw [show (q : Int) / 10000000000000000000 = (d : Int) by omega, show (q : Int) % 10000000000000000000 = (x : Int) by omega] at hdl
      have HD := hid hdl
      clear he hj hl0 hp HA H0 hq hk0 hlen hdl he2 hxe hde
      gi_wp2_with (refine ⟨trivial, ?_⟩; gi_at_call 53; refine (callsIn_wide.2 HD.out).mono ?_)
      rintro e W1 ⟨v1, rfl, hv1, hb1⟩
      have Hv1 := hid hv1
      have HJ1 := hid (HJ.out _ _ _ Hj.out hb1)
      clear hv1 hb1
      obtain ⟨fn, tmps, assign, body, hy, hR⟩ := HY.out pre ⟨x, hx⟩ W1 HJ1.out HL.out
      gi_wp2
      refine hR.mono ?_
      rintro e W3 (⟨rfl, hJ3, hk3⟩ | ⟨rfl, hJx3⟩)
      · have H3 := hid hJ3; have HN := hid (Hv1.out.keepT hk3).nt
        clear hJ3
        gi_wp2
        go_roundw
        case rel => exact ⟨pre ++ [⟨x, hx⟩], d, HE.out, HN.out, H3.out⟩
        case measure =>
          rw [natOf_eq HN.out, natOf_eq HP.out]
          have := Hdq.out
          omega
      · have HX := hid hJx3
        clear hJx3
        gi_wp2
        refine bodyPost_ret (results_none rfl _ _ _) rfl ?_
        exact ⟨⟨_, rfl⟩, .inr ⟨pre ++ [⟨x, hx⟩], trivial, HX.out⟩⟩
end Go.Proofs.YthgccegjopieoaaDoor

/- exact.pieces: the iterator over a text's pieces of 19 bytes. -/
namespace Go.Proofs.YthgccegjopieoaaDoor
open Go.RowKit Go.Shelf
attribute [local go_sem] Oper.semAt_some

/-- A text's pieces. -/
def pcs (l : List UInt8) : List (List UInt8) := if _h : l = [] then [] else l.take 19 :: pcs (l.drop 19)
termination_by l.length
decreasing_by
  have : 0 < l.length := List.length_pos_iff.2 _h
  simp; omega
theorem pcs_nil : pcs [] = [] := by rw [pcs]; rfl
theorem pcs_pos {l : List UInt8} (h : l ≠ []) : pcs l = l.take 19 :: pcs (l.drop 19) := by rw [pcs, dif_neg h]
abbrev Pc := { l : List UInt8 // 0 < l.length ∧ l.length ≤ 19 }
theorem ba_take (l : List UInt8) (k : Nat) : (⟨l.toArray⟩ : ByteArray).extract 0 k = ⟨(l.take k).toArray⟩ := by
  apply ByteArray.ext
  simp [ByteArray.data_extract]
theorem ba_drop (l : List UInt8) (k : Nat) : (⟨l.toArray⟩ : ByteArray).extract k (⟨l.toArray⟩ : ByteArray).size = ⟨(l.drop k).toArray⟩ := by
  apply ByteArray.ext
  simp only [ByteArray.data_extract, ByteArray.size]
  simp
  exact List.take_of_length_le (by simp)
def lenS : Value → Nat
  | .string s => s.size
  | _ => 0

set_option maxRecDepth 100000 in
set_option maxHeartbeats 1000000 in
theorem pieces1_any (n : Nat) (hn : 1 ≤ n) (Bn : Nat) (t : List UInt8) (ht : t.length ≤ 10000000) (w : World) (hBn : Bn < w.heap.size) (hc : w.cell? ⟨Bn, 0, none⟩ = some (.string ⟨t.toArray⟩)) :
    SeqStopsK Fence.wide n Tryd.prog 49 #[.pointer (some ⟨Bn, 0, none⟩)] (fun x : Pc => #[.string ⟨x.1.toArray⟩]) (fun _ _ => True) (fun ys => ys.map (·.1) = pcs t) (fun ys => ∃ r, pcs t = ys.map (·.1) ++ r) (pcs t).length w := fun l J Jx W hW hJ _ hY h0 => by
  have hBW : W.cell? ⟨Bn, 0, none⟩ = some (.string ⟨t.toArray⟩) := (hW.cell (p := ⟨Bn, 0, none⟩) hBn).trans hc
  have HY := hid hY
  have H0 := hid h0
  have HTl := hid ht
  clear hJ hY h0 hc ht
  refine callsIn_of_wp Tryd.func49 rfl trivial ?_ rfl
  simp only [Tryd.ntmps49, List.size_toArray, List.length_cons, List.length_nil, Nat.reduceAdd, Nat.reduceSub, Array.replicate_succ, Array.replicate_zero, List.push_toArray, List.append_toArray, List.nil_append, List.cons_append]
  gi_wp2
  gi_loopw [3] (fun p wr => ∃ (pre : List Pc) (q : List UInt8), pcs t = pre.map (·.1) ++ pcs q ∧ p = .string ⟨q.toArray⟩ ∧ q.length ≤ 10000000 ∧ J pre wr) (fun p _ => lenS p)
  case atStart => exact ⟨[], t, rfl, rfl, HTl.out, H0.out⟩
  case round =>
    obtain ⟨pre, q, he, rfl, hq, hj⟩ := hrel
    by_cases hq0 : q = []
    · subst hq0
      have HE := hid he; have HJ0 := hid hj
      clear he hj H0 HY
      gi_wp2
      go_end0
      exact ⟨⟨_, rfl⟩, .inl ⟨pre, by have := HE.out; rw [pcs_nil, List.append_nil] at this; exact this.symm, HJ0.out⟩⟩
    · have hql : 0 < q.length := List.length_pos_iff.2 hq0
      have hlen : pre.length < (pcs t).length := by rw [he, pcs_pos hq0]; simp
      have hqe : q.isEmpty = false := by cases q with | nil => exact absurd rfl hq0 | cons _ _ => rfl
      obtain ⟨k, hk⟩ : ∃ k : Nat, k = min 19 q.length := ⟨_, rfl⟩
      have hmin : min (19 : Int) (q.length : Int) = (k : Int) := by omega
      have htk : q.take k = q.take 19 := by
        rcases Nat.le_total 19 q.length with h | h
        · rw [hk, Nat.min_eq_left h]
        · rw [hk, Nat.min_eq_right h, List.take_length, List.take_of_length_le h]
      have hdk : q.drop k = q.drop 19 := by
        rcases Nat.le_total 19 q.length with h | h
        · rw [hk, Nat.min_eq_left h]
        · rw [hk, Nat.min_eq_right h, List.drop_length, List.drop_of_length_le h]
      have hx1 : (⟨q.toArray⟩ : ByteArray).extract 0 k = ⟨(q.take 19).toArray⟩ := by rw [ba_take, htk]
      have hx2 : (⟨q.toArray⟩ : ByteArray).extract k q.length = ⟨(q.drop 19).toArray⟩ := by
        have h := ba_drop q k
        rw [hdk] at h
        exact h
      have hk0 : (0 : Int) ≤ (k : Int) := by omega
      have hk1 : (k : Int) ≤ (q.length : Int) := by omega
      have hx : 0 < (q.take 19).length ∧ (q.take 19).length ≤ 19 := by simp; omega
      obtain ⟨fn, tmps, assign, body, hy, hR⟩ := HY.out pre ⟨q.take 19, hx⟩ wr hj hlen
      have HE := hid (show pcs t = (pre ++ [(⟨q.take 19, hx⟩ : Pc)]).map (·.1) ++ pcs (q.drop 19) by rw [he, pcs_pos hq0]; simp)
      have Hq := hid hq; have Hql := hid hql
      clear he hq hq0 hlen hj H0 hk htk hdk hql
      gi_wp2
      refine hR.mono ?_
      rintro e W3 (⟨rfl, hJ3, _⟩ | ⟨rfl, hJx3⟩)
      · have H3 := hid hJ3
        clear hJ3
        gi_wp2
        go_roundw
        case rel => exact ⟨pre ++ [⟨q.take 19, hx⟩], q.drop 19, HE.out, rfl, by simp; have := Hq.out; omega, H3.out⟩
        case measure =>
          show (q.drop 19).length < q.length
          have := Hql.out
          simp; omega
      · have HX := hid hJx3
        clear hJx3
        gi_wp2
        refine bodyPost_ret (results_none rfl _ _ _) rfl ?_
        exact ⟨⟨_, rfl⟩, .inr ⟨pre ++ [⟨q.take 19, hx⟩], ⟨_, HE.out⟩, HX.out⟩⟩
end Go.Proofs.YthgccegjopieoaaDoor
