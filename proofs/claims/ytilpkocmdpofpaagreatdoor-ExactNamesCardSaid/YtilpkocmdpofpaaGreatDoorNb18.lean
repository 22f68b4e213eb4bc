/- A region that draws its order: what holds between two of its operations, for any number of values and of boxes that it makes. exact.groups: the iterator at numbers of any size: the groups of 19 digits, the lowest first. exact.pieces: the iterator over a text's pieces of 19 bytes. -/
import Derived.Test.YtilpkocmdpofpaaGreatDoorNb17
import Derived.Laws.IdiomCopy
import Derived.Test.YtilpkocmdpofpaaGreatDoorNb05
import Derived.Test.YtilpkocmdpofpaaGreatDoorNb09
import Derived.Test.YtilpkocmdpofpaaGreatDoorNb07
/- A region that draws its order: what holds between two of its operations, for any number of values and of boxes that it makes. -/
namespace Go.Proofs.YtilpkocmdpofpaaGreatDoor
open Go.RowKit

def KeepAll (w w' : World) : Prop := ∀ k, Keeps k w w'
theorem KeepAll.of_below {w w' : World} (h : Below w.heap.size w w') : KeepAll w w' := fun _ => Keeps.below h (Nat.le_refl _)
theorem KeepAll.refl (w : World) : KeepAll w w := fun k => Keeps.refl k w
theorem KeepAll.trans {a b c : World} (h : KeepAll a b) (g : KeepAll b c) : KeepAll a c := fun k => (h k).trans (g k)
/-- A property of a value that stays where no number's cell turns. -/
def KeepV (G : World → Value → Prop) : Prop := ∀ w w' v, KeepAll w w' → G w v → G w' v
theorem kcV (u : Value) : KeepV (fun _ v => v = u) := fun _ _ _ _ h => h
theorem itV (z : Int) (K : Nat) : KeepV (fun w v => It w v z K) := fun _ _ _ hk h => it_keeps (hk _) h
theorem ntV (n : Int) (K : Nat) : KeepV (fun w v => Nt w v n K) := fun _ _ _ hk h => by
  obtain ⟨ao, c, L, rfl, h⟩ := h
  exact ⟨ao, c, L, rfl, h.rd.keeps (hk _), h.dig, h.nrm, h.eq, h.le⟩
theorem ftV (z d : Int) (K : Nat) : KeepV (fun w v => Ft w v z d K) := fun _ _ _ hk h => by
  obtain ⟨s1, s2, rfl, h1, h2⟩ := h
  exact ⟨s1, s2, rfl, ntV _ _ _ _ _ hk h1, ntV _ _ _ _ _ hk h2⟩
theorem twoV {Gq Gr : World → Value → Prop} (hq : KeepV Gq) (hr : KeepV Gr) : KeepV (fun w s => ∃ u v, s = .tuple #[u, v] ∧ Gq w u ∧ Gr w v) := fun _ _ _ hk h => by
  obtain ⟨u, v, e, a, b⟩ := h
  exact ⟨u, v, e, hq _ _ _ hk a, hr _ _ _ hk b⟩

def Vals : List (Bool × (World → Value → Prop) × Value) → World → Prop
  | [], _ => True
  | (b, G, s) :: l, w => (b = true → G w s) ∧ Vals l w
def AllKeep : List (Bool × (World → Value → Prop) × Value) → Prop
  | [] => True
  | (_, G, _) :: l => KeepV G ∧ AllKeep l
theorem Vals.keep {w w' : World} : ∀ {l : List (Bool × (World → Value → Prop) × Value)}, AllKeep l → KeepAll w w' → Vals l w → Vals l w'
  | [], _, _, _ => trivial
  | (_, _, _) :: _, k, hk, h => ⟨fun e => k.1 _ _ _ hk (h.1 e), Vals.keep k.2 hk h.2⟩

/-- s points to a block of n cells that the region has made; b: it has been written with v. -/
def BoxN (B : Nat) (w : World) (n : Nat) (s : Value) (b : Bool) (v : Value) : Prop :=
  ∃ (p : Nat) (vs : List Value), s = .pointer (some ⟨p, 0, none⟩) ∧ B ≤ p ∧ p < w.heap.size ∧ vs.length = n ∧ (∀ i, i < n → w.cell? ⟨p, i, none⟩ = some (vs.getD i undef)) ∧ (∀ i, i < n → w.frozen? ⟨p, i, none⟩ = false) ∧ (∀ i k x, i < n → vs.getD i undef ≠ .int k x) ∧ (b = true → v = .agg vs.toArray)
theorem BoxN.below {B : Nat} {w w' : World} {n : Nat} {s v : Value} {b : Bool} (h : BoxN B w n s b v) (hb : Below w.heap.size w w') : BoxN B w' n s b v := by
  obtain ⟨p, vs, rfl, hp, hl, hn, hc, hf, hi, hv⟩ := h
  exact ⟨p, vs, rfl, hp, Nat.lt_of_lt_of_le hl hb.size, hn, fun i h => (hb.cell (p := ⟨p, i, none⟩) hl).trans (hc i h), fun i h => (hb.frozen (p := ⟨p, i, none⟩) hl).trans (hf i h), hi, hv⟩
theorem BoxN.fresh {B : Nat} {w : World} {n : Nat} {s v v' : Value} (h : BoxN B w n s false v) : BoxN B w n s false v' := by
  obtain ⟨p, vs, rfl, hp, hl, hn, hc, hf, hi, _⟩ := h
  exact ⟨p, vs, rfl, hp, hl, hn, hc, hf, hi, nofun⟩
theorem boxn_new (B : Nat) (w : World) (T : TypeId) (v : Value) (zs : List Value) (hz : ∀ i k x, i < zs.length → zs.getD i undef ≠ .int k x) (hs : B ≤ w.heap.size) : BoxN B (w.alloc (.cells zs.toArray T)) zs.length (.pointer (some ⟨w.heap.size, 0, none⟩)) false v := by
  refine ⟨w.heap.size, zs, rfl, hs, by simp, rfl, fun i hi => ?_, fun i hi => World.frozen?_alloc_new _ _ _ _, hz, nofun⟩
  rw [World.cell?_alloc_new]
  simp [hi]
theorem boxn_ne_new {B : Nat} {w : World} {n : Nat} {s v : Value} {b : Bool} (h : BoxN B w n s b v) : s ≠ .pointer (some ⟨w.heap.size, 0, none⟩) := by
  obtain ⟨p, vs, rfl, hp, hl, _⟩ := h
  intro e; cases e; omega
theorem size_setCells (b : Nat) : ∀ (vs : List Value) (o : Nat) (w : World), (w.setCells b o vs).heap.size = w.heap.size
  | [], _, _ => rfl
  | _ :: r, o, w => by rw [World.setCells, size_setCells b r]; simp
theorem below_setCells {B b : Nat} (hb : B ≤ b) : ∀ (vs : List Value) (o : Nat) {a w : World}, Below B a w → Below B a (w.setCells b o vs)
  | [], _, _, _, h => h
  | _ :: r, o, _, _, h => below_setCells hb r (o + 1) (h.setCell hb _)
theorem keep_setCells (b : Nat) : ∀ (vs : List Value) (o : Nat) (w : World), (∀ j, j < vs.length → ∃ u, w.cell? ⟨b, o + j, none⟩ = some u ∧ ∀ k x, u ≠ .int k x) → KeepAll w (w.setCells b o vs)
  | [], _, w, _ => KeepAll.refl w
  | v :: r, o, w, h => by
    obtain ⟨u, hu, hn⟩ := h 0 (by simp)
    have h1 : KeepAll w (w.setCell ⟨b, o, none⟩ v) := fun k => (Keeps.refl k w).setCell hu (hn k) v
    refine h1.trans (keep_setCells b r (o + 1) _ (fun j hj => ?_))
    obtain ⟨u', hu', hn'⟩ := h (j + 1) (by simp; omega)
    refine ⟨u', ?_, hn'⟩
    rw [World.cell?_setCell_other _ _ _ _ (by simp <;> omega)]
    rw [← hu', show o + (j + 1) = o + 1 + j by omega]
theorem BoxN.keeps {B : Nat} {w : World} {n p : Nat} {v : Value} {b : Bool} (h : BoxN B w n (.pointer (some ⟨p, 0, none⟩)) b v) {us : List Value} (hu : us.length = n) : KeepAll w (w.setCells p 0 us) := by
  obtain ⟨q, vs, e, hp, hl, hn, hc, hf, hi, _⟩ := h
  cases e
  refine keep_setCells p us 0 w (fun j hj => ⟨_, by rw [Nat.zero_add]; exact hc j (by omega), fun k x => hi j k x (by omega)⟩)
theorem BoxN.store {B : Nat} {w : World} {n p : Nat} {v : Value} {b : Bool} (h : BoxN B w n (.pointer (some ⟨p, 0, none⟩)) b v) (us : List Value) (hu : us.length = n) (hz : ∀ i k x, i < n → us.getD i undef ≠ .int k x) :
    BoxN B (w.setCells p 0 us) n (.pointer (some ⟨p, 0, none⟩)) true (.agg us.toArray) := by
  obtain ⟨q, vs, e, hp, hl, hn, hc, hf, hi, _⟩ := h
  cases e
  refine ⟨p, us, rfl, hp, by rw [size_setCells]; exact hl, hu, fun i h => ?_, fun i h => (World.frozen?_setCells p us 0 w _).trans (hf i h), hz, fun _ => rfl⟩
  have := World.cell?_setCells_in p us 0 w (fun j hj => by rw [Nat.zero_add, hc j (by omega)]; rfl) i (by omega)
  rw [Nat.zero_add] at this
  rw [this]
  simp [show i < us.length by omega]
theorem BoxN.other {B : Nat} {w : World} {n : Nat} {s v : Value} {b : Bool} (h : BoxN B w n s b v) {p : Nat} (hne : s ≠ .pointer (some ⟨p, 0, none⟩)) (o : Nat) (us : List Value) : BoxN B (w.setCells p o us) n s b v := by
  obtain ⟨q, vs, rfl, hp, hl, hn, hc, hf, hi, hv⟩ := h
  have hpq : q ≠ p := by rintro rfl; exact hne rfl
  exact ⟨q, vs, rfl, hp, by rw [size_setCells]; exact hl, hn, fun i h => (World.cell?_setCells_out p us o w _ (fun e => absurd e hpq)).trans (hc i h), fun i h => (World.frozen?_setCells p us o w _).trans (hf i h), hi, hv⟩

theorem BoxN.done {B : Nat} {w : World} {n : Nat} {s : Value} {us : List Value} (h : BoxN B w n s true (.agg us.toArray)) : ∃ p, s = .pointer (some ⟨p, 0, none⟩) ∧ B ≤ p ∧ p < w.heap.size ∧ ∀ i, i < n → w.cell? ⟨p, i, none⟩ = some (us.getD i undef) ∧ w.frozen? ⟨p, i, none⟩ = false := by
  obtain ⟨p, vs, rfl, hp, hl, hn, hc, hf, hi, hv⟩ := h
  have e := hv rfl
  simp only [Value.agg.injEq] at e
  have e' : us = vs := by simpa using congrArg Array.toList e
  subst e'
  exact ⟨p, rfl, hp, hl, fun i h => ⟨hc i h, hf i h⟩⟩

def Boxes (B : Nat) : List (Nat × Bool × Bool × Value × Value) → World → Prop
  | [], _ => True
  | (n, p, q, t, x) :: l, w => (p = true → BoxN B w n t q x) ∧ Boxes B l w
theorem Boxes.below {B : Nat} {w w' : World} (hb : Below w.heap.size w w') : ∀ {l : List (Nat × Bool × Bool × Value × Value)}, Boxes B l w → Boxes B l w'
  | [], _ => trivial
  | (_, _, _, _, _) :: _, h => ⟨fun e => (h.1 e).below hb, Boxes.below hb h.2⟩
def AwayAll (p : Bool) (t : Value) : List (Nat × Bool × Bool × Value × Value) → Prop
  | [] => True
  | (_, p', _, t', _) :: l => (p = true → p' = true → t ≠ t') ∧ AwayAll p t l
def Apart : List (Nat × Bool × Bool × Value × Value) → Prop
  | [] => True
  | (_, p, _, t, _) :: l => AwayAll p t l ∧ Apart l

structure RX (B : Nat) (W0 : World) (l : List (Bool × (World → Value → Prop) × Value)) (bx : List (Nat × Bool × Bool × Value × Value)) (w : World) : Prop where
  bel : Below B W0 w
  siz : B ≤ w.heap.size
  vals : Vals l w
  boxes : Boxes B bx w
  ne : Apart bx
theorem RX.step {B : Nat} {W0 w w' : World} {l : List (Bool × (World → Value → Prop) × Value)} {bx : List (Nat × Bool × Bool × Value × Value)} (h : RX B W0 l bx w) (k : AllKeep l) (hb : Below w.heap.size w w') : RX B W0 l bx w' :=
  ⟨h.bel.trans (hb.mono h.siz), Nat.le_trans h.siz hb.size, h.vals.keep k (KeepAll.of_below hb), h.boxes.below hb, h.ne⟩
theorem bl_new {w : World} (o : Obj) : Below w.heap.size w (w.alloc o) := (Below.refl _ _).alloc (Nat.le_refl _) o
end Go.Proofs.YtilpkocmdpofpaaGreatDoor

/- exact.groups: the iterator at numbers of any size: the groups of 19 digits, the lowest first. -/
namespace Go.Proofs.YtilpkocmdpofpaaGreatDoor
open Go.RowKit Go.Shelf
attribute [local go_sem] Oper.semAt_some

/-- The groups of a number's digits, the lowest first. -/
def gls (n : Nat) : List Nat := if h : n = 0 then [] else (n % 10000000000000000000) :: gls (n / 10000000000000000000)
termination_by n
decreasing_by exact Nat.div_lt_self (by omega) (by decide)
theorem gls_zero : gls 0 = [] := by rw [gls]; rfl
theorem gls_pos {n : Nat} (h : n ≠ 0) : gls n = (n % 10000000000000000000) :: gls (n / 10000000000000000000) := by
  rw [gls, dif_neg h]
abbrev Grp := { x : Nat // x < 10000000000000000000 }

/-- The call hands back a number in new memory, and a rest. -/
def RetDO (w : World) (n m : Int) (K : Nat) (e : Ending) (w' : World) : Prop := ∃ v, e = .returned (.tuple #[v, .int .u64 m]) ∧ OwnV w' w.heap.size v n K ∧ Below w.heap.size w w'
set_option maxRecDepth 100000 in
set_option maxHeartbeats 2000000 in
theorem divideLimb_own (va : Value) (a x : Int) (K : Nat) (w : World) (hA : Nt w va a K) (hK : K ≤ 1073741824) (x0 : 0 < x) (x1 : x < B64) :
    Calls Tryz.prog 164 #[va, .int .u64 x] w (RetDO w (a / x) (a % x) K) := by
  obtain ⟨ao, ca, LA, rfl, hA⟩ := hA
  obtain ⟨n, hn⟩ : ∃ n, n = LA.length := ⟨_, rfl⟩
  have hn30 : n ≤ 1073741824 := by have := hA.le; omega
  rw [← hn]
  have HA := hid hA; have Hn := hid hn; have X1 := hid x1
  clear hA hn x1
  obtain ⟨i0, hi, hz0, hz1, hz2⟩ := info_parts Tryz.info91
  go_enter Tryz.func164, Tryz.ntmps164
  go_wp2_with (at_make; refine wpList_make_row w rfl _ _ 82 rfl 91 i0 .u64 Tryz.underlying82 hi hz0 hz1 .i64 .i64 _ _ n rfl rfl rfl rfl (by rw [hz2]; omega) (by unfold maxLen; omega) ?_)
  intro w1 hrow hg1
  have hb1 := grown_below hg1
  have H0 : DivI w w1 w.heap.size LA x n [] 0 := ⟨by simpa using hrow, grown_any hg1, by simpa using Hn.out, Dig.nil _, Int.le_refl 0, x0, by rw [List.drop_of_length_le (by have := Hn.out; omega)]; simp [val]⟩
  have HG1 := hid (HA.out.rd.ne (Nat.le_refl w.heap.size))
  clear hrow hg1
  go_wp2
  go_loopw [7, 8] (fun rv iv wr => ∃ j : Nat, ∃ QT r, j ≤ n ∧ iv = .int .i64 ((j : Int) - 1) ∧ rv = .int .u64 r ∧ DivI w wr w.heap.size LA x j QT r ∧ Below w.heap.size w wr) (fun _ iv _ => (intOf iv + 1).toNat)
  case atStart => exact ⟨n, [], 0, Nat.le_refl _, rfl, rfl, H0, hb1⟩
  case round =>
    obtain ⟨j, QT, r, hj, rfl, rfl, H, hb⟩ := hrel
    cases j with
    | zero =>
      have hr : Row .u64 91 wr w.heap.size QT := by have := H.row; simpa using this
      have hl : QT.length = n := by have := H.len; have := Hn.out; omega
      have he := H.eq
      rw [List.drop_zero, HA.out.eq] at he
      have hqr := (Int.ediv_emod_unique x0 (a := a) (r := r) (q := val B64 QT)).2 ⟨by rw [he, Int.mul_comm]; omega, H.r0, H.r1⟩
      have ht := trim64_any (some ⟨w.heap.size, 0, none⟩) n QT wr (row_rd hr (by omega) (by omega))
      have hres := own_row (c := n) (K := K) hr H.dig hqr.1.symm (by omega) (by omega) (by have := HA.out.le; have := Hn.out; omega) (Nat.le_refl _)
      rw [hl] at ht
      have HT := hid ht; have Hres := hid hres; have HQ := hid hqr.2
      clear ht hres hr hl he hqr H H0 hb1
      go_wp2_with (go_at_call 136; refine HT.out.mono ?_; rintro e w2 ⟨rfl, rfl⟩)
      go_ret2
      exact ⟨_, by rw [HQ.out]; rfl, Hres.out, hb⟩
    | succ j =>
      have hjn : j < n := by omega
      obtain ⟨b, o, rfl⟩ := HA.out.rd.adr (by have := Hn.out; omega)
      have hc := (HA.out.rd.keptNew H.gr HG1.out).cell b o rfl j (by have := Hn.out; omega)
      have hd := HA.out.dig.at B64_pos j
      obtain ⟨y, hy⟩ : ∃ y, y = LA[j]?.getD 0 := ⟨_, rfl⟩
      rw [← hy] at hc hd
      have HS := hid (fun nq => H.step x0 y hy hd.1 hd.2 nq)
      have hq := H.row.cell j (by have := H.len; simp; omega)
      have hf := H.row.frozen j
      obtain ⟨u, hu⟩ : ∃ u, u = ((List.replicate (j + 1) 0 ++ QT)[j]?.getD 0 : Int) := ⟨_, rfl⟩
      rw [← hu] at hq
      have HC := hid (div64_any r y x H.r0 H.r1 hd.1 hd.2 X1.out wr)
      have HH := hid H
      have hk0 : (0 : Int) ≤ (j : Int) := by omega
      clear H H0 hb1 hd hy hu
      go_wp2_with (go_at_call 192; refine HC.out.mono ?_; rintro e w2 ⟨rfl, nq, rfl⟩)
      go_roundw
      case rel => exact ⟨j, _, _, by omega, by go_num, rfl, HS.out nq, ((below_drewN hb nq).setCell (Nat.le_refl _) _)⟩
      case measure => simp [intOf]


/-- Rows of limbs stay. -/
def KeepT (W W' : World) : Prop := ∀ (k : Nat) (cs : Array Value) (z : Nat × Nat), W.heap[k]? = some (Obj.cells cs 91 z) → W'.heap[k]? = some (Obj.cells cs 91 z)
theorem KeepT.trans {A B C : World} (h : KeepT A B) (k : KeepT B C) : KeepT A C := fun i cs z e => k i cs z (h i cs z e)
theorem KeepT.below {W W' : World} (h : Below W.heap.size W W') : KeepT W W' := fun k _ _ e => (h.block k (Array.getElem?_eq_some_iff.1 e).1).trans e
theorem KeepT.put {B : Nat} (W : World) (l : Nat) (o o' : Obj) (_ : B ≤ l) (h : W.heap[l]? = some o) (hc : o.isCells = false) (_ : o.isWalk = false) : KeepT W (W.putObj l o') := fun k cs z e => by
  refine (World.putObj_heap_other (fun hk => ?_)).trans e
  subst hk
  rw [e] at h
  cases h
  cases hc
theorem OwnV.keepT {W W' : World} {B : Nat} {v : Value} {n : Int} {K : Nat} (h : OwnV W B v n K) (hk : KeepT W W') : OwnV W' B v n K := by
  rcases h with ⟨g, c, L, S, e, h, hK⟩ | h
  · exact .inl ⟨g, c, L, S, e, ⟨hk _ _ _ h.row, h.dig, h.nrm, h.eq, h.cap, h.most, h.base⟩, hK⟩
  · exact .inr h

set_option maxRecDepth 100000 in
set_option maxHeartbeats 1000000 in
theorem groups1_any (n : Nat) (hn : 1 ≤ n) (Bn y K : Nat) (hK : K ≤ 1000000) (a : Option Addr) (k c : Nat) (w : World) (hBn : Bn < w.heap.size) (hc : w.cell? ⟨Bn, 0, none⟩ = some (.slice a k c)) (hA : Nt w (.slice a k c) y K) :
    SeqStopsK Fence.wide n Tryz.prog 163 #[.pointer (some ⟨Bn, 0, none⟩)] (fun x : Grp => #[.int .u64 (x.1 : Int)]) KeepT (fun ys => ys.map (·.1) = gls y) (fun _ => True) (gls y).length w := fun l J Jx W hW hJ _ hY h0 => by
  have hBW : W.cell? ⟨Bn, 0, none⟩ = some (.slice a k c) := (hW.cell (p := ⟨Bn, 0, none⟩) hBn).trans hc
  have HA := hid (hA.below hW (Nat.le_refl _))
  have HJ := hid (fun pre A B hp (hg : Below A.heap.size A B) => hJ pre A B none hp (below_grown hg) (fun r h => by cases h))
  have HY := hid hY
  have H0 := hid h0
  clear hJ hY h0 hA hc
  refine callsIn_of_wp Tryz.func163 rfl trivial ?_ rfl
  simp only [Tryz.ntmps163, List.size_toArray, List.length_cons, List.length_nil, Nat.reduceAdd, Nat.reduceSub, Array.replicate_succ, Array.replicate_zero, List.push_toArray, List.append_toArray, List.nil_append, List.cons_append]
  gi_wp2
  gi_loopw [3] (fun p wr => ∃ (pre : List Grp) (q : Nat), gls y = pre.map (·.1) ++ gls q ∧ Nt wr p q K ∧ J pre wr) (fun p wr => natOf wr p)
  case atStart => exact ⟨[], y, rfl, HA.out, H0.out⟩
  case round =>
    obtain ⟨pre, q, he, hp, hj⟩ := hrel
    obtain ⟨a', k', c', rfl, _⟩ := Nt.opened hp
    have hl0 := Nt.len0 hp
    by_cases hq : q = 0
    · subst hq
      obtain rfl : k' = 0 := hl0.2 rfl
      have HE := hid he; have HJ0 := hid hj
      clear he hj hl0 hp HA H0 HY
      gi_wp2
      go_end0
      exact ⟨⟨_, rfl⟩, .inl ⟨pre, by have := HE.out; rw [gls_zero, List.append_nil] at this; exact this.symm, HJ0.out⟩⟩
    · have hk0 : k' ≠ 0 := fun h => hq (by have := hl0.1 h; omega)
      have hkI : ¬ (k' : Int) = 0 := by omega
      have hkJ : (0 : Int) < k' := by omega
      have hlen : pre.length < (gls y).length := by rw [he, gls_pos hq]; simp
      obtain ⟨x, hxe⟩ : ∃ x : Nat, x = q % 10000000000000000000 := ⟨_, rfl⟩
      obtain ⟨d, hde⟩ : ∃ d : Nat, d = q / 10000000000000000000 := ⟨_, rfl⟩
      have hx : x < 10000000000000000000 := by rw [hxe]; exact Nat.mod_lt _ (by decide)
      have he2 : gls q = x :: gls d := by rw [gls_pos hq, hxe, hde]
      have Hdq := hid (show d < q by rw [hde]; exact Nat.div_lt_self (by omega) (by decide))
      have HE := hid (show gls y = (pre ++ [(⟨x, hx⟩ : Grp)]).map (·.1) ++ gls d by rw [he, he2]; simp)
      have HP := hid hp; have Hj := hid hj; have HL := hid hlen
      have hdl := divideLimb_own (.slice a' k' c') q 10000000000000000000 K wr hp (by omega) (by omega) (by unfold B64; omega)
      rw [show (q : Int) / 10000000000000000000 = (d : Int) by omega, show (q : Int) % 10000000000000000000 = (x : Int) by omega] at hdl
      have HD := hid hdl
      clear he hj hl0 hp HA H0 hq hk0 hlen hdl he2 hxe hde
      gi_wp2_with (refine ⟨trivial, ?_⟩; gi_at_call 164; refine (callsIn_wide.2 HD.out).mono ?_)
      rintro e W1 ⟨v1, rfl, hv1, hb1⟩
      have Hv1 := hid hv1
      have HJ1 := hid (HJ.out _ _ _ Hj.out hb1)
      clear hv1 hb1
      obtain ⟨fn, tmps, assign, body, hy, hR⟩ := HY.out pre ⟨x, hx⟩ W1 HJ1.out HL.out
      gi_wp2
      refine hR.mono ?_
      rintro e W3 (⟨rfl, hJ3, hk3⟩ | ⟨rfl, hJx3⟩)
      · have H3 := hid hJ3; have HN := hid (Hv1.out.keepT hk3).nt
        clear hJ3
        gi_wp2
        go_roundw
        case rel => exact ⟨pre ++ [⟨x, hx⟩], d, HE.out, HN.out, H3.out⟩
        case measure =>
          rw [natOf_eq HN.out, natOf_eq HP.out]
          have := Hdq.out
          omega
      · have HX := hid hJx3
        clear hJx3
        gi_wp2
        refine bodyPost_ret (results_none rfl _ _ _) rfl ?_
        exact ⟨⟨_, rfl⟩, .inr ⟨pre ++ [⟨x, hx⟩], trivial, HX.out⟩⟩
end Go.Proofs.YtilpkocmdpofpaaGreatDoor

/- exact.pieces: the iterator over a text's pieces of 19 bytes. -/
namespace Go.Proofs.YtilpkocmdpofpaaGreatDoor
open Go.RowKit Go.Shelf
attribute [local go_sem] Oper.semAt_some

/-- A text's pieces. -/
def pcs (l : List UInt8) : List (List UInt8) := if _h : l = [] then [] else l.take 19 :: pcs (l.drop 19)
termination_by l.length
decreasing_by
  have : 0 < l.length := List.length_pos_iff.2 _h
  simp; omega
theorem pcs_nil : pcs [] = [] := by rw [pcs]; rfl
theorem pcs_pos {l : List UInt8} (h : l ≠ []) : pcs l = l.take 19 :: pcs (l.drop 19) := by rw [pcs, dif_neg h]
abbrev Pc := { l : List UInt8 // 0 < l.length ∧ l.length ≤ 19 }
theorem ba_take (l : List UInt8) (k : Nat) : (⟨l.toArray⟩ : ByteArray).extract 0 k = ⟨(l.take k).toArray⟩ := by
  apply ByteArray.ext
  simp [ByteArray.data_extract]
theorem ba_drop (l : List UInt8) (k : Nat) : (⟨l.toArray⟩ : ByteArray).extract k (⟨l.toArray⟩ : ByteArray).size = ⟨(l.drop k).toArray⟩ := by
  apply ByteArray.ext
  simp only [ByteArray.data_extract, ByteArray.size]
  simp
  exact List.take_of_length_le (by simp)
def lenS : Value → Nat
  | .string s => s.size
  | _ => 0

set_option maxRecDepth 100000 in
set_option maxHeartbeats 1000000 in
theorem pieces1_any (n : Nat) (hn : 1 ≤ n) (Bn : Nat) (t : List UInt8) (ht : t.length ≤ 10000000) (w : World) (hBn : Bn < w.heap.size) (hc : w.cell? ⟨Bn, 0, none⟩ = some (.string ⟨t.toArray⟩)) :
    SeqStopsK Fence.wide n Tryz.prog 204 #[.pointer (some ⟨Bn, 0, none⟩)] (fun x : Pc => #[.string ⟨x.1.toArray⟩]) (fun _ _ => True) (fun ys => ys.map (·.1) = pcs t) (fun ys => ∃ r, pcs t = ys.map (·.1) ++ r) (pcs t).length w := fun l J Jx W hW hJ _ hY h0 => by
  have hBW : W.cell? ⟨Bn, 0, none⟩ = some (.string ⟨t.toArray⟩) := (hW.cell (p := ⟨Bn, 0, none⟩) hBn).trans hc
  have HY := hid hY
  have H0 := hid h0
  have HTl := hid ht
  clear hJ hY h0 hc ht
  refine callsIn_of_wp Tryz.func204 rfl trivial ?_ rfl
  simp only [Tryz.ntmps204, List.size_toArray, List.length_cons, List.length_nil, Nat.reduceAdd, Nat.reduceSub, Array.replicate_succ, Array.replicate_zero, List.push_toArray, List.append_toArray, List.nil_append, List.cons_append]
  gi_wp2
  gi_loopw [3] (fun p wr => ∃ (pre : List Pc) (q : List UInt8), pcs t = pre.map (·.1) ++ pcs q ∧ p = .string ⟨q.toArray⟩ ∧ q.length ≤ 10000000 ∧ J pre wr) (fun p _ => lenS p)
  case atStart => exact ⟨[], t, rfl, rfl, HTl.out, H0.out⟩
  case round =>
    obtain ⟨pre, q, he, rfl, hq, hj⟩ := hrel
    by_cases hq0 : q = []
    · subst hq0
      have HE := hid he; have HJ0 := hid hj
      clear he hj H0 HY
      gi_wp2
      go_end0
      exact ⟨⟨_, rfl⟩, .inl ⟨pre, by have := HE.out; rw [pcs_nil, List.append_nil] at this; exact this.symm, HJ0.out⟩⟩
    · have hql : 0 < q.length := List.length_pos_iff.2 hq0
      have hlen : pre.length < (pcs t).length := by rw [he, pcs_pos hq0]; simp
      have hqe : q.isEmpty = false := by cases q with | nil => exact absurd rfl hq0 | cons _ _ => rfl
      obtain ⟨k, hk⟩ : ∃ k : Nat, k = min 19 q.length := ⟨_, rfl⟩
      have hmin : min (19 : Int) (q.length : Int) = (k : Int) := by omega
      have htk : q.take k = q.take 19 := by
        rcases Nat.le_total 19 q.length with h | h
        · rw [hk, Nat.min_eq_left h]
        · rw [hk, Nat.min_eq_right h, List.take_length, List.take_of_length_le h]
      have hdk : q.drop k = q.drop 19 := by
        rcases Nat.le_total 19 q.length with h | h
        · rw [hk, Nat.min_eq_left h]
        · rw [hk, Nat.min_eq_right h, List.drop_length, List.drop_of_length_le h]
      have hx1 : (⟨q.toArray⟩ : ByteArray).extract 0 k = ⟨(q.take 19).toArray⟩ := by rw [ba_take, htk]
      have hx2 : (⟨q.toArray⟩ : ByteArray).extract k q.length = ⟨(q.drop 19).toArray⟩ := by
        have h := ba_drop q k
        rw [hdk] at h
        exact h
      have hk0 : (0 : Int) ≤ (k : Int) := by omega
      have hk1 : (k : Int) ≤ (q.length : Int) := by omega
      have hx : 0 < (q.take 19).length ∧ (q.take 19).length ≤ 19 := by simp; omega
      obtain ⟨fn, tmps, assign, body, hy, hR⟩ := HY.out pre ⟨q.take 19, hx⟩ wr hj hlen
      have HE := hid (show pcs t = (pre ++ [(⟨q.take 19, hx⟩ : Pc)]).map (·.1) ++ pcs (q.drop 19) by rw [he, pcs_pos hq0]; simp)
      have Hq := hid hq; have Hql := hid hql
      clear he hq hq0 hlen hj H0 hk htk hdk hql
      gi_wp2
      refine hR.mono ?_
      rintro e W3 (⟨rfl, hJ3, _⟩ | ⟨rfl, hJx3⟩)
      · have H3 := hid hJ3
        clear hJ3
        gi_wp2
        go_roundw
        case rel => exact ⟨pre ++ [⟨q.take 19, hx⟩], q.drop 19, HE.out, rfl, by simp; have := Hq.out; omega, H3.out⟩
        case measure =>
          show (q.drop 19).length < q.length
          have := Hql.out
          simp; omega
      · have HX := hid hJx3
        clear hJx3
        gi_wp2
        refine bodyPost_ret (results_none rfl _ _ _) rfl ?_
        exact ⟨⟨_, rfl⟩, .inr ⟨pre ++ [⟨q.take 19, hx⟩], ⟨_, HE.out⟩, HX.out⟩⟩
end Go.Proofs.YtilpkocmdpofpaaGreatDoor
