/- strings.Builder: WriteString, String; strconv.FormatUint of a number below 100: by the library's contracts and after them. exact.decimals of a number below 100: its one group's digits. (exact.integer).text and exact.Text of numbers closer to 0 than 100. exact.Show of ratios whose lowest form has numbers closer to 0 than 100; over and shows of the laws. exact.Plus of two ratios whose denominators have the same size; over and shows of the laws. alive of the outright laws: true. The law ExactRing, its walk. Written by gen_ring.py. Contracts of Div, Gcd and Of in one form; the numbers of the law ExactDivision. Floors of ratios. A region that draws its order: what holds between two of its operations, for any number of values and of boxes that it makes. A region that draws its order and holds up to six loads and calls, up to two boxes for fractions (three cells), and their stores. Made out of XBoxJ by program. -/
import Derived.Test.YtbapeilpkhbbeaaGreatBn01
import Derived.Shelf.Strings.Builder1
import Derived.Shelf.Strconv.Itoa1
import Derived.Maps.AppendAt
import Derived.Test.YtbapeilpkhbbeaaGreatBn28
import Derived.Test.YtbapeilpkhbbeaaGreatBn04
import Derived.Test.YtbapeilpkhbbeaaGreatBn20
import Derived.Test.YtbapeilpkhbbeaaGreatBn23
import Derived.Test.YtbapeilpkhbbeaaGreatBn13
import Derived.Laws.IdiomCopy
/- strings.Builder: WriteString, String; strconv.FormatUint of a number below 100: by the library's contracts and after them. -/
namespace Go.Proofs.YtbapeilpkhbbeaaGreat
open Go.RowKit Go.Shelf

end Go.Proofs.YtbapeilpkhbbeaaGreat

/- exact.decimals of a number below 100: its one group's digits. -/
namespace Go.Proofs.YtbapeilpkhbbeaaGreat
open Go.RowKit Go.Shelf
attribute [local go_sem] Oper.semAt_some

end Go.Proofs.YtbapeilpkhbbeaaGreat

/- (exact.integer).text and exact.Text of numbers closer to 0 than 100. -/
namespace Go.Proofs.YtbapeilpkhbbeaaGreat
open Go.RowKit

/-- The text of a number closer to 0 than 100. -/
def tx (z : Int) : ByteArray := if z < 0 then ⟨#[45]⟩ ++ ⟨(Lib.decDigits z.natAbs).toArray⟩ else ⟨(Lib.decDigits z.natAbs).toArray⟩
end Go.Proofs.YtbapeilpkhbbeaaGreat

/- exact.Show of ratios whose lowest form has numbers closer to 0 than 100; over and shows of the laws. -/
namespace Go.Proofs.YtbapeilpkhbbeaaGreat
open Go.RowKit

end Go.Proofs.YtbapeilpkhbbeaaGreat

/- exact.Plus of two ratios whose denominators have the same size; over and shows of the laws. -/
namespace Go.Proofs.YtbapeilpkhbbeaaGreat
open Go.RowKit

end Go.Proofs.YtbapeilpkhbbeaaGreat

/- alive of the outright laws: true. -/
namespace Go.Proofs.YtbapeilpkhbbeaaGreat
open Go.RowKit

end Go.Proofs.YtbapeilpkhbbeaaGreat

/- The law ExactRing, its walk. Written by gen_ring.py. -/
namespace Go.Proofs.YtbapeilpkhbbeaaGreat
open Go.RowKit

theorem cmp_lt' {x y : Int} (h : x < y) : cmpI x y = -1 := by unfold cmpI; (repeat' split) <;> omega
theorem cmp_gt' {x y : Int} (h : y < x) : cmpI x y = 1 := by unfold cmpI; (repeat' split) <;> omega
theorem cmp_eq' (x : Int) : cmpI x x = 0 := by unfold cmpI; simp
end Go.Proofs.YtbapeilpkhbbeaaGreat

/- Contracts of Div, Gcd and Of in one form; the numbers of the law ExactDivision. -/
namespace Go.Proofs.YtbapeilpkhbbeaaGreat
open Go.RowKit

theorem fmod_pos {x y : Int} (h : 0 < y) : 0 ≤ x.fmod y ∧ x.fmod y < y := by
  rw [Int.fmod_eq_emod_of_nonneg x (by omega)]
  exact ⟨Int.emod_nonneg _ (by omega), Int.emod_lt_of_pos _ h⟩
theorem fmod_neg' {x y : Int} (h : y < 0) : x.fmod y ≤ 0 ∧ y < x.fmod y := by
  have e := Int.neg_fmod_neg x y
  have := fmod_pos (x := -x) (y := -y) (by omega)
  omega

/-- The numbers of the law where the divisor is not 0. -/
structure DivN (x y z q r s t4 X Y g : Int) : Prop where
  dq : x.fdiv y = q
  dr : x.fmod y = r
  s0 : cmpI y 0 = s
  s1 : -1 ≤ s
  s2 : s ≤ 1
  back : q * y + r = x
  rs : cmpI (r * s) 0 = t4
  t0 : 0 ≤ t4
  lt : cmpI (r * s) (y * s) = -1
  X0 : x * z = X
  Y0 : y * z = Y
  g0 : (Int.gcd X Y : Int) = g
theorem divN (x y z : Int) (hy : y ≠ 0) : ∃ q r s t4 X Y g, DivN x y z q r s t4 X Y g := by
  refine ⟨x.fdiv y, x.fmod y, cmpI y 0, cmpI (x.fmod y * cmpI y 0) 0, x * z, y * z, _, rfl, rfl, rfl, (cmpI_bd y 0).1, (cmpI_bd y 0).2, ?_, rfl, ?_, ?_, rfl, rfl, rfl⟩
  · have := Int.mul_fdiv_add_fmod x y
    rw [Int.mul_comm] at this
    exact this
  · rcases Int.lt_or_lt_of_ne hy with h | h
    · have h1 := (fmod_neg' (x := x) h).1
      rw [cmp_lt' h]
      have h2 : 0 ≤ x.fmod y * -1 := by omega
      rcases Int.lt_or_eq_of_le h2 with h3 | h3
      · rw [cmp_gt' h3]; decide
      · rw [← h3, cmp_eq']; decide
    · have h1 := (fmod_pos (x := x) h).1
      rw [cmp_gt' h]
      have h2 : 0 ≤ x.fmod y * 1 := by omega
      rcases Int.lt_or_eq_of_le h2 with h3 | h3
      · rw [cmp_gt' h3]; decide
      · rw [← h3, cmp_eq']; decide
  · rcases Int.lt_or_lt_of_ne hy with h | h
    · have h1 := (fmod_neg' (x := x) h).2
      rw [cmp_lt' h]
      exact cmp_lt' (by omega)
    · have h1 := (fmod_pos (x := x) h).2
      rw [cmp_gt' h]
      exact cmp_lt' (by omega)
end Go.Proofs.YtbapeilpkhbbeaaGreat

/- Floors of ratios. -/
namespace Go.Proofs.YtbapeilpkhbbeaaGreat
open Go.RowKit

theorem fdiv_le (x : Int) {y : Int} (hy : 0 < y) : x.fdiv y * y ≤ x ∧ x < (x.fdiv y + 1) * y := by
  rw [Int.fdiv_eq_ediv_of_nonneg _ (Int.le_of_lt hy)]
  exact ⟨Int.ediv_mul_le _ (by omega), Int.lt_ediv_add_one_mul_self _ hy⟩
theorem fdiv_is {x y q : Int} (h1 : q * y ≤ x) (h2 : x < (q + 1) * y) : x.fdiv y = q := by
  have e : (q + 1) * y = q * y + y := by rw [Int.add_mul, Int.one_mul]
  exact (fdiv_uniq (r := x - q * y) (by omega) (Or.inl ⟨by omega, by omega⟩)).1
theorem fdiv_ratio {a b c e : Int} (hb : 0 < b) (he : 0 < e) (h : a * e = c * b) : a.fdiv b = c.fdiv e := by
  obtain ⟨h1, h2⟩ := fdiv_le c he
  refine fdiv_is ?_ ?_
  · refine Int.le_of_mul_le_mul_right (a := e) ?_ he
    have := Int.mul_le_mul_of_nonneg_right h1 (Int.le_of_lt hb)
    rw [h]; grind
  · refine Int.lt_of_mul_lt_mul_right (a := e) ?_ (Int.le_of_lt he)
    have := Int.mul_lt_mul_of_pos_right h2 hb
    rw [h]; grind
end Go.Proofs.YtbapeilpkhbbeaaGreat

/- A region that draws its order: what holds between two of its operations, for any number of values and of boxes that it makes. -/
namespace Go.Proofs.YtbapeilpkhbbeaaGreat
open Go.RowKit

def KeepAll (w w' : World) : Prop := ∀ k, Keeps k w w'
theorem KeepAll.of_below {w w' : World} (h : Below w.heap.size w w') : KeepAll w w' := fun _ => Keeps.below h (Nat.le_refl _)
theorem KeepAll.refl (w : World) : KeepAll w w := fun k => Keeps.refl k w
theorem KeepAll.trans {a b c : World} (h : KeepAll a b) (g : KeepAll b c) : KeepAll a c := fun k => (h k).trans (g k)
/-- A property of a value that stays where no number's cell turns. -/
def KeepV (G : World → Value → Prop) : Prop := ∀ w w' v, KeepAll w w' → G w v → G w' v
theorem kcV (u : Value) : KeepV (fun _ v => v = u) := fun _ _ _ _ h => h
theorem ntV (n : Int) (K : Nat) : KeepV (fun w v => Nt w v n K) := fun _ _ _ hk h => by
  obtain ⟨ao, c, L, rfl, h⟩ := h
  exact ⟨ao, c, L, rfl, h.rd.keeps (hk _), h.dig, h.nrm, h.eq, h.le⟩
theorem ftV (z d : Int) (K : Nat) : KeepV (fun w v => Ft w v z d K) := fun _ _ _ hk h => by
  obtain ⟨s1, s2, rfl, h1, h2⟩ := h
  exact ⟨s1, s2, rfl, ntV _ _ _ _ _ hk h1, ntV _ _ _ _ _ hk h2⟩
theorem twoV {Gq Gr : World → Value → Prop} (hq : KeepV Gq) (hr : KeepV Gr) : KeepV (fun w s => ∃ u v, s = .tuple #[u, v] ∧ Gq w u ∧ Gr w v) := fun _ _ _ hk h => by
  obtain ⟨u, v, e, a, b⟩ := h
  exact ⟨u, v, e, hq _ _ _ hk a, hr _ _ _ hk b⟩

def Vals : List (Bool × (World → Value → Prop) × Value) → World → Prop
  | [], _ => True
  | (b, G, s) :: l, w => (b = true → G w s) ∧ Vals l w
def AllKeep : List (Bool × (World → Value → Prop) × Value) → Prop
  | [] => True
  | (_, G, _) :: l => KeepV G ∧ AllKeep l
theorem Vals.keep {w w' : World} : ∀ {l : List (Bool × (World → Value → Prop) × Value)}, AllKeep l → KeepAll w w' → Vals l w → Vals l w'
  | [], _, _, _ => trivial
  | (_, _, _) :: _, k, hk, h => ⟨fun e => k.1 _ _ _ hk (h.1 e), Vals.keep k.2 hk h.2⟩

/-- s points to a block of n cells that the region has made; b: it has been written with v. -/
def BoxN (B : Nat) (w : World) (n : Nat) (s : Value) (b : Bool) (v : Value) : Prop :=
  ∃ (p : Nat) (vs : List Value), s = .pointer (some ⟨p, 0, none⟩) ∧ B ≤ p ∧ p < w.heap.size ∧ vs.length = n ∧ (∀ i, i < n → w.cell? ⟨p, i, none⟩ = some (vs.getD i undef)) ∧ (∀ i, i < n → w.frozen? ⟨p, i, none⟩ = false) ∧ (∀ i k x, i < n → vs.getD i undef ≠ .int k x) ∧ (b = true → v = .agg vs.toArray)
theorem BoxN.below {B : Nat} {w w' : World} {n : Nat} {s v : Value} {b : Bool} (h : BoxN B w n s b v) (hb : Below w.heap.size w w') : BoxN B w' n s b v := by
  obtain ⟨p, vs, rfl, hp, hl, hn, hc, hf, hi, hv⟩ := h
  exact ⟨p, vs, rfl, hp, Nat.lt_of_lt_of_le hl hb.size, hn, fun i h => (hb.cell (p := ⟨p, i, none⟩) hl).trans (hc i h), fun i h => (hb.frozen (p := ⟨p, i, none⟩) hl).trans (hf i h), hi, hv⟩
theorem BoxN.fresh {B : Nat} {w : World} {n : Nat} {s v v' : Value} (h : BoxN B w n s false v) : BoxN B w n s false v' := by
  obtain ⟨p, vs, rfl, hp, hl, hn, hc, hf, hi, _⟩ := h
  exact ⟨p, vs, rfl, hp, hl, hn, hc, hf, hi, nofun⟩
theorem boxn_new (B : Nat) (w : World) (T : TypeId) (v : Value) (zs : List Value) (hz : ∀ i k x, i < zs.length → zs.getD i undef ≠ .int k x) (hs : B ≤ w.heap.size) : BoxN B (w.alloc (.cells zs.toArray T)) zs.length (.pointer (some ⟨w.heap.size, 0, none⟩)) false v := by
  refine ⟨w.heap.size, zs, rfl, hs, by simp, rfl, fun i hi => ?_, fun i hi => World.frozen?_alloc_new _ _ _ _, hz, nofun⟩
  rw [World.cell?_alloc_new]
  simp [hi]
theorem boxn_ne_new {B : Nat} {w : World} {n : Nat} {s v : Value} {b : Bool} (h : BoxN B w n s b v) : s ≠ .pointer (some ⟨w.heap.size, 0, none⟩) := by
  obtain ⟨p, vs, rfl, hp, hl, _⟩ := h
  intro e; cases e; omega
theorem size_setCells (b : Nat) : ∀ (vs : List Value) (o : Nat) (w : World), (w.setCells b o vs).heap.size = w.heap.size
  | [], _, _ => rfl
  | _ :: r, o, w => by rw [World.setCells, size_setCells b r]; simp
theorem below_setCells {B b : Nat} (hb : B ≤ b) : ∀ (vs : List Value) (o : Nat) {a w : World}, Below B a w → Below B a (w.setCells b o vs)
  | [], _, _, _, h => h
  | _ :: r, o, _, _, h => below_setCells hb r (o + 1) (h.setCell hb _)
theorem keep_setCells (b : Nat) : ∀ (vs : List Value) (o : Nat) (w : World), (∀ j, j < vs.length → ∃ u, w.cell? ⟨b, o + j, none⟩ = some u ∧ ∀ k x, u ≠ .int k x) → KeepAll w (w.setCells b o vs)
  | [], _, w, _ => KeepAll.refl w
  | v :: r, o, w, h => by
    obtain ⟨u, hu, hn⟩ := h 0 (by simp)
    have h1 : KeepAll w (w.setCell ⟨b, o, none⟩ v) := fun k => (Keeps.refl k w).setCell hu (hn k) v
    refine h1.trans (keep_setCells b r (o + 1) _ (fun j hj => ?_))
    obtain ⟨u', hu', hn'⟩ := h (j + 1) (by simp; omega)
    refine ⟨u', ?_, hn'⟩
    rw [World.cell?_setCell_other _ _ _ _ (by simp <;> omega)]
    rw [← hu', show o + (j + 1) = o + 1 + j by omega]
theorem BoxN.keeps {B : Nat} {w : World} {n p : Nat} {v : Value} {b : Bool} (h : BoxN B w n (.pointer (some ⟨p, 0, none⟩)) b v) {us : List Value} (hu : us.length = n) : KeepAll w (w.setCells p 0 us) := by
  obtain ⟨q, vs, e, hp, hl, hn, hc, hf, hi, _⟩ := h
  cases e
  refine keep_setCells p us 0 w (fun j hj => ⟨_, by rw [Nat.zero_add]; exact hc j (by omega), fun k x => hi j k x (by omega)⟩)
theorem BoxN.store {B : Nat} {w : World} {n p : Nat} {v : Value} {b : Bool} (h : BoxN B w n (.pointer (some ⟨p, 0, none⟩)) b v) (us : List Value) (hu : us.length = n) (hz : ∀ i k x, i < n → us.getD i undef ≠ .int k x) :
    BoxN B (w.setCells p 0 us) n (.pointer (some ⟨p, 0, none⟩)) true (.agg us.toArray) := by
  obtain ⟨q, vs, e, hp, hl, hn, hc, hf, hi, _⟩ := h
  cases e
  refine ⟨p, us, rfl, hp, by rw [size_setCells]; exact hl, hu, fun i h => ?_, fun i h => (World.frozen?_setCells p us 0 w _).trans (hf i h), hz, fun _ => rfl⟩
  have := World.cell?_setCells_in p us 0 w (fun j hj => by rw [Nat.zero_add, hc j (by omega)]; rfl) i (by omega)
  rw [Nat.zero_add] at this
  rw [this]
  simp [show i < us.length by omega]
theorem BoxN.other {B : Nat} {w : World} {n : Nat} {s v : Value} {b : Bool} (h : BoxN B w n s b v) {p : Nat} (hne : s ≠ .pointer (some ⟨p, 0, none⟩)) (o : Nat) (us : List Value) : BoxN B (w.setCells p o us) n s b v := by
  obtain ⟨q, vs, rfl, hp, hl, hn, hc, hf, hi, hv⟩ := h
  have hpq : q ≠ p := by rintro rfl; exact hne rfl
  exact ⟨q, vs, rfl, hp, by rw [size_setCells]; exact hl, hn, fun i h => (World.cell?_setCells_out p us o w _ (fun e => absurd e hpq)).trans (hc i h), fun i h => (World.frozen?_setCells p us o w _).trans (hf i h), hi, hv⟩

theorem BoxN.done {B : Nat} {w : World} {n : Nat} {s : Value} {us : List Value} (h : BoxN B w n s true (.agg us.toArray)) : ∃ p, s = .pointer (some ⟨p, 0, none⟩) ∧ B ≤ p ∧ p < w.heap.size ∧ ∀ i, i < n → w.cell? ⟨p, i, none⟩ = some (us.getD i undef) ∧ w.frozen? ⟨p, i, none⟩ = false := by
  obtain ⟨p, vs, rfl, hp, hl, hn, hc, hf, hi, hv⟩ := h
  have e := hv rfl
  simp only [Value.agg.injEq] at e
  have e' : us = vs := by simpa using congrArg Array.toList e
  subst e'
  exact ⟨p, rfl, hp, hl, fun i h => ⟨hc i h, hf i h⟩⟩

def Boxes (B : Nat) : List (Nat × Bool × Bool × Value × Value) → World → Prop
  | [], _ => True
  | (n, p, q, t, x) :: l, w => (p = true → BoxN B w n t q x) ∧ Boxes B l w
theorem Boxes.below {B : Nat} {w w' : World} (hb : Below w.heap.size w w') : ∀ {l : List (Nat × Bool × Bool × Value × Value)}, Boxes B l w → Boxes B l w'
  | [], _ => trivial
  | (_, _, _, _, _) :: _, h => ⟨fun e => (h.1 e).below hb, Boxes.below hb h.2⟩
def AwayAll (p : Bool) (t : Value) : List (Nat × Bool × Bool × Value × Value) → Prop
  | [] => True
  | (_, p', _, t', _) :: l => (p = true → p' = true → t ≠ t') ∧ AwayAll p t l
def Apart : List (Nat × Bool × Bool × Value × Value) → Prop
  | [] => True
  | (_, p, _, t, _) :: l => AwayAll p t l ∧ Apart l

structure RX (B : Nat) (W0 : World) (l : List (Bool × (World → Value → Prop) × Value)) (bx : List (Nat × Bool × Bool × Value × Value)) (w : World) : Prop where
  bel : Below B W0 w
  siz : B ≤ w.heap.size
  vals : Vals l w
  boxes : Boxes B bx w
  ne : Apart bx
theorem RX.step {B : Nat} {W0 w w' : World} {l : List (Bool × (World → Value → Prop) × Value)} {bx : List (Nat × Bool × Bool × Value × Value)} (h : RX B W0 l bx w) (k : AllKeep l) (hb : Below w.heap.size w w') : RX B W0 l bx w' :=
  ⟨h.bel.trans (hb.mono h.siz), Nat.le_trans h.siz hb.size, h.vals.keep k (KeepAll.of_below hb), h.boxes.below hb, h.ne⟩
theorem bl_new {w : World} (o : Obj) : Below w.heap.size w (w.alloc o) := (Below.refl _ _).alloc (Nat.le_refl _) o
end Go.Proofs.YtbapeilpkhbbeaaGreat

/- A region that draws its order and holds up to six loads and calls, up to two boxes for fractions (three cells), and their stores. Made out of XBoxJ by program. -/
namespace Go.Proofs.YtbapeilpkhbbeaaGreat
open Go.RowKit

/-- s points to three cells of a block that the region has made; b: it has been written with v. -/
def PtrC (k : IntKind) (B : Nat) (w : World) (s : Value) (b : Bool) (v : Value) : Prop :=
  ∃ p v0 v1 v2, s = .pointer (some ⟨p, 0, none⟩) ∧ B ≤ p ∧ w.cell? ⟨p, 0, none⟩ = some v0 ∧ w.cell? ⟨p, 1, none⟩ = some v1 ∧ w.cell? ⟨p, 2, none⟩ = some v2 ∧ w.frozen? ⟨p, 0, none⟩ = false ∧ w.frozen? ⟨p, 1, none⟩ = false ∧ w.frozen? ⟨p, 2, none⟩ = false ∧ (∀ x, v0 ≠ .int k x) ∧ (∀ x, v1 ≠ .int k x) ∧ (∀ x, v2 ≠ .int k x) ∧ (b = true → v = .agg #[v0, v1, v2])
theorem PtrC.below {k : IntKind} {B : Nat} {w w' : World} {s v : Value} {b : Bool} (h : PtrC k B w s b v) (hb : Below w.heap.size w w') : PtrC k B w' s b v := by
  obtain ⟨p, v0, v1, v2, rfl, hp, c0, c1, c2, f0, f1, f2, r⟩ := h
  have hl := World.block_lt_of_cell? w _ c0
  exact ⟨p, v0, v1, v2, rfl, hp, (hb.cell (p := ⟨p, 0, none⟩) hl).trans c0, (hb.cell (p := ⟨p, 1, none⟩) hl).trans c1, (hb.cell (p := ⟨p, 2, none⟩) hl).trans c2, (hb.frozen (p := ⟨p, 0, none⟩) hl).trans f0, (hb.frozen (p := ⟨p, 1, none⟩) hl).trans f1, (hb.frozen (p := ⟨p, 2, none⟩) hl).trans f2, r⟩
theorem PtrC.fresh {k : IntKind} {B : Nat} {w : World} {s v v' : Value} (h : PtrC k B w s false v) : PtrC k B w s false v' := by
  obtain ⟨p, v0, v1, v2, rfl, hp, c0, c1, c2, f0, f1, f2, n0, n1, n2, _⟩ := h
  exact ⟨p, v0, v1, v2, rfl, hp, c0, c1, c2, f0, f1, f2, n0, n1, n2, nofun⟩
theorem ptrc_new (k : IntKind) (B : Nat) (w : World) (T : TypeId) (v : Value) (hs : B ≤ w.heap.size) : PtrC k B (w.alloc (.cells #[.bool false, .slice none 0 0, .slice none 0 0] T)) (.pointer (some ⟨w.heap.size, 0, none⟩)) false v :=
  ⟨w.heap.size, .bool false, .slice none 0 0, .slice none 0 0, rfl, hs, by simp [go_sem], by simp [go_sem], by simp [go_sem], by simp [go_sem], by simp [go_sem], by simp [go_sem], nofun, nofun, nofun, nofun⟩
theorem ptrc_ne_new {k : IntKind} {B : Nat} {w : World} {s v : Value} {b : Bool} (h : PtrC k B w s b v) : s ≠ .pointer (some ⟨w.heap.size, 0, none⟩) := by
  obtain ⟨p, v0, v1, v2, rfl, hp, c0, r⟩ := h
  have hl := World.block_lt_of_cell? w _ c0
  intro e; cases e; simp at hl
theorem thr_cells {w : World} {p : Nat} {v0 v1 v2 : Value} (c0 : w.cell? ⟨p, 0, none⟩ = some v0) (c1 : w.cell? ⟨p, 1, none⟩ = some v1) (c2 : w.cell? ⟨p, 2, none⟩ = some v2) (u0 u1 u2 : Value) :
    (((w.setCell ⟨p, 0, none⟩ u0).setCell ⟨p, 1, none⟩ u1).setCell ⟨p, 2, none⟩ u2).cell? ⟨p, 0, none⟩ = some u0 ∧ (((w.setCell ⟨p, 0, none⟩ u0).setCell ⟨p, 1, none⟩ u1).setCell ⟨p, 2, none⟩ u2).cell? ⟨p, 1, none⟩ = some u1 ∧ (((w.setCell ⟨p, 0, none⟩ u0).setCell ⟨p, 1, none⟩ u1).setCell ⟨p, 2, none⟩ u2).cell? ⟨p, 2, none⟩ = some u2 := by
  have h := two_cells c0 c1 u0 u1
  refine ⟨?_, ?_, ?_⟩
  · rw [World.cell?_setCell_other _ _ _ _ (by simp)]; exact h.1
  · rw [World.cell?_setCell_other _ _ _ _ (by simp)]; exact h.2
  · exact World.cell?_setCell_same _ _ _ (u := v2) (by rw [World.cell?_setCell_other _ _ _ _ (by simp), World.cell?_setCell_other _ _ _ _ (by simp)]; exact c2)
theorem keeps_thr {k : IntKind} {w : World} {p : Nat} {v0 v1 v2 : Value} (c0 : w.cell? ⟨p, 0, none⟩ = some v0) (c1 : w.cell? ⟨p, 1, none⟩ = some v1) (c2 : w.cell? ⟨p, 2, none⟩ = some v2) (n0 : ∀ x, v0 ≠ .int k x) (n1 : ∀ x, v1 ≠ .int k x) (n2 : ∀ x, v2 ≠ .int k x) (u0 u1 u2 : Value) :
    Keeps k w (((w.setCell ⟨p, 0, none⟩ u0).setCell ⟨p, 1, none⟩ u1).setCell ⟨p, 2, none⟩ u2) :=
  (keeps_two c0 c1 n0 n1 u0 u1).setCell (u := v2) (by rw [World.cell?_setCell_other _ _ _ _ (by simp), World.cell?_setCell_other _ _ _ _ (by simp)]; exact c2) n2 u2
theorem PtrC.other {k : IntKind} {B : Nat} {w : World} {s v : Value} {b : Bool} (h : PtrC k B w s b v) {p : Nat} (hne : s ≠ .pointer (some ⟨p, 0, none⟩)) (u0 u1 u2 : Value) : PtrC k B (((w.setCell ⟨p, 0, none⟩ u0).setCell ⟨p, 1, none⟩ u1).setCell ⟨p, 2, none⟩ u2) s b v := by
  obtain ⟨q, v0, v1, v2, rfl, hq, c0, c1, c2, f0, f1, f2, r⟩ := h
  have hpq : p ≠ q := by rintro rfl; exact hne rfl
  refine ⟨q, v0, v1, v2, rfl, hq, ?_, ?_, ?_, by simpa using f0, by simpa using f1, by simpa using f2, r⟩
  all_goals (rw [World.cell?_setCell_other _ _ _ _ (by simp <;> exact hpq), World.cell?_setCell_other _ _ _ _ (by simp <;> exact hpq), World.cell?_setCell_other _ _ _ _ (by simp <;> exact hpq)]; assumption)

structure BC (B : Nat) (W0 : World) (G0 G1 G2 G3 G4 G5 : World → Value → Prop) (b0 b1 b2 b3 b4 b5 : Bool) (s0 s1 s2 s3 s4 s5 : Value) (p1 q1 : Bool) (t1 x1 : Value) (p2 q2 : Bool) (t2 x2 : Value) (w : World) : Prop where
  bel : Below B W0 w
  siz : B ≤ w.heap.size
  v0 : b0 = true → G0 w s0
  v1 : b1 = true → G1 w s1
  v2 : b2 = true → G2 w s2
  v3 : b3 = true → G3 w s3
  v4 : b4 = true → G4 w s4
  v5 : b5 = true → G5 w s5
  a1 : p1 = true → PtrC .u64 B w t1 q1 x1
  a2 : p2 = true → PtrC .u64 B w t2 q2 x2
  ne : p1 = true → p2 = true → t1 ≠ t2
structure KC (G0 G1 G2 G3 G4 G5 : World → Value → Prop) : Prop where
  k0 : KeepG .u64 G0
  k1 : KeepG .u64 G1
  k2 : KeepG .u64 G2
  k3 : KeepG .u64 G3
  k4 : KeepG .u64 G4
  k5 : KeepG .u64 G5

section
variable {B : Nat} {W0 : World} {G0 G1 G2 G3 G4 G5 : World → Value → Prop} {b0 b1 b2 b3 b4 b5 : Bool} {s0 s1 s2 s3 s4 s5 : Value} {p1 q1 : Bool} {t1 x1 : Value} {p2 q2 : Bool} {t2 x2 : Value} {w w' : World}
theorem BC.start (h : Below B W0 w) (hs : B ≤ w.heap.size) : BC B W0 G0 G1 G2 G3 G4 G5 false false false false false false s0 s1 s2 s3 s4 s5 false false t1 x1 false false t2 x2 w :=
  ⟨h, hs, nofun, nofun, nofun, nofun, nofun, nofun, nofun, nofun, nofun⟩
theorem BC.step (h : BC B W0 G0 G1 G2 G3 G4 G5 b0 b1 b2 b3 b4 b5 s0 s1 s2 s3 s4 s5 p1 q1 t1 x1 p2 q2 t2 x2 w) (k : KC G0 G1 G2 G3 G4 G5) (hb : Below w.heap.size w w') : BC B W0 G0 G1 G2 G3 G4 G5 b0 b1 b2 b3 b4 b5 s0 s1 s2 s3 s4 s5 p1 q1 t1 x1 p2 q2 t2 x2 w' := by
  have hk : Keeps .u64 w w' := Keeps.below hb (Nat.le_refl _)
  exact ⟨h.bel.trans (hb.mono h.siz), Nat.le_trans h.siz hb.size, fun e => k.k0 _ _ _ hk (h.v0 e), fun e => k.k1 _ _ _ hk (h.v1 e), fun e => k.k2 _ _ _ hk (h.v2 e), fun e => k.k3 _ _ _ hk (h.v3 e), fun e => k.k4 _ _ _ hk (h.v4 e), fun e => k.k5 _ _ _ hk (h.v5 e), fun e => (h.a1 e).below hb, fun e => (h.a2 e).below hb, h.ne⟩
theorem BC.alloc1 (h : BC B W0 G0 G1 G2 G3 G4 G5 b0 b1 b2 b3 b4 b5 s0 s1 s2 s3 s4 s5 p1 false t1 x1 p2 q2 t2 x2 w) (k : KC G0 G1 G2 G3 G4 G5) (T : TypeId) :
    BC B W0 G0 G1 G2 G3 G4 G5 b0 b1 b2 b3 b4 b5 s0 s1 s2 s3 s4 s5 true false (.pointer (some ⟨w.heap.size, 0, none⟩)) x1 p2 q2 t2 x2 (w.alloc (.cells #[.bool false, .slice none 0 0, .slice none 0 0] T)) := by
  have J := h.step k ((Below.refl w.heap.size w).alloc (Nat.le_refl _) (.cells #[.bool false, .slice none 0 0, .slice none 0 0] T))
  exact ⟨J.bel, J.siz, J.v0, J.v1, J.v2, J.v3, J.v4, J.v5, fun _ => ptrc_new .u64 B w T _ h.siz, J.a2, fun _ e => (ptrc_ne_new (h.a2 e)).symm⟩
theorem BC.alloc2 (h : BC B W0 G0 G1 G2 G3 G4 G5 b0 b1 b2 b3 b4 b5 s0 s1 s2 s3 s4 s5 p1 q1 t1 x1 p2 false t2 x2 w) (k : KC G0 G1 G2 G3 G4 G5) (T : TypeId) :
    BC B W0 G0 G1 G2 G3 G4 G5 b0 b1 b2 b3 b4 b5 s0 s1 s2 s3 s4 s5 p1 q1 t1 x1 true false (.pointer (some ⟨w.heap.size, 0, none⟩)) x2 (w.alloc (.cells #[.bool false, .slice none 0 0, .slice none 0 0] T)) := by
  have J := h.step k ((Below.refl w.heap.size w).alloc (Nat.le_refl _) (.cells #[.bool false, .slice none 0 0, .slice none 0 0] T))
  exact ⟨J.bel, J.siz, J.v0, J.v1, J.v2, J.v3, J.v4, J.v5, J.a1, fun _ => ptrc_new .u64 B w T _ h.siz, fun e _ => ptrc_ne_new (h.a1 e)⟩
theorem BC.store1 {p : Nat} {u0 u1 u2 : Value} (h : BC B W0 G0 G1 G2 G3 G4 G5 b0 b1 b2 b3 b4 b5 s0 s1 s2 s3 s4 s5 true q1 (.pointer (some ⟨p, 0, none⟩)) (.agg #[u0, u1, u2]) p2 q2 t2 x2 w) (k : KC G0 G1 G2 G3 G4 G5) (m0 : ∀ x, u0 ≠ .int .u64 x) (m1 : ∀ x, u1 ≠ .int .u64 x) (m2 : ∀ x, u2 ≠ .int .u64 x) :
    BC B W0 G0 G1 G2 G3 G4 G5 b0 b1 b2 b3 b4 b5 s0 s1 s2 s3 s4 s5 true true (.pointer (some ⟨p, 0, none⟩)) (.agg #[u0, u1, u2]) p2 q2 t2 x2 (((w.setCell ⟨p, 0, none⟩ u0).setCell ⟨p, 1, none⟩ u1).setCell ⟨p, 2, none⟩ u2) := by
  obtain ⟨p', v0, v1, v2, e, hp, c0, c1, c2, f0, f1, f2, n0, n1, n2, _⟩ := h.a1 rfl
  cases e
  have hk := keeps_thr c0 c1 c2 n0 n1 n2 u0 u1 u2
  have ht := thr_cells c0 c1 c2 u0 u1 u2
  exact ⟨((h.bel.setCell hp _).setCell hp _).setCell hp _, by simpa using h.siz, fun e => k.k0 _ _ _ hk (h.v0 e), fun e => k.k1 _ _ _ hk (h.v1 e), fun e => k.k2 _ _ _ hk (h.v2 e), fun e => k.k3 _ _ _ hk (h.v3 e), fun e => k.k4 _ _ _ hk (h.v4 e), fun e => k.k5 _ _ _ hk (h.v5 e), fun _ => ⟨p, u0, u1, u2, rfl, hp, ht.1, ht.2.1, ht.2.2, by simpa using f0, by simpa using f1, by simpa using f2, m0, m1, m2, fun _ => rfl⟩, fun e => (h.a2 e).other (h.ne rfl e).symm _ _ _, h.ne⟩
theorem BC.store2 {p : Nat} {u0 u1 u2 : Value} (h : BC B W0 G0 G1 G2 G3 G4 G5 b0 b1 b2 b3 b4 b5 s0 s1 s2 s3 s4 s5 p1 q1 t1 x1 true q2 (.pointer (some ⟨p, 0, none⟩)) (.agg #[u0, u1, u2]) w) (k : KC G0 G1 G2 G3 G4 G5) (m0 : ∀ x, u0 ≠ .int .u64 x) (m1 : ∀ x, u1 ≠ .int .u64 x) (m2 : ∀ x, u2 ≠ .int .u64 x) :
    BC B W0 G0 G1 G2 G3 G4 G5 b0 b1 b2 b3 b4 b5 s0 s1 s2 s3 s4 s5 p1 q1 t1 x1 true true (.pointer (some ⟨p, 0, none⟩)) (.agg #[u0, u1, u2]) (((w.setCell ⟨p, 0, none⟩ u0).setCell ⟨p, 1, none⟩ u1).setCell ⟨p, 2, none⟩ u2) := by
  obtain ⟨p', v0, v1, v2, e, hp, c0, c1, c2, f0, f1, f2, n0, n1, n2, _⟩ := h.a2 rfl
  cases e
  have hk := keeps_thr c0 c1 c2 n0 n1 n2 u0 u1 u2
  have ht := thr_cells c0 c1 c2 u0 u1 u2
  exact ⟨((h.bel.setCell hp _).setCell hp _).setCell hp _, by simpa using h.siz, fun e => k.k0 _ _ _ hk (h.v0 e), fun e => k.k1 _ _ _ hk (h.v1 e), fun e => k.k2 _ _ _ hk (h.v2 e), fun e => k.k3 _ _ _ hk (h.v3 e), fun e => k.k4 _ _ _ hk (h.v4 e), fun e => k.k5 _ _ _ hk (h.v5 e), fun e => (h.a1 e).other (h.ne e rfl) _ _ _, fun _ => ⟨p, u0, u1, u2, rfl, hp, ht.1, ht.2.1, ht.2.2, by simpa using f0, by simpa using f1, by simpa using f2, m0, m1, m2, fun _ => rfl⟩, h.ne⟩
end
theorem ft_keepg (z d : Int) (K : Nat) : KeepG .u64 (fun w v => Ft w v z d K) := fun _ _ _ hk h => by
  obtain ⟨s1, s2, rfl, h1, h2⟩ := h
  exact ⟨s1, s2, rfl, nt_keeps hk h1, nt_keeps hk h2⟩
end Go.Proofs.YtbapeilpkhbbeaaGreat
