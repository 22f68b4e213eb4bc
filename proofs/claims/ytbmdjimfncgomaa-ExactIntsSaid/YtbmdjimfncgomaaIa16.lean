/- A region that draws its order, by an invariant: what holds of the frame and the world while some of its operations have been carried out. exact.Cmp. Written by gen_cmp.py. -/
import Derived.Test.YtbmdjimfncgomaaIa01
import Derived.Deep.RegionWith
import Derived.Test.YtbmdjimfncgomaaIa04
/- A region that draws its order, by an invariant: what holds of the frame and the world while some of its operations have been carried out. -/
namespace Go.Proofs.Ytbmdjimfncgomaa
open Go.RowKit

theorem count_set_true : ∀ (l : List Bool) (i : Nat), l[i]? = some false → (l.set i true).count false + 1 = l.count false
  | [], i, h => by simp at h
  | b :: l, 0, h => by simp at h; subst h; simp
  | b :: l, i + 1, h => by
    have := count_set_true l i (by simpa using h)
    simp only [List.set_cons_succ, List.count_cons]; omega

theorem wpAny_inv {P : Program} {md : Region.Mode} {ops : Array Oper} {Q : Exit → Act → World → Prop} (I : Array Bool → Act → World → Prop)
    (hstep : ∀ L a w i, L.size = ops.size → I L a w → i ∈ Region.ready md ops L → wpOp P ops Q i (fun a' w' => I (L.setIfInBounds i true) a' w') a w)
    (hdone : ∀ L a w, L.size = ops.size → I L a w → Region.ready md ops L = [] → Q .normal a w) :
    ∀ fuel L a w, L.size = ops.size → L.toList.count false ≤ fuel → I L a w → wpAny P md ops Q fuel L a w := by
  have hr : ∀ L i, L.size = ops.size → i ∈ Region.ready md ops L → L.toList[i]? = some false := by
    intro L i hs hi
    unfold Region.ready at hi
    rw [List.mem_filter] at hi
    obtain ⟨h1, h2⟩ := hi
    rw [List.mem_range] at h1
    simp only [Bool.and_eq_true, Bool.not_eq_true'] at h2
    have h3 := h2.1
    have hlt : i < L.size := by omega
    simp [hlt] at h3
    rw [Array.getElem?_toList]; simp [hlt, h3]
  intro fuel
  induction fuel with
  | zero =>
    intro L a w hs hc hI
    have h0 : Region.ready md ops L = [] := by
      apply List.eq_nil_iff_forall_not_mem.2
      intro i hi
      have := hr L i hs hi
      have hm : false ∈ L.toList := List.mem_of_getElem? this
      have := List.count_pos_iff.2 hm
      omega
    exact ⟨h0, hdone L a w hs hI h0⟩
  | succ fuel ih =>
    intro L a w hs hc hI
    refine ⟨fun h0 => hdone L a w hs hI h0, fun i hi => wpOp_mono (fun a' w' h => ih _ a' w' (by simpa using hs) ?_ h) (hstep L a w i hs hI hi)⟩
    have := count_set_true L.toList i (hr L i hs hi)
    rw [Array.toList_setIfInBounds]; omega

theorem region_inv {P : Program} {id : Nat} {ops : Array Oper} {Q : Exit → Act → World → Prop} {a : Act} {w : World} (hm : P.follows .mixedOrders = true) (I : Array Bool → Act → World → Prop)
    (hI : I (Array.replicate ops.size false) a w.drew)
    (hstep : ∀ L a w i, L.size = ops.size → I L a w → i ∈ Region.ready .any ops L → wpOp P ops Q i (fun a' w' => I (L.setIfInBounds i true) a' w') a w)
    (hdone : ∀ L a w, L.size = ops.size → I L a w → Region.ready .any ops L = [] → Q .normal a w) : (Code.region id ops true).wp P Q a w :=
  wp_region_any hm (wpAny_inv I hstep hdone _ _ _ _ (by simp) (by simp) hI)

theorem array8 {α : Type} (L : Array α) (h : L.size = 8) : ∃ b0 b1 b2 b3 b4 b5 b6 b7, L = #[b0, b1, b2, b3, b4, b5, b6, b7] := by
  obtain ⟨l⟩ := L
  match l, h with
  | [b0, b1, b2, b3, b4, b5, b6, b7], _ => exact ⟨_, _, _, _, _, _, _, _, rfl⟩

/-- Of each operation the list of some that it waits for. -/
def waits (ops : Array Oper) (dep : List (List Nat)) : Bool :=
  (List.range ops.size).all fun i => (dep.getD i []).all fun d => ((ops[i]?).map fun o => o.after.toList.any fun e => Region.binds .any e && e.on == d).getD false
theorem waits_spec {ops : Array Oper} {dep : List (List Nat)} (h : waits ops dep = true) {L : Array Bool} {i : Nat} (hi : i ∈ Region.ready .any ops L) :
    i < ops.size ∧ L.getD i true = false ∧ ∀ d, d ∈ dep.getD i [] → L.getD d false = true := by
  unfold Region.ready at hi
  rw [List.mem_filter, List.mem_range] at hi
  obtain ⟨h1, h2⟩ := hi
  simp only [Bool.and_eq_true, Bool.not_eq_true'] at h2
  refine ⟨h1, h2.1, fun d hd => ?_⟩
  unfold waits at h
  rw [List.all_eq_true] at h
  have h3 := h i (List.mem_range.2 h1)
  rw [List.all_eq_true] at h3
  have h4 := h3 d hd
  have ho : ops[i]? = some ops[i] := by simp [h1]
  rw [ho] at h2 h4
  simp only [Option.map_some, Option.getD_some] at h2 h4
  rw [List.any_eq_true] at h4
  obtain ⟨e, he, h5⟩ := h4
  simp only [Bool.and_eq_true, beq_iff_eq] at h5
  have h6 := h2.2
  rw [Array.all_eq_true_iff_forall_mem] at h6
  have h7 := h6 e (by simpa using he)
  rw [h5.1, h5.2] at h7
  simpa using h7
/-- When nothing is ready all has been done, where each operation waits for earlier ones alone. -/
def early (ops : Array Oper) : Bool := (List.range ops.size).all fun i => ((ops[i]?).map fun o => o.after.toList.all fun e => !Region.binds .any e || decide (e.on < i)).getD false
theorem early_done {ops : Array Oper} (h : early ops = true) {L : Array Bool} (hsz : L.size = ops.size) (hL : Region.ready .any ops L = []) : ∀ n i, i < n → i < ops.size → L.getD i true = true := by
  intro n
  induction n with
  | zero => intro i hi; omega
  | succ n ih =>
    intro i hi hs
    by_cases hlt : i < n
    · exact ih i hlt hs
    · obtain rfl : i = n := by omega
      cases hb : L.getD i true with
      | true => rfl
      | false =>
        exfalso
        have hm : i ∈ Region.ready .any ops L := by
          unfold Region.ready
          rw [List.mem_filter, List.mem_range]
          refine ⟨hs, ?_⟩
          have ho : ops[i]? = some ops[i] := by simp [hs]
          rw [hb, ho]
          simp only [Option.map_some, Option.getD_some, Bool.not_false, Bool.true_and]
          rw [Array.all_eq_true_iff_forall_mem]
          intro e he
          unfold early at h
          rw [List.all_eq_true] at h
          have h3 := h i (List.mem_range.2 hs)
          rw [ho] at h3
          simp only [Option.map_some, Option.getD_some] at h3
          rw [List.all_eq_true] at h3
          have h4 := h3 e (by simpa using he)
          simp only [Bool.or_eq_true, Bool.not_eq_true', decide_eq_true_eq] at h4
          rcases h4 with h4 | h4
          · simp [h4]
          · have h5 := ih e.on h4 (by omega)
            have h6 : L.getD e.on false = true := by
              have hz : e.on < L.size := by omega
              simp [hz] at h5 ⊢; exact h5
            simp [h6]
        rw [hL] at hm; cases hm

/-! The region 'm, n := f(x), g(y)' of two structs (a bool and a slice) whose addresses are taken: two loads, two calls, two allotments, two stores. -/
/-- s points to a cell pair of a block that the region has made; b: it has been written with v. -/
def PtrAt (k : IntKind) (B : Nat) (w : World) (s : Value) (b : Bool) (v : Value) : Prop :=
  ∃ p v0 v1, s = .pointer (some ⟨p, 0, none⟩) ∧ B ≤ p ∧ w.cell? ⟨p, 0, none⟩ = some v0 ∧ w.cell? ⟨p, 1, none⟩ = some v1 ∧ w.frozen? ⟨p, 0, none⟩ = false ∧ w.frozen? ⟨p, 1, none⟩ = false ∧ (∀ x, v0 ≠ .int k x) ∧ (∀ x, v1 ≠ .int k x) ∧ (b = true → v = .agg #[v0, v1])

theorem PtrAt.below {k : IntKind} {B : Nat} {w w' : World} {s v : Value} {b : Bool} (h : PtrAt k B w s b v) (hb : Below w.heap.size w w') : PtrAt k B w' s b v := by
  obtain ⟨p, v0, v1, rfl, hp, c0, c1, f0, f1, r⟩ := h
  have hl := World.block_lt_of_cell? w _ c0
  exact ⟨p, v0, v1, rfl, hp, (hb.cell (p := ⟨p, 0, none⟩) hl).trans c0, (hb.cell (p := ⟨p, 1, none⟩) hl).trans c1, (hb.frozen (p := ⟨p, 0, none⟩) hl).trans f0, (hb.frozen (p := ⟨p, 1, none⟩) hl).trans f1, r⟩

structure PairJ (k : IntKind) (B : Nat) (W0 : World) (vx vy : Value) (G1 G2 : World → Value → Prop) (b0 b1 b2 b3 b4 b5 b6 b7 : Bool) (s5 s6 s7 s8 s9 s10 : Value) (w : World) : Prop where
  bel : Below B W0 w
  siz : B ≤ w.heap.size
  l0 : b0 = true → s7 = vx
  c1 : b1 = true → G1 w s8
  l2 : b2 = true → s9 = vy
  c3 : b3 = true → G2 w s10
  p4 : b4 = true → PtrAt k B w s5 b6 s8
  p5 : b5 = true → PtrAt k B w s6 b7 s10
  ne : b4 = true → b5 = true → s5 ≠ s6

section
variable {k : IntKind} {B : Nat} {W0 : World} {vx vy : Value} {G1 G2 : World → Value → Prop} {b0 b1 b2 b3 b4 b5 b6 b7 : Bool} {s5 s6 s7 s8 s9 s10 : Value} {w w' : World}

theorem PairJ.start (h : Below B W0 w) (hs : B ≤ w.heap.size) : PairJ k B W0 vx vy G1 G2 false false false false false false false false s5 s6 s7 s8 s9 s10 w :=
  ⟨h, hs, nofun, nofun, nofun, nofun, nofun, nofun, nofun⟩
theorem PairJ.load0 (h : PairJ k B W0 vx vy G1 G2 b0 b1 b2 b3 b4 b5 b6 b7 s5 s6 s7 s8 s9 s10 w) : PairJ k B W0 vx vy G1 G2 true b1 b2 b3 b4 b5 b6 b7 s5 s6 vx s8 s9 s10 w :=
  ⟨h.bel, h.siz, fun _ => rfl, h.c1, h.l2, h.c3, h.p4, h.p5, h.ne⟩
theorem PairJ.load2 (h : PairJ k B W0 vx vy G1 G2 b0 b1 b2 b3 b4 b5 b6 b7 s5 s6 s7 s8 s9 s10 w) : PairJ k B W0 vx vy G1 G2 b0 b1 true b3 b4 b5 b6 b7 s5 s6 s7 s8 vy s10 w :=
  ⟨h.bel, h.siz, h.l0, h.c1, fun _ => rfl, h.c3, h.p4, h.p5, h.ne⟩
theorem PtrAt.fresh {k : IntKind} {B : Nat} {w : World} {s v v' : Value} (h : PtrAt k B w s false v) : PtrAt k B w s false v' := by
  obtain ⟨p, v0, v1, rfl, hp, c0, c1, f0, f1, n0, n1, _⟩ := h
  exact ⟨p, v0, v1, rfl, hp, c0, c1, f0, f1, n0, n1, nofun⟩
theorem PairJ.call1 (h : PairJ k B W0 vx vy G1 G2 b0 b1 b2 b3 b4 b5 false b7 s5 s6 s7 s8 s9 s10 w) (hG : ∀ w w' v, Keeps k w w' → G2 w v → G2 w' v) (hb : Below w.heap.size w w') {v : Value} (hv : G1 w' v) :
    PairJ k B W0 vx vy G1 G2 b0 true b2 b3 b4 b5 false b7 s5 s6 s7 v s9 s10 w' :=
  ⟨h.bel.trans (hb.mono h.siz), Nat.le_trans h.siz hb.size, h.l0, fun _ => hv, h.l2, fun e => hG _ _ _ (Keeps.below hb (Nat.le_refl _)) (h.c3 e), fun e => ((h.p4 e).below hb).fresh, fun e => (h.p5 e).below hb, h.ne⟩
theorem PairJ.call3 (h : PairJ k B W0 vx vy G1 G2 b0 b1 b2 b3 b4 b5 b6 false s5 s6 s7 s8 s9 s10 w) (hG : ∀ w w' v, Keeps k w w' → G1 w v → G1 w' v) (hb : Below w.heap.size w w') {v : Value} (hv : G2 w' v) :
    PairJ k B W0 vx vy G1 G2 b0 b1 b2 true b4 b5 b6 false s5 s6 s7 s8 s9 v w' :=
  ⟨h.bel.trans (hb.mono h.siz), Nat.le_trans h.siz hb.size, h.l0, fun e => hG _ _ _ (Keeps.below hb (Nat.le_refl _)) (h.c1 e), h.l2, fun _ => hv, fun e => (h.p4 e).below hb, fun e => ((h.p5 e).below hb).fresh, h.ne⟩
theorem ptr_new (k : IntKind) (B : Nat) (w : World) (T : TypeId) (v : Value) (hs : B ≤ w.heap.size) : PtrAt k B (w.alloc (.cells #[.bool false, .slice none 0 0] T)) (.pointer (some ⟨w.heap.size, 0, none⟩)) false v :=
  ⟨w.heap.size, .bool false, .slice none 0 0, rfl, hs, by simp [go_sem], by simp [go_sem], by simp [go_sem], by simp [go_sem], nofun, nofun, nofun⟩
theorem ptr_ne_new {k : IntKind} {B : Nat} {w : World} {s v : Value} {b : Bool} (h : PtrAt k B w s b v) : s ≠ .pointer (some ⟨w.heap.size, 0, none⟩) := by
  obtain ⟨p, v0, v1, rfl, hp, c0, r⟩ := h
  have hl := World.block_lt_of_cell? w _ c0
  intro e; cases e; simp at hl
theorem PairJ.alloc4 (h : PairJ k B W0 vx vy G1 G2 b0 b1 b2 b3 b4 b5 false b7 s5 s6 s7 s8 s9 s10 w) (hG1 : ∀ w w' v, Keeps k w w' → G1 w v → G1 w' v) (hG2 : ∀ w w' v, Keeps k w w' → G2 w v → G2 w' v) (T : TypeId) :
    PairJ k B W0 vx vy G1 G2 b0 b1 b2 b3 true b5 false b7 (.pointer (some ⟨w.heap.size, 0, none⟩)) s6 s7 s8 s9 s10 (w.alloc (.cells #[.bool false, .slice none 0 0] T)) := by
  have hb := (Below.refl w.heap.size w).alloc (Nat.le_refl _) (.cells #[.bool false, .slice none 0 0] T)
  have hk := Keeps.below (k := k) hb (Nat.le_refl _)
  exact ⟨h.bel.alloc h.siz _, by simp; have := h.siz; omega, h.l0, fun e => hG1 _ _ _ hk (h.c1 e), h.l2, fun e => hG2 _ _ _ hk (h.c3 e), fun _ => ptr_new k B w T _ h.siz, fun e => (h.p5 e).below hb, fun _ e => (ptr_ne_new (h.p5 e)).symm⟩
theorem PairJ.alloc5 (h : PairJ k B W0 vx vy G1 G2 b0 b1 b2 b3 b4 b5 b6 false s5 s6 s7 s8 s9 s10 w) (hG1 : ∀ w w' v, Keeps k w w' → G1 w v → G1 w' v) (hG2 : ∀ w w' v, Keeps k w w' → G2 w v → G2 w' v) (T : TypeId) :
    PairJ k B W0 vx vy G1 G2 b0 b1 b2 b3 b4 true b6 false s5 (.pointer (some ⟨w.heap.size, 0, none⟩)) s7 s8 s9 s10 (w.alloc (.cells #[.bool false, .slice none 0 0] T)) := by
  have hb := (Below.refl w.heap.size w).alloc (Nat.le_refl _) (.cells #[.bool false, .slice none 0 0] T)
  have hk := Keeps.below (k := k) hb (Nat.le_refl _)
  exact ⟨h.bel.alloc h.siz _, by simp; have := h.siz; omega, h.l0, fun e => hG1 _ _ _ hk (h.c1 e), h.l2, fun e => hG2 _ _ _ hk (h.c3 e), fun e => (h.p4 e).below hb, fun _ => ptr_new k B w T _ h.siz, fun e _ => ptr_ne_new (h.p4 e)⟩
theorem keeps_two {k : IntKind} {w : World} {p : Nat} {v0 v1 : Value} (c0 : w.cell? ⟨p, 0, none⟩ = some v0) (c1 : w.cell? ⟨p, 1, none⟩ = some v1) (n0 : ∀ x, v0 ≠ .int k x) (n1 : ∀ x, v1 ≠ .int k x) (u0 u1 : Value) :
    Keeps k w ((w.setCell ⟨p, 0, none⟩ u0).setCell ⟨p, 1, none⟩ u1) :=
  ((Keeps.refl k w).setCell c0 n0 u0).setCell (u := v1) (by rw [World.cell?_setCell_other w _ _ _ (by simp)]; exact c1) n1 u1
theorem two_cells {w : World} {p : Nat} {v0 v1 : Value} (c0 : w.cell? ⟨p, 0, none⟩ = some v0) (c1 : w.cell? ⟨p, 1, none⟩ = some v1) (u0 u1 : Value) :
    ((w.setCell ⟨p, 0, none⟩ u0).setCell ⟨p, 1, none⟩ u1).cell? ⟨p, 0, none⟩ = some u0 ∧ ((w.setCell ⟨p, 0, none⟩ u0).setCell ⟨p, 1, none⟩ u1).cell? ⟨p, 1, none⟩ = some u1 := by
  constructor
  · rw [World.cell?_setCell_other _ _ _ _ (by simp)]; exact World.cell?_setCell_same _ _ _ c0
  · exact World.cell?_setCell_same _ _ _ (u := v1) (by rw [World.cell?_setCell_other w _ _ _ (by simp)]; exact c1)
theorem PtrAt.other {k : IntKind} {B : Nat} {w : World} {s v : Value} {b : Bool} (h : PtrAt k B w s b v) {p : Nat} (hne : s ≠ .pointer (some ⟨p, 0, none⟩)) (u0 u1 : Value) : PtrAt k B ((w.setCell ⟨p, 0, none⟩ u0).setCell ⟨p, 1, none⟩ u1) s b v := by
  obtain ⟨q, v0, v1, rfl, hq, c0, c1, f0, f1, r⟩ := h
  have hpq : p ≠ q := by rintro rfl; exact hne rfl
  refine ⟨q, v0, v1, rfl, hq, ?_, ?_, by simpa using f0, by simpa using f1, r⟩
  · rw [World.cell?_setCell_other _ _ _ _ (by simp <;> exact hpq), World.cell?_setCell_other _ _ _ _ (by simp <;> exact hpq)]; exact c0
  · rw [World.cell?_setCell_other _ _ _ _ (by simp <;> exact hpq), World.cell?_setCell_other _ _ _ _ (by simp <;> exact hpq)]; exact c1
theorem PairJ.store6 {p : Nat} {u0 u1 : Value} (h : PairJ k B W0 vx vy G1 G2 b0 b1 b2 b3 true b5 b6 b7 (.pointer (some ⟨p, 0, none⟩)) s6 s7 (.agg #[u0, u1]) s9 s10 w) (hG1 : ∀ w w' v, Keeps k w w' → G1 w v → G1 w' v) (hG2 : ∀ w w' v, Keeps k w w' → G2 w v → G2 w' v) (m0 : ∀ x, u0 ≠ .int k x) (m1 : ∀ x, u1 ≠ .int k x) :
    PairJ k B W0 vx vy G1 G2 b0 b1 b2 b3 true b5 true b7 (.pointer (some ⟨p, 0, none⟩)) s6 s7 (.agg #[u0, u1]) s9 s10 ((w.setCell ⟨p, 0, none⟩ u0).setCell ⟨p, 1, none⟩ u1) := by
  obtain ⟨p', v0, v1, e, hp, c0, c1, f0, f1, n0, n1, _⟩ := h.p4 rfl
  cases e
  have hk := keeps_two c0 c1 n0 n1 u0 u1
  have ht := two_cells c0 c1 u0 u1
  refine ⟨(h.bel.setCell hp _).setCell hp _, by simpa using h.siz, h.l0, fun e => hG1 _ _ _ hk (h.c1 e), h.l2, fun e => hG2 _ _ _ hk (h.c3 e), fun _ => ⟨p, u0, u1, rfl, hp, ht.1, ht.2, by simpa using f0, by simpa using f1, m0, m1, fun _ => rfl⟩, fun e => (h.p5 e).other (h.ne rfl e).symm _ _, h.ne⟩
theorem PairJ.store7 {p : Nat} {u0 u1 : Value} (h : PairJ k B W0 vx vy G1 G2 b0 b1 b2 b3 b4 true b6 b7 s5 (.pointer (some ⟨p, 0, none⟩)) s7 s8 s9 (.agg #[u0, u1]) w) (hG1 : ∀ w w' v, Keeps k w w' → G1 w v → G1 w' v) (hG2 : ∀ w w' v, Keeps k w w' → G2 w v → G2 w' v) (m0 : ∀ x, u0 ≠ .int k x) (m1 : ∀ x, u1 ≠ .int k x) :
    PairJ k B W0 vx vy G1 G2 b0 b1 b2 b3 b4 true b6 true s5 (.pointer (some ⟨p, 0, none⟩)) s7 s8 s9 (.agg #[u0, u1]) ((w.setCell ⟨p, 0, none⟩ u0).setCell ⟨p, 1, none⟩ u1) := by
  obtain ⟨p', v0, v1, e, hp, c0, c1, f0, f1, n0, n1, _⟩ := h.p5 rfl
  cases e
  have hk := keeps_two c0 c1 n0 n1 u0 u1
  have ht := two_cells c0 c1 u0 u1
  refine ⟨(h.bel.setCell hp _).setCell hp _, by simpa using h.siz, h.l0, fun e => hG1 _ _ _ hk (h.c1 e), h.l2, fun e => hG2 _ _ _ hk (h.c3 e), fun e => (h.p4 e).other (h.ne e rfl) _ _, fun _ => ⟨p, u0, u1, rfl, hp, ht.1, ht.2, by simpa using f0, by simpa using f1, m0, m1, fun _ => rfl⟩, h.ne⟩
theorem PairJ.drew (h : PairJ k B W0 vx vy G1 G2 b0 b1 b2 b3 b4 b5 b6 b7 s5 s6 s7 s8 s9 s10 w) (hG1 : ∀ w w' v, Keeps k w w' → G1 w v → G1 w' v) (hG2 : ∀ w w' v, Keeps k w w' → G2 w v → G2 w' v) : PairJ k B W0 vx vy G1 G2 b0 b1 b2 b3 b4 b5 b6 b7 s5 s6 s7 s8 s9 s10 w.drew :=
  ⟨h.bel.drew, h.siz, h.l0, fun e => hG1 _ _ _ (Keeps.refl _ _).drew (h.c1 e), h.l2, fun e => hG2 _ _ _ (Keeps.refl _ _).drew (h.c3 e), h.p4, h.p5, h.ne⟩
end

end Go.Proofs.Ytbmdjimfncgomaa

/- exact.Cmp. Written by gen_cmp.py. -/
namespace Go.Proofs.Ytbmdjimfncgomaa
open Go.RowKit

theorem It.keeps {z : Int} {K : Nat} (w w' : World) (v : Value) (hk : Keeps .u64 w w') (h : It w v z K) : It w' v z K := by
  obtain ⟨s, rfl, ao, c, L, rfl, h⟩ := h
  exact ⟨_, rfl, ao, c, L, rfl, h.rd.keeps hk, h.dig, h.nrm, h.eq, h.le⟩
theorem cmp_same (x y : Int) (h : cmpI x 0 = cmpI y 0) : cmpI x y = cmpI x 0 * cmpI (x.natAbs : Int) (y.natAbs : Int) := by
  rcases Int.lt_trichotomy x 0 with h1 | h1 | h1 <;> rcases Int.lt_trichotomy y 0 with h2 | h2 | h2
  all_goals first | (exfalso; revert h; simp [cmpI_lt, cmpI_gt, cmpI_self, *]; done) | skip
  · rw [cmpI_lt h1]; unfold cmpI; split <;> split <;> (try split) <;> (try split) <;> omega
  · subst h1 h2; rfl
  · rw [cmpI_gt h1]; unfold cmpI; split <;> split <;> (try split) <;> (try split) <;> omega
theorem cmp_other (x y : Int) (h : cmpI x 0 ≠ cmpI y 0) : cmpI x y = cmpI (cmpI x 0) (cmpI y 0) := by
  unfold cmpI at *
  split at h <;> split at h <;> (try split at h) <;> (try split at h) <;> (repeat split) <;> omega

set_option maxRecDepth 100000 in
set_option maxHeartbeats 4000000 in
theorem Cmp_same (u v : Value) (x y : Int) (Kx Ky : Nat) (w : World) (hu : Ai w u x Kx) (hv : Ai w v y Ky) (hKx : Kx ≤ 1073741824) (hKy : Ky ≤ 1073741824) (hs : cmpI x 0 = cmpI y 0) :
    Calls Try.prog 23 #[u, v] w fun e w' => e = .returned (.int .i64 (cmpI x y)) ∧ Below w.heap.size w w' := by
  obtain ⟨xb, xo, xm, xc, rfl, Hx⟩ := Ai.opened hu
  obtain ⟨yb, yo, ym, yc, rfl, Hy⟩ := Ai.opened hv
  have Hne := hid hs
  clear hs hu hv
  go_enter Try.func23, Try.ntmps23
  go_wp2
  obtain ⟨W0, hW0⟩ : ∃ W0, W0 = ((w.alloc (.cells #[.bool xb, .slice xo xm xc] 24)).alloc (.cells #[.bool yb, .slice yo ym yc] 24)) := ⟨_, rfl⟩
  have hB0 : Below w.heap.size w W0 := by rw [hW0]; exact ((Below.refl _ _).alloc (by simp <;> omega) _).alloc (by simp <;> omega) _
  have hz0 : W0.heap.size = w.heap.size + 2 := by rw [hW0]; simp
  have HS : Hid (∀ w', Below (w.heap.size + 2) W0 w' → w'.cell? ⟨w.heap.size, 0, none⟩ = some (.bool xb) ∧ w'.cell? ⟨w.heap.size, 1, none⟩ = some (.slice xo xm xc) ∧ w'.cell? ⟨w.heap.size + 1, 0, none⟩ = some (.bool yb) ∧ w'.cell? ⟨w.heap.size + 1, 1, none⟩ = some (.slice yo ym yc)) := hid (fun w' hb => by
    refine ⟨?_, ?_, ?_, ?_⟩ <;> (first | (rw [hb.cell (by simp <;> omega), hW0]; simp [go_sem]; done) | (rw [hb.frozen (by simp <;> omega), hW0]; simp [go_sem]; done)))
  rw [← hW0]
  clear hW0
  have HB0 := hid hB0; have Hz0 := hid hz0
  clear hB0 hz0
  refine region_inv (by kernel_rfl) (fun L a w' => ∃ b0 b1 b2 b3 b4 b5 b6 b7, L = #[b0, b1, b2, b3, b4, b5, b6, b7] ∧ (b6 = true → b1 = true ∧ b4 = true) ∧ (b7 = true → b3 = true ∧ b5 = true) ∧ ∃ s5 s6 s7 s8 s9 s10, a = { tmps := #[.agg #[.bool xb, .slice xo xm xc], .agg #[.bool yb, .slice yo ym yc], .pointer (some ⟨w.heap.size, 0, none⟩), .pointer (some ⟨w.heap.size + 1, 0, none⟩), .int .i64 0, s5, s6, s7, s8, s9, s10, undef, undef, undef, undef, undef, undef], defers := [] } ∧ PairJ .u64 (w.heap.size + 2) W0 (.agg #[.bool xb, .slice xo xm xc]) (.agg #[.bool yb, .slice yo ym yc]) (fun w v => It w v x ((Kx + 1) / 2)) (fun w v => It w v y ((Ky + 1) / 2)) b0 b1 b2 b3 b4 b5 b6 b7 s5 s6 s7 s8 s9 s10 w') ?_ ?_ ?_
  · exact ⟨_, _, _, _, _, _, _, _, rfl, nofun, nofun, _, _, _, _, _, _, rfl, PairJ.start (Below.refl _ _).drew (by have := Hz0.out; simp; omega)⟩
  · rintro L a w' i hs ⟨b0, b1, b2, b3, b4, b5, b6, b7, rfl, h61, h73, s5, s6, s7, s8, s9, s10, rfl, J⟩ hi
    obtain ⟨hi, hn, hd⟩ := waits_spec (dep := [[], [0], [], [2], [], [], [4, 1], [5, 3]]) (by kernel_rfl) hi
    have hi8 : i < 8 := hi
    obtain ⟨k0, k1, k2, k3⟩ := HS.out w' J.bel
    have HJ := hid J
    rcases (show i = 0 ∨ i = 1 ∨ i = 2 ∨ i = 3 ∨ i = 4 ∨ i = 5 ∨ i = 6 ∨ i = 7 by omega) with rfl | rfl | rfl | rfl | rfl | rfl | rfl | rfl
    · clear J hd hi hi8 hn
      refine wpOp_step rfl (fun K hK => ?_)
      go_simp
      exact hK _ _ ⟨true, b1, b2, b3, b4, b5, b6, b7, rfl, h61, h73, _, _, _, _, _, _, rfl, HJ.out.load0⟩
    · obtain rfl : b1 = false := hn
      obtain rfl : b6 = false := by cases b6 with | false => rfl | true => exact absurd (h61 rfl).1 (by simp)
      obtain rfl := J.l0 (hd 0 (by simp))
      have hw := HB0.out.trans (J.bel.mono (by omega))
      clear J hd hi hi8 h61
      refine wpOp_step rfl (fun K hK => ?_)
      go_simp
      refine (read_any _ x Kx _ (Hx.out _ hw) hKx).mono ?_
      rintro e w1 ⟨v, rfl, hv, hb⟩
      exact hK _ _ ⟨b0, true, b2, b3, b4, b5, false, b7, rfl, nofun, h73, _, _, _, _, _, _, rfl, HJ.out.call1 It.keeps hb hv⟩
    · clear J hd hi hi8 hn
      refine wpOp_step rfl (fun K hK => ?_)
      go_simp
      exact hK _ _ ⟨b0, b1, true, b3, b4, b5, b6, b7, rfl, h61, h73, _, _, _, _, _, _, rfl, HJ.out.load2⟩
    · obtain rfl : b3 = false := hn
      obtain rfl : b7 = false := by cases b7 with | false => rfl | true => exact absurd (h73 rfl).1 (by simp)
      obtain rfl := J.l2 (hd 2 (by simp))
      have hw := HB0.out.trans (J.bel.mono (by omega))
      clear J hd hi hi8 h73
      refine wpOp_step rfl (fun K hK => ?_)
      go_simp
      refine (read_any _ y Ky _ (Hy.out _ hw) hKy).mono ?_
      rintro e w1 ⟨v, rfl, hv, hb⟩
      exact hK _ _ ⟨b0, b1, b2, true, b4, b5, b6, false, rfl, h61, nofun, _, _, _, _, _, _, rfl, HJ.out.call3 It.keeps hb hv⟩
    · obtain rfl : b4 = false := hn
      obtain rfl : b6 = false := by cases b6 with | false => rfl | true => exact absurd (h61 rfl).2 (by simp)
      clear J hd hi hi8 h61
      refine wpOp_step rfl (fun K hK => ?_)
      go_simp
      exact hK _ _ ⟨b0, b1, b2, b3, true, b5, false, b7, rfl, nofun, h73, _, _, _, _, _, _, rfl, HJ.out.alloc4 It.keeps It.keeps _⟩
    · obtain rfl : b5 = false := hn
      obtain rfl : b7 = false := by cases b7 with | false => rfl | true => exact absurd (h73 rfl).2 (by simp)
      clear J hd hi hi8 h73
      refine wpOp_step rfl (fun K hK => ?_)
      go_simp
      exact hK _ _ ⟨b0, b1, b2, b3, b4, true, b6, false, rfl, h61, nofun, _, _, _, _, _, _, rfl, HJ.out.alloc5 It.keeps It.keeps _⟩
    · obtain rfl : b4 = true := hd 4 (by simp)
      obtain rfl : b1 = true := hd 1 (by simp)
      obtain ⟨p, v0, v1, rfl, hp, c0, c1, f0, f1, _⟩ := J.p4 rfl
      obtain ⟨sb, so, sm, sc, rfl, _⟩ := It.opened (J.c1 rfl)
      clear J hd hi hi8 hn
      refine wpOp_step rfl (fun K hK => ?_)
      go_simp
      exact hK _ _ ⟨b0, true, b2, b3, true, b5, true, b7, rfl, fun _ => ⟨rfl, rfl⟩, h73, _, _, _, _, _, _, rfl, HJ.out.store6 It.keeps It.keeps nofun nofun⟩
    · obtain rfl : b5 = true := hd 5 (by simp)
      obtain rfl : b3 = true := hd 3 (by simp)
      obtain ⟨p, v0, v1, rfl, hp, c0, c1, f0, f1, _⟩ := J.p5 rfl
      obtain ⟨sb, so, sm, sc, rfl, _⟩ := It.opened (J.c3 rfl)
      clear J hd hi hi8 hn
      refine wpOp_step rfl (fun K hK => ?_)
      go_simp
      exact hK _ _ ⟨b0, b1, b2, true, b4, true, b6, true, rfl, h61, fun _ => ⟨rfl, rfl⟩, _, _, _, _, _, _, rfl, HJ.out.store7 It.keeps It.keeps nofun nofun⟩
  rintro L a w' hs ⟨b0, b1, b2, b3, b4, b5, b6, b7, rfl, _, _, s5, s6, s7, s8, s9, s10, rfl, J⟩ hr
  have hd := early_done (by kernel_rfl) hs hr 8
  obtain rfl : b1 = true := hd 1 (by omega) (by simp)
  obtain rfl : b3 = true := hd 3 (by omega) (by simp)
  obtain rfl : b4 = true := hd 4 (by omega) (by simp)
  obtain rfl : b5 = true := hd 5 (by omega) (by simp)
  obtain rfl : b6 = true := hd 6 (by omega) (by simp)
  obtain rfl : b7 = true := hd 7 (by omega) (by simp)
  obtain ⟨p, u0, u1, rfl, hp, c0, c1, f0, f1, _, _, hu⟩ := J.p4 rfl
  obtain ⟨q, t0, t1, rfl, hq, d0, d1, g0, g1, _, _, ht⟩ := J.p5 rfl
  have hpq := J.ne rfl rfl
  obtain rfl := hu rfl
  obtain rfl := ht rfl
  have hw := HB0.out.trans (J.bel.mono (by omega))
  have hbel := J.bel
  have H1 := J.c1 rfl
  have H2 := J.c3 rfl
  clear hd hr hs J
  obtain ⟨b1, o1, m1, cc1, e1, _, H1s, _⟩ := It.opened H1
  obtain ⟨b2, o2, m2, cc2, e2, _, H2s, _⟩ := It.opened H2
  cases e1
  cases e2
  go_wp2
  have hpl := World.block_lt_of_cell? _ _ c0
  have hql := World.block_lt_of_cell? _ _ d0
  obtain ⟨W1, hW1⟩ : ∃ W1, W1 = w' := ⟨_, rfl⟩
  rw [← hW1] at c0 c1 d0 d1 H1 H2 H1s H2s hw hpl hql ⊢
  clear hW1 hbel f0 f1 g0 g1
  have HS1 : Hid (∀ w', Below W1.heap.size W1 w' → w'.cell? ⟨p, 0, none⟩ = some (.bool b1) ∧ w'.cell? ⟨p, 1, none⟩ = some (.slice o1 m1 cc1) ∧ w'.cell? ⟨q, 0, none⟩ = some (.bool b2) ∧ w'.cell? ⟨q, 1, none⟩ = some (.slice o2 m2 cc2)) := hid (fun w' hb =>
    ⟨(hb.cell hpl).trans c0, (hb.cell (p := ⟨p, 1, none⟩) hpl).trans c1, (hb.cell hql).trans d0, (hb.cell (p := ⟨q, 1, none⟩) hql).trans d1⟩)
  clear c0 c1 d0 d1
  go_region_held3 (fun w' => w'.cell? ⟨p, 0, none⟩ = some (.bool b1) ∧ w'.cell? ⟨p, 1, none⟩ = some (.slice o1 m1 cc1) ∧ w'.cell? ⟨q, 0, none⟩ = some (.bool b2) ∧ w'.cell? ⟨q, 1, none⟩ = some (.slice o2 m2 cc2)) ((refine HS1.out _ ?_; first | assumption | exact Below.refl _ _ | exact (Below.refl _ _).drew)) (first
    | (go_at_call_of 63 (o1); refine (sign_any _ x _ _ (It.below H1 (Below.refl _ _).drew (Nat.le_refl _))).mono ?_; rintro e w3 ⟨rfl, hb3⟩; have hX1 : Below W1.heap.size W1 w3 := ((Below.refl _ _).drew).trans hb3)
    | (go_at_call_of 63 (o2); refine (sign_any _ y _ _ (It.below H2 hX1 (Nat.le_refl _))).mono ?_; rintro e w4 ⟨rfl, hb4⟩; have hX2 : Below W1.heap.size W1 w4 := hX1.trans (hb4.mono hX1.size); obtain ⟨hc0, hc1, hc2, hc3⟩ := HS1.out _ hX2; rw [← Hne.out])
    | (go_at_call 64; refine (order_eq (cmpI x 0) (cmpI_bd x 0) _ _ _ _ _ _ _ _ _ _ _ _ _ hc1 hc3 (H1s.out _ hX2) (H2s.out _ hX2)).mono ?_; rintro e w5 ⟨nq, rfl, rfl⟩; have hX3 : Below W1.heap.size W1 (w4.drewN nq) := below_drewN hX2 nq))
  all_goals (go_wp2; go_ret; exact ⟨by rw [cmp_same x y Hne.out]; rfl, hw.trans (hX3.mono hw.size)⟩)

set_option maxRecDepth 100000 in
set_option maxHeartbeats 4000000 in
theorem Cmp_ne (u v : Value) (x y : Int) (Kx Ky : Nat) (w : World) (hu : Ai w u x Kx) (hv : Ai w v y Ky) (hKx : Kx ≤ 1073741824) (hKy : Ky ≤ 1073741824) (hs : cmpI x 0 ≠ cmpI y 0) :
    Calls Try.prog 23 #[u, v] w fun e w' => e = .returned (.int .i64 (cmpI x y)) ∧ Below w.heap.size w w' := by
  obtain ⟨xb, xo, xm, xc, rfl, Hx⟩ := Ai.opened hu
  obtain ⟨yb, yo, ym, yc, rfl, Hy⟩ := Ai.opened hv
  have Hne := hid hs
  clear hs hu hv
  go_enter Try.func23, Try.ntmps23
  go_wp2
  obtain ⟨W0, hW0⟩ : ∃ W0, W0 = ((w.alloc (.cells #[.bool xb, .slice xo xm xc] 24)).alloc (.cells #[.bool yb, .slice yo ym yc] 24)) := ⟨_, rfl⟩
  have hB0 : Below w.heap.size w W0 := by rw [hW0]; exact ((Below.refl _ _).alloc (by simp <;> omega) _).alloc (by simp <;> omega) _
  have hz0 : W0.heap.size = w.heap.size + 2 := by rw [hW0]; simp
  have HS : Hid (∀ w', Below (w.heap.size + 2) W0 w' → w'.cell? ⟨w.heap.size, 0, none⟩ = some (.bool xb) ∧ w'.cell? ⟨w.heap.size, 1, none⟩ = some (.slice xo xm xc) ∧ w'.cell? ⟨w.heap.size + 1, 0, none⟩ = some (.bool yb) ∧ w'.cell? ⟨w.heap.size + 1, 1, none⟩ = some (.slice yo ym yc)) := hid (fun w' hb => by
    refine ⟨?_, ?_, ?_, ?_⟩ <;> (first | (rw [hb.cell (by simp <;> omega), hW0]; simp [go_sem]; done) | (rw [hb.frozen (by simp <;> omega), hW0]; simp [go_sem]; done)))
  rw [← hW0]
  clear hW0
  have HB0 := hid hB0; have Hz0 := hid hz0
  clear hB0 hz0
  refine region_inv (by kernel_rfl) (fun L a w' => ∃ b0 b1 b2 b3 b4 b5 b6 b7, L = #[b0, b1, b2, b3, b4, b5, b6, b7] ∧ (b6 = true → b1 = true ∧ b4 = true) ∧ (b7 = true → b3 = true ∧ b5 = true) ∧ ∃ s5 s6 s7 s8 s9 s10, a = { tmps := #[.agg #[.bool xb, .slice xo xm xc], .agg #[.bool yb, .slice yo ym yc], .pointer (some ⟨w.heap.size, 0, none⟩), .pointer (some ⟨w.heap.size + 1, 0, none⟩), .int .i64 0, s5, s6, s7, s8, s9, s10, undef, undef, undef, undef, undef, undef], defers := [] } ∧ PairJ .u64 (w.heap.size + 2) W0 (.agg #[.bool xb, .slice xo xm xc]) (.agg #[.bool yb, .slice yo ym yc]) (fun w v => It w v x ((Kx + 1) / 2)) (fun w v => It w v y ((Ky + 1) / 2)) b0 b1 b2 b3 b4 b5 b6 b7 s5 s6 s7 s8 s9 s10 w') ?_ ?_ ?_
  · exact ⟨_, _, _, _, _, _, _, _, rfl, nofun, nofun, _, _, _, _, _, _, rfl, PairJ.start (Below.refl _ _).drew (by have := Hz0.out; simp; omega)⟩
  · rintro L a w' i hs ⟨b0, b1, b2, b3, b4, b5, b6, b7, rfl, h61, h73, s5, s6, s7, s8, s9, s10, rfl, J⟩ hi
    obtain ⟨hi, hn, hd⟩ := waits_spec (dep := [[], [0], [], [2], [], [], [4, 1], [5, 3]]) (by kernel_rfl) hi
    have hi8 : i < 8 := hi
    obtain ⟨k0, k1, k2, k3⟩ := HS.out w' J.bel
    have HJ := hid J
    rcases (show i = 0 ∨ i = 1 ∨ i = 2 ∨ i = 3 ∨ i = 4 ∨ i = 5 ∨ i = 6 ∨ i = 7 by omega) with rfl | rfl | rfl | rfl | rfl | rfl | rfl | rfl
    · clear J hd hi hi8 hn
      refine wpOp_step rfl (fun K hK => ?_)
      go_simp
      exact hK _ _ ⟨true, b1, b2, b3, b4, b5, b6, b7, rfl, h61, h73, _, _, _, _, _, _, rfl, HJ.out.load0⟩
    · obtain rfl : b1 = false := hn
      obtain rfl : b6 = false := by cases b6 with | false => rfl | true => exact absurd (h61 rfl).1 (by simp)
      obtain rfl := J.l0 (hd 0 (by simp))
      have hw := HB0.out.trans (J.bel.mono (by omega))
      clear J hd hi hi8 h61
      refine wpOp_step rfl (fun K hK => ?_)
      go_simp
      refine (read_any _ x Kx _ (Hx.out _ hw) hKx).mono ?_
      rintro e w1 ⟨v, rfl, hv, hb⟩
      exact hK _ _ ⟨b0, true, b2, b3, b4, b5, false, b7, rfl, nofun, h73, _, _, _, _, _, _, rfl, HJ.out.call1 It.keeps hb hv⟩
    · clear J hd hi hi8 hn
      refine wpOp_step rfl (fun K hK => ?_)
      go_simp
      exact hK _ _ ⟨b0, b1, true, b3, b4, b5, b6, b7, rfl, h61, h73, _, _, _, _, _, _, rfl, HJ.out.load2⟩
    · obtain rfl : b3 = false := hn
      obtain rfl : b7 = false := by cases b7 with | false => rfl | true => exact absurd (h73 rfl).1 (by simp)
      obtain rfl := J.l2 (hd 2 (by simp))
      have hw := HB0.out.trans (J.bel.mono (by omega))
      clear J hd hi hi8 h73
      refine wpOp_step rfl (fun K hK => ?_)
      go_simp
      refine (read_any _ y Ky _ (Hy.out _ hw) hKy).mono ?_
      rintro e w1 ⟨v, rfl, hv, hb⟩
      exact hK _ _ ⟨b0, b1, b2, true, b4, b5, b6, false, rfl, h61, nofun, _, _, _, _, _, _, rfl, HJ.out.call3 It.keeps hb hv⟩
    · obtain rfl : b4 = false := hn
      obtain rfl : b6 = false := by cases b6 with | false => rfl | true => exact absurd (h61 rfl).2 (by simp)
      clear J hd hi hi8 h61
      refine wpOp_step rfl (fun K hK => ?_)
      go_simp
      exact hK _ _ ⟨b0, b1, b2, b3, true, b5, false, b7, rfl, nofun, h73, _, _, _, _, _, _, rfl, HJ.out.alloc4 It.keeps It.keeps _⟩
    · obtain rfl : b5 = false := hn
      obtain rfl : b7 = false := by cases b7 with | false => rfl | true => exact absurd (h73 rfl).2 (by simp)
      clear J hd hi hi8 h73
      refine wpOp_step rfl (fun K hK => ?_)
      go_simp
      exact hK _ _ ⟨b0, b1, b2, b3, b4, true, b6, false, rfl, h61, nofun, _, _, _, _, _, _, rfl, HJ.out.alloc5 It.keeps It.keeps _⟩
    · obtain rfl : b4 = true := hd 4 (by simp)
      obtain rfl : b1 = true := hd 1 (by simp)
      obtain ⟨p, v0, v1, rfl, hp, c0, c1, f0, f1, _⟩ := J.p4 rfl
      obtain ⟨sb, so, sm, sc, rfl, _⟩ := It.opened (J.c1 rfl)
      clear J hd hi hi8 hn
      refine wpOp_step rfl (fun K hK => ?_)
      go_simp
      exact hK _ _ ⟨b0, true, b2, b3, true, b5, true, b7, rfl, fun _ => ⟨rfl, rfl⟩, h73, _, _, _, _, _, _, rfl, HJ.out.store6 It.keeps It.keeps nofun nofun⟩
    · obtain rfl : b5 = true := hd 5 (by simp)
      obtain rfl : b3 = true := hd 3 (by simp)
      obtain ⟨p, v0, v1, rfl, hp, c0, c1, f0, f1, _⟩ := J.p5 rfl
      obtain ⟨sb, so, sm, sc, rfl, _⟩ := It.opened (J.c3 rfl)
      clear J hd hi hi8 hn
      refine wpOp_step rfl (fun K hK => ?_)
      go_simp
      exact hK _ _ ⟨b0, b1, b2, true, b4, true, b6, true, rfl, h61, fun _ => ⟨rfl, rfl⟩, _, _, _, _, _, _, rfl, HJ.out.store7 It.keeps It.keeps nofun nofun⟩
  rintro L a w' hs ⟨b0, b1, b2, b3, b4, b5, b6, b7, rfl, _, _, s5, s6, s7, s8, s9, s10, rfl, J⟩ hr
  have hd := early_done (by kernel_rfl) hs hr 8
  obtain rfl : b1 = true := hd 1 (by omega) (by simp)
  obtain rfl : b3 = true := hd 3 (by omega) (by simp)
  obtain rfl : b4 = true := hd 4 (by omega) (by simp)
  obtain rfl : b5 = true := hd 5 (by omega) (by simp)
  obtain rfl : b6 = true := hd 6 (by omega) (by simp)
  obtain rfl : b7 = true := hd 7 (by omega) (by simp)
  obtain ⟨p, u0, u1, rfl, hp, c0, c1, f0, f1, _, _, hu⟩ := J.p4 rfl
  obtain ⟨q, t0, t1, rfl, hq, d0, d1, g0, g1, _, _, ht⟩ := J.p5 rfl
  have hpq := J.ne rfl rfl
  obtain rfl := hu rfl
  obtain rfl := ht rfl
  have hw := HB0.out.trans (J.bel.mono (by omega))
  have hbel := J.bel
  have H1 := J.c1 rfl
  have H2 := J.c3 rfl
  clear hd hr hs J
  obtain ⟨b1, o1, m1, cc1, e1, _, H1s, _⟩ := It.opened H1
  obtain ⟨b2, o2, m2, cc2, e2, _, H2s, _⟩ := It.opened H2
  cases e1
  cases e2
  go_wp2
  have hpl := World.block_lt_of_cell? _ _ c0
  have hql := World.block_lt_of_cell? _ _ d0
  obtain ⟨W1, hW1⟩ : ∃ W1, W1 = w' := ⟨_, rfl⟩
  rw [← hW1] at c0 c1 d0 d1 H1 H2 H1s H2s hw hpl hql ⊢
  clear hW1 hbel f0 f1 g0 g1
  have HS1 : Hid (∀ w', Below W1.heap.size W1 w' → w'.cell? ⟨p, 0, none⟩ = some (.bool b1) ∧ w'.cell? ⟨p, 1, none⟩ = some (.slice o1 m1 cc1) ∧ w'.cell? ⟨q, 0, none⟩ = some (.bool b2) ∧ w'.cell? ⟨q, 1, none⟩ = some (.slice o2 m2 cc2)) := hid (fun w' hb =>
    ⟨(hb.cell hpl).trans c0, (hb.cell (p := ⟨p, 1, none⟩) hpl).trans c1, (hb.cell hql).trans d0, (hb.cell (p := ⟨q, 1, none⟩) hql).trans d1⟩)
  clear c0 c1 d0 d1
  go_region_held3 (fun w' => w'.cell? ⟨p, 0, none⟩ = some (.bool b1) ∧ w'.cell? ⟨p, 1, none⟩ = some (.slice o1 m1 cc1) ∧ w'.cell? ⟨q, 0, none⟩ = some (.bool b2) ∧ w'.cell? ⟨q, 1, none⟩ = some (.slice o2 m2 cc2)) ((refine HS1.out _ ?_; first | assumption | exact Below.refl _ _ | exact (Below.refl _ _).drew)) (first
    | (go_at_call_of 63 (o1); refine (sign_any _ x _ _ (It.below H1 (Below.refl _ _).drew (Nat.le_refl _))).mono ?_; rintro e w3 ⟨rfl, hb3⟩; have hX1 : Below W1.heap.size W1 w3 := ((Below.refl _ _).drew).trans hb3)
    | (go_at_call_of 63 (o2); refine (sign_any _ y _ _ (It.below H2 hX1 (Nat.le_refl _))).mono ?_; rintro e w4 ⟨rfl, hb4⟩; have hX2 : Below W1.heap.size W1 w4 := hX1.trans (hb4.mono hX1.size); obtain ⟨hc0, hc1, hc2, hc3⟩ := HS1.out _ hX2)
    | (go_at_call 64; refine (order_ne _ _ _ _ Hne.out).mono ?_; rintro e w5 ⟨rfl, rfl⟩))
  all_goals (go_wp2; go_ret; exact ⟨by rw [cmp_other x y Hne.out]; rfl, hw.trans (hX2.mono hw.size)⟩)

theorem Cmp_any (u v : Value) (x y : Int) (Kx Ky : Nat) (w : World) (hu : Ai w u x Kx) (hv : Ai w v y Ky) (hKx : Kx ≤ 1073741824) (hKy : Ky ≤ 1073741824) :
    Calls Try.prog 23 #[u, v] w fun e w' => e = .returned (.int .i64 (cmpI x y)) ∧ Below w.heap.size w w' := by
  by_cases hs : cmpI x 0 = cmpI y 0
  · exact Cmp_same u v x y Kx Ky w hu hv hKx hKy hs
  · exact Cmp_ne u v x y Kx Ky w hu hv hKx hKy hs

end Go.Proofs.Ytbmdjimfncgomaa
