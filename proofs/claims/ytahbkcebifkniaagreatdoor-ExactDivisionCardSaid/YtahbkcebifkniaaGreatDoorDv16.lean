/- A region that draws its order, by an invariant: what holds of the frame and the world while some of its operations have been carried out. The region 'q, r := f(g(x), y)' of two structs (a bool and a slice) whose addresses are taken. Written by gen_ediv.py. -/
import Derived.Test.YtahbkcebifkniaaGreatDoorDv01
import Derived.Deep.RegionWith
import Derived.Test.YtahbkcebifkniaaGreatDoorDv15
import Derived.Test.YtahbkcebifkniaaGreatDoorDv12
import Derived.Deep.DeepCutAuto
/- A region that draws its order, by an invariant: what holds of the frame and the world while some of its operations have been carried out. -/
namespace Go.Proofs.YtahbkcebifkniaaGreatDoor
open Go.RowKit

theorem count_set_true : ∀ (l : List Bool) (i : Nat), l[i]? = some false → (l.set i true).count false + 1 = l.count false
  | [], i, h => by simp at h
  | b :: l, 0, h => by simp at h; subst h; simp
  | b :: l, i + 1, h => by
    have := count_set_true l i (by simpa using h)
    simp only [List.set_cons_succ, List.count_cons]; omega

theorem wpAny_inv {P : Program} {md : Region.Mode} {ops : Array Oper} {Q : Exit → Act → World → Prop} (I : Array Bool → Act → World → Prop)
    (hstep : ∀ L a w i, L.size = ops.size → I L a w → i ∈ Region.ready md ops L → wpOp P ops Q i (fun a' w' => I (L.setIfInBounds i true) a' w') a w)
    (hdone : ∀ L a w, L.size = ops.size → I L a w → Region.ready md ops L = [] → Q .normal a w) :
    ∀ fuel L a w, L.size = ops.size → L.toList.count false ≤ fuel → I L a w → wpAny P md ops Q fuel L a w := by
  have hr : ∀ L i, L.size = ops.size → i ∈ Region.ready md ops L → L.toList[i]? = some false := by
    intro L i hs hi
    unfold Region.ready at hi
    rw [List.mem_filter] at hi
    obtain ⟨h1, h2⟩ := hi
    rw [List.mem_range] at h1
    simp only [Bool.and_eq_true, Bool.not_eq_true'] at h2
    have h3 := h2.1
    have hlt : i < L.size := by omega
    simp [hlt] at h3
    rw [Array.getElem?_toList]; simp [hlt, h3]
  intro fuel
  induction fuel with
  | zero =>
    intro L a w hs hc hI
    have h0 : Region.ready md ops L = [] := by
      apply List.eq_nil_iff_forall_not_mem.2
      intro i hi
      have := hr L i hs hi
      have hm : false ∈ L.toList := List.mem_of_getElem? this
      have := List.count_pos_iff.2 hm
      omega
    exact ⟨h0, hdone L a w hs hI h0⟩
  | succ fuel ih =>
    intro L a w hs hc hI
    refine ⟨fun h0 => hdone L a w hs hI h0, fun i hi => wpOp_mono (fun a' w' h => ih _ a' w' (by simpa using hs) ?_ h) (hstep L a w i hs hI hi)⟩
    have := count_set_true L.toList i (hr L i hs hi)
    rw [Array.toList_setIfInBounds]; omega

theorem region_inv {P : Program} {id : Nat} {ops : Array Oper} {Q : Exit → Act → World → Prop} {a : Act} {w : World} (hm : P.follows .mixedOrders = true) (I : Array Bool → Act → World → Prop)
    (hI : I (Array.replicate ops.size false) a w.drew)
    (hstep : ∀ L a w i, L.size = ops.size → I L a w → i ∈ Region.ready .any ops L → wpOp P ops Q i (fun a' w' => I (L.setIfInBounds i true) a' w') a w)
    (hdone : ∀ L a w, L.size = ops.size → I L a w → Region.ready .any ops L = [] → Q .normal a w) : (Code.region id ops true).wp P Q a w :=
  wp_region_any hm (wpAny_inv I hstep hdone _ _ _ _ (by simp) (by simp) hI)

theorem array8 {α : Type} (L : Array α) (h : L.size = 8) : ∃ b0 b1 b2 b3 b4 b5 b6 b7, L = #[b0, b1, b2, b3, b4, b5, b6, b7] := by
  obtain ⟨l⟩ := L
  match l, h with
  | [b0, b1, b2, b3, b4, b5, b6, b7], _ => exact ⟨_, _, _, _, _, _, _, _, rfl⟩

/-- Of each operation the list of some that it waits for. -/
def waits (ops : Array Oper) (dep : List (List Nat)) : Bool :=
  (List.range ops.size).all fun i => (dep.getD i []).all fun d => ((ops[i]?).map fun o => o.after.toList.any fun e => Region.binds .any e && e.on == d).getD false
theorem waits_spec {ops : Array Oper} {dep : List (List Nat)} (h : waits ops dep = true) {L : Array Bool} {i : Nat} (hi : i ∈ Region.ready .any ops L) :
    i < ops.size ∧ L.getD i true = false ∧ ∀ d, d ∈ dep.getD i [] → L.getD d false = true := by
  unfold Region.ready at hi
  rw [List.mem_filter, List.mem_range] at hi
  obtain ⟨h1, h2⟩ := hi
  simp only [Bool.and_eq_true, Bool.not_eq_true'] at h2
  refine ⟨h1, h2.1, fun d hd => ?_⟩
  unfold waits at h
  rw [List.all_eq_true] at h
  have h3 := h i (List.mem_range.2 h1)
  rw [List.all_eq_true] at h3
  have h4 := h3 d hd
  have ho : ops[i]? = some ops[i] := by simp [h1]
  rw [ho] at h2 h4
  simp only [Option.map_some, Option.getD_some] at h2 h4
  rw [List.any_eq_true] at h4
  obtain ⟨e, he, h5⟩ := h4
  simp only [Bool.and_eq_true, beq_iff_eq] at h5
  have h6 := h2.2
  rw [Array.all_eq_true_iff_forall_mem] at h6
  have h7 := h6 e (by simpa using he)
  rw [h5.1, h5.2] at h7
  simpa using h7
/-- When nothing is ready all has been done, where each operation waits for earlier ones alone. -/
def early (ops : Array Oper) : Bool := (List.range ops.size).all fun i => ((ops[i]?).map fun o => o.after.toList.all fun e => !Region.binds .any e || decide (e.on < i)).getD false
theorem early_done {ops : Array Oper} (h : early ops = true) {L : Array Bool} (hsz : L.size = ops.size) (hL : Region.ready .any ops L = []) : ∀ n i, i < n → i < ops.size → L.getD i true = true := by
  intro n
  induction n with
  | zero => intro i hi; omega
  | succ n ih =>
    intro i hi hs
    by_cases hlt : i < n
    · exact ih i hlt hs
    · obtain rfl : i = n := by omega
      cases hb : L.getD i true with
      | true => rfl
      | false =>
        exfalso
        have hm : i ∈ Region.ready .any ops L := by
          unfold Region.ready
          rw [List.mem_filter, List.mem_range]
          refine ⟨hs, ?_⟩
          have ho : ops[i]? = some ops[i] := by simp [hs]
          rw [hb, ho]
          simp only [Option.map_some, Option.getD_some, Bool.not_false, Bool.true_and]
          rw [Array.all_eq_true_iff_forall_mem]
          intro e he
          unfold early at h
          rw [List.all_eq_true] at h
          have h3 := h i (List.mem_range.2 hs)
          rw [ho] at h3
          simp only [Option.map_some, Option.getD_some] at h3
          rw [List.all_eq_true] at h3
          have h4 := h3 e (by simpa using he)
          simp only [Bool.or_eq_true, Bool.not_eq_true', decide_eq_true_eq] at h4
          rcases h4 with h4 | h4
          · simp [h4]
          · have h5 := ih e.on h4 (by omega)
            have h6 : L.getD e.on false = true := by
              have hz : e.on < L.size := by omega
              simp [hz] at h5 ⊢; exact h5
            simp [h6]
        rw [hL] at hm; cases hm

/-! The region 'm, n := f(x), g(y)' of two structs (a bool and a slice) whose addresses are taken: two loads, two calls, two allotments, two stores. -/
/-- s points to a cell pair of a block that the region has made; b: it has been written with v. -/
def PtrAt (k : IntKind) (B : Nat) (w : World) (s : Value) (b : Bool) (v : Value) : Prop :=
  ∃ p v0 v1, s = .pointer (some ⟨p, 0, none⟩) ∧ B ≤ p ∧ w.cell? ⟨p, 0, none⟩ = some v0 ∧ w.cell? ⟨p, 1, none⟩ = some v1 ∧ w.frozen? ⟨p, 0, none⟩ = false ∧ w.frozen? ⟨p, 1, none⟩ = false ∧ (∀ x, v0 ≠ .int k x) ∧ (∀ x, v1 ≠ .int k x) ∧ (b = true → v = .agg #[v0, v1])

theorem PtrAt.below {k : IntKind} {B : Nat} {w w' : World} {s v : Value} {b : Bool} (h : PtrAt k B w s b v) (hb : Below w.heap.size w w') : PtrAt k B w' s b v := by
  obtain ⟨p, v0, v1, rfl, hp, c0, c1, f0, f1, r⟩ := h
  have hl := World.block_lt_of_cell? w _ c0
  exact ⟨p, v0, v1, rfl, hp, (hb.cell (p := ⟨p, 0, none⟩) hl).trans c0, (hb.cell (p := ⟨p, 1, none⟩) hl).trans c1, (hb.frozen (p := ⟨p, 0, none⟩) hl).trans f0, (hb.frozen (p := ⟨p, 1, none⟩) hl).trans f1, r⟩

structure PairJ (k : IntKind) (B : Nat) (W0 : World) (vx vy : Value) (G1 G2 : World → Value → Prop) (b0 b1 b2 b3 b4 b5 b6 b7 : Bool) (s5 s6 s7 s8 s9 s10 : Value) (w : World) : Prop where
  bel : Below B W0 w
  siz : B ≤ w.heap.size
  l0 : b0 = true → s7 = vx
  c1 : b1 = true → G1 w s8
  l2 : b2 = true → s9 = vy
  c3 : b3 = true → G2 w s10
  p4 : b4 = true → PtrAt k B w s5 b6 s8
  p5 : b5 = true → PtrAt k B w s6 b7 s10
  ne : b4 = true → b5 = true → s5 ≠ s6

section
variable {k : IntKind} {B : Nat} {W0 : World} {vx vy : Value} {G1 G2 : World → Value → Prop} {b0 b1 b2 b3 b4 b5 b6 b7 : Bool} {s5 s6 s7 s8 s9 s10 : Value} {w w' : World}

theorem PairJ.start (h : Below B W0 w) (hs : B ≤ w.heap.size) : PairJ k B W0 vx vy G1 G2 false false false false false false false false s5 s6 s7 s8 s9 s10 w :=
  ⟨h, hs, nofun, nofun, nofun, nofun, nofun, nofun, nofun⟩
theorem PairJ.load0 (h : PairJ k B W0 vx vy G1 G2 b0 b1 b2 b3 b4 b5 b6 b7 s5 s6 s7 s8 s9 s10 w) : PairJ k B W0 vx vy G1 G2 true b1 b2 b3 b4 b5 b6 b7 s5 s6 vx s8 s9 s10 w :=
  ⟨h.bel, h.siz, fun _ => rfl, h.c1, h.l2, h.c3, h.p4, h.p5, h.ne⟩
theorem PairJ.load2 (h : PairJ k B W0 vx vy G1 G2 b0 b1 b2 b3 b4 b5 b6 b7 s5 s6 s7 s8 s9 s10 w) : PairJ k B W0 vx vy G1 G2 b0 b1 true b3 b4 b5 b6 b7 s5 s6 s7 s8 vy s10 w :=
  ⟨h.bel, h.siz, h.l0, h.c1, fun _ => rfl, h.c3, h.p4, h.p5, h.ne⟩
theorem PtrAt.fresh {k : IntKind} {B : Nat} {w : World} {s v v' : Value} (h : PtrAt k B w s false v) : PtrAt k B w s false v' := by
  obtain ⟨p, v0, v1, rfl, hp, c0, c1, f0, f1, n0, n1, _⟩ := h
  exact ⟨p, v0, v1, rfl, hp, c0, c1, f0, f1, n0, n1, nofun⟩
theorem PairJ.call1 (h : PairJ k B W0 vx vy G1 G2 b0 b1 b2 b3 b4 b5 false b7 s5 s6 s7 s8 s9 s10 w) (hG : ∀ w w' v, Keeps k w w' → G2 w v → G2 w' v) (hb : Below w.heap.size w w') {v : Value} (hv : G1 w' v) :
    PairJ k B W0 vx vy G1 G2 b0 true b2 b3 b4 b5 false b7 s5 s6 s7 v s9 s10 w' :=
  ⟨h.bel.trans (hb.mono h.siz), Nat.le_trans h.siz hb.size, h.l0, fun _ => hv, h.l2, fun e => hG _ _ _ (Keeps.below hb (Nat.le_refl _)) (h.c3 e), fun e => ((h.p4 e).below hb).fresh, fun e => (h.p5 e).below hb, h.ne⟩
theorem PairJ.call3 (h : PairJ k B W0 vx vy G1 G2 b0 b1 b2 b3 b4 b5 b6 false s5 s6 s7 s8 s9 s10 w) (hG : ∀ w w' v, Keeps k w w' → G1 w v → G1 w' v) (hb : Below w.heap.size w w') {v : Value} (hv : G2 w' v) :
    PairJ k B W0 vx vy G1 G2 b0 b1 b2 true b4 b5 b6 false s5 s6 s7 s8 s9 v w' :=
  ⟨h.bel.trans (hb.mono h.siz), Nat.le_trans h.siz hb.size, h.l0, fun e => hG _ _ _ (Keeps.below hb (Nat.le_refl _)) (h.c1 e), h.l2, fun _ => hv, fun e => (h.p4 e).below hb, fun e => ((h.p5 e).below hb).fresh, h.ne⟩
theorem ptr_new (k : IntKind) (B : Nat) (w : World) (T : TypeId) (v : Value) (hs : B ≤ w.heap.size) : PtrAt k B (w.alloc (.cells #[.bool false, .slice none 0 0] T)) (.pointer (some ⟨w.heap.size, 0, none⟩)) false v :=
  ⟨w.heap.size, .bool false, .slice none 0 0, rfl, hs, by simp [go_sem], by simp [go_sem], by simp [go_sem], by simp [go_sem], nofun, nofun, nofun⟩
theorem ptr_ne_new {k : IntKind} {B : Nat} {w : World} {s v : Value} {b : Bool} (h : PtrAt k B w s b v) : s ≠ .pointer (some ⟨w.heap.size, 0, none⟩) := by
  obtain ⟨p, v0, v1, rfl, hp, c0, r⟩ := h
  have hl := World.block_lt_of_cell? w _ c0
  intro e; cases e; simp at hl
theorem PairJ.alloc4 (h : PairJ k B W0 vx vy G1 G2 b0 b1 b2 b3 b4 b5 false b7 s5 s6 s7 s8 s9 s10 w) (hG1 : ∀ w w' v, Keeps k w w' → G1 w v → G1 w' v) (hG2 : ∀ w w' v, Keeps k w w' → G2 w v → G2 w' v) (T : TypeId) :
    PairJ k B W0 vx vy G1 G2 b0 b1 b2 b3 true b5 false b7 (.pointer (some ⟨w.heap.size, 0, none⟩)) s6 s7 s8 s9 s10 (w.alloc (.cells #[.bool false, .slice none 0 0] T)) := by
  have hb := (Below.refl w.heap.size w).alloc (Nat.le_refl _) (.cells #[.bool false, .slice none 0 0] T)
  have hk := Keeps.below (k := k) hb (Nat.le_refl _)
  exact ⟨h.bel.alloc h.siz _, by simp; have := h.siz; omega, h.l0, fun e => hG1 _ _ _ hk (h.c1 e), h.l2, fun e => hG2 _ _ _ hk (h.c3 e), fun _ => ptr_new k B w T _ h.siz, fun e => (h.p5 e).below hb, fun _ e => (ptr_ne_new (h.p5 e)).symm⟩
theorem PairJ.alloc5 (h : PairJ k B W0 vx vy G1 G2 b0 b1 b2 b3 b4 b5 b6 false s5 s6 s7 s8 s9 s10 w) (hG1 : ∀ w w' v, Keeps k w w' → G1 w v → G1 w' v) (hG2 : ∀ w w' v, Keeps k w w' → G2 w v → G2 w' v) (T : TypeId) :
    PairJ k B W0 vx vy G1 G2 b0 b1 b2 b3 b4 true b6 false s5 (.pointer (some ⟨w.heap.size, 0, none⟩)) s7 s8 s9 s10 (w.alloc (.cells #[.bool false, .slice none 0 0] T)) := by
  have hb := (Below.refl w.heap.size w).alloc (Nat.le_refl _) (.cells #[.bool false, .slice none 0 0] T)
  have hk := Keeps.below (k := k) hb (Nat.le_refl _)
  exact ⟨h.bel.alloc h.siz _, by simp; have := h.siz; omega, h.l0, fun e => hG1 _ _ _ hk (h.c1 e), h.l2, fun e => hG2 _ _ _ hk (h.c3 e), fun e => (h.p4 e).below hb, fun _ => ptr_new k B w T _ h.siz, fun e _ => ptr_ne_new (h.p4 e)⟩
theorem keeps_two {k : IntKind} {w : World} {p : Nat} {v0 v1 : Value} (c0 : w.cell? ⟨p, 0, none⟩ = some v0) (c1 : w.cell? ⟨p, 1, none⟩ = some v1) (n0 : ∀ x, v0 ≠ .int k x) (n1 : ∀ x, v1 ≠ .int k x) (u0 u1 : Value) :
    Keeps k w ((w.setCell ⟨p, 0, none⟩ u0).setCell ⟨p, 1, none⟩ u1) :=
  ((Keeps.refl k w).setCell c0 n0 u0).setCell (u := v1) (by rw [World.cell?_setCell_other w _ _ _ (by simp)]; exact c1) n1 u1
theorem two_cells {w : World} {p : Nat} {v0 v1 : Value} (c0 : w.cell? ⟨p, 0, none⟩ = some v0) (c1 : w.cell? ⟨p, 1, none⟩ = some v1) (u0 u1 : Value) :
    ((w.setCell ⟨p, 0, none⟩ u0).setCell ⟨p, 1, none⟩ u1).cell? ⟨p, 0, none⟩ = some u0 ∧ ((w.setCell ⟨p, 0, none⟩ u0).setCell ⟨p, 1, none⟩ u1).cell? ⟨p, 1, none⟩ = some u1 := by
  constructor
  · rw [World.cell?_setCell_other _ _ _ _ (by simp)]; exact World.cell?_setCell_same _ _ _ c0
  · exact World.cell?_setCell_same _ _ _ (u := v1) (by rw [World.cell?_setCell_other w _ _ _ (by simp)]; exact c1)
theorem PtrAt.other {k : IntKind} {B : Nat} {w : World} {s v : Value} {b : Bool} (h : PtrAt k B w s b v) {p : Nat} (hne : s ≠ .pointer (some ⟨p, 0, none⟩)) (u0 u1 : Value) : PtrAt k B ((w.setCell ⟨p, 0, none⟩ u0).setCell ⟨p, 1, none⟩ u1) s b v := by
  obtain ⟨q, v0, v1, rfl, hq, c0, c1, f0, f1, r⟩ := h
  have hpq : p ≠ q := by rintro rfl; exact hne rfl
  refine ⟨q, v0, v1, rfl, hq, ?_, ?_, by simpa using f0, by simpa using f1, r⟩
  · rw [World.cell?_setCell_other _ _ _ _ (by simp <;> exact hpq), World.cell?_setCell_other _ _ _ _ (by simp <;> exact hpq)]; exact c0
  · rw [World.cell?_setCell_other _ _ _ _ (by simp <;> exact hpq), World.cell?_setCell_other _ _ _ _ (by simp <;> exact hpq)]; exact c1
theorem PairJ.store6 {p : Nat} {u0 u1 : Value} (h : PairJ k B W0 vx vy G1 G2 b0 b1 b2 b3 true b5 b6 b7 (.pointer (some ⟨p, 0, none⟩)) s6 s7 (.agg #[u0, u1]) s9 s10 w) (hG1 : ∀ w w' v, Keeps k w w' → G1 w v → G1 w' v) (hG2 : ∀ w w' v, Keeps k w w' → G2 w v → G2 w' v) (m0 : ∀ x, u0 ≠ .int k x) (m1 : ∀ x, u1 ≠ .int k x) :
    PairJ k B W0 vx vy G1 G2 b0 b1 b2 b3 true b5 true b7 (.pointer (some ⟨p, 0, none⟩)) s6 s7 (.agg #[u0, u1]) s9 s10 ((w.setCell ⟨p, 0, none⟩ u0).setCell ⟨p, 1, none⟩ u1) := by
  obtain ⟨p', v0, v1, e, hp, c0, c1, f0, f1, n0, n1, _⟩ := h.p4 rfl
  cases e
  have hk := keeps_two c0 c1 n0 n1 u0 u1
  have ht := two_cells c0 c1 u0 u1
  refine ⟨(h.bel.setCell hp _).setCell hp _, by simpa using h.siz, h.l0, fun e => hG1 _ _ _ hk (h.c1 e), h.l2, fun e => hG2 _ _ _ hk (h.c3 e), fun _ => ⟨p, u0, u1, rfl, hp, ht.1, ht.2, by simpa using f0, by simpa using f1, m0, m1, fun _ => rfl⟩, fun e => (h.p5 e).other (h.ne rfl e).symm _ _, h.ne⟩
theorem PairJ.store7 {p : Nat} {u0 u1 : Value} (h : PairJ k B W0 vx vy G1 G2 b0 b1 b2 b3 b4 true b6 b7 s5 (.pointer (some ⟨p, 0, none⟩)) s7 s8 s9 (.agg #[u0, u1]) w) (hG1 : ∀ w w' v, Keeps k w w' → G1 w v → G1 w' v) (hG2 : ∀ w w' v, Keeps k w w' → G2 w v → G2 w' v) (m0 : ∀ x, u0 ≠ .int k x) (m1 : ∀ x, u1 ≠ .int k x) :
    PairJ k B W0 vx vy G1 G2 b0 b1 b2 b3 b4 true b6 true s5 (.pointer (some ⟨p, 0, none⟩)) s7 s8 s9 (.agg #[u0, u1]) ((w.setCell ⟨p, 0, none⟩ u0).setCell ⟨p, 1, none⟩ u1) := by
  obtain ⟨p', v0, v1, e, hp, c0, c1, f0, f1, n0, n1, _⟩ := h.p5 rfl
  cases e
  have hk := keeps_two c0 c1 n0 n1 u0 u1
  have ht := two_cells c0 c1 u0 u1
  refine ⟨(h.bel.setCell hp _).setCell hp _, by simpa using h.siz, h.l0, fun e => hG1 _ _ _ hk (h.c1 e), h.l2, fun e => hG2 _ _ _ hk (h.c3 e), fun e => (h.p4 e).other (h.ne e rfl) _ _, fun _ => ⟨p, u0, u1, rfl, hp, ht.1, ht.2, by simpa using f0, by simpa using f1, m0, m1, fun _ => rfl⟩, h.ne⟩
theorem PairJ.drew (h : PairJ k B W0 vx vy G1 G2 b0 b1 b2 b3 b4 b5 b6 b7 s5 s6 s7 s8 s9 s10 w) (hG1 : ∀ w w' v, Keeps k w w' → G1 w v → G1 w' v) (hG2 : ∀ w w' v, Keeps k w w' → G2 w v → G2 w' v) : PairJ k B W0 vx vy G1 G2 b0 b1 b2 b3 b4 b5 b6 b7 s5 s6 s7 s8 s9 s10 w.drew :=
  ⟨h.bel.drew, h.siz, h.l0, fun e => hG1 _ _ _ (Keeps.refl _ _).drew (h.c1 e), h.l2, fun e => hG2 _ _ _ (Keeps.refl _ _).drew (h.c3 e), h.p4, h.p5, h.ne⟩
end

end Go.Proofs.YtahbkcebifkniaaGreatDoor

/- The region 'q, r := f(g(x), y)' of two structs (a bool and a slice) whose addresses are taken. Written by gen_ediv.py. -/
namespace Go.Proofs.YtahbkcebifkniaaGreatDoor
open Go.RowKit

structure QuoJ (k : IntKind) (B : Nat) (W0 : World) (vx vy : Value) (G1 Gq Gr : World → Value → Prop) (b0 b1 b2 b3 b4 b5 b6 b7 b8 b9 b10 : Bool) (s8 s9 s17 s18 s19 s20 s21 s22 s23 : Value) (w : World) : Prop where
  bel : Below B W0 w
  siz : B ≤ w.heap.size
  l0 : b0 = true → s18 = vx
  c1 : b1 = true → G1 w s19
  l2 : b2 = true → s20 = vy
  c3 : b3 = true → ∃ u v, s21 = .tuple #[u, v] ∧ Gq w u ∧ Gr w v
  m4 : b4 = true → ∃ u v, s17 = .tuple #[u, v] ∧ Gq w u ∧ Gr w v
  e5 : b5 = true → Gq w s22
  e6 : b6 = true → Gr w s23
  p7 : b7 = true → PtrAt k B w s8 b9 s22
  p8 : b8 = true → PtrAt k B w s9 b10 s23
  ne : b7 = true → b8 = true → s8 ≠ s9

section
variable {k : IntKind} {B : Nat} {W0 : World} {vx vy : Value} {G1 Gq Gr : World → Value → Prop} {b0 b1 b2 b3 b4 b5 b6 b7 b8 b9 b10 : Bool} {s8 s9 s17 s18 s19 s20 s21 s22 s23 : Value} {w w' : World}
theorem QuoJ.start (h : Below B W0 w) (hs : B ≤ w.heap.size) : QuoJ k B W0 vx vy G1 Gq Gr false false false false false false false false false false false s8 s9 s17 s18 s19 s20 s21 s22 s23 w :=
  ⟨h, hs, nofun, nofun, nofun, nofun, nofun, nofun, nofun, nofun, nofun, nofun⟩
theorem QuoJ.load0 (h : QuoJ k B W0 vx vy G1 Gq Gr b0 b1 b2 b3 b4 b5 b6 b7 b8 b9 b10 s8 s9 s17 s18 s19 s20 s21 s22 s23 w) : QuoJ k B W0 vx vy G1 Gq Gr true b1 b2 b3 b4 b5 b6 b7 b8 b9 b10 s8 s9 s17 vx s19 s20 s21 s22 s23 w :=
  ⟨h.bel, h.siz, fun _ => rfl, h.c1, h.l2, h.c3, h.m4, h.e5, h.e6, h.p7, h.p8, h.ne⟩
theorem QuoJ.load2 (h : QuoJ k B W0 vx vy G1 Gq Gr b0 b1 b2 b3 b4 b5 b6 b7 b8 b9 b10 s8 s9 s17 s18 s19 s20 s21 s22 s23 w) : QuoJ k B W0 vx vy G1 Gq Gr b0 b1 true b3 b4 b5 b6 b7 b8 b9 b10 s8 s9 s17 s18 s19 vy s21 s22 s23 w :=
  ⟨h.bel, h.siz, h.l0, h.c1, fun _ => rfl, h.c3, h.m4, h.e5, h.e6, h.p7, h.p8, h.ne⟩
def KeepG (k : IntKind) (G : World → Value → Prop) : Prop := ∀ w w' v, Keeps k w w' → G w v → G w' v
theorem two_keep (hq : KeepG k Gq) (hr : KeepG k Gr) {s : Value} (hk : Keeps k w w') (h : ∃ u v, s = .tuple #[u, v] ∧ Gq w u ∧ Gr w v) : ∃ u v, s = .tuple #[u, v] ∧ Gq w' u ∧ Gr w' v := by
  obtain ⟨u, v, e, a, b⟩ := h
  exact ⟨u, v, e, hq _ _ _ hk a, hr _ _ _ hk b⟩
theorem QuoJ.call1 (h : QuoJ k B W0 vx vy G1 Gq Gr b0 b1 b2 b3 b4 b5 b6 b7 b8 b9 b10 s8 s9 s17 s18 s19 s20 s21 s22 s23 w) (hq : KeepG k Gq) (hr : KeepG k Gr) (hb : Below w.heap.size w w') {v : Value} (hv : G1 w' v) :
    QuoJ k B W0 vx vy G1 Gq Gr b0 true b2 b3 b4 b5 b6 b7 b8 b9 b10 s8 s9 s17 s18 v s20 s21 s22 s23 w' := by
  have hk : Keeps k w w' := Keeps.below hb (Nat.le_refl _)
  exact ⟨h.bel.trans (hb.mono h.siz), Nat.le_trans h.siz hb.size, h.l0, fun _ => hv, h.l2, fun e => two_keep hq hr hk (h.c3 e), fun e => two_keep hq hr hk (h.m4 e), fun e => hq _ _ _ hk (h.e5 e), fun e => hr _ _ _ hk (h.e6 e), fun e => (h.p7 e).below hb, fun e => (h.p8 e).below hb, h.ne⟩
theorem QuoJ.call3 (h : QuoJ k B W0 vx vy G1 Gq Gr b0 b1 b2 b3 b4 b5 b6 b7 b8 b9 b10 s8 s9 s17 s18 s19 s20 s21 s22 s23 w) (h1 : KeepG k G1) (hq : KeepG k Gq) (hr : KeepG k Gr) (hb : Below w.heap.size w w') {u v : Value} (hu : Gq w' u) (hv : Gr w' v) :
    QuoJ k B W0 vx vy G1 Gq Gr b0 b1 b2 true b4 b5 b6 b7 b8 b9 b10 s8 s9 s17 s18 s19 s20 (.tuple #[u, v]) s22 s23 w' := by
  have hk : Keeps k w w' := Keeps.below hb (Nat.le_refl _)
  exact ⟨h.bel.trans (hb.mono h.siz), Nat.le_trans h.siz hb.size, h.l0, fun e => h1 _ _ _ hk (h.c1 e), h.l2, fun _ => ⟨u, v, rfl, hu, hv⟩, fun e => two_keep hq hr hk (h.m4 e), fun e => hq _ _ _ hk (h.e5 e), fun e => hr _ _ _ hk (h.e6 e), fun e => (h.p7 e).below hb, fun e => (h.p8 e).below hb, h.ne⟩
theorem QuoJ.move4 (h : QuoJ k B W0 vx vy G1 Gq Gr b0 b1 b2 true b4 b5 b6 b7 b8 b9 b10 s8 s9 s17 s18 s19 s20 s21 s22 s23 w) : QuoJ k B W0 vx vy G1 Gq Gr b0 b1 b2 true true b5 b6 b7 b8 b9 b10 s8 s9 s21 s18 s19 s20 s21 s22 s23 w :=
  ⟨h.bel, h.siz, h.l0, h.c1, h.l2, h.c3, fun _ => h.c3 rfl, h.e5, h.e6, h.p7, h.p8, h.ne⟩
theorem QuoJ.ext5 {u : Value} (h : QuoJ k B W0 vx vy G1 Gq Gr b0 b1 b2 b3 b4 b5 b6 b7 b8 false b10 s8 s9 s17 s18 s19 s20 s21 s22 s23 w) (hu : Gq w u) : QuoJ k B W0 vx vy G1 Gq Gr b0 b1 b2 b3 b4 true b6 b7 b8 false b10 s8 s9 s17 s18 s19 s20 s21 u s23 w :=
  ⟨h.bel, h.siz, h.l0, h.c1, h.l2, h.c3, h.m4, fun _ => hu, h.e6, fun e => (h.p7 e).fresh, h.p8, h.ne⟩
theorem QuoJ.ext6 {v : Value} (h : QuoJ k B W0 vx vy G1 Gq Gr b0 b1 b2 b3 b4 b5 b6 b7 b8 b9 false s8 s9 s17 s18 s19 s20 s21 s22 s23 w) (hv : Gr w v) : QuoJ k B W0 vx vy G1 Gq Gr b0 b1 b2 b3 b4 b5 true b7 b8 b9 false s8 s9 s17 s18 s19 s20 s21 s22 v w :=
  ⟨h.bel, h.siz, h.l0, h.c1, h.l2, h.c3, h.m4, h.e5, fun _ => hv, h.p7, fun e => (h.p8 e).fresh, h.ne⟩
theorem QuoJ.alloc7 (h : QuoJ k B W0 vx vy G1 Gq Gr b0 b1 b2 b3 b4 b5 b6 b7 b8 false b10 s8 s9 s17 s18 s19 s20 s21 s22 s23 w) (h1 : KeepG k G1) (hq : KeepG k Gq) (hr : KeepG k Gr) (T : TypeId) :
    QuoJ k B W0 vx vy G1 Gq Gr b0 b1 b2 b3 b4 b5 b6 true b8 false b10 (.pointer (some ⟨w.heap.size, 0, none⟩)) s9 s17 s18 s19 s20 s21 s22 s23 (w.alloc (.cells #[.bool false, .slice none 0 0] T)) := by
  have hb := (Below.refl w.heap.size w).alloc (Nat.le_refl _) (.cells #[.bool false, .slice none 0 0] T)
  have hk := Keeps.below (k := k) hb (Nat.le_refl _)
  exact ⟨h.bel.alloc h.siz _, by simp; have := h.siz; omega, h.l0, fun e => h1 _ _ _ hk (h.c1 e), h.l2, fun e => two_keep hq hr hk (h.c3 e), fun e => two_keep hq hr hk (h.m4 e), fun e => hq _ _ _ hk (h.e5 e), fun e => hr _ _ _ hk (h.e6 e), fun _ => ptr_new k B w T _ h.siz, fun e => (h.p8 e).below hb, fun _ e => (ptr_ne_new (h.p8 e)).symm⟩
theorem QuoJ.alloc8 (h : QuoJ k B W0 vx vy G1 Gq Gr b0 b1 b2 b3 b4 b5 b6 b7 b8 b9 false s8 s9 s17 s18 s19 s20 s21 s22 s23 w) (h1 : KeepG k G1) (hq : KeepG k Gq) (hr : KeepG k Gr) (T : TypeId) :
    QuoJ k B W0 vx vy G1 Gq Gr b0 b1 b2 b3 b4 b5 b6 b7 true b9 false s8 (.pointer (some ⟨w.heap.size, 0, none⟩)) s17 s18 s19 s20 s21 s22 s23 (w.alloc (.cells #[.bool false, .slice none 0 0] T)) := by
  have hb := (Below.refl w.heap.size w).alloc (Nat.le_refl _) (.cells #[.bool false, .slice none 0 0] T)
  have hk := Keeps.below (k := k) hb (Nat.le_refl _)
  exact ⟨h.bel.alloc h.siz _, by simp; have := h.siz; omega, h.l0, fun e => h1 _ _ _ hk (h.c1 e), h.l2, fun e => two_keep hq hr hk (h.c3 e), fun e => two_keep hq hr hk (h.m4 e), fun e => hq _ _ _ hk (h.e5 e), fun e => hr _ _ _ hk (h.e6 e), fun e => (h.p7 e).below hb, fun _ => ptr_new k B w T _ h.siz, fun e _ => ptr_ne_new (h.p7 e)⟩
theorem QuoJ.store9 {p : Nat} {u0 u1 : Value} (h : QuoJ k B W0 vx vy G1 Gq Gr b0 b1 b2 b3 b4 b5 b6 true b8 b9 b10 (.pointer (some ⟨p, 0, none⟩)) s9 s17 s18 s19 s20 s21 (.agg #[u0, u1]) s23 w) (h1 : KeepG k G1) (hq : KeepG k Gq) (hr : KeepG k Gr) (m0 : ∀ x, u0 ≠ .int k x) (m1 : ∀ x, u1 ≠ .int k x) :
    QuoJ k B W0 vx vy G1 Gq Gr b0 b1 b2 b3 b4 b5 b6 true b8 true b10 (.pointer (some ⟨p, 0, none⟩)) s9 s17 s18 s19 s20 s21 (.agg #[u0, u1]) s23 ((w.setCell ⟨p, 0, none⟩ u0).setCell ⟨p, 1, none⟩ u1) := by
  obtain ⟨p', v0, v1, e, hp, c0, c1, f0, f1, n0, n1, _⟩ := h.p7 rfl
  cases e
  have hk := keeps_two c0 c1 n0 n1 u0 u1
  have ht := two_cells c0 c1 u0 u1
  exact ⟨(h.bel.setCell hp _).setCell hp _, by simpa using h.siz, h.l0, fun e => h1 _ _ _ hk (h.c1 e), h.l2, fun e => two_keep hq hr hk (h.c3 e), fun e => two_keep hq hr hk (h.m4 e), fun e => hq _ _ _ hk (h.e5 e), fun e => hr _ _ _ hk (h.e6 e), fun _ => ⟨p, u0, u1, rfl, hp, ht.1, ht.2, by simpa using f0, by simpa using f1, m0, m1, fun _ => rfl⟩, fun e => (h.p8 e).other (h.ne rfl e).symm _ _, h.ne⟩
theorem QuoJ.store10 {p : Nat} {u0 u1 : Value} (h : QuoJ k B W0 vx vy G1 Gq Gr b0 b1 b2 b3 b4 b5 b6 b7 true b9 b10 s8 (.pointer (some ⟨p, 0, none⟩)) s17 s18 s19 s20 s21 s22 (.agg #[u0, u1]) w) (h1 : KeepG k G1) (hq : KeepG k Gq) (hr : KeepG k Gr) (m0 : ∀ x, u0 ≠ .int k x) (m1 : ∀ x, u1 ≠ .int k x) :
    QuoJ k B W0 vx vy G1 Gq Gr b0 b1 b2 b3 b4 b5 b6 b7 true b9 true s8 (.pointer (some ⟨p, 0, none⟩)) s17 s18 s19 s20 s21 s22 (.agg #[u0, u1]) ((w.setCell ⟨p, 0, none⟩ u0).setCell ⟨p, 1, none⟩ u1) := by
  obtain ⟨p', v0, v1, e, hp, c0, c1, f0, f1, n0, n1, _⟩ := h.p8 rfl
  cases e
  have hk := keeps_two c0 c1 n0 n1 u0 u1
  have ht := two_cells c0 c1 u0 u1
  exact ⟨(h.bel.setCell hp _).setCell hp _, by simpa using h.siz, h.l0, fun e => h1 _ _ _ hk (h.c1 e), h.l2, fun e => two_keep hq hr hk (h.c3 e), fun e => two_keep hq hr hk (h.m4 e), fun e => hq _ _ _ hk (h.e5 e), fun e => hr _ _ _ hk (h.e6 e), fun e => (h.p7 e).other (h.ne e rfl) _ _, fun _ => ⟨p, u0, u1, rfl, hp, ht.1, ht.2, by simpa using f0, by simpa using f1, m0, m1, fun _ => rfl⟩, h.ne⟩
end
/-- The blocks from lo to below B hold what they held. -/
structure Kq (B lo : Nat) (w w' : World) : Prop where
  cell : ∀ a : Addr, lo ≤ a.block → a.block < B → w'.cell? a = w.cell? a
theorem Kq.of_below {B lo : Nat} {w w' : World} (h : Below B w w') : Kq B lo w w' := ⟨fun _ _ ha => h.cell ha⟩
theorem Kq.set {B lo : Nat} {w w' : World} (h : Kq B lo w w') {a : Addr} (ha : a.block < lo) (u : Value) : Kq B lo w (w'.setCell a u) :=
  ⟨fun b hb hB => (World.cell?_setCell_other w' a b u (by rintro rfl; omega)).trans (h.cell b hb hB)⟩
theorem it_keepG (z : Int) (K : Nat) : KeepG .u64 (fun w v => It w v z K) := fun _ _ _ hk h => it_keeps hk h
end Go.Proofs.YtahbkcebifkniaaGreatDoor
