/- A region that draws its order, by an invariant: what holds of the frame and the world while some of its operations have been carried out. The region 'q, r := f(g(x), y)' of two structs (a bool and a slice) whose addresses are taken. Written by gen_ediv.py. A region that draws its order and holds up to twelve values and one box for a struct of a bool and a slice: what holds between two of its operations. Written by gen_boxk.py. (exact.fraction).plus where the denominators differ. Written by gen_fplus.py. exact.Plus, exact.Minus at any two ratios: a ratio of the right value. The contracts of the ratios' operations by values: Plus, Minus, Times, Signum. exact.Cmp. Written by gen_cmp.py. The contracts of the integers' operations in one form, for the outright laws; equal of the laws. Small lemmas of ratios in lowest terms. A value has one fraction in lowest terms. -/
import Derived.Test.YtbapeilpkhbbeaaGreatBn01
import Derived.Deep.RegionWith
import Derived.Test.YtbapeilpkhbbeaaGreatBn22
import Derived.Test.YtbapeilpkhbbeaaGreatBn14
import Derived.Deep.DeepCutAuto
import Derived.Test.YtbapeilpkhbbeaaGreatBn13
import Derived.Test.YtbapeilpkhbbeaaGreatBn05
import Derived.Test.YtbapeilpkhbbeaaGreatBn20
/- A region that draws its order, by an invariant: what holds of the frame and the world while some of its operations have been carried out. -/
namespace Go.Proofs.YtbapeilpkhbbeaaGreat
open Go.RowKit

theorem count_set_true : ∀ (l : List Bool) (i : Nat), l[i]? = some false → (l.set i true).count false + 1 = l.count false
  | [], i, h => by simp at h
  | b :: l, 0, h => by simp at h; subst h; simp
  | b :: l, i + 1, h => by
    have := count_set_true l i (by simpa using h)
    simp only [List.set_cons_succ, List.count_cons]; omega

theorem wpAny_inv {P : Program} {md : Region.Mode} {ops : Array Oper} {Q : Exit → Act → World → Prop} (I : Array Bool → Act → World → Prop)
    (hstep : ∀ L a w i, L.size = ops.size → I L a w → i ∈ Region.ready md ops L → wpOp P ops Q i (fun a' w' => I (L.setIfInBounds i true) a' w') a w)
    (hdone : ∀ L a w, L.size = ops.size → I L a w → Region.ready md ops L = [] → Q .normal a w) :
    ∀ fuel L a w, L.size = ops.size → L.toList.count false ≤ fuel → I L a w → wpAny P md ops Q fuel L a w := by
  have hr : ∀ L i, L.size = ops.size → i ∈ Region.ready md ops L → L.toList[i]? = some false := by
    intro L i hs hi
    unfold Region.ready at hi
    rw [List.mem_filter] at hi
    obtain ⟨h1, h2⟩ := hi
    rw [List.mem_range] at h1
    simp only [Bool.and_eq_true, Bool.not_eq_true'] at h2
    have h3 := h2.1
    have hlt : i < L.size := by omega
    simp [hlt] at h3
    rw [Array.getElem?_toList]; simp [hlt, h3]
  intro fuel
  induction fuel with
  | zero =>
    intro L a w hs hc hI
    have h0 : Region.ready md ops L = [] := by
      apply List.eq_nil_iff_forall_not_mem.2
      intro i hi
      have := hr L i hs hi
      have hm : false ∈ L.toList := List.mem_of_getElem? this
      have := List.count_pos_iff.2 hm
      omega
    exact ⟨h0, hdone L a w hs hI h0⟩
  | succ fuel ih =>
    intro L a w hs hc hI
    refine ⟨fun h0 => hdone L a w hs hI h0, fun i hi => wpOp_mono (fun a' w' h => ih _ a' w' (by simpa using hs) ?_ h) (hstep L a w i hs hI hi)⟩
    have := count_set_true L.toList i (hr L i hs hi)
    rw [Array.toList_setIfInBounds]; omega

theorem region_inv {P : Program} {id : Nat} {ops : Array Oper} {Q : Exit → Act → World → Prop} {a : Act} {w : World} (hm : P.follows .mixedOrders = true) (I : Array Bool → Act → World → Prop)
    (hI : I (Array.replicate ops.size false) a w.drew)
    (hstep : ∀ L a w i, L.size = ops.size → I L a w → i ∈ Region.ready .any ops L → wpOp P ops Q i (fun a' w' => I (L.setIfInBounds i true) a' w') a w)
    (hdone : ∀ L a w, L.size = ops.size → I L a w → Region.ready .any ops L = [] → Q .normal a w) : (Code.region id ops true).wp P Q a w :=
  wp_region_any hm (wpAny_inv I hstep hdone _ _ _ _ (by simp) (by simp) hI)

/-- Of each operation the list of some that it waits for. -/
def waits (ops : Array Oper) (dep : List (List Nat)) : Bool :=
  (List.range ops.size).all fun i => (dep.getD i []).all fun d => ((ops[i]?).map fun o => o.after.toList.any fun e => Region.binds .any e && e.on == d).getD false
theorem waits_spec {ops : Array Oper} {dep : List (List Nat)} (h : waits ops dep = true) {L : Array Bool} {i : Nat} (hi : i ∈ Region.ready .any ops L) :
    i < ops.size ∧ L.getD i true = false ∧ ∀ d, d ∈ dep.getD i [] → L.getD d false = true := by
  unfold Region.ready at hi
  rw [List.mem_filter, List.mem_range] at hi
  obtain ⟨h1, h2⟩ := hi
  simp only [Bool.and_eq_true, Bool.not_eq_true'] at h2
  refine ⟨h1, h2.1, fun d hd => ?_⟩
  unfold waits at h
  rw [List.all_eq_true] at h
  have h3 := h i (List.mem_range.2 h1)
  rw [List.all_eq_true] at h3
  have h4 := h3 d hd
  have ho : ops[i]? = some ops[i] := by simp [h1]
  rw [ho] at h2 h4
  simp only [Option.map_some, Option.getD_some] at h2 h4
  rw [List.any_eq_true] at h4
  obtain ⟨e, he, h5⟩ := h4
  simp only [Bool.and_eq_true, beq_iff_eq] at h5
  have h6 := h2.2
  rw [Array.all_eq_true_iff_forall_mem] at h6
  have h7 := h6 e (by simpa using he)
  rw [h5.1, h5.2] at h7
  simpa using h7
/-- When nothing is ready all has been done, where each operation waits for earlier ones alone. -/
def early (ops : Array Oper) : Bool := (List.range ops.size).all fun i => ((ops[i]?).map fun o => o.after.toList.all fun e => !Region.binds .any e || decide (e.on < i)).getD false
theorem early_done {ops : Array Oper} (h : early ops = true) {L : Array Bool} (hsz : L.size = ops.size) (hL : Region.ready .any ops L = []) : ∀ n i, i < n → i < ops.size → L.getD i true = true := by
  intro n
  induction n with
  | zero => intro i hi; omega
  | succ n ih =>
    intro i hi hs
    by_cases hlt : i < n
    · exact ih i hlt hs
    · obtain rfl : i = n := by omega
      cases hb : L.getD i true with
      | true => rfl
      | false =>
        exfalso
        have hm : i ∈ Region.ready .any ops L := by
          unfold Region.ready
          rw [List.mem_filter, List.mem_range]
          refine ⟨hs, ?_⟩
          have ho : ops[i]? = some ops[i] := by simp [hs]
          rw [hb, ho]
          simp only [Option.map_some, Option.getD_some, Bool.not_false, Bool.true_and]
          rw [Array.all_eq_true_iff_forall_mem]
          intro e he
          unfold early at h
          rw [List.all_eq_true] at h
          have h3 := h i (List.mem_range.2 hs)
          rw [ho] at h3
          simp only [Option.map_some, Option.getD_some] at h3
          rw [List.all_eq_true] at h3
          have h4 := h3 e (by simpa using he)
          simp only [Bool.or_eq_true, Bool.not_eq_true', decide_eq_true_eq] at h4
          rcases h4 with h4 | h4
          · simp [h4]
          · have h5 := ih e.on h4 (by omega)
            have h6 : L.getD e.on false = true := by
              have hz : e.on < L.size := by omega
              simp [hz] at h5 ⊢; exact h5
            simp [h6]
        rw [hL] at hm; cases hm

/-! The region 'm, n := f(x), g(y)' of two structs (a bool and a slice) whose addresses are taken: two loads, two calls, two allotments, two stores. -/
/-- s points to a cell pair of a block that the region has made; b: it has been written with v. -/
def PtrAt (k : IntKind) (B : Nat) (w : World) (s : Value) (b : Bool) (v : Value) : Prop :=
  ∃ p v0 v1, s = .pointer (some ⟨p, 0, none⟩) ∧ B ≤ p ∧ w.cell? ⟨p, 0, none⟩ = some v0 ∧ w.cell? ⟨p, 1, none⟩ = some v1 ∧ w.frozen? ⟨p, 0, none⟩ = false ∧ w.frozen? ⟨p, 1, none⟩ = false ∧ (∀ x, v0 ≠ .int k x) ∧ (∀ x, v1 ≠ .int k x) ∧ (b = true → v = .agg #[v0, v1])

theorem PtrAt.below {k : IntKind} {B : Nat} {w w' : World} {s v : Value} {b : Bool} (h : PtrAt k B w s b v) (hb : Below w.heap.size w w') : PtrAt k B w' s b v := by
  obtain ⟨p, v0, v1, rfl, hp, c0, c1, f0, f1, r⟩ := h
  have hl := World.block_lt_of_cell? w _ c0
  exact ⟨p, v0, v1, rfl, hp, (hb.cell (p := ⟨p, 0, none⟩) hl).trans c0, (hb.cell (p := ⟨p, 1, none⟩) hl).trans c1, (hb.frozen (p := ⟨p, 0, none⟩) hl).trans f0, (hb.frozen (p := ⟨p, 1, none⟩) hl).trans f1, r⟩

structure PairJ (k : IntKind) (B : Nat) (W0 : World) (vx vy : Value) (G1 G2 : World → Value → Prop) (b0 b1 b2 b3 b4 b5 b6 b7 : Bool) (s5 s6 s7 s8 s9 s10 : Value) (w : World) : Prop where
  bel : Below B W0 w
  siz : B ≤ w.heap.size
  l0 : b0 = true → s7 = vx
  c1 : b1 = true → G1 w s8
  l2 : b2 = true → s9 = vy
  c3 : b3 = true → G2 w s10
  p4 : b4 = true → PtrAt k B w s5 b6 s8
  p5 : b5 = true → PtrAt k B w s6 b7 s10
  ne : b4 = true → b5 = true → s5 ≠ s6

section
variable {k : IntKind} {B : Nat} {W0 : World} {vx vy : Value} {G1 G2 : World → Value → Prop} {b0 b1 b2 b3 b4 b5 b6 b7 : Bool} {s5 s6 s7 s8 s9 s10 : Value} {w w' : World}

theorem PairJ.start (h : Below B W0 w) (hs : B ≤ w.heap.size) : PairJ k B W0 vx vy G1 G2 false false false false false false false false s5 s6 s7 s8 s9 s10 w :=
  ⟨h, hs, nofun, nofun, nofun, nofun, nofun, nofun, nofun⟩
theorem PtrAt.fresh {k : IntKind} {B : Nat} {w : World} {s v v' : Value} (h : PtrAt k B w s false v) : PtrAt k B w s false v' := by
  obtain ⟨p, v0, v1, rfl, hp, c0, c1, f0, f1, n0, n1, _⟩ := h
  exact ⟨p, v0, v1, rfl, hp, c0, c1, f0, f1, n0, n1, nofun⟩
theorem ptr_new (k : IntKind) (B : Nat) (w : World) (T : TypeId) (v : Value) (hs : B ≤ w.heap.size) : PtrAt k B (w.alloc (.cells #[.bool false, .slice none 0 0] T)) (.pointer (some ⟨w.heap.size, 0, none⟩)) false v :=
  ⟨w.heap.size, .bool false, .slice none 0 0, rfl, hs, by simp [go_sem], by simp [go_sem], by simp [go_sem], by simp [go_sem], nofun, nofun, nofun⟩
theorem keeps_two {k : IntKind} {w : World} {p : Nat} {v0 v1 : Value} (c0 : w.cell? ⟨p, 0, none⟩ = some v0) (c1 : w.cell? ⟨p, 1, none⟩ = some v1) (n0 : ∀ x, v0 ≠ .int k x) (n1 : ∀ x, v1 ≠ .int k x) (u0 u1 : Value) :
    Keeps k w ((w.setCell ⟨p, 0, none⟩ u0).setCell ⟨p, 1, none⟩ u1) :=
  ((Keeps.refl k w).setCell c0 n0 u0).setCell (u := v1) (by rw [World.cell?_setCell_other w _ _ _ (by simp)]; exact c1) n1 u1
theorem two_cells {w : World} {p : Nat} {v0 v1 : Value} (c0 : w.cell? ⟨p, 0, none⟩ = some v0) (c1 : w.cell? ⟨p, 1, none⟩ = some v1) (u0 u1 : Value) :
    ((w.setCell ⟨p, 0, none⟩ u0).setCell ⟨p, 1, none⟩ u1).cell? ⟨p, 0, none⟩ = some u0 ∧ ((w.setCell ⟨p, 0, none⟩ u0).setCell ⟨p, 1, none⟩ u1).cell? ⟨p, 1, none⟩ = some u1 := by
  constructor
  · rw [World.cell?_setCell_other _ _ _ _ (by simp)]; exact World.cell?_setCell_same _ _ _ c0
  · exact World.cell?_setCell_same _ _ _ (u := v1) (by rw [World.cell?_setCell_other w _ _ _ (by simp)]; exact c1)
theorem PtrAt.other {k : IntKind} {B : Nat} {w : World} {s v : Value} {b : Bool} (h : PtrAt k B w s b v) {p : Nat} (hne : s ≠ .pointer (some ⟨p, 0, none⟩)) (u0 u1 : Value) : PtrAt k B ((w.setCell ⟨p, 0, none⟩ u0).setCell ⟨p, 1, none⟩ u1) s b v := by
  obtain ⟨q, v0, v1, rfl, hq, c0, c1, f0, f1, r⟩ := h
  have hpq : p ≠ q := by rintro rfl; exact hne rfl
  refine ⟨q, v0, v1, rfl, hq, ?_, ?_, by simpa using f0, by simpa using f1, r⟩
  · rw [World.cell?_setCell_other _ _ _ _ (by simp <;> exact hpq), World.cell?_setCell_other _ _ _ _ (by simp <;> exact hpq)]; exact c0
  · rw [World.cell?_setCell_other _ _ _ _ (by simp <;> exact hpq), World.cell?_setCell_other _ _ _ _ (by simp <;> exact hpq)]; exact c1
theorem PairJ.drew (h : PairJ k B W0 vx vy G1 G2 b0 b1 b2 b3 b4 b5 b6 b7 s5 s6 s7 s8 s9 s10 w) (hG1 : ∀ w w' v, Keeps k w w' → G1 w v → G1 w' v) (hG2 : ∀ w w' v, Keeps k w w' → G2 w v → G2 w' v) : PairJ k B W0 vx vy G1 G2 b0 b1 b2 b3 b4 b5 b6 b7 s5 s6 s7 s8 s9 s10 w.drew :=
  ⟨h.bel.drew, h.siz, h.l0, fun e => hG1 _ _ _ (Keeps.refl _ _).drew (h.c1 e), h.l2, fun e => hG2 _ _ _ (Keeps.refl _ _).drew (h.c3 e), h.p4, h.p5, h.ne⟩
end

end Go.Proofs.YtbapeilpkhbbeaaGreat

/- The region 'q, r := f(g(x), y)' of two structs (a bool and a slice) whose addresses are taken. Written by gen_ediv.py. -/
namespace Go.Proofs.YtbapeilpkhbbeaaGreat
open Go.RowKit

structure QuoJ (k : IntKind) (B : Nat) (W0 : World) (vx vy : Value) (G1 Gq Gr : World → Value → Prop) (b0 b1 b2 b3 b4 b5 b6 b7 b8 b9 b10 : Bool) (s8 s9 s17 s18 s19 s20 s21 s22 s23 : Value) (w : World) : Prop where
  bel : Below B W0 w
  siz : B ≤ w.heap.size
  l0 : b0 = true → s18 = vx
  c1 : b1 = true → G1 w s19
  l2 : b2 = true → s20 = vy
  c3 : b3 = true → ∃ u v, s21 = .tuple #[u, v] ∧ Gq w u ∧ Gr w v
  m4 : b4 = true → ∃ u v, s17 = .tuple #[u, v] ∧ Gq w u ∧ Gr w v
  e5 : b5 = true → Gq w s22
  e6 : b6 = true → Gr w s23
  p7 : b7 = true → PtrAt k B w s8 b9 s22
  p8 : b8 = true → PtrAt k B w s9 b10 s23
  ne : b7 = true → b8 = true → s8 ≠ s9

section
variable {k : IntKind} {B : Nat} {W0 : World} {vx vy : Value} {G1 Gq Gr : World → Value → Prop} {b0 b1 b2 b3 b4 b5 b6 b7 b8 b9 b10 : Bool} {s8 s9 s17 s18 s19 s20 s21 s22 s23 : Value} {w w' : World}
theorem QuoJ.start (h : Below B W0 w) (hs : B ≤ w.heap.size) : QuoJ k B W0 vx vy G1 Gq Gr false false false false false false false false false false false s8 s9 s17 s18 s19 s20 s21 s22 s23 w :=
  ⟨h, hs, nofun, nofun, nofun, nofun, nofun, nofun, nofun, nofun, nofun, nofun⟩
def KeepG (k : IntKind) (G : World → Value → Prop) : Prop := ∀ w w' v, Keeps k w w' → G w v → G w' v
end
/-- The blocks from lo to below B hold what they held. -/
structure Kq (B lo : Nat) (w w' : World) : Prop where
  cell : ∀ a : Addr, lo ≤ a.block → a.block < B → w'.cell? a = w.cell? a
theorem Kq.of_below {B lo : Nat} {w w' : World} (h : Below B w w') : Kq B lo w w' := ⟨fun _ _ ha => h.cell ha⟩
theorem Kq.set {B lo : Nat} {w w' : World} (h : Kq B lo w w') {a : Addr} (ha : a.block < lo) (u : Value) : Kq B lo w (w'.setCell a u) :=
  ⟨fun b hb hB => (World.cell?_setCell_other w' a b u (by rintro rfl; omega)).trans (h.cell b hb hB)⟩
end Go.Proofs.YtbapeilpkhbbeaaGreat

/- A region that draws its order and holds up to twelve values and one box for a struct of a bool and a slice: what holds between two of its operations. Written by gen_boxk.py. -/
namespace Go.Proofs.YtbapeilpkhbbeaaGreat
open Go.RowKit

def Kc (u : Value) (_ : World) (v : Value) : Prop := v = u
def Kt (_ : World) (_ : Value) : Prop := True
theorem kc_keep (u : Value) : KeepG .u64 (Kc u) := fun _ _ _ _ h => h
theorem kt_keep : KeepG .u64 Kt := fun _ _ _ _ h => h

structure BK (B : Nat) (W0 : World) (G0 G1 G2 G3 G4 G5 G6 G7 G8 G9 G10 G11 : World → Value → Prop) (b0 b1 b2 b3 b4 b5 b6 b7 b8 b9 b10 b11 : Bool) (s0 s1 s2 s3 s4 s5 s6 s7 s8 s9 s10 s11 : Value) (p1 q1 : Bool) (t1 x1 : Value) (w : World) : Prop where
  bel : Below B W0 w
  siz : B ≤ w.heap.size
  v0 : b0 = true → G0 w s0
  v1 : b1 = true → G1 w s1
  v2 : b2 = true → G2 w s2
  v3 : b3 = true → G3 w s3
  v4 : b4 = true → G4 w s4
  v5 : b5 = true → G5 w s5
  v6 : b6 = true → G6 w s6
  v7 : b7 = true → G7 w s7
  v8 : b8 = true → G8 w s8
  v9 : b9 = true → G9 w s9
  v10 : b10 = true → G10 w s10
  v11 : b11 = true → G11 w s11
  a1 : p1 = true → PtrAt .u64 B w t1 q1 x1
structure KK (G0 G1 G2 G3 G4 G5 G6 G7 G8 G9 G10 G11 : World → Value → Prop) : Prop where
  k0 : KeepG .u64 G0
  k1 : KeepG .u64 G1
  k2 : KeepG .u64 G2
  k3 : KeepG .u64 G3
  k4 : KeepG .u64 G4
  k5 : KeepG .u64 G5
  k6 : KeepG .u64 G6
  k7 : KeepG .u64 G7
  k8 : KeepG .u64 G8
  k9 : KeepG .u64 G9
  k10 : KeepG .u64 G10
  k11 : KeepG .u64 G11

section
variable {B : Nat} {W0 : World} {G0 G1 G2 G3 G4 G5 G6 G7 G8 G9 G10 G11 : World → Value → Prop} {b0 b1 b2 b3 b4 b5 b6 b7 b8 b9 b10 b11 : Bool} {s0 s1 s2 s3 s4 s5 s6 s7 s8 s9 s10 s11 : Value} {p1 q1 : Bool} {t1 x1 : Value} {w w' : World}
theorem BK.start (h : Below B W0 w) (hs : B ≤ w.heap.size) : BK B W0 G0 G1 G2 G3 G4 G5 G6 G7 G8 G9 G10 G11 false false false false false false false false false false false false s0 s1 s2 s3 s4 s5 s6 s7 s8 s9 s10 s11 false false t1 x1 w :=
  ⟨h, hs, nofun, nofun, nofun, nofun, nofun, nofun, nofun, nofun, nofun, nofun, nofun, nofun, nofun⟩
theorem BK.step (h : BK B W0 G0 G1 G2 G3 G4 G5 G6 G7 G8 G9 G10 G11 b0 b1 b2 b3 b4 b5 b6 b7 b8 b9 b10 b11 s0 s1 s2 s3 s4 s5 s6 s7 s8 s9 s10 s11 p1 q1 t1 x1 w) (k : KK G0 G1 G2 G3 G4 G5 G6 G7 G8 G9 G10 G11) (hb : Below w.heap.size w w') : BK B W0 G0 G1 G2 G3 G4 G5 G6 G7 G8 G9 G10 G11 b0 b1 b2 b3 b4 b5 b6 b7 b8 b9 b10 b11 s0 s1 s2 s3 s4 s5 s6 s7 s8 s9 s10 s11 p1 q1 t1 x1 w' := by
  have hk : Keeps .u64 w w' := Keeps.below hb (Nat.le_refl _)
  exact ⟨h.bel.trans (hb.mono h.siz), Nat.le_trans h.siz hb.size, fun e => k.k0 _ _ _ hk (h.v0 e), fun e => k.k1 _ _ _ hk (h.v1 e), fun e => k.k2 _ _ _ hk (h.v2 e), fun e => k.k3 _ _ _ hk (h.v3 e), fun e => k.k4 _ _ _ hk (h.v4 e), fun e => k.k5 _ _ _ hk (h.v5 e), fun e => k.k6 _ _ _ hk (h.v6 e), fun e => k.k7 _ _ _ hk (h.v7 e), fun e => k.k8 _ _ _ hk (h.v8 e), fun e => k.k9 _ _ _ hk (h.v9 e), fun e => k.k10 _ _ _ hk (h.v10 e), fun e => k.k11 _ _ _ hk (h.v11 e), fun e => (h.a1 e).below hb⟩
theorem BK.alloc1 (h : BK B W0 G0 G1 G2 G3 G4 G5 G6 G7 G8 G9 G10 G11 b0 b1 b2 b3 b4 b5 b6 b7 b8 b9 b10 b11 s0 s1 s2 s3 s4 s5 s6 s7 s8 s9 s10 s11 p1 false t1 x1 w) (k : KK G0 G1 G2 G3 G4 G5 G6 G7 G8 G9 G10 G11) (T : TypeId) :
    BK B W0 G0 G1 G2 G3 G4 G5 G6 G7 G8 G9 G10 G11 b0 b1 b2 b3 b4 b5 b6 b7 b8 b9 b10 b11 s0 s1 s2 s3 s4 s5 s6 s7 s8 s9 s10 s11 true false (.pointer (some ⟨w.heap.size, 0, none⟩)) x1 (w.alloc (.cells #[.bool false, .slice none 0 0] T)) := by
  have J := h.step k ((Below.refl w.heap.size w).alloc (Nat.le_refl _) (.cells #[.bool false, .slice none 0 0] T))
  exact ⟨J.bel, J.siz, J.v0, J.v1, J.v2, J.v3, J.v4, J.v5, J.v6, J.v7, J.v8, J.v9, J.v10, J.v11, fun _ => ptr_new .u64 B w T _ h.siz⟩
theorem BK.store1 {p : Nat} {u0 u1 : Value} (h : BK B W0 G0 G1 G2 G3 G4 G5 G6 G7 G8 G9 G10 G11 b0 b1 b2 b3 b4 b5 b6 b7 b8 b9 b10 b11 s0 s1 s2 s3 s4 s5 s6 s7 s8 s9 s10 s11 true q1 (.pointer (some ⟨p, 0, none⟩)) (.agg #[u0, u1]) w) (k : KK G0 G1 G2 G3 G4 G5 G6 G7 G8 G9 G10 G11) (m0 : ∀ x, u0 ≠ .int .u64 x) (m1 : ∀ x, u1 ≠ .int .u64 x) :
    BK B W0 G0 G1 G2 G3 G4 G5 G6 G7 G8 G9 G10 G11 b0 b1 b2 b3 b4 b5 b6 b7 b8 b9 b10 b11 s0 s1 s2 s3 s4 s5 s6 s7 s8 s9 s10 s11 true true (.pointer (some ⟨p, 0, none⟩)) (.agg #[u0, u1]) ((w.setCell ⟨p, 0, none⟩ u0).setCell ⟨p, 1, none⟩ u1) := by
  obtain ⟨p', v0, v1, e, hp, c0, c1, f0, f1, n0, n1, _⟩ := h.a1 rfl
  cases e
  have hk := keeps_two c0 c1 n0 n1 u0 u1
  have ht := two_cells c0 c1 u0 u1
  exact ⟨(h.bel.setCell hp _).setCell hp _, by simpa using h.siz, fun e => k.k0 _ _ _ hk (h.v0 e), fun e => k.k1 _ _ _ hk (h.v1 e), fun e => k.k2 _ _ _ hk (h.v2 e), fun e => k.k3 _ _ _ hk (h.v3 e), fun e => k.k4 _ _ _ hk (h.v4 e), fun e => k.k5 _ _ _ hk (h.v5 e), fun e => k.k6 _ _ _ hk (h.v6 e), fun e => k.k7 _ _ _ hk (h.v7 e), fun e => k.k8 _ _ _ hk (h.v8 e), fun e => k.k9 _ _ _ hk (h.v9 e), fun e => k.k10 _ _ _ hk (h.v10 e), fun e => k.k11 _ _ _ hk (h.v11 e), fun _ => ⟨p, u0, u1, rfl, hp, ht.1, ht.2, by simpa using f0, by simpa using f1, m0, m1, fun _ => rfl⟩⟩
end
end Go.Proofs.YtbapeilpkhbbeaaGreat

/- (exact.fraction).plus where the denominators differ. Written by gen_fplus.py. -/
namespace Go.Proofs.YtbapeilpkhbbeaaGreat
open Go.RowKit

theorem bl_tr {a b c : World} (h : Below a.heap.size a b) (k : Below b.heap.size b c) : Below a.heap.size a c := h.trans (k.mono h.size)

end Go.Proofs.YtbapeilpkhbbeaaGreat

/- exact.Plus, exact.Minus at any two ratios: a ratio of the right value. -/
namespace Go.Proofs.YtbapeilpkhbbeaaGreat
open Go.RowKit

theorem rn_pos {y : Int} (x : Int) (hy : 0 < y) : rn x y = x ∧ rd y = y := by
  unfold rn rd
  rw [if_neg (by omega), if_neg (by omega), decide_eq_false (show ¬ y < 0 by omega)]
  refine ⟨?_, by omega⟩
  by_cases hx : x < 0
  · rw [decide_eq_true hx]
    show sgn true _ = x
    unfold sgn
    simp
    omega
  · rw [decide_eq_false hx]
    show sgn false _ = x
    unfold sgn
    simp
    omega
theorem low_val (z : Int) {d : Int} (hd : 0 < d) : lowN z d * d = z * lowD z d ∧ 0 < lowD z d := by
  have hg : (0 : Int) < (Int.gcd (z.natAbs : Int) d : Int) := by
    have : Int.gcd (z.natAbs : Int) d ≠ 0 := fun h => by have := (Int.gcd_eq_zero_iff.1 h).2; omega
    omega
  unfold lowN lowD
  obtain ⟨g, eg⟩ : ∃ g, g = (Int.gcd (z.natAbs : Int) d : Int) := ⟨_, rfl⟩
  have e1 : (z.natAbs : Int) / g * g = (z.natAbs : Int) := Int.ediv_mul_cancel (by rw [eg]; exact Int.gcd_dvd_left _ _)
  have e2 : d / g * g = d := Int.ediv_mul_cancel (by rw [eg]; exact Int.gcd_dvd_right _ _)
  rw [← eg] at hg ⊢
  obtain ⟨a, ea⟩ : ∃ a, a = (z.natAbs : Int) / g := ⟨_, rfl⟩
  obtain ⟨b, eb⟩ : ∃ b, b = d / g := ⟨_, rfl⟩
  rw [← ea] at e1 ⊢
  rw [← eb] at e2 ⊢
  have hb : 0 < b := by
    rcases Int.lt_or_le 0 b with h | h
    · exact h
    · exfalso
      have := Int.mul_nonneg (show 0 ≤ -b by omega) (Int.le_of_lt hg)
      rw [Int.neg_mul, e2] at this
      omega
  refine ⟨?_, hb⟩
  by_cases hz : z < 0
  · rw [decide_eq_true hz]
    have ez : z = -(a * g) := by omega
    have es : sgn true a = -a := rfl
    rw [es, ez, ← e2, Int.neg_mul, Int.neg_mul, Int.mul_comm b g, Int.mul_assoc]
  · rw [decide_eq_false hz]
    have ez : z = a * g := by omega
    have es : sgn false a = a := rfl
    rw [es, ez, ← e2, Int.mul_comm b g, Int.mul_assoc]

/-- The value v is a ratio of the value n over d. -/
def Rv (w : World) (v : Value) (n d : Int) (K : Nat) : Prop := 0 < d ∧ ∃ x y, Ra w v x y K ∧ rn x y * d = n * rd y
theorem Rv.below {w w' : World} {v : Value} {n d : Int} {K B : Nat} (h : Rv w v n d K) (hb : Below B w w') (hB : w.heap.size ≤ B) : Rv w' v n d K := by
  obtain ⟨h0, x, y, h1, h2⟩ := h
  exact ⟨h0, x, y, h1.below hb hB, h2⟩
theorem val_cut {N L z d n e : Int} (hd : 0 < d) (h1 : N * d = z * L) (h2 : z * e = n * d) : N * e = n * L := by
  have h : (N * e) * d = (n * L) * d := by
    calc (N * e) * d = (N * d) * e := by rw [Int.mul_assoc, Int.mul_comm e d, ← Int.mul_assoc]
      _ = z * L * e := by rw [h1]
      _ = (z * e) * L := by rw [Int.mul_assoc, Int.mul_comm L e, ← Int.mul_assoc]
      _ = n * d * L := by rw [h2]
      _ = (n * L) * d := by rw [Int.mul_assoc, Int.mul_comm d L, ← Int.mul_assoc]
  exact Int.eq_of_mul_eq_mul_right (by omega) h
theorem FrR.rv {w0 w : World} {f : Value} {z d n e : Int} {K : Nat} (h : FrR w0 w f (lowN z d) (lowD z d) K) (hd : 0 < d) (he : 0 < e) (hv : z * e = n * d) : Rv w f n e K := by
  have hl := low_val z hd
  have hp := rn_pos (lowN z d) hl.2
  refine ⟨he, _, _, FrR.ra h, ?_⟩
  rw [hp.1, hp.2]
  exact val_cut hd hl.1 hv
end Go.Proofs.YtbapeilpkhbbeaaGreat

/- The contracts of the ratios' operations by values: Plus, Minus, Times, Signum. -/
namespace Go.Proofs.YtbapeilpkhbbeaaGreat
open Go.RowKit

theorem Rv.mono {w : World} {v : Value} {n d : Int} {K K' : Nat} (h : Rv w v n d K) (hK : K ≤ K') : Rv w v n d K' := by
  obtain ⟨h0, x, y, ⟨b1, o1, m1, c1, b2, o2, m2, c2, e, ⟨na, ao, ac, WA, ea, ha⟩, ⟨nb, bo, bc, WB, eb, hb⟩⟩, h2⟩ := h
  exact ⟨h0, x, y, ⟨b1, o1, m1, c1, b2, o2, m2, c2, e, ⟨na, ao, ac, WA, ea, ha.rd, ha.dig, Nat.le_trans ha.le hK, ha.eq⟩, ⟨nb, bo, bc, WB, eb, hb.rd, hb.dig, Nat.le_trans hb.le hK, hb.eq⟩⟩, h2⟩
theorem alg_times {r1 e1 d1 n1 r2 e2 d2 n2 : Int} (h1 : r1 * d1 = n1 * e1) (h2 : r2 * d2 = n2 * e2) : (r1 * r2) * (d1 * d2) = (n1 * n2) * (e1 * e2) := by grind

theorem cmp_lt'' {x y : Int} (h : x < y) : cmpI x y = -1 := by unfold cmpI; (repeat' split) <;> omega
theorem cmp_gt'' {x y : Int} (h : y < x) : cmpI x y = 1 := by unfold cmpI; (repeat' split) <;> omega
theorem cmp_scale {r d n e : Int} (hd : 0 < d) (he : 0 < e) (h : r * d = n * e) : cmpI r 0 = cmpI n 0 := by
  rcases Int.lt_trichotomy r 0 with hr | hr | hr
  · have h1 : r * d < 0 := Int.mul_neg_of_neg_of_pos hr hd
    have h2 : n < 0 := by
      rcases Int.lt_or_le n 0 with h' | h'
      · exact h'
      · exfalso; have := Int.mul_nonneg h' (Int.le_of_lt he); omega
    rw [cmp_lt'' hr, cmp_lt'' h2]
  · subst hr
    rw [Int.zero_mul] at h
    rcases Int.mul_eq_zero.1 h.symm with h' | h'
    · rw [h']
    · omega
  · have h1 : 0 < r * d := Int.mul_pos hr hd
    have h2 : 0 < n := by
      rcases Int.lt_or_le 0 n with h' | h'
      · exact h'
      · exfalso
        have := Int.mul_nonneg (show 0 ≤ -n by omega) (Int.le_of_lt he)
        rw [Int.neg_mul] at this
        omega
    rw [cmp_gt'' hr, cmp_gt'' h2]
end Go.Proofs.YtbapeilpkhbbeaaGreat

/- exact.Cmp. Written by gen_cmp.py. -/
namespace Go.Proofs.YtbapeilpkhbbeaaGreat
open Go.RowKit

theorem It.keeps {z : Int} {K : Nat} (w w' : World) (v : Value) (hk : Keeps .u64 w w') (h : It w v z K) : It w' v z K := by
  obtain ⟨s, rfl, ao, c, L, rfl, h⟩ := h
  exact ⟨_, rfl, ao, c, L, rfl, h.rd.keeps hk, h.dig, h.nrm, h.eq, h.le⟩
theorem cmp_same (x y : Int) (h : cmpI x 0 = cmpI y 0) : cmpI x y = cmpI x 0 * cmpI (x.natAbs : Int) (y.natAbs : Int) := by
  rcases Int.lt_trichotomy x 0 with h1 | h1 | h1 <;> rcases Int.lt_trichotomy y 0 with h2 | h2 | h2
  all_goals first | (exfalso; revert h; simp [cmpI_lt, cmpI_gt, cmpI_self, *]; done) | skip
  · rw [cmpI_lt h1]; unfold cmpI; split <;> split <;> (try split) <;> (try split) <;> omega
  · subst h1 h2; rfl
  · rw [cmpI_gt h1]; unfold cmpI; split <;> split <;> (try split) <;> (try split) <;> omega
theorem cmp_other (x y : Int) (h : cmpI x 0 ≠ cmpI y 0) : cmpI x y = cmpI (cmpI x 0) (cmpI y 0) := by
  unfold cmpI at *
  split at h <;> split at h <;> (try split at h) <;> (try split at h) <;> (repeat split) <;> omega

end Go.Proofs.YtbapeilpkhbbeaaGreat

/- The contracts of the integers' operations in one form, for the outright laws; equal of the laws. -/
namespace Go.Proofs.YtbapeilpkhbbeaaGreat
open Go.RowKit

theorem Ai.mono {w : World} {v : Value} {z : Int} {K K' : Nat} (h : Ai w v z K) (hK : K ≤ K') : Ai w v z K' := by
  obtain ⟨neg, ao, c, W, rfl, h⟩ := h
  exact ⟨neg, ao, c, W, rfl, h.rd, h.dig, Nat.le_trans h.le hK, h.eq⟩

end Go.Proofs.YtbapeilpkhbbeaaGreat

/- Small lemmas of ratios in lowest terms. -/
namespace Go.Proofs.YtbapeilpkhbbeaaGreat
open Go.RowKit

theorem low_small (z : Int) {d : Int} (hd : 0 < d) : lowD z d ≤ d ∧ lowN z d * lowN z d ≤ z * z := by
  unfold lowD lowN
  constructor
  · exact Int.ediv_le_self _ (Int.le_of_lt hd)
  · have h1 : (z.natAbs : Int) / (Int.gcd (z.natAbs : Int) d : Int) ≤ (z.natAbs : Int) := Int.ediv_le_self _ (by omega)
    have h0 : 0 ≤ (z.natAbs : Int) / (Int.gcd (z.natAbs : Int) d : Int) := Int.ediv_nonneg (by omega) (by omega)
    have h2 := Int.mul_le_mul h1 h1 h0 (by omega)
    have h3 : (z.natAbs : Int) * (z.natAbs : Int) = z * z := by rw [← Int.natCast_mul, Int.natAbs_mul_self]
    rw [h3] at h2
    have h4 : ∀ (b : Bool) (t : Int), sgn b t * sgn b t = t * t := by
      intro b t
      cases b
      · rfl
      · exact Int.neg_mul_neg t t
    rw [h4]
    exact h2
theorem Ra.mono {w : World} {v : Value} {x y : Int} {K K' : Nat} (h : Ra w v x y K) (hK : K ≤ K') : Ra w v x y K' := by
  obtain ⟨b1, o1, m1, c1, b2, o2, m2, c2, e, h1, h2⟩ := h
  exact ⟨b1, o1, m1, c1, b2, o2, m2, c2, e, h1.mono hK, h2.mono hK⟩
end Go.Proofs.YtbapeilpkhbbeaaGreat

/- A value has one fraction in lowest terms. -/
namespace Go.Proofs.YtbapeilpkhbbeaaGreat
open Go.RowKit

/-- A value has one fraction in lowest terms. -/
theorem low_uniq {z d n e : Int} (hd : 0 < d) (he : 0 < e) (h : z * e = n * d) : lowN z d = lowN n e ∧ lowD z d = lowD n e := by
  have hD : lowD z d = lowD n e := by
    obtain ⟨D, rfl⟩ : ∃ D : Nat, d = D := ⟨d.toNat, by omega⟩
    obtain ⟨E, rfl⟩ : ∃ E : Nat, e = E := ⟨e.toNat, by omega⟩
    have hn : z.natAbs * E = n.natAbs * D := by
      have := congrArg Int.natAbs h
      simpa [Int.natAbs_mul] using this
    have hg : Nat.gcd z.natAbs D * E = Nat.gcd n.natAbs E * D := by
      rw [← Nat.gcd_mul_right, ← Nat.gcd_mul_right, hn, Nat.mul_comm D E]
    have e1 : Int.gcd (z.natAbs : Int) (D : Int) = Nat.gcd z.natAbs D := rfl
    have e2 : Int.gcd (n.natAbs : Int) (E : Int) = Nat.gcd n.natAbs E := rfl
    unfold lowD
    rw [e1, e2]
    obtain ⟨a, ha⟩ := Nat.gcd_dvd_right z.natAbs D
    obtain ⟨b, hb⟩ := Nat.gcd_dvd_right n.natAbs E
    have g1 : 0 < Nat.gcd z.natAbs D := Nat.gcd_pos_of_pos_right _ (by omega)
    have g2 : 0 < Nat.gcd n.natAbs E := Nat.gcd_pos_of_pos_right _ (by omega)
    have hab : a = b := by
      generalize Nat.gcd z.natAbs D = p at *
      generalize Nat.gcd n.natAbs E = q at *
      have h1 : p * (q * b) = q * (p * a) := by rw [← hb, ← ha]; exact hg
      have h2 : (p * q) * b = (p * q) * a := by rw [Nat.mul_assoc, h1, ← Nat.mul_assoc, Nat.mul_comm q p]
      exact (Nat.eq_of_mul_eq_mul_left (Nat.mul_pos g1 g2) h2).symm
    have q1 : (D : Int) / (Nat.gcd z.natAbs D : Int) = (a : Int) := by
      rw [← Int.natCast_ediv]
      exact congrArg _ (Nat.div_eq_of_eq_mul_right g1 ha)
    have q2 : (E : Int) / (Nat.gcd n.natAbs E : Int) = (b : Int) := by
      rw [← Int.natCast_ediv]
      exact congrArg _ (Nat.div_eq_of_eq_mul_right g2 hb)
    rw [q1, q2, hab]
  refine ⟨?_, hD⟩
  have h1 := (low_val z hd).1
  have h2 := (low_val n he).1
  rw [← hD] at h2
  have h3 : lowN z d * (d * e) = lowN n e * (d * e) := by
    calc lowN z d * (d * e) = (lowN z d * d) * e := by rw [Int.mul_assoc]
      _ = z * e * lowD z d := by rw [h1, Int.mul_assoc, Int.mul_comm (lowD z d) e, ← Int.mul_assoc]
      _ = n * lowD z d * d := by rw [h, Int.mul_assoc, Int.mul_comm d, ← Int.mul_assoc]
      _ = lowN n e * (d * e) := by rw [← h2, Int.mul_assoc, Int.mul_comm e d]
  exact Int.eq_of_mul_eq_mul_right (by have := Int.mul_pos hd he; omega) h3
end Go.Proofs.YtbapeilpkhbbeaaGreat
