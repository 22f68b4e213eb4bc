/- A region that draws its order and holds up to six loads and calls, up to two boxes for fractions (three cells), and their stores. Made out of XBoxJ by program. -/
import Derived.Test.YtilpkocmdpofpaaGreatDoorNb26
import Derived.Test.YtilpkocmdpofpaaGreatDoorNb27
/- A region that draws its order and holds up to six loads and calls, up to two boxes for fractions (three cells), and their stores. Made out of XBoxJ by program. -/
namespace Go.Proofs.YtilpkocmdpofpaaGreatDoor
open Go.RowKit

/-- s points to three cells of a block that the region has made; b: it has been written with v. -/
def PtrC (k : IntKind) (B : Nat) (w : World) (s : Value) (b : Bool) (v : Value) : Prop :=
  ∃ p v0 v1 v2, s = .pointer (some ⟨p, 0, none⟩) ∧ B ≤ p ∧ w.cell? ⟨p, 0, none⟩ = some v0 ∧ w.cell? ⟨p, 1, none⟩ = some v1 ∧ w.cell? ⟨p, 2, none⟩ = some v2 ∧ w.frozen? ⟨p, 0, none⟩ = false ∧ w.frozen? ⟨p, 1, none⟩ = false ∧ w.frozen? ⟨p, 2, none⟩ = false ∧ (∀ x, v0 ≠ .int k x) ∧ (∀ x, v1 ≠ .int k x) ∧ (∀ x, v2 ≠ .int k x) ∧ (b = true → v = .agg #[v0, v1, v2])
theorem PtrC.below {k : IntKind} {B : Nat} {w w' : World} {s v : Value} {b : Bool} (h : PtrC k B w s b v) (hb : Below w.heap.size w w') : PtrC k B w' s b v := by
  obtain ⟨p, v0, v1, v2, rfl, hp, c0, c1, c2, f0, f1, f2, r⟩ := h
  have hl := World.block_lt_of_cell? w _ c0
  exact ⟨p, v0, v1, v2, rfl, hp, (hb.cell (p := ⟨p, 0, none⟩) hl).trans c0, (hb.cell (p := ⟨p, 1, none⟩) hl).trans c1, (hb.cell (p := ⟨p, 2, none⟩) hl).trans c2, (hb.frozen (p := ⟨p, 0, none⟩) hl).trans f0, (hb.frozen (p := ⟨p, 1, none⟩) hl).trans f1, (hb.frozen (p := ⟨p, 2, none⟩) hl).trans f2, r⟩
theorem PtrC.fresh {k : IntKind} {B : Nat} {w : World} {s v v' : Value} (h : PtrC k B w s false v) : PtrC k B w s false v' := by
  obtain ⟨p, v0, v1, v2, rfl, hp, c0, c1, c2, f0, f1, f2, n0, n1, n2, _⟩ := h
  exact ⟨p, v0, v1, v2, rfl, hp, c0, c1, c2, f0, f1, f2, n0, n1, n2, nofun⟩
theorem ptrc_new (k : IntKind) (B : Nat) (w : World) (T : TypeId) (v : Value) (hs : B ≤ w.heap.size) : PtrC k B (w.alloc (.cells #[.bool false, .slice none 0 0, .slice none 0 0] T)) (.pointer (some ⟨w.heap.size, 0, none⟩)) false v :=
  ⟨w.heap.size, .bool false, .slice none 0 0, .slice none 0 0, rfl, hs, by simp [go_sem], by simp [go_sem], by simp [go_sem], by simp [go_sem], by simp [go_sem], by simp [go_sem], nofun, nofun, nofun, nofun⟩
theorem ptrc_ne_new {k : IntKind} {B : Nat} {w : World} {s v : Value} {b : Bool} (h : PtrC k B w s b v) : s ≠ .pointer (some ⟨w.heap.size, 0, none⟩) := by
  obtain ⟨p, v0, v1, v2, rfl, hp, c0, r⟩ := h
  have hl := World.block_lt_of_cell? w _ c0
  intro e; cases e; simp at hl
theorem thr_cells {w : World} {p : Nat} {v0 v1 v2 : Value} (c0 : w.cell? ⟨p, 0, none⟩ = some v0) (c1 : w.cell? ⟨p, 1, none⟩ = some v1) (c2 : w.cell? ⟨p, 2, none⟩ = some v2) (u0 u1 u2 : Value) :
    (((w.setCell ⟨p, 0, none⟩ u0).setCell ⟨p, 1, none⟩ u1).setCell ⟨p, 2, none⟩ u2).cell? ⟨p, 0, none⟩ = some u0 ∧ (((w.setCell ⟨p, 0, none⟩ u0).setCell ⟨p, 1, none⟩ u1).setCell ⟨p, 2, none⟩ u2).cell? ⟨p, 1, none⟩ = some u1 ∧ (((w.setCell ⟨p, 0, none⟩ u0).setCell ⟨p, 1, none⟩ u1).setCell ⟨p, 2, none⟩ u2).cell? ⟨p, 2, none⟩ = some u2 := by
  have h := two_cells c0 c1 u0 u1
  refine ⟨?_, ?_, ?_⟩
  · rw [World.cell?_setCell_other _ _ _ _ (by simp)]; exact h.1
  · rw [World.cell?_setCell_other _ _ _ _ (by simp)]; exact h.2
  · exact World.cell?_setCell_same _ _ _ (u := v2) (by rw [World.cell?_setCell_other _ _ _ _ (by simp), World.cell?_setCell_other _ _ _ _ (by simp)]; exact c2)
theorem keeps_thr {k : IntKind} {w : World} {p : Nat} {v0 v1 v2 : Value} (c0 : w.cell? ⟨p, 0, none⟩ = some v0) (c1 : w.cell? ⟨p, 1, none⟩ = some v1) (c2 : w.cell? ⟨p, 2, none⟩ = some v2) (n0 : ∀ x, v0 ≠ .int k x) (n1 : ∀ x, v1 ≠ .int k x) (n2 : ∀ x, v2 ≠ .int k x) (u0 u1 u2 : Value) :
    Keeps k w (((w.setCell ⟨p, 0, none⟩ u0).setCell ⟨p, 1, none⟩ u1).setCell ⟨p, 2, none⟩ u2) :=
  (keeps_two c0 c1 n0 n1 u0 u1).setCell (u := v2) (by rw [World.cell?_setCell_other _ _ _ _ (by simp), World.cell?_setCell_other _ _ _ _ (by simp)]; exact c2) n2 u2
theorem PtrC.other {k : IntKind} {B : Nat} {w : World} {s v : Value} {b : Bool} (h : PtrC k B w s b v) {p : Nat} (hne : s ≠ .pointer (some ⟨p, 0, none⟩)) (u0 u1 u2 : Value) : PtrC k B (((w.setCell ⟨p, 0, none⟩ u0).setCell ⟨p, 1, none⟩ u1).setCell ⟨p, 2, none⟩ u2) s b v := by
  obtain ⟨q, v0, v1, v2, rfl, hq, c0, c1, c2, f0, f1, f2, r⟩ := h
  have hpq : p ≠ q := by rintro rfl; exact hne rfl
  refine ⟨q, v0, v1, v2, rfl, hq, ?_, ?_, ?_, by simpa using f0, by simpa using f1, by simpa using f2, r⟩
  all_goals (rw [World.cell?_setCell_other _ _ _ _ (by simp <;> exact hpq), World.cell?_setCell_other _ _ _ _ (by simp <;> exact hpq), World.cell?_setCell_other _ _ _ _ (by simp <;> exact hpq)]; assumption)

structure BC (B : Nat) (W0 : World) (G0 G1 G2 G3 G4 G5 : World → Value → Prop) (b0 b1 b2 b3 b4 b5 : Bool) (s0 s1 s2 s3 s4 s5 : Value) (p1 q1 : Bool) (t1 x1 : Value) (p2 q2 : Bool) (t2 x2 : Value) (w : World) : Prop where
  bel : Below B W0 w
  siz : B ≤ w.heap.size
  v0 : b0 = true → G0 w s0
  v1 : b1 = true → G1 w s1
  v2 : b2 = true → G2 w s2
  v3 : b3 = true → G3 w s3
  v4 : b4 = true → G4 w s4
  v5 : b5 = true → G5 w s5
  a1 : p1 = true → PtrC .u64 B w t1 q1 x1
  a2 : p2 = true → PtrC .u64 B w t2 q2 x2
  ne : p1 = true → p2 = true → t1 ≠ t2
structure KC (G0 G1 G2 G3 G4 G5 : World → Value → Prop) : Prop where
  k0 : KeepG .u64 G0
  k1 : KeepG .u64 G1
  k2 : KeepG .u64 G2
  k3 : KeepG .u64 G3
  k4 : KeepG .u64 G4
  k5 : KeepG .u64 G5

section
variable {B : Nat} {W0 : World} {G0 G1 G2 G3 G4 G5 : World → Value → Prop} {b0 b1 b2 b3 b4 b5 : Bool} {s0 s1 s2 s3 s4 s5 : Value} {p1 q1 : Bool} {t1 x1 : Value} {p2 q2 : Bool} {t2 x2 : Value} {w w' : World}
theorem BC.start (h : Below B W0 w) (hs : B ≤ w.heap.size) : BC B W0 G0 G1 G2 G3 G4 G5 false false false false false false s0 s1 s2 s3 s4 s5 false false t1 x1 false false t2 x2 w :=
  ⟨h, hs, nofun, nofun, nofun, nofun, nofun, nofun, nofun, nofun, nofun⟩
theorem BC.step (h : BC B W0 G0 G1 G2 G3 G4 G5 b0 b1 b2 b3 b4 b5 s0 s1 s2 s3 s4 s5 p1 q1 t1 x1 p2 q2 t2 x2 w) (k : KC G0 G1 G2 G3 G4 G5) (hb : Below w.heap.size w w') : BC B W0 G0 G1 G2 G3 G4 G5 b0 b1 b2 b3 b4 b5 s0 s1 s2 s3 s4 s5 p1 q1 t1 x1 p2 q2 t2 x2 w' := by
  have hk : Keeps .u64 w w' := Keeps.below hb (Nat.le_refl _)
  exact ⟨h.bel.trans (hb.mono h.siz), Nat.le_trans h.siz hb.size, fun e => k.k0 _ _ _ hk (h.v0 e), fun e => k.k1 _ _ _ hk (h.v1 e), fun e => k.k2 _ _ _ hk (h.v2 e), fun e => k.k3 _ _ _ hk (h.v3 e), fun e => k.k4 _ _ _ hk (h.v4 e), fun e => k.k5 _ _ _ hk (h.v5 e), fun e => (h.a1 e).below hb, fun e => (h.a2 e).below hb, h.ne⟩
theorem BC.alloc1 (h : BC B W0 G0 G1 G2 G3 G4 G5 b0 b1 b2 b3 b4 b5 s0 s1 s2 s3 s4 s5 p1 false t1 x1 p2 q2 t2 x2 w) (k : KC G0 G1 G2 G3 G4 G5) (T : TypeId) :
    BC B W0 G0 G1 G2 G3 G4 G5 b0 b1 b2 b3 b4 b5 s0 s1 s2 s3 s4 s5 true false (.pointer (some ⟨w.heap.size, 0, none⟩)) x1 p2 q2 t2 x2 (w.alloc (.cells #[.bool false, .slice none 0 0, .slice none 0 0] T)) := by
  have J := h.step k ((Below.refl w.heap.size w).alloc (Nat.le_refl _) (.cells #[.bool false, .slice none 0 0, .slice none 0 0] T))
  exact ⟨J.bel, J.siz, J.v0, J.v1, J.v2, J.v3, J.v4, J.v5, fun _ => ptrc_new .u64 B w T _ h.siz, J.a2, fun _ e => (ptrc_ne_new (h.a2 e)).symm⟩
theorem BC.alloc2 (h : BC B W0 G0 G1 G2 G3 G4 G5 b0 b1 b2 b3 b4 b5 s0 s1 s2 s3 s4 s5 p1 q1 t1 x1 p2 false t2 x2 w) (k : KC G0 G1 G2 G3 G4 G5) (T : TypeId) :
    BC B W0 G0 G1 G2 G3 G4 G5 b0 b1 b2 b3 b4 b5 s0 s1 s2 s3 s4 s5 p1 q1 t1 x1 true false (.pointer (some ⟨w.heap.size, 0, none⟩)) x2 (w.alloc (.cells #[.bool false, .slice none 0 0, .slice none 0 0] T)) := by
  have J := h.step k ((Below.refl w.heap.size w).alloc (Nat.le_refl _) (.cells #[.bool false, .slice none 0 0, .slice none 0 0] T))
  exact ⟨J.bel, J.siz, J.v0, J.v1, J.v2, J.v3, J.v4, J.v5, J.a1, fun _ => ptrc_new .u64 B w T _ h.siz, fun e _ => ptrc_ne_new (h.a1 e)⟩
theorem BC.store1 {p : Nat} {u0 u1 u2 : Value} (h : BC B W0 G0 G1 G2 G3 G4 G5 b0 b1 b2 b3 b4 b5 s0 s1 s2 s3 s4 s5 true q1 (.pointer (some ⟨p, 0, none⟩)) (.agg #[u0, u1, u2]) p2 q2 t2 x2 w) (k : KC G0 G1 G2 G3 G4 G5) (m0 : ∀ x, u0 ≠ .int .u64 x) (m1 : ∀ x, u1 ≠ .int .u64 x) (m2 : ∀ x, u2 ≠ .int .u64 x) :
    BC B W0 G0 G1 G2 G3 G4 G5 b0 b1 b2 b3 b4 b5 s0 s1 s2 s3 s4 s5 true true (.pointer (some ⟨p, 0, none⟩)) (.agg #[u0, u1, u2]) p2 q2 t2 x2 (((w.setCell ⟨p, 0, none⟩ u0).setCell ⟨p, 1, none⟩ u1).setCell ⟨p, 2, none⟩ u2) := by
  obtain ⟨p', v0, v1, v2, e, hp, c0, c1, c2, f0, f1, f2, n0, n1, n2, _⟩ := h.a1 rfl
  cases e
  have hk := keeps_thr c0 c1 c2 n0 n1 n2 u0 u1 u2
  have ht := thr_cells c0 c1 c2 u0 u1 u2
  exact ⟨((h.bel.setCell hp _).setCell hp _).setCell hp _, by simpa using h.siz, fun e => k.k0 _ _ _ hk (h.v0 e), fun e => k.k1 _ _ _ hk (h.v1 e), fun e => k.k2 _ _ _ hk (h.v2 e), fun e => k.k3 _ _ _ hk (h.v3 e), fun e => k.k4 _ _ _ hk (h.v4 e), fun e => k.k5 _ _ _ hk (h.v5 e), fun _ => ⟨p, u0, u1, u2, rfl, hp, ht.1, ht.2.1, ht.2.2, by simpa using f0, by simpa using f1, by simpa using f2, m0, m1, m2, fun _ => rfl⟩, fun e => (h.a2 e).other (h.ne rfl e).symm _ _ _, h.ne⟩
theorem BC.store2 {p : Nat} {u0 u1 u2 : Value} (h : BC B W0 G0 G1 G2 G3 G4 G5 b0 b1 b2 b3 b4 b5 s0 s1 s2 s3 s4 s5 p1 q1 t1 x1 true q2 (.pointer (some ⟨p, 0, none⟩)) (.agg #[u0, u1, u2]) w) (k : KC G0 G1 G2 G3 G4 G5) (m0 : ∀ x, u0 ≠ .int .u64 x) (m1 : ∀ x, u1 ≠ .int .u64 x) (m2 : ∀ x, u2 ≠ .int .u64 x) :
    BC B W0 G0 G1 G2 G3 G4 G5 b0 b1 b2 b3 b4 b5 s0 s1 s2 s3 s4 s5 p1 q1 t1 x1 true true (.pointer (some ⟨p, 0, none⟩)) (.agg #[u0, u1, u2]) (((w.setCell ⟨p, 0, none⟩ u0).setCell ⟨p, 1, none⟩ u1).setCell ⟨p, 2, none⟩ u2) := by
  obtain ⟨p', v0, v1, v2, e, hp, c0, c1, c2, f0, f1, f2, n0, n1, n2, _⟩ := h.a2 rfl
  cases e
  have hk := keeps_thr c0 c1 c2 n0 n1 n2 u0 u1 u2
  have ht := thr_cells c0 c1 c2 u0 u1 u2
  exact ⟨((h.bel.setCell hp _).setCell hp _).setCell hp _, by simpa using h.siz, fun e => k.k0 _ _ _ hk (h.v0 e), fun e => k.k1 _ _ _ hk (h.v1 e), fun e => k.k2 _ _ _ hk (h.v2 e), fun e => k.k3 _ _ _ hk (h.v3 e), fun e => k.k4 _ _ _ hk (h.v4 e), fun e => k.k5 _ _ _ hk (h.v5 e), fun e => (h.a1 e).other (h.ne e rfl) _ _ _, fun _ => ⟨p, u0, u1, u2, rfl, hp, ht.1, ht.2.1, ht.2.2, by simpa using f0, by simpa using f1, by simpa using f2, m0, m1, m2, fun _ => rfl⟩, h.ne⟩
end
theorem ft_keepg (z d : Int) (K : Nat) : KeepG .u64 (fun w v => Ft w v z d K) := fun _ _ _ hk h => by
  obtain ⟨s1, s2, rfl, h1, h2⟩ := h
  exact ⟨s1, s2, rfl, nt_keeps hk h1, nt_keeps hk h2⟩
end Go.Proofs.YtilpkocmdpofpaaGreatDoor
