/- The region 'q, r := f(g(x), y)' of two structs (a bool and a slice) whose addresses are taken. Written by gen_ediv.py. A region that draws its order and holds up to twelve values and one box for a struct of a bool and a slice: what holds between two of its operations. Written by gen_boxk.py. exact.Over: the ratio of two numbers of 64 bits, or ErrZero. -/
import Derived.Test.YtilpkocmdpofpaaGreatDoorFa27
import Derived.Test.YtilpkocmdpofpaaGreatDoorFa28
import Derived.Test.YtilpkocmdpofpaaGreatDoorFa33
import Derived.Deep.DeepCutAuto
import Derived.Test.YtilpkocmdpofpaaGreatDoorFa25
/- The region 'q, r := f(g(x), y)' of two structs (a bool and a slice) whose addresses are taken. Written by gen_ediv.py. -/
namespace Go.Proofs.YtilpkocmdpofpaaGreatDoor
open Go.RowKit

structure QuoJ (k : IntKind) (B : Nat) (W0 : World) (vx vy : Value) (G1 Gq Gr : World → Value → Prop) (b0 b1 b2 b3 b4 b5 b6 b7 b8 b9 b10 : Bool) (s8 s9 s17 s18 s19 s20 s21 s22 s23 : Value) (w : World) : Prop where
  bel : Below B W0 w
  siz : B ≤ w.heap.size
  l0 : b0 = true → s18 = vx
  c1 : b1 = true → G1 w s19
  l2 : b2 = true → s20 = vy
  c3 : b3 = true → ∃ u v, s21 = .tuple #[u, v] ∧ Gq w u ∧ Gr w v
  m4 : b4 = true → ∃ u v, s17 = .tuple #[u, v] ∧ Gq w u ∧ Gr w v
  e5 : b5 = true → Gq w s22
  e6 : b6 = true → Gr w s23
  p7 : b7 = true → PtrAt k B w s8 b9 s22
  p8 : b8 = true → PtrAt k B w s9 b10 s23
  ne : b7 = true → b8 = true → s8 ≠ s9

section
variable {k : IntKind} {B : Nat} {W0 : World} {vx vy : Value} {G1 Gq Gr : World → Value → Prop} {b0 b1 b2 b3 b4 b5 b6 b7 b8 b9 b10 : Bool} {s8 s9 s17 s18 s19 s20 s21 s22 s23 : Value} {w w' : World}
theorem QuoJ.start (h : Below B W0 w) (hs : B ≤ w.heap.size) : QuoJ k B W0 vx vy G1 Gq Gr false false false false false false false false false false false s8 s9 s17 s18 s19 s20 s21 s22 s23 w :=
  ⟨h, hs, nofun, nofun, nofun, nofun, nofun, nofun, nofun, nofun, nofun, nofun⟩
theorem QuoJ.load0 (h : QuoJ k B W0 vx vy G1 Gq Gr b0 b1 b2 b3 b4 b5 b6 b7 b8 b9 b10 s8 s9 s17 s18 s19 s20 s21 s22 s23 w) : QuoJ k B W0 vx vy G1 Gq Gr true b1 b2 b3 b4 b5 b6 b7 b8 b9 b10 s8 s9 s17 vx s19 s20 s21 s22 s23 w :=
  ⟨h.bel, h.siz, fun _ => rfl, h.c1, h.l2, h.c3, h.m4, h.e5, h.e6, h.p7, h.p8, h.ne⟩
theorem QuoJ.load2 (h : QuoJ k B W0 vx vy G1 Gq Gr b0 b1 b2 b3 b4 b5 b6 b7 b8 b9 b10 s8 s9 s17 s18 s19 s20 s21 s22 s23 w) : QuoJ k B W0 vx vy G1 Gq Gr b0 b1 true b3 b4 b5 b6 b7 b8 b9 b10 s8 s9 s17 s18 s19 vy s21 s22 s23 w :=
  ⟨h.bel, h.siz, h.l0, h.c1, fun _ => rfl, h.c3, h.m4, h.e5, h.e6, h.p7, h.p8, h.ne⟩
def KeepG (k : IntKind) (G : World → Value → Prop) : Prop := ∀ w w' v, Keeps k w w' → G w v → G w' v
theorem two_keep (hq : KeepG k Gq) (hr : KeepG k Gr) {s : Value} (hk : Keeps k w w') (h : ∃ u v, s = .tuple #[u, v] ∧ Gq w u ∧ Gr w v) : ∃ u v, s = .tuple #[u, v] ∧ Gq w' u ∧ Gr w' v := by
  obtain ⟨u, v, e, a, b⟩ := h
  exact ⟨u, v, e, hq _ _ _ hk a, hr _ _ _ hk b⟩
theorem QuoJ.call1 (h : QuoJ k B W0 vx vy G1 Gq Gr b0 b1 b2 b3 b4 b5 b6 b7 b8 b9 b10 s8 s9 s17 s18 s19 s20 s21 s22 s23 w) (hq : KeepG k Gq) (hr : KeepG k Gr) (hb : Below w.heap.size w w') {v : Value} (hv : G1 w' v) :
    QuoJ k B W0 vx vy G1 Gq Gr b0 true b2 b3 b4 b5 b6 b7 b8 b9 b10 s8 s9 s17 s18 v s20 s21 s22 s23 w' := by
  have hk : Keeps k w w' := Keeps.below hb (Nat.le_refl _)
  exact ⟨h.bel.trans (hb.mono h.siz), Nat.le_trans h.siz hb.size, h.l0, fun _ => hv, h.l2, fun e => two_keep hq hr hk (h.c3 e), fun e => two_keep hq hr hk (h.m4 e), fun e => hq _ _ _ hk (h.e5 e), fun e => hr _ _ _ hk (h.e6 e), fun e => (h.p7 e).below hb, fun e => (h.p8 e).below hb, h.ne⟩
theorem QuoJ.call3 (h : QuoJ k B W0 vx vy G1 Gq Gr b0 b1 b2 b3 b4 b5 b6 b7 b8 b9 b10 s8 s9 s17 s18 s19 s20 s21 s22 s23 w) (h1 : KeepG k G1) (hq : KeepG k Gq) (hr : KeepG k Gr) (hb : Below w.heap.size w w') {u v : Value} (hu : Gq w' u) (hv : Gr w' v) :
    QuoJ k B W0 vx vy G1 Gq Gr b0 b1 b2 true b4 b5 b6 b7 b8 b9 b10 s8 s9 s17 s18 s19 s20 (.tuple #[u, v]) s22 s23 w' := by
  have hk : Keeps k w w' := Keeps.below hb (Nat.le_refl _)
  exact ⟨h.bel.trans (hb.mono h.siz), Nat.le_trans h.siz hb.size, h.l0, fun e => h1 _ _ _ hk (h.c1 e), h.l2, fun _ => ⟨u, v, rfl, hu, hv⟩, fun e => two_keep hq hr hk (h.m4 e), fun e => hq _ _ _ hk (h.e5 e), fun e => hr _ _ _ hk (h.e6 e), fun e => (h.p7 e).below hb, fun e => (h.p8 e).below hb, h.ne⟩
theorem QuoJ.move4 (h : QuoJ k B W0 vx vy G1 Gq Gr b0 b1 b2 true b4 b5 b6 b7 b8 b9 b10 s8 s9 s17 s18 s19 s20 s21 s22 s23 w) : QuoJ k B W0 vx vy G1 Gq Gr b0 b1 b2 true true b5 b6 b7 b8 b9 b10 s8 s9 s21 s18 s19 s20 s21 s22 s23 w :=
  ⟨h.bel, h.siz, h.l0, h.c1, h.l2, h.c3, fun _ => h.c3 rfl, h.e5, h.e6, h.p7, h.p8, h.ne⟩
theorem QuoJ.ext5 {u : Value} (h : QuoJ k B W0 vx vy G1 Gq Gr b0 b1 b2 b3 b4 b5 b6 b7 b8 false b10 s8 s9 s17 s18 s19 s20 s21 s22 s23 w) (hu : Gq w u) : QuoJ k B W0 vx vy G1 Gq Gr b0 b1 b2 b3 b4 true b6 b7 b8 false b10 s8 s9 s17 s18 s19 s20 s21 u s23 w :=
  ⟨h.bel, h.siz, h.l0, h.c1, h.l2, h.c3, h.m4, fun _ => hu, h.e6, fun e => (h.p7 e).fresh, h.p8, h.ne⟩
theorem QuoJ.ext6 {v : Value} (h : QuoJ k B W0 vx vy G1 Gq Gr b0 b1 b2 b3 b4 b5 b6 b7 b8 b9 false s8 s9 s17 s18 s19 s20 s21 s22 s23 w) (hv : Gr w v) : QuoJ k B W0 vx vy G1 Gq Gr b0 b1 b2 b3 b4 b5 true b7 b8 b9 false s8 s9 s17 s18 s19 s20 s21 s22 v w :=
  ⟨h.bel, h.siz, h.l0, h.c1, h.l2, h.c3, h.m4, h.e5, fun _ => hv, h.p7, fun e => (h.p8 e).fresh, h.ne⟩
theorem QuoJ.alloc7 (h : QuoJ k B W0 vx vy G1 Gq Gr b0 b1 b2 b3 b4 b5 b6 b7 b8 false b10 s8 s9 s17 s18 s19 s20 s21 s22 s23 w) (h1 : KeepG k G1) (hq : KeepG k Gq) (hr : KeepG k Gr) (T : TypeId) :
    QuoJ k B W0 vx vy G1 Gq Gr b0 b1 b2 b3 b4 b5 b6 true b8 false b10 (.pointer (some ⟨w.heap.size, 0, none⟩)) s9 s17 s18 s19 s20 s21 s22 s23 (w.alloc (.cells #[.bool false, .slice none 0 0] T)) := by
  have hb := (Below.refl w.heap.size w).alloc (Nat.le_refl _) (.cells #[.bool false, .slice none 0 0] T)
  have hk := Keeps.below (k := k) hb (Nat.le_refl _)
  exact ⟨h.bel.alloc h.siz _, by simp; have := h.siz; omega, h.l0, fun e => h1 _ _ _ hk (h.c1 e), h.l2, fun e => two_keep hq hr hk (h.c3 e), fun e => two_keep hq hr hk (h.m4 e), fun e => hq _ _ _ hk (h.e5 e), fun e => hr _ _ _ hk (h.e6 e), fun _ => ptr_new k B w T _ h.siz, fun e => (h.p8 e).below hb, fun _ e => (ptr_ne_new (h.p8 e)).symm⟩
theorem QuoJ.alloc8 (h : QuoJ k B W0 vx vy G1 Gq Gr b0 b1 b2 b3 b4 b5 b6 b7 b8 b9 false s8 s9 s17 s18 s19 s20 s21 s22 s23 w) (h1 : KeepG k G1) (hq : KeepG k Gq) (hr : KeepG k Gr) (T : TypeId) :
    QuoJ k B W0 vx vy G1 Gq Gr b0 b1 b2 b3 b4 b5 b6 b7 true b9 false s8 (.pointer (some ⟨w.heap.size, 0, none⟩)) s17 s18 s19 s20 s21 s22 s23 (w.alloc (.cells #[.bool false, .slice none 0 0] T)) := by
  have hb := (Below.refl w.heap.size w).alloc (Nat.le_refl _) (.cells #[.bool false, .slice none 0 0] T)
  have hk := Keeps.below (k := k) hb (Nat.le_refl _)
  exact ⟨h.bel.alloc h.siz _, by simp; have := h.siz; omega, h.l0, fun e => h1 _ _ _ hk (h.c1 e), h.l2, fun e => two_keep hq hr hk (h.c3 e), fun e => two_keep hq hr hk (h.m4 e), fun e => hq _ _ _ hk (h.e5 e), fun e => hr _ _ _ hk (h.e6 e), fun e => (h.p7 e).below hb, fun _ => ptr_new k B w T _ h.siz, fun e _ => ptr_ne_new (h.p7 e)⟩
theorem QuoJ.store9 {p : Nat} {u0 u1 : Value} (h : QuoJ k B W0 vx vy G1 Gq Gr b0 b1 b2 b3 b4 b5 b6 true b8 b9 b10 (.pointer (some ⟨p, 0, none⟩)) s9 s17 s18 s19 s20 s21 (.agg #[u0, u1]) s23 w) (h1 : KeepG k G1) (hq : KeepG k Gq) (hr : KeepG k Gr) (m0 : ∀ x, u0 ≠ .int k x) (m1 : ∀ x, u1 ≠ .int k x) :
    QuoJ k B W0 vx vy G1 Gq Gr b0 b1 b2 b3 b4 b5 b6 true b8 true b10 (.pointer (some ⟨p, 0, none⟩)) s9 s17 s18 s19 s20 s21 (.agg #[u0, u1]) s23 ((w.setCell ⟨p, 0, none⟩ u0).setCell ⟨p, 1, none⟩ u1) := by
  obtain ⟨p', v0, v1, e, hp, c0, c1, f0, f1, n0, n1, _⟩ := h.p7 rfl
  cases e
  have hk := keeps_two c0 c1 n0 n1 u0 u1
  have ht := two_cells c0 c1 u0 u1
  exact ⟨(h.bel.setCell hp _).setCell hp _, by simpa using h.siz, h.l0, fun e => h1 _ _ _ hk (h.c1 e), h.l2, fun e => two_keep hq hr hk (h.c3 e), fun e => two_keep hq hr hk (h.m4 e), fun e => hq _ _ _ hk (h.e5 e), fun e => hr _ _ _ hk (h.e6 e), fun _ => ⟨p, u0, u1, rfl, hp, ht.1, ht.2, by simpa using f0, by simpa using f1, m0, m1, fun _ => rfl⟩, fun e => (h.p8 e).other (h.ne rfl e).symm _ _, h.ne⟩
theorem QuoJ.store10 {p : Nat} {u0 u1 : Value} (h : QuoJ k B W0 vx vy G1 Gq Gr b0 b1 b2 b3 b4 b5 b6 b7 true b9 b10 s8 (.pointer (some ⟨p, 0, none⟩)) s17 s18 s19 s20 s21 s22 (.agg #[u0, u1]) w) (h1 : KeepG k G1) (hq : KeepG k Gq) (hr : KeepG k Gr) (m0 : ∀ x, u0 ≠ .int k x) (m1 : ∀ x, u1 ≠ .int k x) :
    QuoJ k B W0 vx vy G1 Gq Gr b0 b1 b2 b3 b4 b5 b6 b7 true b9 true s8 (.pointer (some ⟨p, 0, none⟩)) s17 s18 s19 s20 s21 s22 (.agg #[u0, u1]) ((w.setCell ⟨p, 0, none⟩ u0).setCell ⟨p, 1, none⟩ u1) := by
  obtain ⟨p', v0, v1, e, hp, c0, c1, f0, f1, n0, n1, _⟩ := h.p8 rfl
  cases e
  have hk := keeps_two c0 c1 n0 n1 u0 u1
  have ht := two_cells c0 c1 u0 u1
  exact ⟨(h.bel.setCell hp _).setCell hp _, by simpa using h.siz, h.l0, fun e => h1 _ _ _ hk (h.c1 e), h.l2, fun e => two_keep hq hr hk (h.c3 e), fun e => two_keep hq hr hk (h.m4 e), fun e => hq _ _ _ hk (h.e5 e), fun e => hr _ _ _ hk (h.e6 e), fun e => (h.p7 e).other (h.ne e rfl) _ _, fun _ => ⟨p, u0, u1, rfl, hp, ht.1, ht.2, by simpa using f0, by simpa using f1, m0, m1, fun _ => rfl⟩, h.ne⟩
end
/-- The blocks from lo to below B hold what they held. -/
structure Kq (B lo : Nat) (w w' : World) : Prop where
  cell : ∀ a : Addr, lo ≤ a.block → a.block < B → w'.cell? a = w.cell? a
theorem Kq.of_below {B lo : Nat} {w w' : World} (h : Below B w w') : Kq B lo w w' := ⟨fun _ _ ha => h.cell ha⟩
theorem Kq.set {B lo : Nat} {w w' : World} (h : Kq B lo w w') {a : Addr} (ha : a.block < lo) (u : Value) : Kq B lo w (w'.setCell a u) :=
  ⟨fun b hb hB => (World.cell?_setCell_other w' a b u (by rintro rfl; omega)).trans (h.cell b hb hB)⟩
theorem it_keepG (z : Int) (K : Nat) : KeepG .u64 (fun w v => It w v z K) := fun _ _ _ hk h => it_keeps hk h
end Go.Proofs.YtilpkocmdpofpaaGreatDoor

/- A region that draws its order and holds up to twelve values and one box for a struct of a bool and a slice: what holds between two of its operations. Written by gen_boxk.py. -/
namespace Go.Proofs.YtilpkocmdpofpaaGreatDoor
open Go.RowKit

theorem it_keepg (z : Int) (K : Nat) : KeepG .u64 (fun w v => It w v z K) := fun _ _ _ hk h => it_keeps hk h
theorem nt_keepg (n : Int) (K : Nat) : KeepG .u64 (fun w v => Nt w v n K) := fun _ _ _ hk h => by
  obtain ⟨ao, c, L, rfl, h⟩ := h
  exact ⟨ao, c, L, rfl, h.rd.keeps hk, h.dig, h.nrm, h.eq, h.le⟩
def Kc (u : Value) (_ : World) (v : Value) : Prop := v = u
def Kt (_ : World) (_ : Value) : Prop := True
theorem kc_keep (u : Value) : KeepG .u64 (Kc u) := fun _ _ _ _ h => h
theorem kt_keep : KeepG .u64 Kt := fun _ _ _ _ h => h

/-- s points to a box that holds an integer of 64 bit digits. -/
def NewI (B : Nat) (w : World) (s : Value) (z : Int) (R : Nat) : Prop := ∃ p b o m c, s = .pointer (some ⟨p, 0, none⟩) ∧ B ≤ p ∧ w.cell? ⟨p, 0, none⟩ = some (.bool b) ∧ w.cell? ⟨p, 1, none⟩ = some (.slice o m c) ∧ It w (.agg #[.bool b, .slice o m c]) z R

structure BK (B : Nat) (W0 : World) (G0 G1 G2 G3 G4 G5 G6 G7 G8 G9 G10 G11 : World → Value → Prop) (b0 b1 b2 b3 b4 b5 b6 b7 b8 b9 b10 b11 : Bool) (s0 s1 s2 s3 s4 s5 s6 s7 s8 s9 s10 s11 : Value) (p1 q1 : Bool) (t1 x1 : Value) (w : World) : Prop where
  bel : Below B W0 w
  siz : B ≤ w.heap.size
  v0 : b0 = true → G0 w s0
  v1 : b1 = true → G1 w s1
  v2 : b2 = true → G2 w s2
  v3 : b3 = true → G3 w s3
  v4 : b4 = true → G4 w s4
  v5 : b5 = true → G5 w s5
  v6 : b6 = true → G6 w s6
  v7 : b7 = true → G7 w s7
  v8 : b8 = true → G8 w s8
  v9 : b9 = true → G9 w s9
  v10 : b10 = true → G10 w s10
  v11 : b11 = true → G11 w s11
  a1 : p1 = true → PtrAt .u64 B w t1 q1 x1
structure KK (G0 G1 G2 G3 G4 G5 G6 G7 G8 G9 G10 G11 : World → Value → Prop) : Prop where
  k0 : KeepG .u64 G0
  k1 : KeepG .u64 G1
  k2 : KeepG .u64 G2
  k3 : KeepG .u64 G3
  k4 : KeepG .u64 G4
  k5 : KeepG .u64 G5
  k6 : KeepG .u64 G6
  k7 : KeepG .u64 G7
  k8 : KeepG .u64 G8
  k9 : KeepG .u64 G9
  k10 : KeepG .u64 G10
  k11 : KeepG .u64 G11

section
variable {B : Nat} {W0 : World} {G0 G1 G2 G3 G4 G5 G6 G7 G8 G9 G10 G11 : World → Value → Prop} {b0 b1 b2 b3 b4 b5 b6 b7 b8 b9 b10 b11 : Bool} {s0 s1 s2 s3 s4 s5 s6 s7 s8 s9 s10 s11 : Value} {p1 q1 : Bool} {t1 x1 : Value} {w w' : World}
theorem BK.start (h : Below B W0 w) (hs : B ≤ w.heap.size) : BK B W0 G0 G1 G2 G3 G4 G5 G6 G7 G8 G9 G10 G11 false false false false false false false false false false false false s0 s1 s2 s3 s4 s5 s6 s7 s8 s9 s10 s11 false false t1 x1 w :=
  ⟨h, hs, nofun, nofun, nofun, nofun, nofun, nofun, nofun, nofun, nofun, nofun, nofun, nofun, nofun⟩
theorem BK.step (h : BK B W0 G0 G1 G2 G3 G4 G5 G6 G7 G8 G9 G10 G11 b0 b1 b2 b3 b4 b5 b6 b7 b8 b9 b10 b11 s0 s1 s2 s3 s4 s5 s6 s7 s8 s9 s10 s11 p1 q1 t1 x1 w) (k : KK G0 G1 G2 G3 G4 G5 G6 G7 G8 G9 G10 G11) (hb : Below w.heap.size w w') : BK B W0 G0 G1 G2 G3 G4 G5 G6 G7 G8 G9 G10 G11 b0 b1 b2 b3 b4 b5 b6 b7 b8 b9 b10 b11 s0 s1 s2 s3 s4 s5 s6 s7 s8 s9 s10 s11 p1 q1 t1 x1 w' := by
  have hk : Keeps .u64 w w' := Keeps.below hb (Nat.le_refl _)
  exact ⟨h.bel.trans (hb.mono h.siz), Nat.le_trans h.siz hb.size, fun e => k.k0 _ _ _ hk (h.v0 e), fun e => k.k1 _ _ _ hk (h.v1 e), fun e => k.k2 _ _ _ hk (h.v2 e), fun e => k.k3 _ _ _ hk (h.v3 e), fun e => k.k4 _ _ _ hk (h.v4 e), fun e => k.k5 _ _ _ hk (h.v5 e), fun e => k.k6 _ _ _ hk (h.v6 e), fun e => k.k7 _ _ _ hk (h.v7 e), fun e => k.k8 _ _ _ hk (h.v8 e), fun e => k.k9 _ _ _ hk (h.v9 e), fun e => k.k10 _ _ _ hk (h.v10 e), fun e => k.k11 _ _ _ hk (h.v11 e), fun e => (h.a1 e).below hb⟩
theorem BK.alloc1 (h : BK B W0 G0 G1 G2 G3 G4 G5 G6 G7 G8 G9 G10 G11 b0 b1 b2 b3 b4 b5 b6 b7 b8 b9 b10 b11 s0 s1 s2 s3 s4 s5 s6 s7 s8 s9 s10 s11 p1 false t1 x1 w) (k : KK G0 G1 G2 G3 G4 G5 G6 G7 G8 G9 G10 G11) (T : TypeId) :
    BK B W0 G0 G1 G2 G3 G4 G5 G6 G7 G8 G9 G10 G11 b0 b1 b2 b3 b4 b5 b6 b7 b8 b9 b10 b11 s0 s1 s2 s3 s4 s5 s6 s7 s8 s9 s10 s11 true false (.pointer (some ⟨w.heap.size, 0, none⟩)) x1 (w.alloc (.cells #[.bool false, .slice none 0 0] T)) := by
  have J := h.step k ((Below.refl w.heap.size w).alloc (Nat.le_refl _) (.cells #[.bool false, .slice none 0 0] T))
  exact ⟨J.bel, J.siz, J.v0, J.v1, J.v2, J.v3, J.v4, J.v5, J.v6, J.v7, J.v8, J.v9, J.v10, J.v11, fun _ => ptr_new .u64 B w T _ h.siz⟩
theorem BK.store1 {p : Nat} {u0 u1 : Value} (h : BK B W0 G0 G1 G2 G3 G4 G5 G6 G7 G8 G9 G10 G11 b0 b1 b2 b3 b4 b5 b6 b7 b8 b9 b10 b11 s0 s1 s2 s3 s4 s5 s6 s7 s8 s9 s10 s11 true q1 (.pointer (some ⟨p, 0, none⟩)) (.agg #[u0, u1]) w) (k : KK G0 G1 G2 G3 G4 G5 G6 G7 G8 G9 G10 G11) (m0 : ∀ x, u0 ≠ .int .u64 x) (m1 : ∀ x, u1 ≠ .int .u64 x) :
    BK B W0 G0 G1 G2 G3 G4 G5 G6 G7 G8 G9 G10 G11 b0 b1 b2 b3 b4 b5 b6 b7 b8 b9 b10 b11 s0 s1 s2 s3 s4 s5 s6 s7 s8 s9 s10 s11 true true (.pointer (some ⟨p, 0, none⟩)) (.agg #[u0, u1]) ((w.setCell ⟨p, 0, none⟩ u0).setCell ⟨p, 1, none⟩ u1) := by
  obtain ⟨p', v0, v1, e, hp, c0, c1, f0, f1, n0, n1, _⟩ := h.a1 rfl
  cases e
  have hk := keeps_two c0 c1 n0 n1 u0 u1
  have ht := two_cells c0 c1 u0 u1
  exact ⟨(h.bel.setCell hp _).setCell hp _, by simpa using h.siz, fun e => k.k0 _ _ _ hk (h.v0 e), fun e => k.k1 _ _ _ hk (h.v1 e), fun e => k.k2 _ _ _ hk (h.v2 e), fun e => k.k3 _ _ _ hk (h.v3 e), fun e => k.k4 _ _ _ hk (h.v4 e), fun e => k.k5 _ _ _ hk (h.v5 e), fun e => k.k6 _ _ _ hk (h.v6 e), fun e => k.k7 _ _ _ hk (h.v7 e), fun e => k.k8 _ _ _ hk (h.v8 e), fun e => k.k9 _ _ _ hk (h.v9 e), fun e => k.k10 _ _ _ hk (h.v10 e), fun e => k.k11 _ _ _ hk (h.v11 e), fun _ => ⟨p, u0, u1, rfl, hp, ht.1, ht.2, by simpa using f0, by simpa using f1, m0, m1, fun _ => rfl⟩⟩
end
end Go.Proofs.YtilpkocmdpofpaaGreatDoor

/- exact.Over: the ratio of two numbers of 64 bits, or ErrZero. -/
namespace Go.Proofs.YtilpkocmdpofpaaGreatDoor
open Go.RowKit

theorem FrA.ai {w0 w : World} {v : Value} {z : Int} {K : Nat} (h : FrA w0 w v z K) : Ai w v z K := by
  obtain ⟨s, rfl, L, ho, hd, hn, hv, hl⟩ := h
  obtain ⟨ao, c, rfl⟩ := owns_slice ho
  refine ⟨_, ao, c, L, rfl, owns_any ho rfl, hd, hl, ?_⟩
  rw [hv]
  unfold sgn
  by_cases h : z < 0 <;> simp [h] <;> omega

set_option maxRecDepth 100000 in
set_option maxHeartbeats 1000000 in
theorem Over_any (n d : Int) (w : World) (n0 : -9223372036854775808 ≤ n) (n1 : n < 9223372036854775808) (d0 : -9223372036854775808 ≤ d) (d1 : d < 9223372036854775808) (hd : d ≠ 0) :
    Calls Tryz.prog 84 #[.int .i64 n, .int .i64 d] w fun e w' => ∃ f, e = .returned (.tuple #[f, .int .i64 0]) ∧ FrR w w' f (lowN (sgn (decide (n < 0) != decide (d < 0)) (n.natAbs : Int)) (d.natAbs : Int)) (lowD (sgn (decide (n < 0) != decide (d < 0)) (n.natAbs : Int)) (d.natAbs : Int)) 2 ∧ Below w.heap.size w w' := by
  obtain ⟨W0, hW0⟩ : ∃ W0, W0 = (w.alloc (.cells #[.bool false, .slice none 0 0, .bool false, .slice none 0 0] 26)) := ⟨_, rfl⟩
  have hB0 : Below w.heap.size w W0 := by rw [hW0]; exact (Below.refl _ _).alloc (Nat.le_refl _) _
  have hz0 : W0.heap.size = w.heap.size + 1 := by rw [hW0]; simp
  have HT : Hid (∀ w', Below W0.heap.size W0 w' → (w'.cell? ⟨w.heap.size, 0, none⟩ = some (.bool false) ∧ w'.cell? ⟨w.heap.size, 1, none⟩ = some (.slice none 0 0) ∧ w'.cell? ⟨w.heap.size, 2, none⟩ = some (.bool false) ∧ w'.cell? ⟨w.heap.size, 3, none⟩ = some (.slice none 0 0)) ∧ (w'.frozen? ⟨w.heap.size, 0, none⟩ = false ∧ w'.frozen? ⟨w.heap.size, 1, none⟩ = false ∧ w'.frozen? ⟨w.heap.size, 2, none⟩ = false ∧ w'.frozen? ⟨w.heap.size, 3, none⟩ = false)) := hid (fun w' hb => by
    refine ⟨⟨?_, ?_, ?_, ?_⟩, ?_, ?_, ?_, ?_⟩ <;> (first | (rw [hb.cell (by rw [hz0]; simp), hW0]; simp [go_sem]; done) | (rw [hb.frozen (by rw [hz0]; simp), hW0]; simp [go_sem]; done)))
  have HB0 := hid hB0; have Hz0 := hid hz0; have HW := hid hW0
  clear hW0 hB0 hz0
  go_enter Tryz.func84, Tryz.ntmps84
  go_upto_region 1 with (fail)
  rw [← HW.out]
  go_wp2_with fail
  refine (of_any n W0 n0 n1).mono ?_
  rintro e w1 ⟨v1, rfl, hv1, hb1⟩
  go_wp2_with fail
  refine (of_any d w1 d0 d1).mono ?_
  rintro e w2 ⟨v2, rfl, hv2, hb2⟩
  have hX2 : Below W0.heap.size W0 w2 := hb1.trans (hb2.mono hb1.size)
  go_wp2_with fail
  refine (Make_any v1 v2 n d 2 w2 (hv1.ai.below hb2 (Nat.le_refl _)) hv2.ai hd (by decide)).mono ?_
  rintro e w6 ⟨_, rfl, hv6, hb6⟩
  obtain ⟨z1, o6, m6, c6, z2, o7, m7, c7, rfl, H6, H7⟩ := FrR.opened hv6
  have hX6 : Below W0.heap.size W0 w6 := hX2.trans (hb6.mono hX2.size)
  obtain ⟨⟨hr0, hr1, hr2, hr3⟩, hf0, hf1, hf2, hf3⟩ := HT.out _ hX6
  clear hv6
  go_wp2
  have hz0 := Hz0.out; have hs5 := hX2.size
  have hw6 : Below w.heap.size w w6 := HB0.out.trans (hX6.mono (by omega))
  have hlt : w.heap.size < w2.heap.size := by omega
  refine bodyPost_ret (v := .tuple #[.agg #[.bool z1, .slice o6 m6 c6, .bool z2, .slice o7 m7 c7], .int .i64 0]) (by simp [results, Tryz.results84, go_sem, hr0, hr1, hr2, hr3]) rfl ⟨_, rfl, ?_, (((hw6.setCell (by simp) _).setCell (by simp) _).setCell (by simp) _).setCell (by simp) _⟩
  refine ⟨_, _, _, _, rfl, ?_, ?_⟩
  · exact ((((H6.out.set hlt _).set hlt _).set hlt _).set hlt _).base (by omega)
  · exact ((((H7.out.set hlt _).set hlt _).set hlt _).set hlt _).base (by omega)

set_option maxRecDepth 100000 in
set_option maxHeartbeats 1000000 in
theorem Over_zero (n : Int) (w : World) (n0 : -9223372036854775808 ≤ n) (n1 : n < 9223372036854775808) :
    Calls Tryz.prog 84 #[.int .i64 n, .int .i64 0] w fun e w' => e = .returned (.tuple #[.agg #[.bool false, .slice none 0 0, .bool false, .slice none 0 0], .int .i64 10]) ∧ Below w.heap.size w w' := by
  obtain ⟨W0, hW0⟩ : ∃ W0, W0 = (w.alloc (.cells #[.bool false, .slice none 0 0, .bool false, .slice none 0 0] 26)) := ⟨_, rfl⟩
  have hB0 : Below w.heap.size w W0 := by rw [hW0]; exact (Below.refl _ _).alloc (Nat.le_refl _) _
  have hz0 : W0.heap.size = w.heap.size + 1 := by rw [hW0]; simp
  have HT : Hid (∀ w', Below W0.heap.size W0 w' → (w'.cell? ⟨w.heap.size, 0, none⟩ = some (.bool false) ∧ w'.cell? ⟨w.heap.size, 1, none⟩ = some (.slice none 0 0) ∧ w'.cell? ⟨w.heap.size, 2, none⟩ = some (.bool false) ∧ w'.cell? ⟨w.heap.size, 3, none⟩ = some (.slice none 0 0)) ∧ (w'.frozen? ⟨w.heap.size, 0, none⟩ = false ∧ w'.frozen? ⟨w.heap.size, 1, none⟩ = false ∧ w'.frozen? ⟨w.heap.size, 2, none⟩ = false ∧ w'.frozen? ⟨w.heap.size, 3, none⟩ = false)) := hid (fun w' hb => by
    refine ⟨⟨?_, ?_, ?_, ?_⟩, ?_, ?_, ?_, ?_⟩ <;> (first | (rw [hb.cell (by rw [hz0]; simp), hW0]; simp [go_sem]; done) | (rw [hb.frozen (by rw [hz0]; simp), hW0]; simp [go_sem]; done)))
  have HB0 := hid hB0; have Hz0 := hid hz0; have HW := hid hW0
  clear hW0 hB0 hz0
  go_enter Tryz.func84, Tryz.ntmps84
  go_upto_region 1 with (fail)
  rw [← HW.out]
  go_wp2_with fail
  refine (of_any n W0 n0 n1).mono ?_
  rintro e w1 ⟨v1, rfl, hv1, hb1⟩
  go_wp2_with fail
  refine (of_any 0 w1 (by decide) (by decide)).mono ?_
  rintro e w2 ⟨v2, rfl, hv2, hb2⟩
  have hX2 : Below W0.heap.size W0 w2 := hb1.trans (hb2.mono hb1.size)
  go_wp2_with fail
  refine (Make_zero v1 v2 n 2 w2 (hv1.ai.below hb2 (Nat.le_refl _)) hv2.ai (by decide)).mono ?_
  rintro e w6 ⟨rfl, hb6⟩
  have hX6 : Below W0.heap.size W0 w6 := hX2.trans (hb6.mono hX2.size)
  obtain ⟨⟨hr0, hr1, hr2, hr3⟩, hf0, hf1, hf2, hf3⟩ := HT.out _ hX6
  go_wp2
  have hw6 : Below w.heap.size w w6 := HB0.out.trans (hX6.mono (by have := Hz0.out; omega))
  exact bodyPost_ret (v := .tuple #[.agg #[.bool false, .slice none 0 0, .bool false, .slice none 0 0], .int .i64 10]) (by simp [results, Tryz.results84, go_sem, hr0, hr1, hr2, hr3]) rfl ⟨rfl, (((hw6.setCell (by simp) _).setCell (by simp) _).setCell (by simp) _).setCell (by simp) _⟩
end Go.Proofs.YtilpkocmdpofpaaGreatDoor
