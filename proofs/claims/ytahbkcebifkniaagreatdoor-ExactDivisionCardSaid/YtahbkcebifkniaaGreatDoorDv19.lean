/- Contracts of Div, Gcd and Of in one form; the numbers of the law ExactDivision. A region that draws its order and holds up to six loads and calls, up to two boxes for structs of a bool and a slice, and their stores: what holds between two of its operations. -/
import Derived.Test.YtahbkcebifkniaaGreatDoorDv18
import Derived.Test.YtahbkcebifkniaaGreatDoorDv17
import Derived.Test.YtahbkcebifkniaaGreatDoorDv11
import Derived.Test.YtahbkcebifkniaaGreatDoorDv16
/- Contracts of Div, Gcd and Of in one form; the numbers of the law ExactDivision. -/
namespace Go.Proofs.YtahbkcebifkniaaGreatDoor
open Go.RowKit

theorem bl_alloc {a w : World} (h : Below a.heap.size a w) (o : Obj) : Below a.heap.size a (w.alloc o) := h.alloc h.size o
theorem bl_drew {a w : World} (h : Below a.heap.size a w) : Below a.heap.size a w.drew := h.drew
theorem bl_trans {a b c : World} (h : Below a.heap.size a b) (k : Below b.heap.size b c) : Below a.heap.size a c := h.trans (k.mono h.size)

/-- The call hands back two integers, open, and an error. -/
def RetZZI (w : World) (q r err : Int) (Rq Rr : Nat) (e : Ending) (w' : World) : Prop := ∃ b o m c b2 o2 m2 c2, e = .returned (.tuple #[.agg #[.bool b, .slice o m c], .agg #[.bool b2, .slice o2 m2 c2], .int .i64 err]) ∧ Hid (Ai w' (.agg #[.bool b, .slice o m c]) q Rq) ∧ Hid (Ai w' (.agg #[.bool b2, .slice o2 m2 c2]) r Rr) ∧ Below w.heap.size w w'
theorem div_z (u v : Value) (x y q r : Int) (K R : Nat) (w : World) (hu : Ai w u x K) (hv : Ai w v y K) (hy : y ≠ 0) (hq : x.fdiv y = q) (hr : x.fmod y = r) (hK : K ≤ 1000) (hR : K + 5 ≤ R) : Calls Tryz.prog 14 #[u, v] w (RetZZI w q r 0 R R) := by
  subst hq; subst hr
  refine (Div_any u v x y K w hu hv hy (by omega)).mono ?_
  rintro e w' ⟨v1, v2, rfl, h1, h2, hb⟩
  obtain ⟨b, o, m, c, rfl, H1⟩ := FrA.opened h1
  obtain ⟨b2, o2, m2, c2, rfl, H2⟩ := FrA.opened h2
  exact ⟨b, o, m, c, b2, o2, m2, c2, rfl, hid (H1.out.ai.mono (by omega)), hid (H2.out.ai.mono (by omega)), hb⟩
theorem ai_nil (w : World) (K : Nat) : Ai w (.agg #[.bool false, .slice none 0 0]) 0 K := ⟨false, none, 0, [], rfl, Rd.nil _ _, fun _ h => (nomatch h), Nat.zero_le _, rfl⟩
theorem div_z0 (u v : Value) (x : Int) (K R : Nat) (w : World) (hu : Ai w u x K) (hv : Ai w v 0 K) (hK : K ≤ 1000) : Calls Tryz.prog 14 #[u, v] w (RetZZI w 0 0 10 R R) := by
  refine (Div_zero u v x K w hu hv (by omega)).mono ?_
  rintro e w' ⟨rfl, hb⟩
  exact ⟨_, _, _, _, _, _, _, _, rfl, hid (ai_nil _ _), hid (ai_nil _ _), hb⟩
theorem gcd_z (u v : Value) (x y z : Int) (K R : Nat) (w : World) (hu : Ai w u x K) (hv : Ai w v y K) (hz : (Int.gcd x y : Int) = z) (hK : K ≤ 1000) (hR : K + 1 ≤ R) : Calls Tryz.prog 16 #[u, v] w (RetZI w z R) := by
  subst hz
  exact (Gcd_any u v x y K w hu hv (by omega)).mono fun e w' h => h.zi (by omega)
theorem of_z (t : Int) (w : World) (h0 : -1 ≤ t) (h1 : t ≤ 1) : Calls Tryz.prog 15 #[.int .i64 t] w (RetZI w t 2) :=
  (of_any t w (by omega) (by omega)).mono fun e w' h => h.zi (Nat.le_refl _)

theorem fmod_pos {x y : Int} (h : 0 < y) : 0 ≤ x.fmod y ∧ x.fmod y < y := by
  rw [Int.fmod_eq_emod_of_nonneg x (by omega)]
  exact ⟨Int.emod_nonneg _ (by omega), Int.emod_lt_of_pos _ h⟩
theorem fmod_neg' {x y : Int} (h : y < 0) : x.fmod y ≤ 0 ∧ y < x.fmod y := by
  have e := Int.neg_fmod_neg x y
  have := fmod_pos (x := -x) (y := -y) (by omega)
  omega

/-- The numbers of the law where the divisor is not 0. -/
structure DivN (x y z q r s t4 X Y g : Int) : Prop where
  dq : x.fdiv y = q
  dr : x.fmod y = r
  s0 : cmpI y 0 = s
  s1 : -1 ≤ s
  s2 : s ≤ 1
  back : q * y + r = x
  rs : cmpI (r * s) 0 = t4
  t0 : 0 ≤ t4
  lt : cmpI (r * s) (y * s) = -1
  X0 : x * z = X
  Y0 : y * z = Y
  g0 : (Int.gcd X Y : Int) = g
theorem divN (x y z : Int) (hy : y ≠ 0) : ∃ q r s t4 X Y g, DivN x y z q r s t4 X Y g := by
  refine ⟨x.fdiv y, x.fmod y, cmpI y 0, cmpI (x.fmod y * cmpI y 0) 0, x * z, y * z, _, rfl, rfl, rfl, (cmpI_bd y 0).1, (cmpI_bd y 0).2, ?_, rfl, ?_, ?_, rfl, rfl, rfl⟩
  · have := Int.mul_fdiv_add_fmod x y
    rw [Int.mul_comm] at this
    exact this
  · rcases Int.lt_or_lt_of_ne hy with h | h
    · have h1 := (fmod_neg' (x := x) h).1
      rw [cmp_lt' h]
      have h2 : 0 ≤ x.fmod y * -1 := by omega
      rcases Int.lt_or_eq_of_le h2 with h3 | h3
      · rw [cmp_gt' h3]; decide
      · rw [← h3, cmp_eq']; decide
    · have h1 := (fmod_pos (x := x) h).1
      rw [cmp_gt' h]
      have h2 : 0 ≤ x.fmod y * 1 := by omega
      rcases Int.lt_or_eq_of_le h2 with h3 | h3
      · rw [cmp_gt' h3]; decide
      · rw [← h3, cmp_eq']; decide
  · rcases Int.lt_or_lt_of_ne hy with h | h
    · have h1 := (fmod_neg' (x := x) h).2
      rw [cmp_lt' h]
      exact cmp_lt' (by omega)
    · have h1 := (fmod_pos (x := x) h).2
      rw [cmp_gt' h]
      exact cmp_lt' (by omega)
end Go.Proofs.YtahbkcebifkniaaGreatDoor

/- A region that draws its order and holds up to six loads and calls, up to two boxes for structs of a bool and a slice, and their stores: what holds between two of its operations. -/
namespace Go.Proofs.YtahbkcebifkniaaGreatDoor
open Go.RowKit

theorem ai_keeps {w w' : World} {v : Value} {z : Int} {K : Nat} (hk : Keeps .u32 w w') (h : Ai w v z K) : Ai w' v z K := by
  obtain ⟨neg, ao, c, W, rfl, h⟩ := h
  exact ⟨neg, ao, c, W, rfl, h.rd.keeps hk, h.dig, h.le, h.eq⟩
/-- A value that is an integer. -/
def Zi (z : Int) (R : Nat) (w : World) (v : Value) : Prop := ∃ b o m c, v = .agg #[.bool b, .slice o m c] ∧ Ai w v z R
def Vc (u : Value) (_ : World) (v : Value) : Prop := v = u
def Vt (_ : World) (_ : Value) : Prop := True
theorem zi_keep (z : Int) (R : Nat) : KeepG .u32 (Zi z R) := fun _ _ _ hk ⟨b, o, m, c, e, h⟩ => ⟨b, o, m, c, e, ai_keeps hk h⟩
theorem vc_keep (u : Value) : KeepG .u32 (Vc u) := fun _ _ _ _ h => h
theorem vt_keep : KeepG .u32 Vt := fun _ _ _ _ h => h

/-- s points to a box that holds an integer. -/
def NewBox (w : World) (s : Value) (z : Int) (R : Nat) : Prop := ∃ p b o m c, s = .pointer (some ⟨p, 0, none⟩) ∧ w.cell? ⟨p, 0, none⟩ = some (.bool b) ∧ w.cell? ⟨p, 1, none⟩ = some (.slice o m c) ∧ Ai w (.agg #[.bool b, .slice o m c]) z R

structure BJ (B : Nat) (W0 : World) (G0 G1 G2 G3 G4 G5 : World → Value → Prop) (b0 b1 b2 b3 b4 b5 : Bool) (s0 s1 s2 s3 s4 s5 : Value) (p1 q1 : Bool) (t1 x1 : Value) (p2 q2 : Bool) (t2 x2 : Value) (w : World) : Prop where
  bel : Below B W0 w
  siz : B ≤ w.heap.size
  v0 : b0 = true → G0 w s0
  v1 : b1 = true → G1 w s1
  v2 : b2 = true → G2 w s2
  v3 : b3 = true → G3 w s3
  v4 : b4 = true → G4 w s4
  v5 : b5 = true → G5 w s5
  a1 : p1 = true → PtrAt .u32 B w t1 q1 x1
  a2 : p2 = true → PtrAt .u32 B w t2 q2 x2
  ne : p1 = true → p2 = true → t1 ≠ t2
structure KG (G0 G1 G2 G3 G4 G5 : World → Value → Prop) : Prop where
  k0 : KeepG .u32 G0
  k1 : KeepG .u32 G1
  k2 : KeepG .u32 G2
  k3 : KeepG .u32 G3
  k4 : KeepG .u32 G4
  k5 : KeepG .u32 G5

section
variable {B : Nat} {W0 : World} {G0 G1 G2 G3 G4 G5 : World → Value → Prop} {b0 b1 b2 b3 b4 b5 : Bool} {s0 s1 s2 s3 s4 s5 : Value} {p1 q1 : Bool} {t1 x1 : Value} {p2 q2 : Bool} {t2 x2 : Value} {w w' : World}
theorem BJ.start (h : Below B W0 w) (hs : B ≤ w.heap.size) : BJ B W0 G0 G1 G2 G3 G4 G5 false false false false false false s0 s1 s2 s3 s4 s5 false false t1 x1 false false t2 x2 w :=
  ⟨h, hs, nofun, nofun, nofun, nofun, nofun, nofun, nofun, nofun, nofun⟩
theorem BJ.step (h : BJ B W0 G0 G1 G2 G3 G4 G5 b0 b1 b2 b3 b4 b5 s0 s1 s2 s3 s4 s5 p1 q1 t1 x1 p2 q2 t2 x2 w) (k : KG G0 G1 G2 G3 G4 G5) (hb : Below w.heap.size w w') : BJ B W0 G0 G1 G2 G3 G4 G5 b0 b1 b2 b3 b4 b5 s0 s1 s2 s3 s4 s5 p1 q1 t1 x1 p2 q2 t2 x2 w' := by
  have hk : Keeps .u32 w w' := Keeps.below hb (Nat.le_refl _)
  exact ⟨h.bel.trans (hb.mono h.siz), Nat.le_trans h.siz hb.size, fun e => k.k0 _ _ _ hk (h.v0 e), fun e => k.k1 _ _ _ hk (h.v1 e), fun e => k.k2 _ _ _ hk (h.v2 e), fun e => k.k3 _ _ _ hk (h.v3 e), fun e => k.k4 _ _ _ hk (h.v4 e), fun e => k.k5 _ _ _ hk (h.v5 e), fun e => (h.a1 e).below hb, fun e => (h.a2 e).below hb, h.ne⟩
theorem BJ.alloc1 (h : BJ B W0 G0 G1 G2 G3 G4 G5 b0 b1 b2 b3 b4 b5 s0 s1 s2 s3 s4 s5 p1 false t1 x1 p2 q2 t2 x2 w) (k : KG G0 G1 G2 G3 G4 G5) (T : TypeId) :
    BJ B W0 G0 G1 G2 G3 G4 G5 b0 b1 b2 b3 b4 b5 s0 s1 s2 s3 s4 s5 true false (.pointer (some ⟨w.heap.size, 0, none⟩)) x1 p2 q2 t2 x2 (w.alloc (.cells #[.bool false, .slice none 0 0] T)) := by
  have J := h.step k ((Below.refl w.heap.size w).alloc (Nat.le_refl _) (.cells #[.bool false, .slice none 0 0] T))
  exact ⟨J.bel, J.siz, J.v0, J.v1, J.v2, J.v3, J.v4, J.v5, fun _ => ptr_new .u32 B w T _ h.siz, J.a2, fun _ e => (ptr_ne_new (h.a2 e)).symm⟩
theorem BJ.alloc2 (h : BJ B W0 G0 G1 G2 G3 G4 G5 b0 b1 b2 b3 b4 b5 s0 s1 s2 s3 s4 s5 p1 q1 t1 x1 p2 false t2 x2 w) (k : KG G0 G1 G2 G3 G4 G5) (T : TypeId) :
    BJ B W0 G0 G1 G2 G3 G4 G5 b0 b1 b2 b3 b4 b5 s0 s1 s2 s3 s4 s5 p1 q1 t1 x1 true false (.pointer (some ⟨w.heap.size, 0, none⟩)) x2 (w.alloc (.cells #[.bool false, .slice none 0 0] T)) := by
  have J := h.step k ((Below.refl w.heap.size w).alloc (Nat.le_refl _) (.cells #[.bool false, .slice none 0 0] T))
  exact ⟨J.bel, J.siz, J.v0, J.v1, J.v2, J.v3, J.v4, J.v5, J.a1, fun _ => ptr_new .u32 B w T _ h.siz, fun e _ => ptr_ne_new (h.a1 e)⟩
theorem BJ.store1 {p : Nat} {u0 u1 : Value} (h : BJ B W0 G0 G1 G2 G3 G4 G5 b0 b1 b2 b3 b4 b5 s0 s1 s2 s3 s4 s5 true q1 (.pointer (some ⟨p, 0, none⟩)) (.agg #[u0, u1]) p2 q2 t2 x2 w) (k : KG G0 G1 G2 G3 G4 G5) (m0 : ∀ x, u0 ≠ .int .u32 x) (m1 : ∀ x, u1 ≠ .int .u32 x) :
    BJ B W0 G0 G1 G2 G3 G4 G5 b0 b1 b2 b3 b4 b5 s0 s1 s2 s3 s4 s5 true true (.pointer (some ⟨p, 0, none⟩)) (.agg #[u0, u1]) p2 q2 t2 x2 ((w.setCell ⟨p, 0, none⟩ u0).setCell ⟨p, 1, none⟩ u1) := by
  obtain ⟨p', v0, v1, e, hp, c0, c1, f0, f1, n0, n1, _⟩ := h.a1 rfl
  cases e
  have hk := keeps_two c0 c1 n0 n1 u0 u1
  have ht := two_cells c0 c1 u0 u1
  exact ⟨(h.bel.setCell hp _).setCell hp _, by simpa using h.siz, fun e => k.k0 _ _ _ hk (h.v0 e), fun e => k.k1 _ _ _ hk (h.v1 e), fun e => k.k2 _ _ _ hk (h.v2 e), fun e => k.k3 _ _ _ hk (h.v3 e), fun e => k.k4 _ _ _ hk (h.v4 e), fun e => k.k5 _ _ _ hk (h.v5 e), fun _ => ⟨p, u0, u1, rfl, hp, ht.1, ht.2, by simpa using f0, by simpa using f1, m0, m1, fun _ => rfl⟩, fun e => (h.a2 e).other (h.ne rfl e).symm _ _, h.ne⟩
theorem BJ.store2 {p : Nat} {u0 u1 : Value} (h : BJ B W0 G0 G1 G2 G3 G4 G5 b0 b1 b2 b3 b4 b5 s0 s1 s2 s3 s4 s5 p1 q1 t1 x1 true q2 (.pointer (some ⟨p, 0, none⟩)) (.agg #[u0, u1]) w) (k : KG G0 G1 G2 G3 G4 G5) (m0 : ∀ x, u0 ≠ .int .u32 x) (m1 : ∀ x, u1 ≠ .int .u32 x) :
    BJ B W0 G0 G1 G2 G3 G4 G5 b0 b1 b2 b3 b4 b5 s0 s1 s2 s3 s4 s5 p1 q1 t1 x1 true true (.pointer (some ⟨p, 0, none⟩)) (.agg #[u0, u1]) ((w.setCell ⟨p, 0, none⟩ u0).setCell ⟨p, 1, none⟩ u1) := by
  obtain ⟨p', v0, v1, e, hp, c0, c1, f0, f1, n0, n1, _⟩ := h.a2 rfl
  cases e
  have hk := keeps_two c0 c1 n0 n1 u0 u1
  have ht := two_cells c0 c1 u0 u1
  exact ⟨(h.bel.setCell hp _).setCell hp _, by simpa using h.siz, fun e => k.k0 _ _ _ hk (h.v0 e), fun e => k.k1 _ _ _ hk (h.v1 e), fun e => k.k2 _ _ _ hk (h.v2 e), fun e => k.k3 _ _ _ hk (h.v3 e), fun e => k.k4 _ _ _ hk (h.v4 e), fun e => k.k5 _ _ _ hk (h.v5 e), fun e => (h.a1 e).other (h.ne e rfl) _ _, fun _ => ⟨p, u0, u1, rfl, hp, ht.1, ht.2, by simpa using f0, by simpa using f1, m0, m1, fun _ => rfl⟩, h.ne⟩
end
/-- Div by a divisor of the number, or by 0: the rest is 0. -/
theorem div_c (u v : Value) (t g : Int) (K R : Nat) (w : World) (hu : Ai w u t K) (hv : Ai w v g K) (hd : g ∣ t) (hK : K ≤ 1000) (hR : K + 5 ≤ R) : Calls Tryz.prog 14 #[u, v] w fun e w' => ∃ q err, RetZZI w q 0 err R R e w' := by
  by_cases hg : g = 0
  · subst hg
    exact (div_z0 u v t K R w hu hv hK).mono fun e w' h => ⟨_, _, h⟩
  · exact (div_z u v t g _ 0 K R w hu hv hg rfl (Int.fmod_eq_zero_of_dvd hd) hK hR).mono fun e w' h => ⟨_, _, h⟩
end Go.Proofs.YtahbkcebifkniaaGreatDoor
