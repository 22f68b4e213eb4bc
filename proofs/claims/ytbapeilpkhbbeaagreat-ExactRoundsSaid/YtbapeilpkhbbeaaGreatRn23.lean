/- The region 'q, r := f(g(x), y)' of two structs (a bool and a slice) whose addresses are taken. Written by gen_ediv.py. A region that draws its order and holds up to twelve values and one box for a struct of a bool and a slice: what holds between two of its operations. Written by gen_boxk.py. (exact.fraction).plus where the denominators differ. Written by gen_fplus.py. exact.Plus, exact.Minus at any two ratios: a ratio of the right value. The contracts of the ratios' operations by values: Plus, Minus, Times, Signum. exact.Cmp. Written by gen_cmp.py. The contracts of the integers' operations in one form, for the outright laws; equal of the laws. Small lemmas of ratios in lowest terms. A value has one fraction in lowest terms. hodoscoperef01.long: the quotient and the rest of two naturals, bit by bit. -/
import Derived.Test.YtbapeilpkhbbeaaGreatRn22
import Derived.Test.YtbapeilpkhbbeaaGreatRn14
import Derived.Deep.DeepCutAuto
import Derived.Test.YtbapeilpkhbbeaaGreatRn21
import Derived.Test.YtbapeilpkhbbeaaGreatRn13
import Derived.Test.YtbapeilpkhbbeaaGreatRn05
import Derived.Test.YtbapeilpkhbbeaaGreatRn20
import Derived.Test.YtbapeilpkhbbeaaGreatRn17
/- The region 'q, r := f(g(x), y)' of two structs (a bool and a slice) whose addresses are taken. Written by gen_ediv.py. -/
namespace Go.Proofs.YtbapeilpkhbbeaaGreat
open Go.RowKit

structure QuoJ (k : IntKind) (B : Nat) (W0 : World) (vx vy : Value) (G1 Gq Gr : World → Value → Prop) (b0 b1 b2 b3 b4 b5 b6 b7 b8 b9 b10 : Bool) (s8 s9 s17 s18 s19 s20 s21 s22 s23 : Value) (w : World) : Prop where
  bel : Below B W0 w
  siz : B ≤ w.heap.size
  l0 : b0 = true → s18 = vx
  c1 : b1 = true → G1 w s19
  l2 : b2 = true → s20 = vy
  c3 : b3 = true → ∃ u v, s21 = .tuple #[u, v] ∧ Gq w u ∧ Gr w v
  m4 : b4 = true → ∃ u v, s17 = .tuple #[u, v] ∧ Gq w u ∧ Gr w v
  e5 : b5 = true → Gq w s22
  e6 : b6 = true → Gr w s23
  p7 : b7 = true → PtrAt k B w s8 b9 s22
  p8 : b8 = true → PtrAt k B w s9 b10 s23
  ne : b7 = true → b8 = true → s8 ≠ s9

section
variable {k : IntKind} {B : Nat} {W0 : World} {vx vy : Value} {G1 Gq Gr : World → Value → Prop} {b0 b1 b2 b3 b4 b5 b6 b7 b8 b9 b10 : Bool} {s8 s9 s17 s18 s19 s20 s21 s22 s23 : Value} {w w' : World}
theorem QuoJ.start (h : Below B W0 w) (hs : B ≤ w.heap.size) : QuoJ k B W0 vx vy G1 Gq Gr false false false false false false false false false false false s8 s9 s17 s18 s19 s20 s21 s22 s23 w :=
  ⟨h, hs, nofun, nofun, nofun, nofun, nofun, nofun, nofun, nofun, nofun, nofun⟩
def KeepG (k : IntKind) (G : World → Value → Prop) : Prop := ∀ w w' v, Keeps k w w' → G w v → G w' v
end
/-- The blocks from lo to below B hold what they held. -/
structure Kq (B lo : Nat) (w w' : World) : Prop where
  cell : ∀ a : Addr, lo ≤ a.block → a.block < B → w'.cell? a = w.cell? a
theorem Kq.of_below {B lo : Nat} {w w' : World} (h : Below B w w') : Kq B lo w w' := ⟨fun _ _ ha => h.cell ha⟩
theorem Kq.set {B lo : Nat} {w w' : World} (h : Kq B lo w w') {a : Addr} (ha : a.block < lo) (u : Value) : Kq B lo w (w'.setCell a u) :=
  ⟨fun b hb hB => (World.cell?_setCell_other w' a b u (by rintro rfl; omega)).trans (h.cell b hb hB)⟩
end Go.Proofs.YtbapeilpkhbbeaaGreat

/- A region that draws its order and holds up to twelve values and one box for a struct of a bool and a slice: what holds between two of its operations. Written by gen_boxk.py. -/
namespace Go.Proofs.YtbapeilpkhbbeaaGreat
open Go.RowKit

def Kc (u : Value) (_ : World) (v : Value) : Prop := v = u
structure BK (B : Nat) (W0 : World) (G0 G1 G2 G3 G4 G5 G6 G7 G8 G9 G10 G11 : World → Value → Prop) (b0 b1 b2 b3 b4 b5 b6 b7 b8 b9 b10 b11 : Bool) (s0 s1 s2 s3 s4 s5 s6 s7 s8 s9 s10 s11 : Value) (p1 q1 : Bool) (t1 x1 : Value) (w : World) : Prop where
  bel : Below B W0 w
  siz : B ≤ w.heap.size
  v0 : b0 = true → G0 w s0
  v1 : b1 = true → G1 w s1
  v2 : b2 = true → G2 w s2
  v3 : b3 = true → G3 w s3
  v4 : b4 = true → G4 w s4
  v5 : b5 = true → G5 w s5
  v6 : b6 = true → G6 w s6
  v7 : b7 = true → G7 w s7
  v8 : b8 = true → G8 w s8
  v9 : b9 = true → G9 w s9
  v10 : b10 = true → G10 w s10
  v11 : b11 = true → G11 w s11
  a1 : p1 = true → PtrAt .u64 B w t1 q1 x1
structure KK (G0 G1 G2 G3 G4 G5 G6 G7 G8 G9 G10 G11 : World → Value → Prop) : Prop where
  k0 : KeepG .u64 G0
  k1 : KeepG .u64 G1
  k2 : KeepG .u64 G2
  k3 : KeepG .u64 G3
  k4 : KeepG .u64 G4
  k5 : KeepG .u64 G5
  k6 : KeepG .u64 G6
  k7 : KeepG .u64 G7
  k8 : KeepG .u64 G8
  k9 : KeepG .u64 G9
  k10 : KeepG .u64 G10
  k11 : KeepG .u64 G11

section
variable {B : Nat} {W0 : World} {G0 G1 G2 G3 G4 G5 G6 G7 G8 G9 G10 G11 : World → Value → Prop} {b0 b1 b2 b3 b4 b5 b6 b7 b8 b9 b10 b11 : Bool} {s0 s1 s2 s3 s4 s5 s6 s7 s8 s9 s10 s11 : Value} {p1 q1 : Bool} {t1 x1 : Value} {w w' : World}
theorem BK.start (h : Below B W0 w) (hs : B ≤ w.heap.size) : BK B W0 G0 G1 G2 G3 G4 G5 G6 G7 G8 G9 G10 G11 false false false false false false false false false false false false s0 s1 s2 s3 s4 s5 s6 s7 s8 s9 s10 s11 false false t1 x1 w :=
  ⟨h, hs, nofun, nofun, nofun, nofun, nofun, nofun, nofun, nofun, nofun, nofun, nofun, nofun, nofun⟩
theorem BK.step (h : BK B W0 G0 G1 G2 G3 G4 G5 G6 G7 G8 G9 G10 G11 b0 b1 b2 b3 b4 b5 b6 b7 b8 b9 b10 b11 s0 s1 s2 s3 s4 s5 s6 s7 s8 s9 s10 s11 p1 q1 t1 x1 w) (k : KK G0 G1 G2 G3 G4 G5 G6 G7 G8 G9 G10 G11) (hb : Below w.heap.size w w') : BK B W0 G0 G1 G2 G3 G4 G5 G6 G7 G8 G9 G10 G11 b0 b1 b2 b3 b4 b5 b6 b7 b8 b9 b10 b11 s0 s1 s2 s3 s4 s5 s6 s7 s8 s9 s10 s11 p1 q1 t1 x1 w' := by
  have hk : Keeps .u64 w w' := Keeps.below hb (Nat.le_refl _)
  exact ⟨h.bel.trans (hb.mono h.siz), Nat.le_trans h.siz hb.size, fun e => k.k0 _ _ _ hk (h.v0 e), fun e => k.k1 _ _ _ hk (h.v1 e), fun e => k.k2 _ _ _ hk (h.v2 e), fun e => k.k3 _ _ _ hk (h.v3 e), fun e => k.k4 _ _ _ hk (h.v4 e), fun e => k.k5 _ _ _ hk (h.v5 e), fun e => k.k6 _ _ _ hk (h.v6 e), fun e => k.k7 _ _ _ hk (h.v7 e), fun e => k.k8 _ _ _ hk (h.v8 e), fun e => k.k9 _ _ _ hk (h.v9 e), fun e => k.k10 _ _ _ hk (h.v10 e), fun e => k.k11 _ _ _ hk (h.v11 e), fun e => (h.a1 e).below hb⟩
end
end Go.Proofs.YtbapeilpkhbbeaaGreat

/- (exact.fraction).plus where the denominators differ. Written by gen_fplus.py. -/
namespace Go.Proofs.YtbapeilpkhbbeaaGreat
open Go.RowKit

theorem bl_tr {a b c : World} (h : Below a.heap.size a b) (k : Below b.heap.size b c) : Below a.heap.size a c := h.trans (k.mono h.size)

end Go.Proofs.YtbapeilpkhbbeaaGreat

/- exact.Plus, exact.Minus at any two ratios: a ratio of the right value. -/
namespace Go.Proofs.YtbapeilpkhbbeaaGreat
open Go.RowKit

theorem rn_pos {y : Int} (x : Int) (hy : 0 < y) : rn x y = x ∧ rd y = y := by
  unfold rn rd
  rw [if_neg (by omega), if_neg (by omega), decide_eq_false (show ¬ y < 0 by omega)]
  refine ⟨?_, by omega⟩
  by_cases hx : x < 0
  · rw [decide_eq_true hx]
    show sgn true _ = x
    unfold sgn
    simp
    omega
  · rw [decide_eq_false hx]
    show sgn false _ = x
    unfold sgn
    simp
    omega
theorem low_val (z : Int) {d : Int} (hd : 0 < d) : lowN z d * d = z * lowD z d ∧ 0 < lowD z d := by
  have hg : (0 : Int) < (Int.gcd (z.natAbs : Int) d : Int) := by
    have : Int.gcd (z.natAbs : Int) d ≠ 0 := fun h => by have := (Int.gcd_eq_zero_iff.1 h).2; omega
    omega
  unfold lowN lowD
  obtain ⟨g, eg⟩ : ∃ g, g = (Int.gcd (z.natAbs : Int) d : Int) := ⟨_, rfl⟩
  have e1 : (z.natAbs : Int) / g * g = (z.natAbs : Int) := Int.ediv_mul_cancel (by rw [eg]; exact Int.gcd_dvd_left _ _)
  have e2 : d / g * g = d := Int.ediv_mul_cancel (by rw [eg]; exact Int.gcd_dvd_right _ _)
  rw [← eg] at hg ⊢
  obtain ⟨a, ea⟩ : ∃ a, a = (z.natAbs : Int) / g := ⟨_, rfl⟩
  obtain ⟨b, eb⟩ : ∃ b, b = d / g := ⟨_, rfl⟩
  rw [← ea] at e1 ⊢
  rw [← eb] at e2 ⊢
  have hb : 0 < b := by
    rcases Int.lt_or_le 0 b with h | h
    · exact h
    · exfalso
      have := Int.mul_nonneg (show 0 ≤ -b by omega) (Int.le_of_lt hg)
      rw [Int.neg_mul, e2] at this
      omega
  refine ⟨?_, hb⟩
  by_cases hz : z < 0
  · rw [decide_eq_true hz]
    have ez : z = -(a * g) := by omega
    have es : sgn true a = -a := rfl
    rw [es, ez, ← e2, Int.neg_mul, Int.neg_mul, Int.mul_comm b g, Int.mul_assoc]
  · rw [decide_eq_false hz]
    have ez : z = a * g := by omega
    have es : sgn false a = a := rfl
    rw [es, ez, ← e2, Int.mul_comm b g, Int.mul_assoc]

/-- The value v is a ratio of the value n over d. -/
def Rv (w : World) (v : Value) (n d : Int) (K : Nat) : Prop := 0 < d ∧ ∃ x y, Ra w v x y K ∧ rn x y * d = n * rd y
theorem Rv.below {w w' : World} {v : Value} {n d : Int} {K B : Nat} (h : Rv w v n d K) (hb : Below B w w') (hB : w.heap.size ≤ B) : Rv w' v n d K := by
  obtain ⟨h0, x, y, h1, h2⟩ := h
  exact ⟨h0, x, y, h1.below hb hB, h2⟩
theorem val_cut {N L z d n e : Int} (hd : 0 < d) (h1 : N * d = z * L) (h2 : z * e = n * d) : N * e = n * L := by
  have h : (N * e) * d = (n * L) * d := by
    calc (N * e) * d = (N * d) * e := by rw [Int.mul_assoc, Int.mul_comm e d, ← Int.mul_assoc]
      _ = z * L * e := by rw [h1]
      _ = (z * e) * L := by rw [Int.mul_assoc, Int.mul_comm L e, ← Int.mul_assoc]
      _ = n * d * L := by rw [h2]
      _ = (n * L) * d := by rw [Int.mul_assoc, Int.mul_comm d L, ← Int.mul_assoc]
  exact Int.eq_of_mul_eq_mul_right (by omega) h
theorem FrR.rv {w0 w : World} {f : Value} {z d n e : Int} {K : Nat} (h : FrR w0 w f (lowN z d) (lowD z d) K) (hd : 0 < d) (he : 0 < e) (hv : z * e = n * d) : Rv w f n e K := by
  have hl := low_val z hd
  have hp := rn_pos (lowN z d) hl.2
  refine ⟨he, _, _, FrR.ra h, ?_⟩
  rw [hp.1, hp.2]
  exact val_cut hd hl.1 hv
end Go.Proofs.YtbapeilpkhbbeaaGreat

/- The contracts of the ratios' operations by values: Plus, Minus, Times, Signum. -/
namespace Go.Proofs.YtbapeilpkhbbeaaGreat
open Go.RowKit

theorem Rv.mono {w : World} {v : Value} {n d : Int} {K K' : Nat} (h : Rv w v n d K) (hK : K ≤ K') : Rv w v n d K' := by
  obtain ⟨h0, x, y, ⟨b1, o1, m1, c1, b2, o2, m2, c2, e, ⟨na, ao, ac, WA, ea, ha⟩, ⟨nb, bo, bc, WB, eb, hb⟩⟩, h2⟩ := h
  exact ⟨h0, x, y, ⟨b1, o1, m1, c1, b2, o2, m2, c2, e, ⟨na, ao, ac, WA, ea, ha.rd, ha.dig, Nat.le_trans ha.le hK, ha.eq⟩, ⟨nb, bo, bc, WB, eb, hb.rd, hb.dig, Nat.le_trans hb.le hK, hb.eq⟩⟩, h2⟩
theorem alg_times {r1 e1 d1 n1 r2 e2 d2 n2 : Int} (h1 : r1 * d1 = n1 * e1) (h2 : r2 * d2 = n2 * e2) : (r1 * r2) * (d1 * d2) = (n1 * n2) * (e1 * e2) := by grind

end Go.Proofs.YtbapeilpkhbbeaaGreat

/- exact.Cmp. Written by gen_cmp.py. -/
namespace Go.Proofs.YtbapeilpkhbbeaaGreat
open Go.RowKit

theorem It.keeps {z : Int} {K : Nat} (w w' : World) (v : Value) (hk : Keeps .u64 w w') (h : It w v z K) : It w' v z K := by
  obtain ⟨s, rfl, ao, c, L, rfl, h⟩ := h
  exact ⟨_, rfl, ao, c, L, rfl, h.rd.keeps hk, h.dig, h.nrm, h.eq, h.le⟩
end Go.Proofs.YtbapeilpkhbbeaaGreat

/- The contracts of the integers' operations in one form, for the outright laws; equal of the laws. -/
namespace Go.Proofs.YtbapeilpkhbbeaaGreat
open Go.RowKit

theorem Ai.mono {w : World} {v : Value} {z : Int} {K K' : Nat} (h : Ai w v z K) (hK : K ≤ K') : Ai w v z K' := by
  obtain ⟨neg, ao, c, W, rfl, h⟩ := h
  exact ⟨neg, ao, c, W, rfl, h.rd, h.dig, Nat.le_trans h.le hK, h.eq⟩

end Go.Proofs.YtbapeilpkhbbeaaGreat

/- Small lemmas of ratios in lowest terms. -/
namespace Go.Proofs.YtbapeilpkhbbeaaGreat
open Go.RowKit

theorem low_small (z : Int) {d : Int} (hd : 0 < d) : lowD z d ≤ d ∧ lowN z d * lowN z d ≤ z * z := by
  unfold lowD lowN
  constructor
  · exact Int.ediv_le_self _ (Int.le_of_lt hd)
  · have h1 : (z.natAbs : Int) / (Int.gcd (z.natAbs : Int) d : Int) ≤ (z.natAbs : Int) := Int.ediv_le_self _ (by omega)
    have h0 : 0 ≤ (z.natAbs : Int) / (Int.gcd (z.natAbs : Int) d : Int) := Int.ediv_nonneg (by omega) (by omega)
    have h2 := Int.mul_le_mul h1 h1 h0 (by omega)
    have h3 : (z.natAbs : Int) * (z.natAbs : Int) = z * z := by rw [← Int.natCast_mul, Int.natAbs_mul_self]
    rw [h3] at h2
    have h4 : ∀ (b : Bool) (t : Int), sgn b t * sgn b t = t * t := by
      intro b t
      cases b
      · rfl
      · exact Int.neg_mul_neg t t
    rw [h4]
    exact h2
theorem Ra.mono {w : World} {v : Value} {x y : Int} {K K' : Nat} (h : Ra w v x y K) (hK : K ≤ K') : Ra w v x y K' := by
  obtain ⟨b1, o1, m1, c1, b2, o2, m2, c2, e, h1, h2⟩ := h
  exact ⟨b1, o1, m1, c1, b2, o2, m2, c2, e, h1.mono hK, h2.mono hK⟩
end Go.Proofs.YtbapeilpkhbbeaaGreat

/- A value has one fraction in lowest terms. -/
namespace Go.Proofs.YtbapeilpkhbbeaaGreat
open Go.RowKit

/-- A value has one fraction in lowest terms. -/
theorem low_uniq {z d n e : Int} (hd : 0 < d) (he : 0 < e) (h : z * e = n * d) : lowN z d = lowN n e ∧ lowD z d = lowD n e := by
  have hD : lowD z d = lowD n e := by
    obtain ⟨D, rfl⟩ : ∃ D : Nat, d = D := ⟨d.toNat, by omega⟩
    obtain ⟨E, rfl⟩ : ∃ E : Nat, e = E := ⟨e.toNat, by omega⟩
    have hn : z.natAbs * E = n.natAbs * D := by
      have := congrArg Int.natAbs h
      simpa [Int.natAbs_mul] using this
    have hg : Nat.gcd z.natAbs D * E = Nat.gcd n.natAbs E * D := by
      rw [← Nat.gcd_mul_right, ← Nat.gcd_mul_right, hn, Nat.mul_comm D E]
    have e1 : Int.gcd (z.natAbs : Int) (D : Int) = Nat.gcd z.natAbs D := rfl
    have e2 : Int.gcd (n.natAbs : Int) (E : Int) = Nat.gcd n.natAbs E := rfl
    unfold lowD
    rw [e1, e2]
    obtain ⟨a, ha⟩ := Nat.gcd_dvd_right z.natAbs D
    obtain ⟨b, hb⟩ := Nat.gcd_dvd_right n.natAbs E
    have g1 : 0 < Nat.gcd z.natAbs D := Nat.gcd_pos_of_pos_right _ (by omega)
    have g2 : 0 < Nat.gcd n.natAbs E := Nat.gcd_pos_of_pos_right _ (by omega)
    have hab : a = b := by
      generalize Nat.gcd z.natAbs D = p at *
      generalize Nat.gcd n.natAbs E = q at *
      have h1 : p * (q * b) = q * (p * a) := by rw [← hb, ← ha]; exact hg
      have h2 : (p * q) * b = (p * q) * a := by rw [Nat.mul_assoc, h1, ← Nat.mul_assoc, Nat.mul_comm q p]
      exact (Nat.eq_of_mul_eq_mul_left (Nat.mul_pos g1 g2) h2).symm
    have q1 : (D : Int) / (Nat.gcd z.natAbs D : Int) = (a : Int) := by
      rw [← Int.natCast_ediv]
      exact congrArg _ (Nat.div_eq_of_eq_mul_right g1 ha)
    have q2 : (E : Int) / (Nat.gcd n.natAbs E : Int) = (b : Int) := by
      rw [← Int.natCast_ediv]
      exact congrArg _ (Nat.div_eq_of_eq_mul_right g2 hb)
    rw [q1, q2, hab]
  refine ⟨?_, hD⟩
  have h1 := (low_val z hd).1
  have h2 := (low_val n he).1
  rw [← hD] at h2
  have h3 : lowN z d * (d * e) = lowN n e * (d * e) := by
    calc lowN z d * (d * e) = (lowN z d * d) * e := by rw [Int.mul_assoc]
      _ = z * e * lowD z d := by rw [h1, Int.mul_assoc, Int.mul_comm (lowD z d) e, ← Int.mul_assoc]
      _ = n * lowD z d * d := by rw [h, Int.mul_assoc, Int.mul_comm d, ← Int.mul_assoc]
      _ = lowN n e * (d * e) := by rw [← h2, Int.mul_assoc, Int.mul_comm e d]
  exact Int.eq_of_mul_eq_mul_right (by have := Int.mul_pos hd he; omega) h3
end Go.Proofs.YtbapeilpkhbbeaaGreat

/- hodoscoperef01.long: the quotient and the rest of two naturals, bit by bit. -/
namespace Go.Proofs.YtbapeilpkhbbeaaGreat
open Go.RowKit

theorem Fr.mono {B B' : Nat} {v : Value} (h : Fr B v) (hB : B' ≤ B) : Fr B' v := fun b off l c e => Nat.le_trans hB (h b off l c e)
theorem Md.kept {w : World} {v : Value} {n : Int} {K g : Nat} (h : Md w v n K) (hf : Fr (g + 1) v) (i : Nat) (u : Value) : Md (w.setCell ⟨g, i, none⟩ u) v n K := by
  obtain ⟨ao, c, L, rfl, h⟩ := h
  refine ⟨ao, c, L, rfl, h.rd.keptNew (grown_set _ _ _ _) (fun _ b off e hb => ?_), h.dig, h.nrm, h.eq, h.le⟩
  subst e
  have := hf b off _ _ rfl
  omega

/-- One digit x of the dividend, whose higher digits T are H * b + ..: its bits above M are done. -/
structure LnP (T H x b M P c r : Int) : Prop where
  p0 : 0 < P
  m0 : 0 < M
  mp : P * M = 65536
  c0 : 0 ≤ c
  r0 : 0 ≤ r
  r1 : r < b
  eq : T * P + x / M = (H * P + c) * b + r

theorem LnP.start {T H x b r : Int} (x0 : 0 ≤ x) (x1 : x < 65536) (r0 : 0 ≤ r) (r1 : r < b) (e : T = H * b + r) : LnP T H x b 65536 1 0 r :=
  ⟨by decide, by decide, by decide, Int.le_refl 0, r0, r1, by rw [Int.ediv_eq_zero_of_lt x0 x1, e]; simp⟩
theorem half_bits {x M : Int} (m0 : 0 < M) : x / M = 2 * (x / (2 * M)) + x / M % 2 := by
  have h : x / (2 * M) = x / M / 2 := by rw [Int.mul_comm]; exact (Int.ediv_ediv_of_nonneg (by omega)).symm
  rw [h]
  omega
theorem LnP.low {T H x b M P c r : Int} (h : LnP T H x b (2 * M) P c r) (hM : 0 < M) (hlt : 2 * r + x / M % 2 < b) : LnP T H x b M (2 * P) (2 * c) (2 * r + x / M % 2) := by
  have p0 := h.p0; have c0 := h.c0; have r0 := h.r0; have e := h.eq; have mp := h.mp
  have hb := half_bits (x := x) hM
  refine ⟨by omega, hM, ?_, by omega, by omega, hlt, ?_⟩
  · rw [← mp, Int.mul_assoc 2 P M, Int.mul_left_comm P 2 M]
  · generalize x / M % 2 = d at *
    generalize x / M = y at *
    generalize x / (2 * M) = z at *
    subst hb
    grind
theorem LnP.high {T H x b M P c r : Int} (h : LnP T H x b (2 * M) P c r) (hM : 0 < M) (hge : b ≤ 2 * r + x / M % 2) : LnP T H x b M (2 * P) (2 * c + 1) (2 * r + x / M % 2 - b) := by
  have p0 := h.p0; have c0 := h.c0; have r0 := h.r0; have r1 := h.r1; have e := h.eq; have mp := h.mp
  have hb := half_bits (x := x) hM
  refine ⟨by omega, hM, ?_, by omega, by omega, by omega, ?_⟩
  · rw [← mp, Int.mul_assoc 2 P M, Int.mul_left_comm P 2 M]
  · generalize x / M % 2 = d at *
    generalize x / M = y at *
    generalize x / (2 * M) = z at *
    subst hb
    grind
theorem LnP.small {T H x b M P c r rT : Int} (h : LnP T H x b M P c r) (hx : x < 65536) (e : T = H * b + rT) (hr : rT < b) (hb : 0 < b) : c < P := by
  have hM : x / M < P := by
    apply Int.ediv_lt_of_lt_mul h.m0
    rw [h.mp]; exact hx
  have he := h.eq; have r0 := h.r0; have p0 := h.p0
  subst e
  by_cases hc : c < P
  · exact hc
  · exfalso
    have h1 : rT * P + x / M = c * b + r := by grind
    have h2 : P * b ≤ c * b := Int.mul_le_mul_of_nonneg_right (by omega) (by omega)
    have h3 : rT * P ≤ (b - 1) * P := Int.mul_le_mul_of_nonneg_right (by omega) (by omega)
    grind

/-- Behind the digits from j on. -/
structure LgI (w wr : World) (g : Nat) (LA : List Int) (b : Int) (j K : Nat) (QT : List Int) (rv : Value) (r : Int) : Prop where
  row : Row .i64 3 wr g (List.replicate j 0 ++ QT)
  gr : w.grownBy wr (some g)
  len : j + QT.length = LA.length
  dig : Dig R16 QT
  r0 : 0 ≤ r
  r1 : r < b
  eq : val R16 (LA.drop j) = val R16 QT * b + r
  md : Md wr rv r K
  fr : Fr (g + 1) rv
  sz : g < wr.heap.size
/-- .. and the bits of the digit j above M. -/
structure LnI (w wr : World) (g : Nat) (LA : List Int) (b : Int) (j K : Nat) (QT : List Int) (x M P c : Int) (rv : Value) (r : Int) : Prop where
  row : Row .i64 3 wr g (List.replicate j 0 ++ (c * M) :: QT)
  gr : w.grownBy wr (some g)
  len : j + 1 + QT.length = LA.length
  dig : Dig R16 QT
  p : LnP (val R16 (LA.drop (j + 1))) (val R16 QT) x b M P c r
  md : Md wr rv r K
  fr : Fr (g + 1) rv
  sz : g < wr.heap.size

theorem LgI.enter {w wr : World} {g : Nat} {LA QT : List Int} {b r x : Int} {j K : Nat} {rv : Value} (h : LgI w wr g LA b (j + 1) K QT rv r) (x0 : 0 ≤ x) (x1 : x < 65536) : LnI w wr g LA b j K QT x 65536 1 0 rv r :=
  ⟨by have := h.row; rw [List.replicate_succ', List.append_assoc] at this; simpa using this, h.gr, h.len, h.dig, LnP.start x0 x1 h.r0 h.r1 h.eq, h.md, h.fr, h.sz⟩
theorem LnI.leave {w wr : World} {g : Nat} {LA QT : List Int} {b r x c rT : Int} {j K : Nat} {rv : Value} (h : LnI w wr g LA b j K QT x 1 65536 c rv r) (hx : x = LA[j]?.getD 0) (x1 : x < 65536) (hb : 0 < b)
    (hT : val R16 (LA.drop (j + 1)) = val R16 QT * b + rT) (hr : rT < b) : LgI w wr g LA b j K (c :: QT) rv r := by
  have hc := h.p.small x1 hT hr hb
  refine ⟨by have := h.row; rwa [Int.mul_one] at this, h.gr, by have := h.len; simp; omega, Dig.cons h.p.c0 (by unfold R16; omega) h.dig, h.p.r0, h.p.r1, ?_, h.md, h.fr, h.sz⟩
  have e := h.p.eq
  rw [Int.ediv_one] at e
  rw [val_drop R16 LA j (by have := h.len; omega), ← hx]
  simp only [val]
  generalize val R16 (LA.drop (j + 1)) = T at *
  generalize val R16 QT = t at *
  unfold R16
  grind

theorem LnI.lowStep {w wr w2 : World} {g : Nat} {LA QT : List Int} {b r x c M P : Int} {j K : Nat} {rv v : Value} (h : LnI w wr g LA b j K QT x (2 * M) P c rv r) (hM : 0 < M) (hlt : 2 * r + x / M % 2 < b) (hbK : b < R16 ^ K)
    (hb : Below wr.heap.size wr w2) (hv : Md w2 v (2 * r + x / M % 2) (K + 1) ∧ Fr wr.heap.size v) : LnI w w2 g LA b j K QT x M (2 * P) (2 * c) v (2 * r + x / M % 2) := by
  have hr := h.row.kept (below_grown hb) (by simp)
  rw [show c * (2 * M) = 2 * c * M by rw [Int.mul_left_comm, Int.mul_assoc]] at hr
  exact ⟨hr, grown_trans h.gr (grown_any (below_grown hb)), h.len, h.dig, h.p.low hM hlt, hv.1.tight (by omega), hv.2.mono h.sz, Nat.lt_of_lt_of_le h.sz hb.size⟩
theorem LnI.highStep {w wr w2 w3 : World} {g : Nat} {LA QT : List Int} {b r x c M P : Int} {j K : Nat} {rv v : Value} (h : LnI w wr g LA b j K QT x (2 * M) P c rv r) (hM : 0 < M) (hge : b ≤ 2 * r + x / M % 2) (hbK : b < R16 ^ K)
    (hb : Below wr.heap.size wr w2) (hb3 : Below w2.heap.size w2 w3) (hv : Md w3 v (2 * r + x / M % 2 - b) (K + 1) ∧ Fr w2.heap.size v) :
    LnI w (w3.setCell ⟨g, j, none⟩ (.int .i64 (c * (2 * M) + M))) g LA b j K QT x M (2 * P) (2 * c + 1) v (2 * r + x / M % 2 - b) := by
  have hr := ((h.row.kept (below_grown hb) (by simp)).kept (below_grown hb3) (by simp)).set j (c * (2 * M) + M)
  have hp := h.p.high hM hge
  have hsz2 : g < w2.heap.size := Nat.lt_of_lt_of_le h.sz hb.size
  rw [List.set_append_right _ _ (by simp), List.length_replicate, Nat.sub_self, List.set_cons_zero] at hr
  rw [show c * (2 * M) + M = (2 * c + 1) * M by rw [Int.add_mul, Int.one_mul, Int.mul_left_comm, Int.mul_assoc]] at hr ⊢
  exact ⟨hr, grown_trans (grown_trans h.gr (grown_any ((below_grown hb)))) (grown_trans (grown_any (below_grown hb3)) (grown_set _ _ _ _)), h.len, h.dig, hp, (hv.1.tight (by have := hp.r1; omega)).kept (hv.2.mono hsz2) _ _, hv.2.mono hsz2, by have := hb3.size; simp; omega⟩
end Go.Proofs.YtbapeilpkhbbeaaGreat
