/- A region that draws its order and holds up to twelve values and one box for a struct of a bool and a slice: what holds between two of its operations. Written by gen_boxk.py. (exact.fraction).plus where the denominators differ. Written by gen_fplus.py. exact.Plus, exact.Minus at any two ratios: a ratio of the right value. The contracts of the ratios' operations by values: Plus, Minus, Times, Signum. A value has one fraction in lowest terms. (exact.integer).text and exact.Text of any number. exact.Show of ratios whose lowest form has numbers closer to 0 than 100; over and shows of the laws. exact.Cmp. Written by gen_cmp.py. The contracts of the integers' operations in one form, for the outright laws; equal of the laws. Small lemmas of ratios in lowest terms. A region that draws its order and holds up to six loads and calls, up to two boxes for fractions (three cells), and their stores. Made out of XBoxJ by program. exact.Compare: the order of two ratios' values; same of the laws. Written by gen_compare.py. (exact.fraction).over; exact.Quotient. Written by gen_quot.py. exact.Quotient by values; hodoscoperef01.Wide. exact.Lowest by values; the parts of a ratio. (The head of gen_simplaw.py's text, taken out by hand.). -/
import Derived.Test.YtbapeilpkhbbeaaGreatDoorYn16
import Derived.Test.YtbapeilpkhbbeaaGreatDoorYn28
import Derived.Test.YtbapeilpkhbbeaaGreatDoorYn15
import Derived.Test.YtbapeilpkhbbeaaGreatDoorYn19
import Derived.Test.YtbapeilpkhbbeaaGreatDoorYn26
import Derived.Test.YtbapeilpkhbbeaaGreatDoorYn12
import Derived.Test.YtbapeilpkhbbeaaGreatDoorYn11
import Derived.Deep.DeepCutAuto
/- A region that draws its order and holds up to twelve values and one box for a struct of a bool and a slice: what holds between two of its operations. Written by gen_boxk.py. -/
namespace Go.Proofs.YtbapeilpkhbbeaaGreatDoor
open Go.RowKit

structure BK (B : Nat) (W0 : World) (G0 G1 G2 G3 G4 G5 G6 G7 G8 G9 G10 G11 : World → Value → Prop) (b0 b1 b2 b3 b4 b5 b6 b7 b8 b9 b10 b11 : Bool) (s0 s1 s2 s3 s4 s5 s6 s7 s8 s9 s10 s11 : Value) (p1 q1 : Bool) (t1 x1 : Value) (w : World) : Prop where
  bel : Below B W0 w
  siz : B ≤ w.heap.size
  v0 : b0 = true → G0 w s0
  v1 : b1 = true → G1 w s1
  v2 : b2 = true → G2 w s2
  v3 : b3 = true → G3 w s3
  v4 : b4 = true → G4 w s4
  v5 : b5 = true → G5 w s5
  v6 : b6 = true → G6 w s6
  v7 : b7 = true → G7 w s7
  v8 : b8 = true → G8 w s8
  v9 : b9 = true → G9 w s9
  v10 : b10 = true → G10 w s10
  v11 : b11 = true → G11 w s11
  a1 : p1 = true → PtrAt .u64 B w t1 q1 x1
structure KK (G0 G1 G2 G3 G4 G5 G6 G7 G8 G9 G10 G11 : World → Value → Prop) : Prop where
  k0 : KeepG .u64 G0
  k1 : KeepG .u64 G1
  k2 : KeepG .u64 G2
  k3 : KeepG .u64 G3
  k4 : KeepG .u64 G4
  k5 : KeepG .u64 G5
  k6 : KeepG .u64 G6
  k7 : KeepG .u64 G7
  k8 : KeepG .u64 G8
  k9 : KeepG .u64 G9
  k10 : KeepG .u64 G10
  k11 : KeepG .u64 G11

section
variable {B : Nat} {W0 : World} {G0 G1 G2 G3 G4 G5 G6 G7 G8 G9 G10 G11 : World → Value → Prop} {b0 b1 b2 b3 b4 b5 b6 b7 b8 b9 b10 b11 : Bool} {s0 s1 s2 s3 s4 s5 s6 s7 s8 s9 s10 s11 : Value} {p1 q1 : Bool} {t1 x1 : Value} {w w' : World}
theorem BK.start (h : Below B W0 w) (hs : B ≤ w.heap.size) : BK B W0 G0 G1 G2 G3 G4 G5 G6 G7 G8 G9 G10 G11 false false false false false false false false false false false false s0 s1 s2 s3 s4 s5 s6 s7 s8 s9 s10 s11 false false t1 x1 w :=
  ⟨h, hs, nofun, nofun, nofun, nofun, nofun, nofun, nofun, nofun, nofun, nofun, nofun, nofun, nofun⟩
theorem BK.step (h : BK B W0 G0 G1 G2 G3 G4 G5 G6 G7 G8 G9 G10 G11 b0 b1 b2 b3 b4 b5 b6 b7 b8 b9 b10 b11 s0 s1 s2 s3 s4 s5 s6 s7 s8 s9 s10 s11 p1 q1 t1 x1 w) (k : KK G0 G1 G2 G3 G4 G5 G6 G7 G8 G9 G10 G11) (hb : Below w.heap.size w w') : BK B W0 G0 G1 G2 G3 G4 G5 G6 G7 G8 G9 G10 G11 b0 b1 b2 b3 b4 b5 b6 b7 b8 b9 b10 b11 s0 s1 s2 s3 s4 s5 s6 s7 s8 s9 s10 s11 p1 q1 t1 x1 w' := by
  have hk : Keeps .u64 w w' := Keeps.below hb (Nat.le_refl _)
  exact ⟨h.bel.trans (hb.mono h.siz), Nat.le_trans h.siz hb.size, fun e => k.k0 _ _ _ hk (h.v0 e), fun e => k.k1 _ _ _ hk (h.v1 e), fun e => k.k2 _ _ _ hk (h.v2 e), fun e => k.k3 _ _ _ hk (h.v3 e), fun e => k.k4 _ _ _ hk (h.v4 e), fun e => k.k5 _ _ _ hk (h.v5 e), fun e => k.k6 _ _ _ hk (h.v6 e), fun e => k.k7 _ _ _ hk (h.v7 e), fun e => k.k8 _ _ _ hk (h.v8 e), fun e => k.k9 _ _ _ hk (h.v9 e), fun e => k.k10 _ _ _ hk (h.v10 e), fun e => k.k11 _ _ _ hk (h.v11 e), fun e => (h.a1 e).below hb⟩
end
end Go.Proofs.YtbapeilpkhbbeaaGreatDoor

/- (exact.fraction).plus where the denominators differ. Written by gen_fplus.py. -/
namespace Go.Proofs.YtbapeilpkhbbeaaGreatDoor
open Go.RowKit

theorem bl_tr {a b c : World} (h : Below a.heap.size a b) (k : Below b.heap.size b c) : Below a.heap.size a c := h.trans (k.mono h.size)

end Go.Proofs.YtbapeilpkhbbeaaGreatDoor

/- exact.Plus, exact.Minus at any two ratios: a ratio of the right value. -/
namespace Go.Proofs.YtbapeilpkhbbeaaGreatDoor
open Go.RowKit

theorem rn_pos {y : Int} (x : Int) (hy : 0 < y) : rn x y = x ∧ rd y = y := by
  unfold rn rd
  rw [if_neg (by omega), if_neg (by omega), decide_eq_false (show ¬ y < 0 by omega)]
  refine ⟨?_, by omega⟩
  by_cases hx : x < 0
  · rw [decide_eq_true hx]
    show sgn true _ = x
    unfold sgn
    simp
    omega
  · rw [decide_eq_false hx]
    show sgn false _ = x
    unfold sgn
    simp
    omega
theorem low_val (z : Int) {d : Int} (hd : 0 < d) : lowN z d * d = z * lowD z d ∧ 0 < lowD z d := by
  have hg : (0 : Int) < (Int.gcd (z.natAbs : Int) d : Int) := by
    have : Int.gcd (z.natAbs : Int) d ≠ 0 := fun h => by have := (Int.gcd_eq_zero_iff.1 h).2; omega
    omega
  unfold lowN lowD
  obtain ⟨g, eg⟩ : ∃ g, g = (Int.gcd (z.natAbs : Int) d : Int) := ⟨_, rfl⟩
  have e1 : (z.natAbs : Int) / g * g = (z.natAbs : Int) := Int.ediv_mul_cancel (by rw [eg]; exact Int.gcd_dvd_left _ _)
  have e2 : d / g * g = d := Int.ediv_mul_cancel (by rw [eg]; exact Int.gcd_dvd_right _ _)
  rw [← eg] at hg ⊢
  obtain ⟨a, ea⟩ : ∃ a, a = (z.natAbs : Int) / g := ⟨_, rfl⟩
  obtain ⟨b, eb⟩ : ∃ b, b = d / g := ⟨_, rfl⟩
  rw [← ea] at e1 ⊢
  rw [← eb] at e2 ⊢
  have hb : 0 < b := by
    rcases Int.lt_or_le 0 b with h | h
    · exact h
    · exfalso
      have := Int.mul_nonneg (show 0 ≤ -b by omega) (Int.le_of_lt hg)
      rw [Int.neg_mul, e2] at this
      omega
  refine ⟨?_, hb⟩
  by_cases hz : z < 0
  · rw [decide_eq_true hz]
    have ez : z = -(a * g) := by omega
    have es : sgn true a = -a := rfl
    rw [es, ez, ← e2, Int.neg_mul, Int.neg_mul, Int.mul_comm b g, Int.mul_assoc]
  · rw [decide_eq_false hz]
    have ez : z = a * g := by omega
    have es : sgn false a = a := rfl
    rw [es, ez, ← e2, Int.mul_comm b g, Int.mul_assoc]

/-- The value v is a ratio of the value n over d. -/
def Rv (w : World) (v : Value) (n d : Int) (K : Nat) : Prop := 0 < d ∧ ∃ x y, Ra w v x y K ∧ rn x y * d = n * rd y
theorem Rv.below {w w' : World} {v : Value} {n d : Int} {K B : Nat} (h : Rv w v n d K) (hb : Below B w w') (hB : w.heap.size ≤ B) : Rv w' v n d K := by
  obtain ⟨h0, x, y, h1, h2⟩ := h
  exact ⟨h0, x, y, h1.below hb hB, h2⟩
theorem val_cut {N L z d n e : Int} (hd : 0 < d) (h1 : N * d = z * L) (h2 : z * e = n * d) : N * e = n * L := by
  have h : (N * e) * d = (n * L) * d := by
    calc (N * e) * d = (N * d) * e := by rw [Int.mul_assoc, Int.mul_comm e d, ← Int.mul_assoc]
      _ = z * L * e := by rw [h1]
      _ = (z * e) * L := by rw [Int.mul_assoc, Int.mul_comm L e, ← Int.mul_assoc]
      _ = n * d * L := by rw [h2]
      _ = (n * L) * d := by rw [Int.mul_assoc, Int.mul_comm d L, ← Int.mul_assoc]
  exact Int.eq_of_mul_eq_mul_right (by omega) h
theorem FrR.rv {w0 w : World} {f : Value} {z d n e : Int} {K : Nat} (h : FrR w0 w f (lowN z d) (lowD z d) K) (hd : 0 < d) (he : 0 < e) (hv : z * e = n * d) : Rv w f n e K := by
  have hl := low_val z hd
  have hp := rn_pos (lowN z d) hl.2
  refine ⟨he, _, _, FrR.ra h, ?_⟩
  rw [hp.1, hp.2]
  exact val_cut hd hl.1 hv
end Go.Proofs.YtbapeilpkhbbeaaGreatDoor

/- The contracts of the ratios' operations by values: Plus, Minus, Times, Signum. -/
namespace Go.Proofs.YtbapeilpkhbbeaaGreatDoor
open Go.RowKit

theorem Rv.mono {w : World} {v : Value} {n d : Int} {K K' : Nat} (h : Rv w v n d K) (hK : K ≤ K') : Rv w v n d K' := by
  obtain ⟨h0, x, y, ⟨b1, o1, m1, c1, b2, o2, m2, c2, e, ⟨na, ao, ac, WA, ea, ha⟩, ⟨nb, bo, bc, WB, eb, hb⟩⟩, h2⟩ := h
  exact ⟨h0, x, y, ⟨b1, o1, m1, c1, b2, o2, m2, c2, e, ⟨na, ao, ac, WA, ea, ha.rd, ha.dig, Nat.le_trans ha.le hK, ha.eq⟩, ⟨nb, bo, bc, WB, eb, hb.rd, hb.dig, Nat.le_trans hb.le hK, hb.eq⟩⟩, h2⟩
theorem alg_times {r1 e1 d1 n1 r2 e2 d2 n2 : Int} (h1 : r1 * d1 = n1 * e1) (h2 : r2 * d2 = n2 * e2) : (r1 * r2) * (d1 * d2) = (n1 * n2) * (e1 * e2) := by grind

end Go.Proofs.YtbapeilpkhbbeaaGreatDoor

/- A value has one fraction in lowest terms. -/
namespace Go.Proofs.YtbapeilpkhbbeaaGreatDoor
open Go.RowKit

/-- A value has one fraction in lowest terms. -/
theorem low_uniq {z d n e : Int} (hd : 0 < d) (he : 0 < e) (h : z * e = n * d) : lowN z d = lowN n e ∧ lowD z d = lowD n e := by
  have hD : lowD z d = lowD n e := by
    obtain ⟨D, rfl⟩ : ∃ D : Nat, d = D := ⟨d.toNat, by omega⟩
    obtain ⟨E, rfl⟩ : ∃ E : Nat, e = E := ⟨e.toNat, by omega⟩
    have hn : z.natAbs * E = n.natAbs * D := by
      have := congrArg Int.natAbs h
      simpa [Int.natAbs_mul] using this
    have hg : Nat.gcd z.natAbs D * E = Nat.gcd n.natAbs E * D := by
      rw [← Nat.gcd_mul_right, ← Nat.gcd_mul_right, hn, Nat.mul_comm D E]
    have e1 : Int.gcd (z.natAbs : Int) (D : Int) = Nat.gcd z.natAbs D := rfl
    have e2 : Int.gcd (n.natAbs : Int) (E : Int) = Nat.gcd n.natAbs E := rfl
    unfold lowD
    rw [e1, e2]
    obtain ⟨a, ha⟩ := Nat.gcd_dvd_right z.natAbs D
    obtain ⟨b, hb⟩ := Nat.gcd_dvd_right n.natAbs E
    have g1 : 0 < Nat.gcd z.natAbs D := Nat.gcd_pos_of_pos_right _ (by omega)
    have g2 : 0 < Nat.gcd n.natAbs E := Nat.gcd_pos_of_pos_right _ (by omega)
    have hab : a = b := by
      generalize Nat.gcd z.natAbs D = p at *
      generalize Nat.gcd n.natAbs E = q at *
      have h1 : p * (q * b) = q * (p * a) := by rw [← hb, ← ha]; exact hg
      have h2 : (p * q) * b = (p * q) * a := by rw [Nat.mul_assoc, h1, ← Nat.mul_assoc, Nat.mul_comm q p]
      exact (Nat.eq_of_mul_eq_mul_left (Nat.mul_pos g1 g2) h2).symm
    have q1 : (D : Int) / (Nat.gcd z.natAbs D : Int) = (a : Int) := by
      rw [← Int.natCast_ediv]
      exact congrArg _ (Nat.div_eq_of_eq_mul_right g1 ha)
    have q2 : (E : Int) / (Nat.gcd n.natAbs E : Int) = (b : Int) := by
      rw [← Int.natCast_ediv]
      exact congrArg _ (Nat.div_eq_of_eq_mul_right g2 hb)
    rw [q1, q2, hab]
  refine ⟨?_, hD⟩
  have h1 := (low_val z hd).1
  have h2 := (low_val n he).1
  rw [← hD] at h2
  have h3 : lowN z d * (d * e) = lowN n e * (d * e) := by
    calc lowN z d * (d * e) = (lowN z d * d) * e := by rw [Int.mul_assoc]
      _ = z * e * lowD z d := by rw [h1, Int.mul_assoc, Int.mul_comm (lowD z d) e, ← Int.mul_assoc]
      _ = n * lowD z d * d := by rw [h, Int.mul_assoc, Int.mul_comm d, ← Int.mul_assoc]
      _ = lowN n e * (d * e) := by rw [← h2, Int.mul_assoc, Int.mul_comm e d]
  exact Int.eq_of_mul_eq_mul_right (by have := Int.mul_pos hd he; omega) h3
end Go.Proofs.YtbapeilpkhbbeaaGreatDoor

/- (exact.integer).text and exact.Text of any number. -/
namespace Go.Proofs.YtbapeilpkhbbeaaGreatDoor
open Go.RowKit

theorem gls_len : ∀ (m n : Nat), n < 10000000000000000000 ^ m → (gls n).length ≤ m
  | 0, n, h => by
    obtain rfl : n = 0 := by simpa using h
    simp [gls_zero]
  | m + 1, n, h => by
    by_cases hn : n = 0
    · subst hn; simp [gls_zero]
    · rw [gls_pos hn, List.length_cons]
      have := gls_len m (n / 10000000000000000000) (by
        rw [Nat.pow_succ] at h
        exact Nat.div_lt_of_lt_mul (by rw [Nat.mul_comm]; exact h))
      omega
theorem decs_len : ∀ (m n : Nat), n < 10 ^ m → (Lib.decDigits n).length ≤ m + 1
  | 0, n, h => by
    obtain rfl : n = 0 := by simpa using h
    simp [dec_small]
  | m + 1, n, h => by
    by_cases hn : n < 10
    · simp [dec_small hn]
    · rw [dec_big hn, List.length_append]
      have := decs_len m (n / 10) (by rw [Nat.pow_succ] at h; omega)
      simp
      omega
theorem b64_pow (K : Nat) : B64 ^ K ≤ ((10000000000000000000 ^ (2 * K) : Nat) : Int) := by
  induction K with
  | zero => simp
  | succ K ih =>
    rw [Int.pow_succ, show 2 * (K + 1) = 2 * K + 1 + 1 by omega, Nat.pow_succ, Nat.pow_succ, Int.natCast_mul, Int.natCast_mul, Int.mul_assoc]
    refine Int.mul_le_mul ih (by unfold B64; decide) (Int.le_of_lt B64_pos) (Int.natCast_nonneg _)
theorem b32_pow (K : Nat) : B32 ^ K ≤ ((10 ^ (10 * K) : Nat) : Int) := by
  induction K with
  | zero => simp
  | succ K ih =>
    rw [Int.pow_succ, show 10 * (K + 1) = 10 * K + 10 by omega, Nat.pow_add, Int.natCast_mul]
    refine Int.mul_le_mul ih (by unfold B32; decide) (by unfold B32; decide) (Int.natCast_nonneg _)
theorem pow_le {B : Int} (hB : 1 ≤ B) : ∀ {a b : Nat}, a ≤ b → B ^ a ≤ B ^ b := by
  intro a b h
  obtain ⟨c, rfl⟩ := Nat.exists_eq_add_of_le h
  clear h
  induction c with
  | zero => exact Int.le_refl _
  | succ c ih =>
    rw [← Nat.add_assoc, Int.pow_succ]
    have h0 : 0 ≤ B ^ (a + c) := Int.le_of_lt (Int.pow_pos (by omega))
    have := Int.mul_le_mul_of_nonneg_left hB h0
    omega
theorem nt_gls {w : World} {v : Value} {y K : Nat} (h : Nt w v (y : Int) K) : (gls y).length ≤ 2 * K := by
  obtain ⟨ao, c, L, rfl, h⟩ := h
  have h1 := val_lt B64_pos h.dig
  have h2 := pow_le (B := B64) (by unfold B64; decide) h.le
  have h3 := b64_pow K
  rw [h.eq] at h1
  exact gls_len _ _ (by omega)
theorem ai_lt {w : World} {v : Value} {z : Int} {K : Nat} (h : Ai w v z K) : z.natAbs < 10 ^ (10 * K) := by
  obtain ⟨neg, ao, c, W, rfl, h⟩ := h
  have h1 := val_lt (by unfold B32; decide) h.dig
  have h0 := val_nonneg (by unfold B32; decide) h.dig
  have h2 := pow_le (B := B32) (by unfold B32; decide) h.le
  have h3 := b32_pow K
  have h4 : (z.natAbs : Int) = val B32 W := by
    rw [h.eq]
    unfold sgn
    split <;> omega
  omega
theorem tx_size {z : Int} {m : Nat} (h : z.natAbs < 10 ^ m) : (tx z).size ≤ m + 2 := by
  have := decs_len m z.natAbs h
  unfold tx
  split
  · simp [ByteArray.size_append]; show 1 + (Lib.decDigits z.natAbs).length ≤ m + 2; omega
  · show (Lib.decDigits z.natAbs).length ≤ m + 2; omega

theorem decimals_nt (y K : Nat) (v : Value) (w : World) (hA : Nt w v (y : Int) K) (hK : K ≤ 40000) (hT : Tab w) :
    Calls Tryz.prog 25 #[v] w fun e w' => e = .returned (.string ⟨(Lib.decDigits y).toArray⟩) ∧ Below w.heap.size w w' :=
  decimals_any y K v w hA (by omega) (by have := nt_gls hA; omega) hT

set_option maxRecDepth 100000 in
set_option maxHeartbeats 1000000 in
theorem text_all (z : Int) (K : Nat) (v : Value) (w : World) (h : It w v z K) (hK : K ≤ 40000) (hs : (tx z).size ≤ 1000000) (hT : Tab w) :
    Calls Tryz.prog 78 #[v] w fun e w' => e = .returned (.string (tx z)) ∧ Below w.heap.size w w' := by
  obtain ⟨xb, xo, xm, xc, rfl, Hx, Hxs, Hxb⟩ := It.opened h
  clear h
  obtain ⟨s, hs0⟩ : ∃ s : ByteArray, s = ⟨(Lib.decDigits z.natAbs).toArray⟩ := ⟨_, rfl⟩
  have HD := hid (fun (w' : World) (hb : Below w.heap.size w w') => by have := decimals_nt z.natAbs K _ w' (by simpa using Hxs.out w' hb) hK (hT.below hb); rw [← hs0] at this; exact this)
  by_cases hz : z < 0
  · obtain rfl : xb = true := by rw [Hxb.out]; exact decide_eq_true hz
    have e : tx z = ⟨#[45]⟩ ++ s := by unfold tx; rw [if_pos hz, hs0]
    rw [e] at hs ⊢
    have hsz : ¬ 9223372036854775807 < 1 + s.size := by
      rw [ByteArray.size_append] at hs
      have : (⟨#[45]⟩ : ByteArray).size = 1 := rfl
      omega
    clear hs0 e hs hT
    have hB0 : Below w.heap.size w (w.alloc (.cells #[.bool true, .slice xo xm xc] 56)) := (Below.refl _ _).alloc (Nat.le_refl _) _
    have HB0 := hid hB0
    clear hB0 hz
    go_enter Tryz.func78, Tryz.ntmps78
    go_wp2_with fail
    refine (HD.out _ HB0.out).mono ?_
    rintro e w1 ⟨rfl, hb1⟩
    go_wp2
    go_ret
    exact ⟨rfl, HB0.out.trans (hb1.mono (by simp))⟩
  · obtain rfl : xb = false := by rw [Hxb.out]; exact decide_eq_false hz
    have e : tx z = s := by unfold tx; rw [if_neg hz, hs0]
    rw [e]
    clear hs0 e hs hT
    have hB0 : Below w.heap.size w (w.alloc (.cells #[.bool false, .slice xo xm xc] 56)) := (Below.refl _ _).alloc (Nat.le_refl _) _
    have HB0 := hid hB0
    clear hB0 hz
    go_enter Tryz.func78, Tryz.ntmps78
    go_wp2_with fail
    refine (HD.out _ HB0.out).mono ?_
    rintro e w1 ⟨rfl, hb1⟩
    go_wp2
    go_ret
    exact ⟨rfl, HB0.out.trans (hb1.mono (by simp))⟩

set_option maxRecDepth 100000 in
set_option maxHeartbeats 1000000 in
theorem Text_all (z : Int) (K : Nat) (v : Value) (w : World) (h : Ai w v z K) (hK : K ≤ 40000) (hT : Tab w) :
    Calls Tryz.prog 38 #[v] w fun e w' => e = .returned (.string (tx z)) ∧ Below w.heap.size w w' := by
  have hs : (tx z).size ≤ 1000000 := by have := tx_size (ai_lt h); omega
  obtain ⟨xb, xo, xm, xc, rfl, Hx⟩ := Ai.opened h
  clear h
  have H0 := hid hs; have HT := hid hT
  obtain ⟨s, hs0⟩ : ∃ s, s = tx z := ⟨_, rfl⟩
  have HX := hid (fun (v' : Value) (w' : World) (hv : It w' v' z ((K + 1) / 2)) (hb : Below w.heap.size w w') => by have := text_all z _ v' w' hv (by omega) H0.out (HT.out.below hb); rw [← hs0] at this; exact this)
  rw [← hs0]
  clear hs hT hs0
  go_enter Tryz.func38, Tryz.ntmps38
  go_wp2_with fail
  refine (read_any _ z K _ (Hx.out _ ((Below.refl _ _).alloc (Nat.le_refl _) _)) (by omega)).mono ?_
  rintro e w1 ⟨v1, rfl, hv1, hb1⟩
  have HB1 := hid (show Below w.heap.size w w1 from ((Below.refl w.heap.size w).alloc (Nat.le_refl _) _).trans (hb1.mono (by simp)))
  clear hb1
  go_wp2_with fail
  refine (HX.out _ _ hv1 HB1.out).mono ?_
  rintro e w2 ⟨rfl, hb2⟩
  go_wp2
  go_ret
  exact ⟨rfl, HB1.out.trans (hb2.mono HB1.out.size)⟩

end Go.Proofs.YtbapeilpkhbbeaaGreatDoor

/- exact.Show of ratios whose lowest form has numbers closer to 0 than 100; over and shows of the laws. -/
namespace Go.Proofs.YtbapeilpkhbbeaaGreatDoor
open Go.RowKit

end Go.Proofs.YtbapeilpkhbbeaaGreatDoor

/- exact.Cmp. Written by gen_cmp.py. -/
namespace Go.Proofs.YtbapeilpkhbbeaaGreatDoor
open Go.RowKit

theorem It.keeps {z : Int} {K : Nat} (w w' : World) (v : Value) (hk : Keeps .u64 w w') (h : It w v z K) : It w' v z K := by
  obtain ⟨s, rfl, ao, c, L, rfl, h⟩ := h
  exact ⟨_, rfl, ao, c, L, rfl, h.rd.keeps hk, h.dig, h.nrm, h.eq, h.le⟩
end Go.Proofs.YtbapeilpkhbbeaaGreatDoor

/- The contracts of the integers' operations in one form, for the outright laws; equal of the laws. -/
namespace Go.Proofs.YtbapeilpkhbbeaaGreatDoor
open Go.RowKit

theorem Ai.mono {w : World} {v : Value} {z : Int} {K K' : Nat} (h : Ai w v z K) (hK : K ≤ K') : Ai w v z K' := by
  obtain ⟨neg, ao, c, W, rfl, h⟩ := h
  exact ⟨neg, ao, c, W, rfl, h.rd, h.dig, Nat.le_trans h.le hK, h.eq⟩

end Go.Proofs.YtbapeilpkhbbeaaGreatDoor

/- Small lemmas of ratios in lowest terms. -/
namespace Go.Proofs.YtbapeilpkhbbeaaGreatDoor
open Go.RowKit

theorem low_small (z : Int) {d : Int} (hd : 0 < d) : lowD z d ≤ d ∧ lowN z d * lowN z d ≤ z * z := by
  unfold lowD lowN
  constructor
  · exact Int.ediv_le_self _ (Int.le_of_lt hd)
  · have h1 : (z.natAbs : Int) / (Int.gcd (z.natAbs : Int) d : Int) ≤ (z.natAbs : Int) := Int.ediv_le_self _ (by omega)
    have h0 : 0 ≤ (z.natAbs : Int) / (Int.gcd (z.natAbs : Int) d : Int) := Int.ediv_nonneg (by omega) (by omega)
    have h2 := Int.mul_le_mul h1 h1 h0 (by omega)
    have h3 : (z.natAbs : Int) * (z.natAbs : Int) = z * z := by rw [← Int.natCast_mul, Int.natAbs_mul_self]
    rw [h3] at h2
    have h4 : ∀ (b : Bool) (t : Int), sgn b t * sgn b t = t * t := by
      intro b t
      cases b
      · rfl
      · exact Int.neg_mul_neg t t
    rw [h4]
    exact h2
theorem Ra.mono {w : World} {v : Value} {x y : Int} {K K' : Nat} (h : Ra w v x y K) (hK : K ≤ K') : Ra w v x y K' := by
  obtain ⟨b1, o1, m1, c1, b2, o2, m2, c2, e, h1, h2⟩ := h
  exact ⟨b1, o1, m1, c1, b2, o2, m2, c2, e, h1.mono hK, h2.mono hK⟩
end Go.Proofs.YtbapeilpkhbbeaaGreatDoor

/- A region that draws its order and holds up to six loads and calls, up to two boxes for fractions (three cells), and their stores. Made out of XBoxJ by program. -/
namespace Go.Proofs.YtbapeilpkhbbeaaGreatDoor
open Go.RowKit

/-- s points to three cells of a block that the region has made; b: it has been written with v. -/
def PtrC (k : IntKind) (B : Nat) (w : World) (s : Value) (b : Bool) (v : Value) : Prop :=
  ∃ p v0 v1 v2, s = .pointer (some ⟨p, 0, none⟩) ∧ B ≤ p ∧ w.cell? ⟨p, 0, none⟩ = some v0 ∧ w.cell? ⟨p, 1, none⟩ = some v1 ∧ w.cell? ⟨p, 2, none⟩ = some v2 ∧ w.frozen? ⟨p, 0, none⟩ = false ∧ w.frozen? ⟨p, 1, none⟩ = false ∧ w.frozen? ⟨p, 2, none⟩ = false ∧ (∀ x, v0 ≠ .int k x) ∧ (∀ x, v1 ≠ .int k x) ∧ (∀ x, v2 ≠ .int k x) ∧ (b = true → v = .agg #[v0, v1, v2])
theorem PtrC.below {k : IntKind} {B : Nat} {w w' : World} {s v : Value} {b : Bool} (h : PtrC k B w s b v) (hb : Below w.heap.size w w') : PtrC k B w' s b v := by
  obtain ⟨p, v0, v1, v2, rfl, hp, c0, c1, c2, f0, f1, f2, r⟩ := h
  have hl := World.block_lt_of_cell? w _ c0
  exact ⟨p, v0, v1, v2, rfl, hp, (hb.cell (p := ⟨p, 0, none⟩) hl).trans c0, (hb.cell (p := ⟨p, 1, none⟩) hl).trans c1, (hb.cell (p := ⟨p, 2, none⟩) hl).trans c2, (hb.frozen (p := ⟨p, 0, none⟩) hl).trans f0, (hb.frozen (p := ⟨p, 1, none⟩) hl).trans f1, (hb.frozen (p := ⟨p, 2, none⟩) hl).trans f2, r⟩
theorem PtrC.fresh {k : IntKind} {B : Nat} {w : World} {s v v' : Value} (h : PtrC k B w s false v) : PtrC k B w s false v' := by
  obtain ⟨p, v0, v1, v2, rfl, hp, c0, c1, c2, f0, f1, f2, n0, n1, n2, _⟩ := h
  exact ⟨p, v0, v1, v2, rfl, hp, c0, c1, c2, f0, f1, f2, n0, n1, n2, nofun⟩
theorem PtrC.other {k : IntKind} {B : Nat} {w : World} {s v : Value} {b : Bool} (h : PtrC k B w s b v) {p : Nat} (hne : s ≠ .pointer (some ⟨p, 0, none⟩)) (u0 u1 u2 : Value) : PtrC k B (((w.setCell ⟨p, 0, none⟩ u0).setCell ⟨p, 1, none⟩ u1).setCell ⟨p, 2, none⟩ u2) s b v := by
  obtain ⟨q, v0, v1, v2, rfl, hq, c0, c1, c2, f0, f1, f2, r⟩ := h
  have hpq : p ≠ q := by rintro rfl; exact hne rfl
  refine ⟨q, v0, v1, v2, rfl, hq, ?_, ?_, ?_, by simpa using f0, by simpa using f1, by simpa using f2, r⟩
  all_goals (rw [World.cell?_setCell_other _ _ _ _ (by simp <;> exact hpq), World.cell?_setCell_other _ _ _ _ (by simp <;> exact hpq), World.cell?_setCell_other _ _ _ _ (by simp <;> exact hpq)]; assumption)

structure BC (B : Nat) (W0 : World) (G0 G1 G2 G3 G4 G5 : World → Value → Prop) (b0 b1 b2 b3 b4 b5 : Bool) (s0 s1 s2 s3 s4 s5 : Value) (p1 q1 : Bool) (t1 x1 : Value) (p2 q2 : Bool) (t2 x2 : Value) (w : World) : Prop where
  bel : Below B W0 w
  siz : B ≤ w.heap.size
  v0 : b0 = true → G0 w s0
  v1 : b1 = true → G1 w s1
  v2 : b2 = true → G2 w s2
  v3 : b3 = true → G3 w s3
  v4 : b4 = true → G4 w s4
  v5 : b5 = true → G5 w s5
  a1 : p1 = true → PtrC .u64 B w t1 q1 x1
  a2 : p2 = true → PtrC .u64 B w t2 q2 x2
  ne : p1 = true → p2 = true → t1 ≠ t2
structure KC (G0 G1 G2 G3 G4 G5 : World → Value → Prop) : Prop where
  k0 : KeepG .u64 G0
  k1 : KeepG .u64 G1
  k2 : KeepG .u64 G2
  k3 : KeepG .u64 G3
  k4 : KeepG .u64 G4
  k5 : KeepG .u64 G5

section
variable {B : Nat} {W0 : World} {G0 G1 G2 G3 G4 G5 : World → Value → Prop} {b0 b1 b2 b3 b4 b5 : Bool} {s0 s1 s2 s3 s4 s5 : Value} {p1 q1 : Bool} {t1 x1 : Value} {p2 q2 : Bool} {t2 x2 : Value} {w w' : World}
theorem BC.start (h : Below B W0 w) (hs : B ≤ w.heap.size) : BC B W0 G0 G1 G2 G3 G4 G5 false false false false false false s0 s1 s2 s3 s4 s5 false false t1 x1 false false t2 x2 w :=
  ⟨h, hs, nofun, nofun, nofun, nofun, nofun, nofun, nofun, nofun, nofun⟩
theorem BC.step (h : BC B W0 G0 G1 G2 G3 G4 G5 b0 b1 b2 b3 b4 b5 s0 s1 s2 s3 s4 s5 p1 q1 t1 x1 p2 q2 t2 x2 w) (k : KC G0 G1 G2 G3 G4 G5) (hb : Below w.heap.size w w') : BC B W0 G0 G1 G2 G3 G4 G5 b0 b1 b2 b3 b4 b5 s0 s1 s2 s3 s4 s5 p1 q1 t1 x1 p2 q2 t2 x2 w' := by
  have hk : Keeps .u64 w w' := Keeps.below hb (Nat.le_refl _)
  exact ⟨h.bel.trans (hb.mono h.siz), Nat.le_trans h.siz hb.size, fun e => k.k0 _ _ _ hk (h.v0 e), fun e => k.k1 _ _ _ hk (h.v1 e), fun e => k.k2 _ _ _ hk (h.v2 e), fun e => k.k3 _ _ _ hk (h.v3 e), fun e => k.k4 _ _ _ hk (h.v4 e), fun e => k.k5 _ _ _ hk (h.v5 e), fun e => (h.a1 e).below hb, fun e => (h.a2 e).below hb, h.ne⟩
end
end Go.Proofs.YtbapeilpkhbbeaaGreatDoor

/- exact.Compare: the order of two ratios' values; same of the laws. Written by gen_compare.py. -/
namespace Go.Proofs.YtbapeilpkhbbeaaGreatDoor
open Go.RowKit

theorem Rv.opened {w : World} {v : Value} {n d : Int} {K : Nat} (h : Rv w v n d K) : ∃ b1 o1 m1 c1 b2 o2 m2 c2, v = .agg #[.bool b1, .slice o1 m1 c1, .bool b2, .slice o2 m2 c2] ∧ Hid (∀ w', Below w.heap.size w w' → Rv w' (.agg #[.bool b1, .slice o1 m1 c1, .bool b2, .slice o2 m2 c2]) n d K) := by
  obtain ⟨p, x, y, hr, h⟩ := h
  obtain ⟨b1, o1, m1, c1, b2, o2, m2, c2, rfl, _, _⟩ := Ra.opened hr
  exact ⟨b1, o1, m1, c1, b2, o2, m2, c2, rfl, hid (fun w' hb => ⟨p, x, y, hr.below hb (Nat.le_refl _), h⟩)⟩

end Go.Proofs.YtbapeilpkhbbeaaGreatDoor

/- (exact.fraction).over; exact.Quotient. Written by gen_quot.py. -/
namespace Go.Proofs.YtbapeilpkhbbeaaGreatDoor
open Go.RowKit

end Go.Proofs.YtbapeilpkhbbeaaGreatDoor

/- exact.Quotient by values; hodoscoperef01.Wide. -/
namespace Go.Proofs.YtbapeilpkhbbeaaGreatDoor
open Go.RowKit

set_option maxRecDepth 100000 in
set_option maxHeartbeats 1000000 in
theorem wide_any (b1 b2 : Bool) (o1 o2 : Option Addr) (m1 c1 m2 c2 : Nat) (w : World) :
    Calls Tryz.prog 4 #[.agg #[.bool b1, .slice o1 m1 c1, .bool b2, .slice o2 m2 c2]] w fun e w' => e = .returned (.int .i64 (max (m1 : Int) (m2 : Int))) ∧ Below w.heap.size w w' := by
  have HB0 := hid (show Below w.heap.size w (w.alloc (.cells #[.bool b1, .slice o1 m1 c1, .bool b2, .slice o2 m2 c2] 26)) from (Below.refl _ _).alloc (Nat.le_refl _) _)
  go_enter Tryz.func4, Tryz.ntmps4
  go_wp2
  go_ret
  exact ⟨rfl, HB0.out⟩
end Go.Proofs.YtbapeilpkhbbeaaGreatDoor

/- exact.Lowest by values; the parts of a ratio. (The head of gen_simplaw.py's text, taken out by hand.) -/
namespace Go.Proofs.YtbapeilpkhbbeaaGreatDoor
open Go.RowKit

theorem Ra.rv {w : World} {v : Value} {N D : Int} {K : Nat} (h : Ra w v N D K) (hD : 0 < D) : Rv w v N D K := ⟨hD, N, D, h, by rw [(rn_pos N hD).1, (rn_pos N hD).2]⟩
theorem Ra.num {w : World} {b1 b2 : Bool} {o1 o2 : Option Addr} {m1 c1 m2 c2 : Nat} {N D : Int} {K : Nat} (h : Ra w (.agg #[.bool b1, .slice o1 m1 c1, .bool b2, .slice o2 m2 c2]) N D K) : Ai w (.agg #[.bool b1, .slice o1 m1 c1]) N K := by
  obtain ⟨_, _, _, _, _, _, _, _, e, h1, _⟩ := h
  simp only [Value.agg.injEq, Array.mk.injEq, List.cons.injEq, and_true] at e
  obtain ⟨e1, e2, e3, e4⟩ := e
  rw [e1, e2]; exact h1
end Go.Proofs.YtbapeilpkhbbeaaGreatDoor
