/- Lehmer's steps of a common divisor: plain arithmetic. Lehmer's steps: the highest 64 bits; what the steps are. exact.foresee: steps that the highest bits tell. -/
import Derived.Test.YtbapeilpkhbbeaaGreatDoorYn01
import Derived.Test.YtbapeilpkhbbeaaGreatDoorYn07
import Derived.Test.YtbapeilpkhbbeaaGreatDoorYn08
import Derived.Test.YtbapeilpkhbbeaaGreatDoorYn09
import Derived.Deep.DeepCutAuto
import Derived.Deep.CutBlock
import Derived.IntWalk
/- Lehmer's steps of a common divisor: plain arithmetic. -/
namespace Go.Proofs.YtbapeilpkhbbeaaGreatDoor

theorem leh_mul {u x D S : Int} (h0 : 0 ≤ u) (h1 : u ≤ D) (a0 : 0 ≤ x) (a1 : x < S) : 0 ≤ u * x ∧ u * x ≤ D * S - D := by
  refine ⟨Int.mul_nonneg h0 a0, ?_⟩
  have h2 : u * x ≤ D * x := Int.mul_le_mul_of_nonneg_right h1 a0
  have h3 : D * x ≤ D * (S - 1) := Int.mul_le_mul_of_nonneg_left (by omega) (by omega)
  rw [Int.mul_sub, Int.mul_one] at h3
  omega
theorem leh_pos {g u v x y D S : Int} (hg : g = 1 ∨ g = -1) (hu0 : 0 ≤ u) (hu : u ≤ D) (hv0 : 0 ≤ v) (hv : v ≤ D) (x0 : 0 ≤ x) (x1 : x < S) (y0 : 0 ≤ y) (y1 : y < S) : D ≤ D * S + g * (u * x - v * y) := by
  have h1 := leh_mul hu0 hu x0 x1
  have h2 := leh_mul hv0 hv y0 y1
  generalize u * x = p at *
  generalize v * y = q at *
  generalize D * S = r at *
  rcases hg with rfl | rfl
  · rw [Int.one_mul]; omega
  · rw [Int.neg_mul, Int.one_mul]; omega

/-- Some of Euclid's steps of a and b, told by their highest bits A and B. -/
structure LehN (a b A B : Int) (cnt a0 b0 a1 b1 hi lo : Int) : Prop where
  c0 : 0 ≤ cnt
  cb : cnt + 1 ≤ b0 + b1
  a00 : 0 ≤ a0
  b00 : 0 ≤ b0
  a10 : 0 ≤ a1
  b11 : 1 ≤ b1
  ab1 : a1 ≤ b1
  abs : a0 + a1 ≤ b0 + b1
  b0s : b0 < 4294967296
  b1s : b1 < 4294967296
  lo0 : 0 ≤ lo
  le : lo ≤ hi
  eA : b1 * hi + b0 * lo = A
  eB : a1 * hi + a0 * lo = B
  sg : ∃ g R0 R1 : Int, (g = 1 ∧ cnt % 2 = 0 ∨ g = -1 ∧ cnt % 2 = 1) ∧ R0 = g * (a0 * a - b0 * b) ∧ R1 = g * (b1 * b - a1 * a) ∧ hi = g * (a0 * A - b0 * B) ∧ lo = g * (b1 * B - a1 * A) ∧
    0 ≤ R1 ∧ (cnt = 0 ∧ R1 = b ∨ 0 < cnt ∧ R1 < R0 ∧ R0 ≤ b) ∧ Int.gcd R0 R1 = Int.gcd a b

theorem LehN.start {a b A B : Int} (hb : 0 ≤ b) (hB : 0 ≤ B) (hAB : B ≤ A) : LehN a b A B 0 1 0 0 1 A B :=
  ⟨by decide, by decide, by decide, by decide, by decide, by decide, by decide, by decide, by decide, by decide, hB, hAB, by omega, by omega, 1, a, b, .inl ⟨rfl, rfl⟩, by omega, by omega, by omega, by omega, hb, .inl ⟨rfl, rfl⟩, rfl⟩

theorem gcd_sub_mul (x y q : Int) : Int.gcd y (x - q * y) = Int.gcd x y := by
  apply Nat.dvd_antisymm
  · apply Int.dvd_gcd
    · have h1 := Int.gcd_dvd_left y (x - q * y)
      have h2 := Int.gcd_dvd_right y (x - q * y)
      have := Int.dvd_add h2 (Int.dvd_mul_of_dvd_right h1 (b := q))
      simpa using this
    · exact Int.gcd_dvd_left y (x - q * y)
  · apply Int.dvd_gcd
    · exact Int.gcd_dvd_right x y
    · exact Int.dvd_sub (Int.gcd_dvd_left x y) (Int.dvd_mul_of_dvd_right (Int.gcd_dvd_right x y))

/-- What the numbers of the next step are at most. -/
structure LehB (a0 b0 a1 b1 hi lo q rest a2 b2 : Int) : Prop where
  q1 : 1 ≤ q
  qh : q * lo ≤ hi
  r0 : 0 ≤ rest
  r1 : rest < lo
  a20 : 0 ≤ a2
  qa0 : 0 ≤ q * a1
  qa : q * a1 ≤ a2
  ab2 : a2 ≤ b2
  qb0 : 0 ≤ q * b1
  qb : q * b1 ≤ b2
  b21 : 1 ≤ b2
  bA : b2 * lo + b1 * rest = b1 * hi + b0 * lo
  bB : a2 * lo + a1 * rest = a1 * hi + a0 * lo

theorem LehN.bounds {a b A B cnt a0 b0 a1 b1 hi lo : Int} (H : LehN a b A B cnt a0 b0 a1 b1 hi lo) (hlo : 0 < lo) :
    LehB a0 b0 a1 b1 hi lo (hi / lo) (hi - hi / lo * lo) (a0 + hi / lo * a1) (b0 + hi / lo * b1) := by
  have e := Int.emod_add_mul_ediv hi lo
  have m0 := Int.emod_nonneg hi (show lo ≠ 0 by omega)
  have m1 := Int.emod_lt_of_pos hi hlo
  have q1 : 1 ≤ hi / lo := by
    have := Int.ediv_le_ediv hlo H.le
    rw [Int.ediv_self (by omega)] at this; exact this
  rw [Int.mul_comm lo] at e
  generalize hi / lo = q at *
  generalize hi % lo = m at *
  have ha := H.a10; have hb := H.b11; have h1 := H.ab1; have h2 := H.abs; have h3 := H.a00; have h4 := H.b00
  have f1 : 0 ≤ q * a1 := Int.mul_nonneg (by omega) ha
  have f2 : 0 ≤ q * b1 := Int.mul_nonneg (by omega) (by omega)
  have f3 : (q - 1) * a1 ≤ (q - 1) * b1 := Int.mul_le_mul_of_nonneg_left h1 (by omega)
  have f4 : 1 * 1 ≤ q * b1 := Int.mul_le_mul q1 hb (by decide) (by omega)
  rw [Int.sub_mul, Int.sub_mul, Int.one_mul, Int.one_mul] at f3
  refine ⟨q1, by omega, by omega, by omega, by omega, f1, by omega, by omega, f2, by omega, by omega, ?_, ?_⟩
  · have : hi - q * lo = m := by omega
    rw [← e]; grind
  · rw [← e]; grind

/-- A factor of what is small is small. -/
theorem leh_le {u x p A : Int} (hu : 0 ≤ u) (hx : 1 ≤ x) (hp : 0 ≤ p) (h : u * x + p = A) : u ≤ A := by
  have : u * 1 ≤ u * x := Int.mul_le_mul_of_nonneg_left hx hu
  omega

theorem LehB.fits {a0 b0 a1 b1 hi lo q rest a2 b2 A B : Int} (h : LehB a0 b0 a1 b1 hi lo q rest a2 b2) (hA : b1 * hi + b0 * lo = A) (hB : a1 * hi + a0 * lo = B) (hb1 : 1 ≤ b1) (ha1 : 0 ≤ a1) : b2 ≤ A ∧ a2 ≤ B ∧ (b2 ≤ rest → b1 + b2 ≤ A ∧ b2 * b2 ≤ A) := by
  have hlo : 1 ≤ lo := by have := h.r0; have := h.r1; omega
  have e1 := h.bA; have e2 := h.bB
  rw [hA] at e1; rw [hB] at e2
  have p1 : 0 ≤ b1 * rest := Int.mul_nonneg (by omega) h.r0
  have p2 : 0 ≤ a1 * rest := Int.mul_nonneg ha1 h.r0
  refine ⟨leh_le (by have := h.b21; omega) hlo p1 e1, leh_le h.a20 hlo p2 e2, fun hr => ?_⟩
  have hb2 := h.b21
  have g1 : b2 * 1 ≤ b2 * lo := Int.mul_le_mul_of_nonneg_left hlo (by omega)
  have g2 : b1 * 1 ≤ b1 * rest := Int.mul_le_mul_of_nonneg_left (by omega) (by omega)
  have g3 : b2 * b2 ≤ b2 * lo := Int.mul_le_mul_of_nonneg_left (by have := h.r1; omega) (by omega)
  constructor <;> omega

theorem sq_lt {x A : Int} (h : x * x ≤ A) (hA : A < 18446744073709551616) : x < 4294967296 := by
  by_cases h1 : x < 4294967296
  · exact h1
  · have : (4294967296 : Int) * 4294967296 ≤ x * x := Int.mul_le_mul (by omega) (by omega) (by decide) (by omega)
    omega

theorem LehN.next {a b A B S x y cnt a0 b0 a1 b1 hi lo q rest a2 b2 : Int} (H : LehN a b A B cnt a0 b0 a1 b1 hi lo) (h : LehB a0 b0 a1 b1 hi lo q rest a2 b2) (hr : rest = hi - q * lo) (h2 : a2 = a0 + q * a1) (h3 : b2 = b0 + q * b1)
    (ha : a = A * S + x) (hb : b = B * S + y) (x0 : 0 ≤ x) (x1 : x < S) (y0 : 0 ≤ y) (y1 : y < S) (hA : A < 18446744073709551616) (k1 : b2 ≤ rest) (k2 : b1 + b2 ≤ lo - rest) : LehN a b A B (cnt + 1) a1 b1 a2 b2 lo rest := by
  obtain ⟨g, R0, R1, hg, e0, e1, e2, e3, hp, hc, hgcd⟩ := H.sg
  have hg' : g = 1 ∨ g = -1 := by rcases hg with h | h; exact .inl h.1; exact .inr h.1
  have f := h.fits H.eA H.eB H.b11 H.a10
  have hsq := sq_lt (f.2.2 k1).2 hA
  have ab1 := H.ab1; have ab2 := h.ab2; have a10 := H.a10; have b11 := H.b11; have a20 := h.a20; have b21 := h.b21
  have w1 : R0 - q * R1 = rest * S + g * (a2 * x - b2 * y) := by
    rw [e0, e1, hr, e2, e3, ha, hb, h2, h3]; grind
  have w2 : R1 - (R0 - q * R1) = (lo - rest) * S + g * ((b1 + b2) * y - (a1 + a2) * x) := by
    rw [e0, e1, hr, e2, e3, ha, hb, h2, h3]; grind
  have p1 := leh_pos hg' a20 (by omega) (by omega) k1 x0 x1 y0 y1
  have p2 := leh_pos (D := lo - rest) hg' (by omega) k2 (show 0 ≤ a1 + a2 by omega) (by omega) y0 y1 x0 x1
  rw [← w1] at p1
  rw [← w2] at p2
  have r0 := h.r0; have r1 := h.r1
  refine ⟨by have := H.c0; omega, ?_, a10, by omega, a20, by omega, ab2, by omega, H.b1s, hsq, r0, by omega, by rw [h.bA]; exact H.eA, by rw [h.bB]; exact H.eB, -g, R1, R0 - q * R1, ?_, ?_, ?_, ?_, ?_, by omega, .inr ⟨by have := H.c0; omega, by omega, ?_⟩, ?_⟩
  · have h5 := H.cb; have h6 := h.qb; have h7 := h.q1
    have : 1 * b1 ≤ q * b1 := Int.mul_le_mul_of_nonneg_right h7 (by omega)
    omega
  · rcases hg with ⟨rfl, h⟩ | ⟨rfl, h⟩
    · right; exact ⟨rfl, by omega⟩
    · left; exact ⟨rfl, by omega⟩
  · rw [e1]; grind
  · rw [e0, e1, h2, h3]; grind
  · rw [e3]; grind
  · rw [hr, e2, e3, h2, h3]; grind
  · rcases hc with ⟨_, h⟩ | ⟨_, h, h'⟩ <;> omega
  · rw [← hgcd]; exact gcd_sub_mul R0 R1 q

end Go.Proofs.YtbapeilpkhbbeaaGreatDoor

/- Lehmer's steps: the highest 64 bits; what the steps are. -/
namespace Go.Proofs.YtbapeilpkhbbeaaGreatDoor
open Go.RowKit

theorem or_up (h l : Int) (s : Nat) (h0 : 0 ≤ h) (h1 : h * 2 ^ s < 18446744073709551616) (l0 : 0 ≤ l) (l1 : l < 2 ^ s) (l2 : l < 18446744073709551616) : bits .or .u64 (h * 2 ^ s) l = l + h * 2 ^ s := by
  rw [← or_low h l s h0 h1 l0 l1 l2]
  obtain ⟨a, rfl⟩ := Int.eq_ofNat_of_zero_le h0
  obtain ⟨b, rfl⟩ := Int.eq_ofNat_of_zero_le l0
  have e : ((a : Int) * 2 ^ s) = ((a * 2 ^ s : Nat) : Int) := by simp
  rw [e] at h1 ⊢
  rw [bits_or_u64_nat _ _ (by omega) (by omega), bits_or_u64_nat _ _ (by omega) (by omega), Nat.or_comm]

/-- The number of which the highest limb is y. -/
theorem val_top {L : List Int} {k : Nat} (hl : L.length = k + 1) : val B64 L = val B64 (L.take k) + B64 ^ k * L[k]?.getD 0 := by
  have e := take_succ_getD L k (by omega)
  rw [List.take_of_length_le (by omega)] at e
  have h := congrArg (val B64) e
  rw [h, val_snoc, List.length_take, Nat.min_eq_left (by omega)]
theorem top_eq {L : List Int} {k : Nat} (hd : Dig B64 L) (hl : L.length = k + 1) : val B64 L / B64 ^ k = L[k]?.getD 0 := by
  have h1 := val_lt B64_pos (hd.take k)
  rw [List.length_take, Nat.min_eq_left (by omega)] at h1
  have h0 := val_nonneg B64_pos (hd.take k)
  exact ((Int.ediv_emod_unique (Int.pow_pos B64_pos)).2 ⟨(val_top hl).symm, h0, h1⟩).1

/-- The unit of the highest 64 bits. -/
def topS (m s : Nat) : Int := B64 ^ m * 2 ^ (64 - s)
theorem topS_pos {m s : Nat} (hs : s ≤ 63) : 0 < topS m s := Int.mul_pos (Int.pow_pos B64_pos) (pow_split hs).2.1

theorem top_one {L : List Int} {m s : Nat} (hd : Dig B64 L) (hl : L.length = m + 1) : L[m]?.getD 0 / 2 ^ (64 - s) = val B64 L / topS m s := by
  unfold topS
  rw [← Int.ediv_ediv_of_nonneg (Int.le_of_lt (Int.pow_pos B64_pos)), top_eq hd hl]
theorem top_none {L : List Int} {m s : Nat} (hd : Dig B64 L) (hl : L.length ≤ m) (hs : s ≤ 63) : val B64 L / topS m s = 0 := by
  refine Int.ediv_eq_zero_of_lt (val_nonneg B64_pos hd) (Int.lt_of_lt_of_le (val_lt B64_pos hd) (Int.le_trans (pow_mono B64_pos hl) ?_))
  unfold topS
  have p := (pow_split hs).2.1
  have q : (0 : Int) < B64 ^ m := Int.pow_pos B64_pos
  have := Int.mul_le_mul_of_nonneg_left (show (1 : Int) ≤ 2 ^ (64 - s) by omega) (Int.le_of_lt q)
  omega
theorem top_two {L : List Int} {m s : Nat} (hd : Dig B64 L) (hl : L.length = m + 2) (hs : s ≤ 63) (hy : L[m + 1]?.getD 0 * 2 ^ s < B64) :
    bits .or .u64 (L[m + 1]?.getD 0 * 2 ^ s) (L[m]?.getD 0 / 2 ^ (64 - s)) = val B64 L / topS m s := by
  obtain ⟨p1, p2, p3⟩ := pow_split hs
  have y0 := (hd.at B64_pos (m + 1)).1
  have z := hd.at B64_pos m
  have q0 : 0 ≤ L[m]?.getD 0 / 2 ^ (64 - s) := Int.ediv_nonneg z.1 (Int.le_of_lt p2)
  have q1 : L[m]?.getD 0 / 2 ^ (64 - s) < 2 ^ s := Int.ediv_lt_of_lt_mul p2 (by rw [Int.mul_comm, p3]; exact z.2)
  have q2 : L[m]?.getD 0 / 2 ^ (64 - s) < 18446744073709551616 := Int.lt_of_le_of_lt (Int.ediv_le_self _ z.1) z.2
  rw [or_up _ _ s y0 hy q0 q1 q2]
  have hv : val B64 L / B64 ^ m = L[m]?.getD 0 + B64 * L[m + 1]?.getD 0 := by
    have e1 := val_top (L := L) (k := m + 1) (by omega)
    have e2 := val_top (L := L.take (m + 1)) (k := m) (by rw [List.length_take]; omega)
    have e3 : (L.take (m + 1)).take m = L.take m := by rw [List.take_take, Nat.min_eq_left (by omega)]
    have e4 : (L.take (m + 1))[m]?.getD 0 = L[m]?.getD 0 := by simp
    rw [e3, e4] at e2
    rw [e2] at e1
    have h1 := val_lt B64_pos (hd.take m)
    rw [List.length_take, Nat.min_eq_left (by omega)] at h1
    have h0 := val_nonneg B64_pos (hd.take m)
    refine ((Int.ediv_emod_unique (Int.pow_pos B64_pos)).2 ⟨?_, h0, h1⟩).1
    rw [e1, Int.pow_succ]; grind
  unfold topS
  rw [← Int.ediv_ediv_of_nonneg (Int.le_of_lt (Int.pow_pos B64_pos)), hv, ← p3]
  rw [show L[m]?.getD 0 + 2 ^ (64 - s) * 2 ^ s * L[m + 1]?.getD 0 = L[m]?.getD 0 + 2 ^ (64 - s) * (L[m + 1]?.getD 0 * 2 ^ s) by grind]
  rw [Int.add_mul_ediv_left _ _ (by omega)]

theorem top_lt {L : List Int} {m s : Nat} (hd : Dig B64 L) (hn : Nrm L) (hl : L.length = m + 2) (hs : s ≤ 63) (hy : L[m + 1]?.getD 0 * 2 ^ s < B64) : val B64 L / topS m s < B64 := by
  obtain ⟨p1, p2, p3⟩ := pow_split hs
  have h := (top_shift hd hn hl hs hy).2
  refine Int.ediv_lt_of_lt_mul (topS_pos hs) ?_
  have e : B64 ^ (m + 1 + 1) = B64 * topS m s * 2 ^ s := by
    unfold topS; rw [Int.pow_succ, Int.pow_succ]
    rw [show B64 * (B64 ^ m * 2 ^ (64 - s)) * 2 ^ s = B64 * B64 ^ m * (2 ^ (64 - s) * 2 ^ s) by grind, p3]; grind
  rw [e] at h
  exact Int.lt_of_mul_lt_mul_right h (Int.le_of_lt p1)

/-- A number that is not greater has no greater limb at the top. -/
theorem top_le {L M : List Int} {k : Nat} (hd : Dig B64 L) (hm : Dig B64 M) (hl : L.length = k + 1) (hk : M.length = k + 1) (h : val B64 M ≤ val B64 L) : M[k]?.getD 0 ≤ L[k]?.getD 0 := by
  rw [← top_eq hd hl, ← top_eq hm hk]
  exact Int.ediv_le_ediv (Int.pow_pos B64_pos) h

/-- What foresee tells of a and b. -/
structure StepsN (a b cnt a0 b0 a1 b1 : Int) : Prop where
  c : 0 ≤ cnt ∧ cnt ≤ 8589934592
  a0s : 0 ≤ a0 ∧ a0 < B64
  b0s : 0 ≤ b0 ∧ b0 < B64
  a1s : 0 ≤ a1 ∧ a1 < B64
  b1s : 0 ≤ b1 ∧ b1 < B64
  did : 0 < cnt → ∃ R0 R1 : Int, (cnt % 2 = 0 ∧ R0 = a0 * a - b0 * b ∧ R1 = b1 * b - a1 * a ∨ cnt % 2 = 1 ∧ R0 = b0 * b - a0 * a ∧ R1 = a1 * a - b1 * b) ∧ 0 ≤ R1 ∧ R1 < R0 ∧ R0 ≤ b ∧ Int.gcd R0 R1 = Int.gcd a b

theorem LehN.steps {a b A B cnt a0 b0 a1 b1 hi lo : Int} (H : LehN a b A B cnt a0 b0 a1 b1 hi lo) : StepsN a b cnt a0 b0 a1 b1 := by
  have h1 := H.c0; have h2 := H.cb; have h3 := H.b0s; have h4 := H.b1s; have h5 := H.a00; have h6 := H.a10; have h7 := H.abs; have h8 := H.b00; have h9 := H.b11
  refine ⟨⟨h1, by omega⟩, ⟨h5, by unfold B64; omega⟩, ⟨h8, by unfold B64; omega⟩, ⟨h6, by unfold B64; omega⟩, ⟨by omega, by unfold B64; omega⟩, fun hp => ?_⟩
  obtain ⟨g, R0, R1, hg, e0, e1, _, _, hp1, hc, hgcd⟩ := H.sg
  refine ⟨R0, R1, ?_, hp1, by omega, by omega, hgcd⟩
  rcases hg with ⟨rfl, h⟩ | ⟨rfl, h⟩
  · left; exact ⟨h, by omega, by omega⟩
  · right; exact ⟨h, by omega, by omega⟩

/-- A sum modulo a power is the result, if that is below the power. -/
theorem low_eq {u v a b R P c l : Int} (hR : R = u * a - v * b) (hR0 : 0 ≤ R) (hR1 : R < P) (hl0 : 0 ≤ l) (hl1 : l < P) (he : l + P * c = u * (a % P) - v * b) : l = R := by
  have hP : 0 < P := by omega
  have e := Int.emod_add_mul_ediv a P
  have h : R = l + P * (c + u * (a / P)) := by
    rw [hR]
    generalize a % P = x at *
    generalize a / P = y at *
    rw [← e]; grind
  have h2 : R % P = l := by rw [h, Int.add_mul_emod_self_left]; exact Int.emod_eq_of_lt hl0 hl1
  rw [← h2]; exact Int.emod_eq_of_lt hR0 hR1

end Go.Proofs.YtbapeilpkhbbeaaGreatDoor

/- exact.foresee: steps that the highest bits tell. -/
namespace Go.Proofs.YtbapeilpkhbbeaaGreatDoor
open Go.RowKit

/-- Block g is a struct with the fields vs. -/
def Obs (T : TypeId) (w : World) (g : Nat) (vs : List Value) : Prop := w.heap[g]? = some (.cells vs.toArray T (0, 0))
theorem Obs.lt {T : TypeId} {w : World} {g : Nat} {vs : List Value} (h : Obs T w g vs) : g < w.heap.size := (Array.getElem?_eq_some_iff.1 h).1
theorem Obs.cell {T : TypeId} {w : World} {g : Nat} {vs : List Value} (h : Obs T w g vs) (i : Nat) (v : Value) (hi : vs[i]? = some v) : w.cell? ⟨g, i, none⟩ = some v := by
  rw [cell_of_row w g i _ T (0, 0) h]; simpa using hi
theorem Obs.frozen {T : TypeId} {w : World} {g : Nat} {vs : List Value} (h : Obs T w g vs) (i : Nat) : w.frozen? ⟨g, i, none⟩ = false := frozen_of_row w g i _ T h
theorem Obs.set {T : TypeId} {w : World} {g : Nat} {vs : List Value} (h : Obs T w g vs) (i : Nat) (v : Value) : Obs T (w.setCell ⟨g, i, none⟩ v) g (vs.set i v) := by
  unfold Obs
  rw [heap_setCell_same w g i _ T _ h]; simp
theorem Obs.kept {T : TypeId} {w w' : World} {g : Nat} {vs : List Value} {r : Option Nat} (h : Obs T w g vs) (hg : w.grownBy w' r) (hne : some g ≠ r) : Obs T w' g vs := by
  unfold Obs; rw [hg.block g h.lt hne]; exact h
theorem Obs.alloc {T : TypeId} {w : World} {g : Nat} {vs : List Value} (h : Obs T w g vs) (o : Obj) : Obs T (w.alloc o) g vs := h.kept (World.grownBy_alloc w o none) (by simp)
theorem Obs.other {T : TypeId} {w : World} {g : Nat} {vs : List Value} (h : Obs T w g vs) {g' : Nat} (hne : g' ≠ g) (i : Nat) (v : Value) : Obs T (w.setCell ⟨g', i, none⟩ v) g vs :=
  h.kept (grown_set w g' i v) (by simp; exact fun e => hne e.symm)
theorem Obs.drewN {T : TypeId} {w : World} {g : Nat} {vs : List Value} (h : Obs T w g vs) (n : Nat) : Obs T (w.drewN n) g vs := h
theorem Obs.new (T : TypeId) (w : World) (vs : List Value) : Obs T (w.alloc (.cells vs.toArray T (0, 0))) w.heap.size vs := by
  unfold Obs; show (w.heap.push _)[w.heap.size]? = _; simp

/-- The fields of steps. -/
def stepL (c a0 b0 a1 b1 : Int) : List Value := [.int .i64 c, .int .u64 a0, .int .u64 b0, .int .u64 a1, .int .u64 b1]

structure ForeI (w wr : World) (c a0 b0 a1 b1 : Int) : Prop where
  o4 : Obs 161 wr w.heap.size (stepL 0 0 0 0 0)
  o5 : Obs 161 wr (w.heap.size + 1) (stepL c a0 b0 a1 b1)
  low : Below w.heap.size w wr

theorem ForeI.cells {w wr : World} {c a0 b0 a1 b1 : Int} (H : ForeI w wr c a0 b0 a1 b1) :
    wr.cell? ⟨w.heap.size + 1, 0, none⟩ = some (.int .i64 c) ∧ wr.cell? ⟨w.heap.size + 1, 1, none⟩ = some (.int .u64 a0) ∧ wr.cell? ⟨w.heap.size + 1, 2, none⟩ = some (.int .u64 b0) ∧ wr.cell? ⟨w.heap.size + 1, 3, none⟩ = some (.int .u64 a1) ∧ wr.cell? ⟨w.heap.size + 1, 4, none⟩ = some (.int .u64 b1) :=
  ⟨H.o5.cell 0 _ rfl, H.o5.cell 1 _ rfl, H.o5.cell 2 _ rfl, H.o5.cell 3 _ rfl, H.o5.cell 4 _ rfl⟩
theorem ForeI.frozen {w wr : World} {c a0 b0 a1 b1 : Int} (H : ForeI w wr c a0 b0 a1 b1) :
    wr.frozen? ⟨w.heap.size + 1, 0, none⟩ = false ∧ wr.frozen? ⟨w.heap.size + 1, 1, none⟩ = false ∧ wr.frozen? ⟨w.heap.size + 1, 2, none⟩ = false ∧ wr.frozen? ⟨w.heap.size + 1, 3, none⟩ = false ∧ wr.frozen? ⟨w.heap.size + 1, 4, none⟩ = false :=
  ⟨H.o5.frozen 0, H.o5.frozen 1, H.o5.frozen 2, H.o5.frozen 3, H.o5.frozen 4⟩

theorem ForeI.olds {w wr : World} {c a0 b0 a1 b1 : Int} (H : ForeI w wr c a0 b0 a1 b1) :
    wr.cell? ⟨w.heap.size, 0, none⟩ = some (.int .i64 0) ∧ wr.cell? ⟨w.heap.size, 1, none⟩ = some (.int .u64 0) ∧ wr.cell? ⟨w.heap.size, 2, none⟩ = some (.int .u64 0) ∧ wr.cell? ⟨w.heap.size, 3, none⟩ = some (.int .u64 0) ∧ wr.cell? ⟨w.heap.size, 4, none⟩ = some (.int .u64 0) ∧
    wr.frozen? ⟨w.heap.size, 0, none⟩ = false ∧ wr.frozen? ⟨w.heap.size, 1, none⟩ = false ∧ wr.frozen? ⟨w.heap.size, 2, none⟩ = false ∧ wr.frozen? ⟨w.heap.size, 3, none⟩ = false ∧ wr.frozen? ⟨w.heap.size, 4, none⟩ = false :=
  ⟨H.o4.cell 0 _ rfl, H.o4.cell 1 _ rfl, H.o4.cell 2 _ rfl, H.o4.cell 3 _ rfl, H.o4.cell 4 _ rfl, H.o4.frozen 0, H.o4.frozen 1, H.o4.frozen 2, H.o4.frozen 3, H.o4.frozen 4⟩
theorem ForeI.drewN {w wr : World} {c a0 b0 a1 b1 : Int} (H : ForeI w wr c a0 b0 a1 b1) (n : Nat) : ForeI w (wr.drewN n) c a0 b0 a1 b1 := ⟨H.o4, H.o5, below_drewN H.low n⟩
theorem ForeI.sets {w wr : World} {c a0 b0 a1 b1 c' a0' b0' a1' b1' : Int} (H : ForeI w wr c a0 b0 a1 b1) : ForeI w (((((wr.setCell ⟨w.heap.size + 1, 0, none⟩ (.int .i64 c')).setCell ⟨w.heap.size + 1, 1, none⟩ (.int .u64 a0')).setCell ⟨w.heap.size + 1, 2, none⟩ (.int .u64 b0')).setCell ⟨w.heap.size + 1, 3, none⟩ (.int .u64 a1')).setCell ⟨w.heap.size + 1, 4, none⟩ (.int .u64 b1')) c' a0' b0' a1' b1' :=
  ⟨((((H.o4.other (by omega) 0 _).other (by omega) 1 _).other (by omega) 2 _).other (by omega) 3 _).other (by omega) 4 _, ((((H.o5.set 0 _).set 1 _).set 2 _).set 3 _).set 4 _, ((((H.low.setCell (by simp) _).setCell (by simp) _).setCell (by simp) _).setCell (by simp) _).setCell (by simp) _⟩

set_option maxRecDepth 100000 in
set_option maxHeartbeats 4000000 in
theorem foresee_any (ao bo : Option Addr) (ca cb : Nat) (LA LB : List Int) (a b : Int) (Ka Kb : Nat) (w : World) (hA : NtL w ao ca LA a Ka) (hB : NtL w bo cb LB b Kb) (hab : b ≤ a) (hl : 2 ≤ LB.length) (hK : Ka ≤ 1073741824) :
    Calls Tryz.prog 117 #[.slice ao LA.length ca, .slice bo LB.length cb] w fun e w' => ∃ cnt a0 b0 a1 b1, e = .returned (.agg #[.int .i64 cnt, .int .u64 a0, .int .u64 b0, .int .u64 a1, .int .u64 b1]) ∧ StepsN a b cnt a0 b0 a1 b1 ∧ Below w.heap.size w w' := by
  have hle := len_of_le hA.dig hB.dig hB.nrm (by rw [hA.eq, hB.eq]; exact hab)
  obtain ⟨m, hm⟩ : ∃ m, LA.length = m + 2 := ⟨LA.length - 2, by omega⟩
  obtain ⟨n, hn⟩ : ∃ n, n = LB.length := ⟨_, rfl⟩
  obtain ⟨ba, oa, rfl⟩ := hA.rd.adr (by omega)
  obtain ⟨bb, ob, rfl⟩ := hB.rd.adr (by omega)
  have hm30 : m + 2 ≤ 1073741824 := by have := hA.le; omega
  have cA1 : w.cell? ⟨ba, oa + (m + 2 - 1), none⟩ = _ := hA.rd.cell ba oa rfl (m + 1) (by omega)
  have cA0 : w.cell? ⟨ba, oa + (m + 2 - 2), none⟩ = _ := hA.rd.cell ba oa rfl m (by omega)
  have hba : ba < w.heap.size := World.block_lt_of_cell? w _ cA1
  have hba1 : ba < w.heap.size + 1 := by omega
  have hy := hA.dig.at B64_pos (m + 1)
  have hz := hA.dig.at B64_pos m
  have hy0 := hA.nrm.top hm
  obtain ⟨y, hye⟩ : ∃ y, y = LA[m + 1]?.getD 0 := ⟨_, rfl⟩
  obtain ⟨z, hze⟩ : ∃ z, z = LA[m]?.getD 0 := ⟨_, rfl⟩
  rw [← hye] at cA1 hy hy0; rw [← hze] at cA0 hz
  have hlz := fun w => lz64 y (by omega) hy.2 w
  have hz0 := hz.1
  have hyn := hy.1
  have Hlz := hid hlz; have HA := hid hA; have HB := hid hB; have Hy := hid hye; have Hz := hid hze; have Hn := hid hn; have Hm := hid hm; have Hab := hid hab; have HY := hid hy
  rw [hm, ← hn]
  rw [hm, ← hn] at hle
  rw [← hn] at hl
  clear hlz hA hB hye hze hn hm hab hy hy0 hz
  go_enter Tryz.func117, Tryz.ntmps117
  go_upto_region 3 with (fail)
  obtain ⟨W0, hW0⟩ : ∃ W0, W0 = ((w.alloc (.cells #[.int .i64 0, .int .u64 0, .int .u64 0, .int .u64 0, .int .u64 0] 161)).alloc (.cells #[.int .i64 0, .int .u64 1, .int .u64 0, .int .u64 0, .int .u64 1] 161)) := ⟨_, rfl⟩
  have hI0 : ForeI w W0 0 1 0 0 1 := by
    rw [hW0]
    exact ⟨(Obs.new _ w _).alloc _, by have := Obs.new 161 (w.alloc (.cells #[.int .i64 0, .int .u64 0, .int .u64 0, .int .u64 0, .int .u64 0] 161)) (stepL 0 1 0 0 1); simpa [stepL] using this, ((Below.refl _ _).alloc (Nat.le_refl _) _).alloc (by simp) _⟩
  have HI0 := hid hI0
  clear hI0
  rw [← hW0]
  clear hW0
  have cA1' := (HA.out.rd.below HI0.out.low (Nat.le_refl _)).cell ba oa rfl (m + 1) (by have := Hm.out; omega)
  have cA0' := (HA.out.rd.below HI0.out.low (Nat.le_refl _)).cell ba oa rfl m (by have := Hm.out; omega)
  rw [← Hy.out] at cA1'; rw [← Hz.out] at cA0'
  clear cA1 cA0 hba hba1
  go_wp2_with fail
  refine (Hlz.out _).mono ?_
  rintro e wz ⟨s, rfl, hs63, _, hs2, rfl⟩
  have hwr : IntKind.u64.wrap (y * 2 ^ s) = y * 2 ^ s := by
    rw [IntKind.wrap_u64]
    exact Int.emod_eq_of_lt (Int.mul_nonneg hyn (Int.le_of_lt (Int.pow_pos (by decide)))) hs2
  have hA8 : bits .or .u64 (IntKind.u64.wrap (y * 2 ^ s)) (z / 2 ^ (64 - s)) = a / topS m s := by
    rw [hwr, Hy.out, Hz.out, top_two HA.out.dig Hm.out hs63 (by rw [← Hy.out]; exact hs2), HA.out.eq]
  have Hs2 := hid hs2; have HA8 := hid hA8
  clear hs2 hwr hA8
  go_wp2
  go_quiet (fail)
  go_upto_block 0 with (fail)
  rw [HA8.out]
  have hSp := topS_pos (m := m) hs63
  have hA0 : 0 ≤ a / topS m s := Int.ediv_nonneg HA.out.nonneg (Int.le_of_lt hSp)
  have hBp : 0 ≤ b / topS m s := Int.ediv_nonneg HB.out.nonneg (Int.le_of_lt hSp)
  have hBA : b / topS m s ≤ a / topS m s := Int.ediv_le_ediv hSp Hab.out
  have hA64 : a / topS m s < 18446744073709551616 := by
    have := top_lt HA.out.dig HA.out.nrm Hm.out hs63 (by rw [← Hy.out]; exact Hs2.out)
    rw [HA.out.eq] at this; exact this
  have hAe := Int.emod_add_mul_ediv a (topS m s)
  have hBe := Int.emod_add_mul_ediv b (topS m s)
  have hAm := And.intro (Int.emod_nonneg a (show topS m s ≠ 0 by omega)) (Int.emod_lt_of_pos a hSp)
  have hBm := And.intro (Int.emod_nonneg b (show topS m s ≠ 0 by omega)) (Int.emod_lt_of_pos b hSp)
  obtain ⟨A, hAA⟩ : ∃ A, A = a / topS m s := ⟨_, rfl⟩
  obtain ⟨B, hBB⟩ : ∃ B, B = b / topS m s := ⟨_, rfl⟩
  rw [← hAA] at hA0 hBA hA64 hAe ⊢
  rw [← hBB] at hBp hBA hBe
  have HBB := hid hBB; have HBA := hid hBA; have HAe := hid hAe; have HBe := hid hBe; have HAm := hid hAm; have HBm := hid hBm; have HBp := hid hBp
  clear hAA hBB hBA hAe hBe hAm hBm hSp
  go_cut [9] (fun lv wx => lv = .int .u64 B ∧ ∃ nq', wx = W0.drewN nq')
  case first =>
    by_cases h1 : n = m + 2
    · subst h1
      have cB1 := (HB.out.rd.below HI0.out.low (Nat.le_refl _)).cell bb ob rfl (m + 1) (by have := Hn.out; omega)
      have cB0 := (HB.out.rd.below HI0.out.low (Nat.le_refl _)).cell bb ob rfl m (by have := Hn.out; omega)
      have e1 := hid (top_le HA.out.dig HB.out.dig (k := m + 1) Hm.out Hn.out.symm (by rw [HA.out.eq, HB.out.eq]; exact Hab.out))
      have t1 := HB.out.dig.at B64_pos (m + 1)
      have t0 := (HB.out.dig.at B64_pos m).1
      have e2 : LB[m + 1]?.getD 0 * 2 ^ s < B64 := by
        have := Int.mul_le_mul_of_nonneg_right e1.out (Int.le_of_lt (Int.pow_pos (m := s) (show (0 : Int) < 2 by decide)))
        rw [← Hy.out] at this; have := Hs2.out; omega
      have e3 : IntKind.u64.wrap (LB[m + 1]?.getD 0 * 2 ^ s) = LB[m + 1]?.getD 0 * 2 ^ s := by
        rw [IntKind.wrap_u64]
        exact Int.emod_eq_of_lt (Int.mul_nonneg t1.1 (Int.le_of_lt (Int.pow_pos (by decide)))) e2
      have e4 : bits .or .u64 (IntKind.u64.wrap (LB[m + 1]?.getD 0 * 2 ^ s)) (LB[m]?.getD 0 / 2 ^ (64 - s)) = B := by
        rw [e3, top_two HB.out.dig Hn.out.symm hs63 e2, HB.out.eq, ← HBB.out]
      obtain ⟨y2, hy2⟩ : ∃ y2, y2 = LB[m + 1]?.getD 0 := ⟨_, rfl⟩
      obtain ⟨z2, hz2⟩ : ∃ z2, z2 = LB[m]?.getD 0 := ⟨_, rfl⟩
      rw [← hy2] at cB1 e4 t1
      rw [← hz2] at cB0 e4 t0
      have y20 := t1.1
      have HE4 := hid e4
      have hb : ((m : Int) + 2 == (m : Int) + 2) = true := by simp
      clear e1 e2 e3 e4 hy2 hz2 t1
      go_wp2
      go_quiet (fail)
      go_wp2
      go_meet
      exact ⟨by rw [HE4.out], _, World.drewN_drewN _ _ _⟩
    · have hb1 : ((n : Int) == (m : Int) + 2) = false := by rw [beq_eq_false_iff_ne]; omega
      by_cases h2 : n = m + 1
      · subst h2
        have cB0 := (HB.out.rd.below HI0.out.low (Nat.le_refl _)).cell bb ob rfl m (by have := Hn.out; omega)
        have t0 := (HB.out.dig.at B64_pos m).1
        have e4 := top_one (s := s) HB.out.dig Hn.out.symm
        rw [HB.out.eq, ← HBB.out] at e4
        obtain ⟨z2, hz2⟩ : ∃ z2, z2 = LB[m]?.getD 0 := ⟨_, rfl⟩
        rw [← hz2] at cB0 e4 t0
        have HE4 := hid e4
        clear e4 hz2 h1
        go_wp2
        go_meet
        exact ⟨by rw [HE4.out], _, rfl⟩
      · have hb2 : ((n : Int) == (m : Int) + 2 - 1) = false := by rw [beq_eq_false_iff_ne]; omega
        have hb3 : ((n : Int) == (m : Int) + 1) = false := by rw [beq_eq_false_iff_ne]; omega
        have e4 := top_none HB.out.dig (show LB.length ≤ m by have := Hn.out; omega) hs63
        rw [HB.out.eq, ← HBB.out] at e4
        have HE4 := hid e4
        clear e4 h1 h2
        go_wp2
        go_meet
        exact ⟨by rw [HE4.out], _, rfl⟩
  case rest =>
    obtain ⟨rfl, nq', rfl⟩ := hcut
    have HL0 := hid (LehN.start (a := a) HB.out.nonneg HBp.out HBA.out)
    go_wp2
    go_loopw [8, 9] (fun hv lv wr => ∃ cnt a0 b0 a1 b1 hi lo, hv = .int .u64 hi ∧ lv = .int .u64 lo ∧ LehN a b A B cnt a0 b0 a1 b1 hi lo ∧ ForeI w wr cnt a0 b0 a1 b1) (fun _ lv _ => (intOf lv).toNat)
    case atStart => exact ⟨0, 1, 0, 0, 1, A, B, rfl, rfl, HL0.out, HI0.out.drewN _⟩
    case round =>
      obtain ⟨cnt, a0, b0, a1, b1, hi, lo, rfl, rfl, HL, HF⟩ := hrel
      obtain ⟨x0, x1, x2, x3, x4⟩ := HF.cells
      obtain ⟨f0, f1, f2, f3, f4⟩ := HF.frozen
      obtain ⟨r0, r1, r2, r3, r4, g0, g1, g2, g3, g4⟩ := HF.olds
      have HSt := hid HL.steps
      have hfin : ∀ wx v0 v1 v2 v3 v4, Below w.heap.size w wx → Below w.heap.size w (((((wx.setCell ⟨w.heap.size, 0, none⟩ v0).setCell ⟨w.heap.size, 1, none⟩ v1).setCell ⟨w.heap.size, 2, none⟩ v2).setCell ⟨w.heap.size, 3, none⟩ v3).setCell ⟨w.heap.size, 4, none⟩ v4) := fun _ _ _ _ _ _ h =>
        ((((h.setCell (Nat.le_refl _) _).setCell (Nat.le_refl _) _).setCell (Nat.le_refl _) _).setCell (Nat.le_refl _) _).setCell (Nat.le_refl _) _
      have HFin := hid hfin
      clear hfin
      by_cases hlo : 0 < lo
      · have hB := HL.bounds hlo
        have hF := hB.fits HL.eA HL.eB HL.b11 HL.a10
        obtain ⟨q, hq⟩ : ∃ q, hi / lo = q := ⟨_, rfl⟩
        rw [hq] at hB hF
        obtain ⟨rs, hrs⟩ : ∃ rs, hi - q * lo = rs := ⟨_, rfl⟩
        obtain ⟨a2, ha2⟩ : ∃ a2, a0 + q * a1 = a2 := ⟨_, rfl⟩
        obtain ⟨b2, hb2⟩ : ∃ b2, b0 + q * b1 = b2 := ⟨_, rfl⟩
        rw [hrs, ha2, hb2] at hB hF
        have hhi : hi ≤ A := by
          have h1 := HL.eA; have h2 := HL.b11; have h3 := HL.b00; have h4 := HL.le
          have h5 : 1 * hi ≤ b1 * hi := Int.mul_le_mul_of_nonneg_right h2 (by omega)
          have h6 := Int.mul_nonneg h3 (Int.le_of_lt hlo)
          omega
        have h0hi : 0 ≤ hi := by have := HL.le; omega
        have hlohi : lo ≤ hi := HL.le
        have q0 : 0 ≤ q := by have := hB.q1; omega
        have p1 : 0 ≤ q * lo := Int.mul_nonneg q0 (Int.le_of_lt hlo)
        have p2 := hB.qh; have p3 := hB.r0; have p4 := hB.r1
        have p5 := hB.qa0; have p6 := hB.qa; have p7 := hB.qb0; have p8 := hB.qb; have p9 := hB.a20; have p10 := hB.ab2; have p11 := hB.b21
        have s1 := HL.a00; have s2 := HL.b00; have s3 := HL.a10; have s4 := HL.b11
        have u1 : IntKind.u64.wrap (q * lo) = q * lo := by rw [IntKind.wrap_u64]; omega
        have u2 : IntKind.u64.wrap (hi - q * lo) = rs := by rw [IntKind.wrap_u64]; omega
        have u3 : IntKind.u64.wrap (q * a1) = q * a1 := by rw [IntKind.wrap_u64]; omega
        have u4 : IntKind.u64.wrap (a0 + q * a1) = a2 := by rw [IntKind.wrap_u64]; omega
        have u5 : IntKind.u64.wrap (q * b1) = q * b1 := by rw [IntKind.wrap_u64]; omega
        have u6 : IntKind.u64.wrap (b0 + q * b1) = b2 := by rw [IntKind.wrap_u64]; omega
        have u7 : IntKind.u64.wrap rs = rs := by rw [IntKind.wrap_u64]; omega
        have u8 : IntKind.u64.wrap a2 = a2 := by rw [IntKind.wrap_u64]; omega
        have u9 : IntKind.u64.wrap b2 = b2 := by rw [IntKind.wrap_u64]; omega
        have HNext := hid (fun k1 k2 => HL.next hB hrs.symm ha2.symm hb2.symm (show a = A * topS m s + a % topS m s by rw [Int.mul_comm A]; have := HAe.out; omega) (show b = B * topS m s + b % topS m s by rw [Int.mul_comm B]; have := HBe.out; omega) HAm.out.1 HAm.out.2 HBm.out.1 HBm.out.2 hA64 k1 k2)
        have hcnt := HL.steps.c
        have hc0 := hcnt.1; have hc1 := hcnt.2
        have HHF := hid HF
        clear HL hB hcnt p1 p2 p5 p6 p7 p8 p10 s1 s2
        by_cases k1 : rs < b2
        · clear hF
          go_wp2
          go_quiet (fail)
          go_wp2
          refine bodyPost_ret (v := .agg #[.int .i64 cnt, .int .u64 a0, .int .u64 b0, .int .u64 a1, .int .u64 b1]) (by simp [results, Tryz.results117, go_sem, r0, r1, r2, r3, r4]) rfl ⟨_, _, _, _, _, rfl, HSt.out, HFin.out _ _ _ _ _ _ (below_drewN HHF.out.low _)⟩
        · obtain ⟨hF3, _⟩ := hF.2.2 (by omega)
          clear hF
          have w1 : IntKind.u64.wrap (lo - rs) = lo - rs := by rw [IntKind.wrap_u64]; omega
          have w2 : IntKind.u64.wrap (b1 + b2) = b1 + b2 := by rw [IntKind.wrap_u64]; omega
          by_cases k2 : lo - rs < b1 + b2
          · go_wp2
            go_quiet (fail)
            go_wp2
            refine bodyPost_ret (v := .agg #[.int .i64 cnt, .int .u64 a0, .int .u64 b0, .int .u64 a1, .int .u64 b1]) (by simp [results, Tryz.results117, go_sem, r0, r1, r2, r3, r4]) rfl ⟨_, _, _, _, _, rfl, HSt.out, HFin.out _ _ _ _ _ _ (below_drewN HHF.out.low _)⟩
          · have k1' : b2 ≤ rs := by omega
            have k2' : b1 + b2 ≤ lo - rs := by omega
            have HN := hid (HNext.out k1' k2')
            have hp4 := hid p4
            go_wp2
            go_quiet (fail)
            go_wp2
            go_roundw
            case rel => exact ⟨cnt + 1, a1, b1, a2, b2, lo, rs, rfl, rfl, HN.out, (HHF.out.drewN _).sets⟩
            case measure => simp [intOf]; have := hp4.out; omega
      · have HHF := hid HF; have HHL := hid HL
        clear HF HL
        go_wp2
        refine bodyPost_ret (v := .agg #[.int .i64 cnt, .int .u64 a0, .int .u64 b0, .int .u64 a1, .int .u64 b1]) (by simp [results, Tryz.results117, go_sem, r0, r1, r2, r3, r4]) rfl ⟨_, _, _, _, _, rfl, HSt.out, HFin.out _ _ _ _ _ _ HHF.out.low⟩

end Go.Proofs.YtbapeilpkhbbeaaGreatDoor
