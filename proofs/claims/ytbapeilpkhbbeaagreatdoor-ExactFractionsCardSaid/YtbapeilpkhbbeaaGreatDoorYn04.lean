/- math/bits.Div64. exact.divideLimb. exact.groups: the iterator at numbers of one limb below the group's size: one round. -/
import Derived.Test.YtbapeilpkhbbeaaGreatDoorYn01
import Derived.Test.YtbapeilpkhbbeaaGreatDoorYn03
import Derived.RangeFuncNested
import Derived.RangeFuncBound
import Derived.RangeFuncCalls
import Derived.RangeFuncLeaves
import Derived.Shelf.Abstract
import Derived.Shelf.RegionOpen
import Derived.WalkKit
import Derived.OwnWalkIn
import Derived.TacticsInMore
import Derived.LoopNIn
import Derived.LoopIn
/- math/bits.Div64. -/
namespace Go.Proofs.YtbapeilpkhbbeaaGreatDoor
open Go.RowKit

/-- A quotient's digit is guessed (base 2^32): u and then d are divided by yn1 2^32 + yn0; q, r are the guess and its rest. -/
structure KnI (u d yn1 yn0 q r : Int) : Prop where
  q0 : 0 ≤ q
  q1 : q ≤ 4294967297
  r0 : 0 ≤ r
  r1 : r ≤ 4294967295
  eq : q * yn1 + r = u
  up : r * 4294967296 + d < q * yn0 + (yn1 * 4294967296 + yn0)

theorem KnI.start {u d yn1 yn0 : Int} (hu0 : 0 ≤ u) (hu : u < yn1 * 4294967296 + yn0) (h1 : 2147483648 ≤ yn1) (h2 : yn1 ≤ 4294967295) (h3 : 0 ≤ yn0) (h4 : yn0 ≤ 4294967295) (d1 : d ≤ 4294967295) :
    KnI u d yn1 yn0 (u / yn1) (u - u / yn1 * yn1) := by
  have hq := Int.ediv_nonneg hu0 (show 0 ≤ yn1 by omega)
  have e := Int.emod_add_mul_ediv u yn1
  rw [Int.mul_comm] at e
  have r0 := Int.emod_nonneg u (show yn1 ≠ 0 by omega)
  have r1 := Int.emod_lt_of_pos u (show 0 < yn1 by omega)
  generalize u / yn1 = q at *
  generalize u % yn1 = r at *
  have hr : u - q * yn1 = r := by omega
  rw [hr]
  have hp : 0 ≤ q * yn0 := Int.mul_nonneg hq h3
  refine ⟨hq, ?_, r0, by omega, by omega, by omega⟩
  by_cases hc : q ≤ 4294967297
  · exact hc
  · exfalso
    have := Int.mul_le_mul_of_nonneg_right (show 4294967298 ≤ q by omega) (show 0 ≤ yn1 by omega)
    omega

theorem KnI.digit {u d yn1 yn0 q r : Int} (_h1 : 2147483648 ≤ yn1) (_h3 : 0 ≤ yn0) (he : q * yn1 + r = u) (up : r * 4294967296 + d < q * yn0 + (yn1 * 4294967296 + yn0)) (lo : q * yn0 ≤ 4294967296 * r + d) :
    q = (u * 4294967296 + d) / (yn1 * 4294967296 + yn0) := by
  have hy : 0 < yn1 * 4294967296 + yn0 := by omega
  have e : q * (yn1 * 4294967296 + yn0) = q * yn1 * 4294967296 + q * yn0 := by rw [Int.mul_add, Int.mul_assoc]
  have := (Int.ediv_emod_unique hy (a := u * 4294967296 + d) (r := u * 4294967296 + d - q * (yn1 * 4294967296 + yn0)) (q := q)).2 ⟨by rw [Int.mul_comm (yn1 * 4294967296 + yn0) q]; omega, by rw [e]; omega, by rw [e]; omega⟩
  exact this.1.symm

theorem KnI.more {u d yn1 yn0 q r : Int} (h : KnI u d yn1 yn0 q r) (hu : u < yn1 * 4294967296 + yn0) (h1 : 2147483648 ≤ yn1) (h3 : 0 ≤ yn0) (h4 : yn0 ≤ 4294967295) (d0 : 0 ≤ d) (d1 : d ≤ 4294967295)
    (ht : 4294967296 ≤ q ∨ 4294967296 * r + d < q * yn0) : 1 ≤ q ∧ (q - 1) * yn1 + (r + yn1) = u ∧ (r + yn1) * 4294967296 + d < (q - 1) * yn0 + (yn1 * 4294967296 + yn0) ∧ (4294967296 ≤ r + yn1 → (q - 1) * yn0 ≤ 4294967296 * (r + yn1) + d) := by
  have hlt : 4294967296 * r + d < q * yn0 := by
    rcases ht with ht | ht
    · have e := h.eq
      have a := Int.mul_le_mul_of_nonneg_right ht (show 0 ≤ yn1 by omega)
      have b := Int.mul_le_mul_of_nonneg_right ht h3
      have := h.r0
      omega
    · exact ht
  have hq : 1 ≤ q := by
    by_cases hc : 1 ≤ q
    · exact hc
    · exfalso
      have : q = 0 := by have := h.q0; omega
      subst this
      have := h.r0
      simp at hlt; omega
  have e1 := h.eq
  refine ⟨hq, by rw [Int.sub_mul]; omega, by rw [Int.sub_mul]; have := h.up; omega, fun hr => ?_⟩
  have a := Int.mul_le_mul_of_nonneg_right (show q - 1 ≤ 4294967296 by have := h.q1; omega) h3
  omega

theorem KnI.next {u d yn1 yn0 q r : Int} (h : KnI u d yn1 yn0 q r) (hu : u < yn1 * 4294967296 + yn0) (h1 : 2147483648 ≤ yn1) (h3 : 0 ≤ yn0) (h4 : yn0 ≤ 4294967295) (d0 : 0 ≤ d) (d1 : d ≤ 4294967295)
    (ht : 4294967296 ≤ q ∨ 4294967296 * r + d < q * yn0) (hr : r + yn1 < 4294967296) : KnI u d yn1 yn0 (q - 1) (r + yn1) := by
  obtain ⟨a, b, c, _⟩ := h.more hu h1 h3 h4 d0 d1 ht
  exact ⟨by omega, by have := h.q1; omega, by have := h.r0; omega, by omega, b, c⟩

theorem or_disj (h l : Int) (s : Nat) (h0 : 0 ≤ h) (h1 : h * 2 ^ s < 18446744073709551616) (l0 : 0 ≤ l) (l1 : l < 2 ^ s) (l2 : l < 18446744073709551616) : bits .or .u64 (h * 2 ^ s) l = h * 2 ^ s + l := by
  obtain ⟨a, rfl⟩ := Int.eq_ofNat_of_zero_le h0
  obtain ⟨b, rfl⟩ := Int.eq_ofNat_of_zero_le l0
  have e : ((a : Int) * 2 ^ s) = ((a * 2 ^ s : Nat) : Int) := by simp
  have hb : b < 2 ^ s := by
    have e2 : ((2 : Int) ^ s) = ((2 ^ s : Nat) : Int) := by simp
    rw [e2] at l1; omega
  rw [e] at h1 ⊢
  by_cases ha : a = 0
  · subst ha
    simp only [Nat.zero_mul, Int.natCast_zero, Int.zero_add]
    have := bits_or_u64_nat 0 b (by omega) (by omega)
    simpa using this
  · have hle : 2 ^ s ≤ a * 2 ^ s := Nat.le_mul_of_pos_left _ (by omega)
    rw [bits_or_u64_nat (a * 2 ^ s) b (by omega) (by omega)]
    have := Nat.two_pow_add_eq_or_of_lt hb a
    rw [Nat.mul_comm a, ← this]; omega

/-- The numbers that the division begins with: shifted by s, and cut. -/
theorem norm_facts {hi lo y yN : Int} {s : Nat} (h0 : 0 < hi) (h1 : hi < y) (l0 : 0 ≤ lo) (l1 : lo < B64) (hs : s ≤ 63) (hyN : yN = y * 2 ^ s) (hn : yN < B64) :
    let u := hi * 2 ^ s + lo / 2 ^ (64 - s)
    let v := lo * 2 ^ s % B64
    bits .or .u64 (IntKind.u64.wrap (hi * 2 ^ s)) (lo / 2 ^ (64 - s)) = u ∧ 0 ≤ u ∧ u < yN ∧ u * B64 + v = (hi * B64 + lo) * 2 ^ s := by
  have hp : (0 : Int) < 2 ^ s := Int.pow_pos (by decide)
  have hp2 : (0 : Int) < 2 ^ (64 - s) := Int.pow_pos (by decide)
  have hpp : (2 : Int) ^ (64 - s) * 2 ^ s = B64 := by rw [← Int.pow_add, Nat.sub_add_cancel (by omega)]; rfl
  have hlt : (hi + 1) * 2 ^ s ≤ y * 2 ^ s := Int.mul_le_mul_of_nonneg_right (by omega) (Int.le_of_lt hp)
  rw [Int.add_mul, ← hyN] at hlt
  have hq0 : 0 ≤ lo / 2 ^ (64 - s) := Int.ediv_nonneg l0 (Int.le_of_lt hp2)
  have hq1 : lo / 2 ^ (64 - s) < 2 ^ s := Int.ediv_lt_of_lt_mul hp2 (by rw [Int.mul_comm, hpp]; exact l1)
  have hh0 : 0 ≤ hi * 2 ^ s := Int.mul_nonneg (by omega) (Int.le_of_lt hp)
  have hw : IntKind.u64.wrap (hi * 2 ^ s) = hi * 2 ^ s := by rw [IntKind.wrap_u64]; unfold B64 at hn; exact Int.emod_eq_of_lt hh0 (by omega)
  have hs64 : (2 : Int) ^ s ≤ B64 := by rw [← hpp]; have := Int.mul_le_mul_of_nonneg_right (show (1 : Int) ≤ 2 ^ (64 - s) by omega) (Int.le_of_lt hp); omega
  have e3 : lo * 2 ^ s / B64 = lo / 2 ^ (64 - s) := by rw [← hpp]; exact Int.mul_ediv_mul_of_pos_left _ _ hp
  have e4 := Int.emod_add_mul_ediv (lo * 2 ^ s) B64
  rw [e3] at e4
  refine ⟨?_, by omega, by omega, ?_⟩
  · rw [hw]
    exact or_disj hi _ s (by omega) (by unfold B64 at hn; omega) hq0 hq1 (by unfold B64 at hs64; omega)
  · have a1 := Int.add_mul (hi * 2 ^ s) (lo / 2 ^ (64 - s)) B64
    have a2 := Int.add_mul (hi * B64) lo (2 ^ s)
    have a3 : hi * 2 ^ s * B64 = hi * B64 * 2 ^ s := by rw [Int.mul_assoc, Int.mul_comm (2 ^ s), Int.mul_assoc]
    have a4 := Int.mul_comm B64 (lo / 2 ^ (64 - s))
    omega

/-- The two digits and the rest give quotient and rest. -/
theorem div_join {N y yN u v1 v0 d1 d0 u21 r0 : Int} {s : Nat} (hy : 0 < y) (hyN : yN = y * 2 ^ s) (hN : (u * 4294967296 + v1) * 4294967296 + v0 = N * 2 ^ s)
    (h1 : u21 = u * 4294967296 + v1 - d1 * yN) (h0 : r0 = u21 * 4294967296 + v0 - d0 * yN) (r00 : 0 ≤ r0) (r01 : r0 < yN) : N / y = d1 * 4294967296 + d0 ∧ N % y = r0 / 2 ^ s := by
  have hp : (0 : Int) < 2 ^ s := Int.pow_pos (by decide)
  have e : r0 = (N - y * (d1 * 4294967296 + d0)) * 2 ^ s := by
    rw [Int.sub_mul, ← hN, h0, h1, hyN]; grind
  have hd : r0 / 2 ^ s = N - y * (d1 * 4294967296 + d0) := by rw [e]; exact Int.mul_ediv_cancel _ (by omega)
  have a0 : 0 ≤ r0 / 2 ^ s := Int.ediv_nonneg r00 (Int.le_of_lt hp)
  have a1 : r0 / 2 ^ s < y := Int.ediv_lt_of_lt_mul hp (by rw [← hyN]; exact r01)
  rw [hd] at a0 a1 ⊢
  have := (Int.ediv_emod_unique hy (a := N) (r := N - y * (d1 * 4294967296 + d0)) (q := d1 * 4294967296 + d0)).2 ⟨by omega, a0, a1⟩
  exact this

/-- What stands after a digit: no carry is lost. -/
theorem rest_wrap {u d q yN : Int} (hy : 0 < yN) (hyB : yN < 18446744073709551616) (hq : q = (u * 4294967296 + d) / yN) :
    IntKind.u64.wrap (IntKind.u64.wrap (IntKind.u64.wrap (u * 4294967296) + d) - IntKind.u64.wrap (q * yN)) = u * 4294967296 + d - q * yN ∧ 0 ≤ u * 4294967296 + d - q * yN ∧ u * 4294967296 + d - q * yN < yN := by
  have e := Int.emod_add_mul_ediv (u * 4294967296 + d) yN
  rw [← hq, Int.mul_comm yN q] at e
  have a := Int.emod_nonneg (u * 4294967296 + d) (show yN ≠ 0 by omega)
  have b := Int.emod_lt_of_pos (u * 4294967296 + d) hy
  generalize q * yN = p at *
  refine ⟨?_, by omega, by omega⟩
  rw [IntKind.wrap_u64, IntKind.wrap_u64, IntKind.wrap_u64, IntKind.wrap_u64]; omega
theorem digit_lt {u d yN : Int} (h0 : 0 ≤ u) (h1 : u < yN) (d0 : 0 ≤ d) (d1 : d ≤ 4294967295) : 0 ≤ (u * 4294967296 + d) / yN ∧ (u * 4294967296 + d) / yN ≤ 4294967295 := by
  refine ⟨Int.ediv_nonneg (by omega) (by omega), ?_⟩
  have := Int.ediv_lt_of_lt_mul (show 0 < yN by omega) (show u * 4294967296 + d < 4294967296 * yN by omega)
  omega
theorem mask_facts (v : Int) (h0 : 0 ≤ v) (h1 : v < 18446744073709551616) : bits .and .u64 v 4294967295 = v % 4294967296 := by
  obtain ⟨a, rfl⟩ := Int.eq_ofNat_of_zero_le h0
  rw [Mul64.maskN a (by omega)]; omega
theorem prod_bd {q y0 : Int} (q0 : 0 ≤ q) (q1 : q ≤ 4294967295) (h0 : 0 ≤ y0) (h1 : y0 ≤ 4294967295) : 0 ≤ q * y0 ∧ q * y0 ≤ 18446744065119617025 := by
  refine ⟨Int.mul_nonneg q0 h0, ?_⟩
  have := Int.mul_le_mul_of_nonneg_right q1 h0
  omega
theorem quo_bd {u y1 : Int} (h0 : 0 ≤ u) (h : 2147483648 ≤ y1) (hu : u ≤ 18446744073709551615) : 0 ≤ u / y1 ∧ u / y1 ≤ 18446744073709551615 ∧ 0 ≤ u / y1 * y1 ∧ u / y1 * y1 ≤ u := by
  have e := Int.emod_add_mul_ediv u y1
  rw [Int.mul_comm] at e
  have a := Int.emod_nonneg u (show y1 ≠ 0 by omega)
  have b := Int.ediv_nonneg h0 (show 0 ≤ y1 by omega)
  have c : u / y1 ≤ u := Int.ediv_le_self _ h0
  have d : 0 ≤ u / y1 * y1 := Int.mul_nonneg b (by omega)
  exact ⟨b, by omega, d, by omega⟩

/-- The same, as the program computes it. -/
theorem KnI.begin {u d yn1 yn0 : Int} (hu0 : 0 ≤ u) (hu64 : u ≤ 18446744073709551615) (hu : u < yn1 * 4294967296 + yn0) (h1 : 2147483648 ≤ yn1) (h2 : yn1 ≤ 4294967295) (h3 : 0 ≤ yn0) (h4 : yn0 ≤ 4294967295) (d1 : d ≤ 4294967295) :
    KnI u d yn1 yn0 (IntKind.u64.wrap (u.tdiv yn1)) (IntKind.u64.wrap (u - IntKind.u64.wrap (IntKind.u64.wrap (u.tdiv yn1) * yn1))) := by
  obtain ⟨a, b, c, e⟩ := quo_bd hu0 h1 hu64
  have e1 : IntKind.u64.wrap (u.tdiv yn1) = u / yn1 := by rw [Int.tdiv_eq_ediv_of_nonneg hu0, IntKind.wrap_u64]; omega
  have e2 : IntKind.u64.wrap (u / yn1 * yn1) = u / yn1 * yn1 := by rw [IntKind.wrap_u64]; omega
  have e3 : IntKind.u64.wrap (u - u / yn1 * yn1) = u - u / yn1 * yn1 := by rw [IntKind.wrap_u64]; omega
  rw [e1, e2, e3]
  exact KnI.start hu0 hu h1 h2 h3 h4 d1

set_option maxRecDepth 100000 in
set_option maxHeartbeats 8000000 in
theorem div64_big (hi lo y : Int) (h0 : 0 < hi) (h1 : hi < y) (l0 : 0 ≤ lo) (l1 : lo < B64) (y1 : y < B64) (w : World) :
    Calls Tryz.prog 135 #[.int .u64 hi, .int .u64 lo, .int .u64 y] w fun e w' => e = .returned (.tuple #[.int .u64 ((hi * B64 + lo) / y), .int .u64 ((hi * B64 + lo) % y)]) ∧ w = w' := by
  have hy0 : (y == 0) = false := by rw [beq_eq_false_iff_ne]; omega
  have hh0 : (hi == 0) = false := by rw [beq_eq_false_iff_ne]; omega
  have hyh : ¬ y ≤ hi := by omega
  have H1 := hid h1; have L1 := hid l1; have Y1 := hid y1
  clear l1 y1
  go_enter Tryz.func135, Tryz.ntmps135
  go_wp2_with fail
  refine (lz64 y (by have := H1.out; omega) Y1.out w).mono ?_
  rintro e w' ⟨s, rfl, hs, hn0, hn1, rfl⟩
  have h2 : IntKind.u64.wrap (y * 2 ^ s) = y * 2 ^ s := by rw [IntKind.wrap_u64]; unfold B64 at hn1; exact Int.emod_eq_of_lt (by omega) hn1
  obtain ⟨yN, hyN⟩ : ∃ yN, yN = y * 2 ^ s := ⟨_, rfl⟩
  have h2' : IntKind.u64.wrap (y * 2 ^ s) = yN := h2.trans hyN.symm
  rw [← hyN] at hn0 hn1
  obtain ⟨n1, n2, n3, n4⟩ := norm_facts h0 h1 l0 L1.out hs hyN hn1
  obtain ⟨u, hu⟩ : ∃ u, u = hi * 2 ^ s + lo / 2 ^ (64 - s) := ⟨_, rfl⟩
  obtain ⟨v, hv⟩ : ∃ v, v = lo * 2 ^ s % B64 := ⟨_, rfl⟩
  simp only [← hu, ← hv] at n1 n2 n3 n4
  have hv0 : 0 ≤ v := by rw [hv]; exact Int.emod_nonneg _ (by decide)
  have hv1 : v < B64 := by rw [hv]; exact Int.emod_lt_of_pos _ B64_pos
  have hwv : IntKind.u64.wrap (lo * 2 ^ s) = v := by rw [hv, IntKind.wrap_u64]; rfl
  unfold B64 at hn1 hv1
  have hm1 := mask_facts yN (by omega) hn1
  have hm2 := mask_facts v hv0 hv1
  obtain ⟨yn1, hyn1⟩ : ∃ yn1, yN / 4294967296 = yn1 := ⟨_, rfl⟩
  obtain ⟨yn0, hyn0⟩ : ∃ yn0, yN % 4294967296 = yn0 := ⟨_, rfl⟩
  obtain ⟨v1, hvv1⟩ : ∃ v1, v / 4294967296 = v1 := ⟨_, rfl⟩
  obtain ⟨v0, hvv0⟩ : ∃ v0, v % 4294967296 = v0 := ⟨_, rfl⟩
  rw [hyn0] at hm1
  rw [hvv0] at hm2
  have hb1 : 2147483648 ≤ yn1 := by omega
  have hb2 : yn1 ≤ 4294967295 := by omega
  have hb3 : 0 ≤ yn0 := by omega
  have hb4 : yn0 ≤ 4294967295 := by omega
  have v10 : 0 ≤ v1 := by omega
  have v11 : v1 ≤ 4294967295 := by omega
  have v00 : 0 ≤ v0 := by omega
  have v01 : v0 ≤ 4294967295 := by omega
  have HY : Hid (yn1 * 4294967296 + yn0 = yN) := hid (by omega)
  have HUv1 := hid (show u < yn1 * 4294967296 + yn0 by omega)
  have HN : Hid ((u * 4294967296 + v1) * 4294967296 + v0 = (hi * B64 + lo) * 2 ^ s) := hid (by rw [← n4]; unfold B64; omega)
  have KSv1 := hid (KnI.begin (d := v1) n2 (show u ≤ 18446744073709551615 by omega) HUv1.out hb1 hb2 hb3 hb4 v11)
  obtain ⟨d1, hd1⟩ : ∃ d1, d1 = (u * 4294967296 + v1) / yN := ⟨_, rfl⟩
  obtain ⟨w1, w2, w3⟩ := rest_wrap (show 0 < yN by omega) hn1 hd1
  have hdl := digit_lt n2 n3 v10 v11
  rw [← hd1] at hdl
  have hdl0 := hdl.1; have hdl1 := hdl.2
  obtain ⟨u21, hu21⟩ : ∃ u21, u21 = u * 4294967296 + v1 - d1 * yN := ⟨_, rfl⟩
  rw [← hu21] at w1 w2 w3
  have HUv0 := hid (show u21 < yn1 * 4294967296 + yn0 by rw [HY.out]; exact w3)
  have KSv0 := hid (KnI.begin (d := v0) w2 (show u21 ≤ 18446744073709551615 by omega) HUv0.out hb1 hb2 hb3 hb4 v01)
  obtain ⟨d0, hd0⟩ : ∃ d0, d0 = (u21 * 4294967296 + v0) / yN := ⟨_, rfl⟩
  obtain ⟨x1, x2, x3⟩ := rest_wrap (show 0 < yN by omega) hn1 hd0
  have hdm := digit_lt w2 w3 v00 v01
  rw [← hd0] at hdm
  have hdm0 := hdm.1; have hdm1 := hdm.2
  obtain ⟨r00, hr00⟩ : ∃ r00, r00 = u21 * 4294967296 + v0 - d0 * yN := ⟨_, rfl⟩
  rw [← hr00] at x1 x2 x3
  have HR := hid (div_join (show 0 < y by omega) hyN HN.out hu21 hr00 x2 x3)
  have HDv1 := hid hd1; have HDv0 := hid hd0
  have u0 := n2; clear n2 w2 u0; clear hyN hu hv n4 h2 hr00 hd0 hu21 hd1 hdl hdm hyn0 hvv0 hn0 hn1 hv0 hv1 n3 x2 x3 w3
  go_wp2
  go_loop [15, 16] (fun qv rv => ∃ q r : Int, qv = .int .u64 q ∧ rv = .int .u64 r ∧ KnI u v1 yn1 yn0 q r) (fun qv _ => (intOf qv).toNat)
  case atStart => exact ⟨_, _, rfl, rfl, KSv1.out⟩
  case round =>
    obtain ⟨q, r, rfl, rfl, H⟩ := hrel
    have q0 := H.q0; have q1 := H.q1; have r0 := H.r0; have r1 := H.r1
    by_cases ht : 4294967296 ≤ q ∨ 4294967296 * r + v1 < q * yn0
    · have hm := H.more HUv1.out hb1 hb3 hb4 v10 v11 ht
      have hq1 := hm.1
      by_cases hr : r + yn1 < 4294967296
      · have HK := hid (H.next HUv1.out hb1 hb3 hb4 v10 v11 ht hr)
        clear hm H
        by_cases hqb : 4294967296 ≤ q
        · clear ht
          go_wp2
          go_round
          case rel => exact ⟨_, _, rfl, rfl, HK.out⟩
          case measure => simp [intOf]; omega
        · have ht' : 4294967296 * r + v1 < q * yn0 := by omega
          have hpb := prod_bd q0 (by omega) hb3 hb4
          have hp0 := hpb.1; have hp1 := hpb.2
          clear ht hpb
          go_wp2
          go_round
          case rel => exact ⟨_, _, rfl, rfl, HK.out⟩
          case measure => simp [intOf]; omega
      · have hqd := KnI.digit hb1 hb3 hm.2.1 hm.2.2.1 (hm.2.2.2 (by omega))
        rw [HY.out, ← HDv1.out] at hqd
        clear hm H
        by_cases hqb : 4294967296 ≤ q
        · clear ht
          go_wp2
          go_loop [18, 16] (fun qv rv => ∃ q r : Int, qv = .int .u64 q ∧ rv = .int .u64 r ∧ KnI u21 v0 yn1 yn0 q r) (fun qv _ => (intOf qv).toNat)
          case atStart => exact ⟨_, _, rfl, rfl, KSv0.out⟩
          case round =>
            obtain ⟨q, r, rfl, rfl, H⟩ := hrel
            have q0 := H.q0; have q1 := H.q1; have r0 := H.r0; have r1 := H.r1
            by_cases ht : 4294967296 ≤ q ∨ 4294967296 * r + v0 < q * yn0
            · have hm := H.more HUv0.out hb1 hb3 hb4 v00 v01 ht
              have hq1 := hm.1
              by_cases hr : r + yn1 < 4294967296
              · have HK := hid (H.next HUv0.out hb1 hb3 hb4 v00 v01 ht hr)
                clear hm H
                by_cases hqb : 4294967296 ≤ q
                · clear ht
                  go_wp2
                  go_round
                  case rel => exact ⟨_, _, rfl, rfl, HK.out⟩
                  case measure => simp [intOf]; omega
                · have ht' : 4294967296 * r + v0 < q * yn0 := by omega
                  have hpb := prod_bd q0 (by omega) hb3 hb4
                  have hp0 := hpb.1; have hp1 := hpb.2
                  clear ht hpb
                  go_wp2
                  go_round
                  case rel => exact ⟨_, _, rfl, rfl, HK.out⟩
                  case measure => simp [intOf]; omega
              · have hqd := KnI.digit hb1 hb3 hm.2.1 hm.2.2.1 (hm.2.2.2 (by omega))
                rw [HY.out, ← HDv0.out] at hqd
                clear hm H
                by_cases hqb : 4294967296 ≤ q
                · clear ht
                  go_wp2
                  go_ret2
                  exact ⟨by rw [HR.out.1, HR.out.2]; rfl, rfl⟩
                · have ht' : 4294967296 * r + v0 < q * yn0 := by omega
                  have hpb := prod_bd q0 (by omega) hb3 hb4
                  have hp0 := hpb.1; have hp1 := hpb.2
                  clear ht hpb
                  go_wp2
                  go_ret2
                  exact ⟨by rw [HR.out.1, HR.out.2]; rfl, rfl⟩
            · have hqb : q < 4294967296 := by omega
              have ht' : q * yn0 ≤ 4294967296 * r + v0 := by omega
              have hqd := KnI.digit hb1 hb3 H.eq H.up ht'
              rw [HY.out, ← HDv0.out] at hqd
              have hpb := prod_bd q0 (by omega) hb3 hb4
              have hp0 := hpb.1; have hp1 := hpb.2
              clear H ht hpb
              subst hqd
              go_wp2
              go_ret2
              exact ⟨by rw [HR.out.1, HR.out.2]; rfl, rfl⟩
        · have ht' : 4294967296 * r + v1 < q * yn0 := by omega
          have hpb := prod_bd q0 (by omega) hb3 hb4
          have hp0 := hpb.1; have hp1 := hpb.2
          clear ht hpb
          go_wp2
          go_loop [18, 16] (fun qv rv => ∃ q r : Int, qv = .int .u64 q ∧ rv = .int .u64 r ∧ KnI u21 v0 yn1 yn0 q r) (fun qv _ => (intOf qv).toNat)
          case atStart => exact ⟨_, _, rfl, rfl, KSv0.out⟩
          case round =>
            obtain ⟨q, r, rfl, rfl, H⟩ := hrel
            have q0 := H.q0; have q1 := H.q1; have r0 := H.r0; have r1 := H.r1
            by_cases ht : 4294967296 ≤ q ∨ 4294967296 * r + v0 < q * yn0
            · have hm := H.more HUv0.out hb1 hb3 hb4 v00 v01 ht
              have hq1 := hm.1
              by_cases hr : r + yn1 < 4294967296
              · have HK := hid (H.next HUv0.out hb1 hb3 hb4 v00 v01 ht hr)
                clear hm H
                by_cases hqb : 4294967296 ≤ q
                · clear ht
                  go_wp2
                  go_round
                  case rel => exact ⟨_, _, rfl, rfl, HK.out⟩
                  case measure => simp [intOf]; omega
                · have ht' : 4294967296 * r + v0 < q * yn0 := by omega
                  have hpb := prod_bd q0 (by omega) hb3 hb4
                  have hp0 := hpb.1; have hp1 := hpb.2
                  clear ht hpb
                  go_wp2
                  go_round
                  case rel => exact ⟨_, _, rfl, rfl, HK.out⟩
                  case measure => simp [intOf]; omega
              · have hqd := KnI.digit hb1 hb3 hm.2.1 hm.2.2.1 (hm.2.2.2 (by omega))
                rw [HY.out, ← HDv0.out] at hqd
                clear hm H
                by_cases hqb : 4294967296 ≤ q
                · clear ht
                  go_wp2
                  go_ret2
                  exact ⟨by rw [HR.out.1, HR.out.2]; rfl, rfl⟩
                · have ht' : 4294967296 * r + v0 < q * yn0 := by omega
                  have hpb := prod_bd q0 (by omega) hb3 hb4
                  have hp0 := hpb.1; have hp1 := hpb.2
                  clear ht hpb
                  go_wp2
                  go_ret2
                  exact ⟨by rw [HR.out.1, HR.out.2]; rfl, rfl⟩
            · have hqb : q < 4294967296 := by omega
              have ht' : q * yn0 ≤ 4294967296 * r + v0 := by omega
              have hqd := KnI.digit hb1 hb3 H.eq H.up ht'
              rw [HY.out, ← HDv0.out] at hqd
              have hpb := prod_bd q0 (by omega) hb3 hb4
              have hp0 := hpb.1; have hp1 := hpb.2
              clear H ht hpb
              subst hqd
              go_wp2
              go_ret2
              exact ⟨by rw [HR.out.1, HR.out.2]; rfl, rfl⟩
    · have hqb : q < 4294967296 := by omega
      have ht' : q * yn0 ≤ 4294967296 * r + v1 := by omega
      have hqd := KnI.digit hb1 hb3 H.eq H.up ht'
      rw [HY.out, ← HDv1.out] at hqd
      have hpb := prod_bd q0 (by omega) hb3 hb4
      have hp0 := hpb.1; have hp1 := hpb.2
      clear H ht hpb
      subst hqd
      go_wp2
      go_loop [18, 16] (fun qv rv => ∃ q r : Int, qv = .int .u64 q ∧ rv = .int .u64 r ∧ KnI u21 v0 yn1 yn0 q r) (fun qv _ => (intOf qv).toNat)
      case atStart => exact ⟨_, _, rfl, rfl, KSv0.out⟩
      case round =>
        obtain ⟨q, r, rfl, rfl, H⟩ := hrel
        have q0 := H.q0; have q1 := H.q1; have r0 := H.r0; have r1 := H.r1
        by_cases ht : 4294967296 ≤ q ∨ 4294967296 * r + v0 < q * yn0
        · have hm := H.more HUv0.out hb1 hb3 hb4 v00 v01 ht
          have hq1 := hm.1
          by_cases hr : r + yn1 < 4294967296
          · have HK := hid (H.next HUv0.out hb1 hb3 hb4 v00 v01 ht hr)
            clear hm H
            by_cases hqb : 4294967296 ≤ q
            · clear ht
              go_wp2
              go_round
              case rel => exact ⟨_, _, rfl, rfl, HK.out⟩
              case measure => simp [intOf]; omega
            · have ht' : 4294967296 * r + v0 < q * yn0 := by omega
              have hpb := prod_bd q0 (by omega) hb3 hb4
              have hp0 := hpb.1; have hp1 := hpb.2
              clear ht hpb
              go_wp2
              go_round
              case rel => exact ⟨_, _, rfl, rfl, HK.out⟩
              case measure => simp [intOf]; omega
          · have hqd := KnI.digit hb1 hb3 hm.2.1 hm.2.2.1 (hm.2.2.2 (by omega))
            rw [HY.out, ← HDv0.out] at hqd
            clear hm H
            by_cases hqb : 4294967296 ≤ q
            · clear ht
              go_wp2
              go_ret2
              exact ⟨by rw [HR.out.1, HR.out.2]; rfl, rfl⟩
            · have ht' : 4294967296 * r + v0 < q * yn0 := by omega
              have hpb := prod_bd q0 (by omega) hb3 hb4
              have hp0 := hpb.1; have hp1 := hpb.2
              clear ht hpb
              go_wp2
              go_ret2
              exact ⟨by rw [HR.out.1, HR.out.2]; rfl, rfl⟩
        · have hqb : q < 4294967296 := by omega
          have ht' : q * yn0 ≤ 4294967296 * r + v0 := by omega
          have hqd := KnI.digit hb1 hb3 H.eq H.up ht'
          rw [HY.out, ← HDv0.out] at hqd
          have hpb := prod_bd q0 (by omega) hb3 hb4
          have hp0 := hpb.1; have hp1 := hpb.2
          clear H ht hpb
          subst hqd
          go_wp2
          go_ret2
          exact ⟨by rw [HR.out.1, HR.out.2]; rfl, rfl⟩

set_option maxRecDepth 100000 in
set_option maxHeartbeats 2000000 in
theorem div64_zero (lo y : Int) (h1 : 0 < y) (l0 : 0 ≤ lo) (l1 : lo < B64) (_y1 : y < B64) (w : World) :
    Calls Tryz.prog 135 #[.int .u64 0, .int .u64 lo, .int .u64 y] w fun e w' => e = .returned (.tuple #[.int .u64 (lo / y), .int .u64 (lo % y)]) ∧ ∃ nq, w' = w.drewN nq := by
  have hy0 : (y == 0) = false := by rw [beq_eq_false_iff_ne]; omega
  have hyh : ¬ y ≤ 0 := by omega
  have e1 : IntKind.u64.wrap (lo.tdiv y) = lo / y := by
    have := Int.ediv_nonneg l0 (show 0 ≤ y by omega)
    have := Int.ediv_le_self y l0
    rw [Int.tdiv_eq_ediv_of_nonneg l0, IntKind.wrap_u64]; unfold B64 at l1; omega
  have e2 : lo.tmod y = lo % y := Int.tmod_eq_emod_of_nonneg l0
  have E1 := hid e1; have E2 := hid e2
  clear l1 e1 e2
  go_enter Tryz.func135, Tryz.ntmps135
  go_wp2
  go_region
  all_goals go_wp2
  go_ret2
  exact ⟨by rw [← E1.out]; rfl, 1, rfl⟩

/-- math/bits.Div64, the world behind it said by draws. -/
theorem div64_any (hi lo y : Int) (h0 : 0 ≤ hi) (h1 : hi < y) (l0 : 0 ≤ lo) (l1 : lo < B64) (y1 : y < B64) (w : World) :
    Calls Tryz.prog 135 #[.int .u64 hi, .int .u64 lo, .int .u64 y] w fun e w' => e = .returned (.tuple #[.int .u64 ((hi * B64 + lo) / y), .int .u64 ((hi * B64 + lo) % y)]) ∧ ∃ nq, w' = w.drewN nq := by
  by_cases h : hi = 0
  · subst h
    have := div64_zero lo y h1 l0 l1 y1 w
    simpa using this
  · refine (div64_big hi lo y (by omega) h1 l0 l1 y1 w).mono ?_
    rintro e w' ⟨rfl, rfl⟩
    exact ⟨rfl, 0, rfl⟩

end Go.Proofs.YtbapeilpkhbbeaaGreatDoor

/- exact.divideLimb. -/
namespace Go.Proofs.YtbapeilpkhbbeaaGreatDoor
open Go.RowKit

/-- Behind the limbs from j on. -/
structure DivI (w wr : World) (g : Nat) (LA : List Int) (x : Int) (j : Nat) (QT : List Int) (r : Int) : Prop where
  row : Row .u64 63 wr g (List.replicate j 0 ++ QT)
  gr : w.grownBy wr (some g)
  len : j + QT.length = LA.length
  dig : Dig B64 QT
  r0 : 0 ≤ r
  r1 : r < x
  eq : val B64 (LA.drop j) = val B64 QT * x + r

theorem DivI.step {w wr : World} {g : Nat} {LA QT : List Int} {x r : Int} {j : Nat} (h : DivI w wr g LA x (j + 1) QT r) (hx : 0 < x) (a : Int) (ha : a = LA[j]?.getD 0) (a0 : 0 ≤ a) (a1 : a < B64) (nq : Nat) :
    DivI w ((wr.drewN nq).setCell ⟨g, j, none⟩ (.int .u64 ((r * B64 + a) / x))) g LA x j ((r * B64 + a) / x :: QT) ((r * B64 + a) % x) := by
  have hj : j < LA.length := by have := h.len; omega
  have r0 := h.r0; have r1 := h.r1
  have hn0 : 0 ≤ r * B64 + a := by have := Int.mul_nonneg r0 (Int.le_of_lt B64_pos); omega
  have hn1 : r * B64 + a < B64 * x := by
    have := Int.mul_le_mul_of_nonneg_right (show r + 1 ≤ x by omega) (Int.le_of_lt B64_pos)
    rw [Int.add_mul] at this
    rw [Int.mul_comm B64 x]; omega
  have q0 : 0 ≤ (r * B64 + a) / x := Int.ediv_nonneg hn0 (Int.le_of_lt hx)
  have q1 : (r * B64 + a) / x < B64 := Int.ediv_lt_of_lt_mul hx hn1
  have hr : Row .u64 63 (wr.drewN nq) g (List.replicate (j + 1) 0 ++ QT) := h.row
  have hs := hr.set j ((r * B64 + a) / x)
  rw [List.replicate_succ', List.append_assoc, List.set_append_right _ _ (by simp), List.length_replicate, Nat.sub_self] at hs
  refine ⟨hs, grown_trans (grown_drewN h.gr nq) (grown_set _ _ _ _), by have := h.len; simp; omega, Dig.cons q0 q1 h.dig, Int.emod_nonneg _ (by omega), Int.emod_lt_of_pos _ hx, ?_⟩
  have e := Int.emod_add_mul_ediv (r * B64 + a) x
  have hd : LA.drop j = a :: LA.drop (j + 1) := by
    rw [List.drop_eq_getElem_cons hj, ha]; simp [hj]
  rw [hd]
  simp only [val, h.eq]
  generalize (r * B64 + a) / x = q at *
  generalize (r * B64 + a) % x = m at *
  generalize val B64 QT = t at *
  grind

def RetD (w : World) (n m : Int) (K : Nat) (e : Ending) (w' : World) : Prop := ∃ v, e = .returned (.tuple #[v, .int .u64 m]) ∧ Nt w' v n K ∧ Below w.heap.size w w'

set_option maxRecDepth 100000 in
set_option maxHeartbeats 2000000 in
theorem divideLimb_any (va : Value) (a x : Int) (K : Nat) (w : World) (hA : Nt w va a K) (hK : K ≤ 1073741824) (x0 : 0 < x) (x1 : x < B64) :
    Calls Tryz.prog 107 #[va, .int .u64 x] w (RetD w (a / x) (a % x) K) := by
  obtain ⟨ao, ca, LA, rfl, hA⟩ := hA
  obtain ⟨n, hn⟩ : ∃ n, n = LA.length := ⟨_, rfl⟩
  have hn30 : n ≤ 1073741824 := by have := hA.le; omega
  rw [← hn]
  have HA := hid hA; have Hn := hid hn; have X1 := hid x1
  clear hA hn x1
  obtain ⟨i0, hi, hz0, hz1, hz2⟩ := info_parts Tryz.info63
  go_enter Tryz.func107, Tryz.ntmps107
  go_wp2_with (at_make; refine wpList_make_row w rfl _ _ 54 rfl 63 i0 .u64 Tryz.underlying54 hi hz0 hz1 .i64 .i64 _ _ n rfl rfl rfl rfl (by rw [hz2]; omega) (by unfold maxLen; omega) ?_)
  intro w1 hrow hg1
  have hb1 := grown_below hg1
  have H0 : DivI w w1 w.heap.size LA x n [] 0 := ⟨by simpa using hrow, grown_any hg1, by simpa using Hn.out, Dig.nil _, Int.le_refl 0, x0, by rw [List.drop_of_length_le (by have := Hn.out; omega)]; simp [val]⟩
  have HG1 := hid (HA.out.rd.ne (Nat.le_refl w.heap.size))
  clear hrow hg1
  go_wp2
  go_loopw [7, 8] (fun rv iv wr => ∃ j : Nat, ∃ QT r, j ≤ n ∧ iv = .int .i64 ((j : Int) - 1) ∧ rv = .int .u64 r ∧ DivI w wr w.heap.size LA x j QT r ∧ Below w.heap.size w wr) (fun _ iv _ => (intOf iv + 1).toNat)
  case atStart => exact ⟨n, [], 0, Nat.le_refl _, rfl, rfl, H0, hb1⟩
  case round =>
    obtain ⟨j, QT, r, hj, rfl, rfl, H, hb⟩ := hrel
    cases j with
    | zero =>
      have hr : Row .u64 63 wr w.heap.size QT := by have := H.row; simpa using this
      have hl : QT.length = n := by have := H.len; have := Hn.out; omega
      have he := H.eq
      rw [List.drop_zero, HA.out.eq] at he
      have hqr := (Int.ediv_emod_unique x0 (a := a) (r := r) (q := val B64 QT)).2 ⟨by rw [he, Int.mul_comm]; omega, H.r0, H.r1⟩
      have ht := trim64_any (some ⟨w.heap.size, 0, none⟩) n QT wr (row_rd hr (by omega) (by omega))
      have hres := nt_row (c := n) (K := K) hr H.dig hqr.1.symm (by omega) (by omega) (by have := HA.out.le; have := Hn.out; omega)
      rw [hl] at ht
      have HT := hid ht; have Hres := hid hres; have HQ := hid hqr.2
      clear ht hres hr hl he hqr H H0 hb1
      go_wp2_with (go_at_call 96; refine HT.out.mono ?_; rintro e w2 ⟨rfl, rfl⟩)
      go_ret2
      exact ⟨_, by rw [HQ.out]; rfl, Hres.out, hb⟩
    | succ j =>
      have hjn : j < n := by omega
      obtain ⟨b, o, rfl⟩ := HA.out.rd.adr (by have := Hn.out; omega)
      have hc := (HA.out.rd.keptNew H.gr HG1.out).cell b o rfl j (by have := Hn.out; omega)
      have hd := HA.out.dig.at B64_pos j
      obtain ⟨y, hy⟩ : ∃ y, y = LA[j]?.getD 0 := ⟨_, rfl⟩
      rw [← hy] at hc hd
      have HS := hid (fun nq => H.step x0 y hy hd.1 hd.2 nq)
      have hq := H.row.cell j (by have := H.len; simp; omega)
      have hf := H.row.frozen j
      obtain ⟨u, hu⟩ : ∃ u, u = ((List.replicate (j + 1) 0 ++ QT)[j]?.getD 0 : Int) := ⟨_, rfl⟩
      rw [← hu] at hq
      have HC := hid (div64_any r y x H.r0 H.r1 hd.1 hd.2 X1.out wr)
      have HH := hid H
      have hk0 : (0 : Int) ≤ (j : Int) := by omega
      clear H H0 hb1 hd hy hu
      go_wp2_with (go_at_call 135; refine HC.out.mono ?_; rintro e w2 ⟨rfl, nq, rfl⟩)
      go_roundw
      case rel => exact ⟨j, _, _, by omega, by go_num, rfl, HS.out nq, ((below_drewN hb nq).setCell (Nat.le_refl _) _)⟩
      case measure => simp [intOf]

end Go.Proofs.YtbapeilpkhbbeaaGreatDoor

/- exact.groups: the iterator at numbers of one limb below the group's size: one round. -/
namespace Go.Proofs.YtbapeilpkhbbeaaGreatDoor
open Go.RowKit Go.Shelf
attribute [local go_sem] Oper.semAt_some

set_option maxHeartbeats 1000000 in
theorem groups_in (n : Nat) (a : Option Addr) (k c : Nat) (w : World) :
    CallsIn Fence.wide n Tryz.prog 58 #[.slice a k c] w fun e w' => e = .returned (.func (.func 106) #[] #[.pointer (some ⟨w.heap.size, 0, none⟩)]) ∧ w' = w.alloc (.cells #[.slice a k c] 54) := by
  refine callsIn_of_wp Tryz.func58 rfl trivial ?_ rfl
  simp only [Tryz.ntmps58, List.size_toArray, List.length_cons, List.length_nil, Nat.reduceAdd, Nat.reduceSub, Array.replicate_succ, Array.replicate_zero, List.push_toArray, List.append_toArray, List.nil_append, List.cons_append]
  gi_wp2
  go_ret
  exact ⟨rfl, rfl⟩

end Go.Proofs.YtbapeilpkhbbeaaGreatDoor
