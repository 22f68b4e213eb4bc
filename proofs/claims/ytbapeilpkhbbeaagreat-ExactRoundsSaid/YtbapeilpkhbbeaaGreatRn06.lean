/- math/bits.LeadingZeros64, Len64: by the library's contracts. math/bits.Div64. -/
import Derived.Test.YtbapeilpkhbbeaaGreatRn01
import Derived.Shelf.Small.Bits
import Derived.Shelf.Strconv.Itoa0
import Derived.Test.YtbapeilpkhbbeaaGreatRn03
/- math/bits.LeadingZeros64, Len64: by the library's contracts. -/
namespace Go.Proofs.YtbapeilpkhbbeaaGreat
open Go.RowKit Go.Shelf

def lz_ren : Go.Shelf.Ren := ⟨fun | 134 => 141 | 129 => 140 | n => n, fun | 53 => 106 | 3 => 3 | 4 => 4 | 46 => 152 | 5 => 5 | 9 => 9 | n => n, fun | n => n⟩
theorem lz_lays : Go.Proofs.Lays.n134 Tryz.prog lz_ren := {
  mixed := by kernel_rfl
  f129 := Tryz.func140.trans (congrArg some (by kernel_rfl))
  f134 := Tryz.func141.trans (congrArg some (by kernel_rfl))
  t3 := Tryz.underlying3
  a3 := Tryz.isAgg3
  z3 := Tryz.sizeOf3
  v3 := Tryz.zeroValue3
  t4 := Tryz.underlying4
  a4 := Tryz.isAgg4
  z4 := Tryz.sizeOf4
  v4 := Tryz.zeroValue4
  t5 := Tryz.underlying5
  a5 := Tryz.isAgg5
  z5 := Tryz.sizeOf5
  v5 := Tryz.zeroValue5
  t9 := Tryz.underlying9
  a9 := Tryz.isAgg9
  z9 := Tryz.sizeOf9
  v9 := Tryz.zeroValue9
  t46 := Tryz.underlying152
  a46 := Tryz.isAgg152
  z46 := Tryz.sizeOf152
  v46 := Tryz.zeroValue152
  t53 := Tryz.underlying106
  a53 := Tryz.isAgg106
  z53 := Tryz.sizeOf106
  v53 := Tryz.zeroValue106 }

theorem bitLenAux_bd : ∀ (f x : Nat), x < 2 ^ f → 0 < x → 0 < Lib.bitLenAux f x ∧ 2 ^ (Lib.bitLenAux f x - 1) ≤ x ∧ x < 2 ^ Lib.bitLenAux f x ∧ Lib.bitLenAux f x ≤ f
  | 0, x, h, h0 => by simp at h; omega
  | f + 1, x, h, h0 => by
    rw [Lib.bitLenAux, if_neg (by omega)]
    by_cases h1 : x / 2 = 0
    · have : x = 1 := by omega
      subst this
      cases f <;> simp [Lib.bitLenAux]
    · have ih := bitLenAux_bd f (x / 2) (by rw [Nat.pow_succ] at h; omega) (by omega)
      obtain ⟨a, b, c, d⟩ := ih
      refine ⟨by omega, ?_, ?_, by omega⟩
      · rw [Nat.add_sub_cancel_left]
        have e : Lib.bitLenAux f (x / 2) = (Lib.bitLenAux f (x / 2) - 1) + 1 := by omega
        rw [e, Nat.pow_succ]; omega
      · rw [Nat.add_comm, Nat.pow_succ]; omega

theorem bitLen_bd (x : Nat) (h : x < 18446744073709551616) (h0 : 0 < x) : 0 < Lib.bitLen x ∧ 2 ^ (Lib.bitLen x - 1) ≤ x ∧ x < 2 ^ Lib.bitLen x ∧ Lib.bitLen x ≤ 64 := bitLenAux_bd 64 x h h0

/-- The shift by which the highest bit comes to stand first. -/
theorem lz64 (y : Int) (h0 : 0 < y) (h1 : y < B64) (w : World) : Calls Tryz.prog 141 #[.int .u64 y] w fun e w' => ∃ s : Nat, e = .returned (.int .i64 s) ∧ s ≤ 63 ∧ 9223372036854775808 ≤ y * 2 ^ s ∧ y * 2 ^ s < B64 ∧ w = w' := by
  unfold B64 at h1
  refine (Any.bits_LeadingZeros64 lz_lays y w (by omega) (by omega)).mono ?_
  rintro e w' ⟨rfl, rfl⟩
  have hb := bitLen_bd y.toNat (by omega) (by omega)
  obtain ⟨a, b, c, d⟩ := hb
  refine ⟨64 - Lib.bitLen y.toNat, by congr 2; omega, by omega, ?_, ?_, rfl⟩
  · have e : (64 - Lib.bitLen y.toNat) + (Lib.bitLen y.toNat - 1) = 63 := by omega
    have := Nat.mul_le_mul_right (2 ^ (64 - Lib.bitLen y.toNat)) b
    rw [← Nat.pow_add, Nat.add_comm, e] at this
    have h2 : ((2 ^ 63 : Nat) : Int) ≤ ((y.toNat * 2 ^ (64 - Lib.bitLen y.toNat) : Nat) : Int) := by exact_mod_cast this
    rw [Int.natCast_mul, Int.natCast_pow, Int.toNat_of_nonneg (by omega)] at h2
    simpa using h2
  · have e : Lib.bitLen y.toNat + (64 - Lib.bitLen y.toNat) = 64 := by omega
    have := Nat.mul_lt_mul_of_pos_right c (Nat.two_pow_pos (64 - Lib.bitLen y.toNat))
    rw [← Nat.pow_add, e] at this
    have h2 : ((y.toNat * 2 ^ (64 - Lib.bitLen y.toNat) : Nat) : Int) < ((2 ^ 64 : Nat) : Int) := by exact_mod_cast this
    rw [Int.natCast_mul, Int.natCast_pow, Int.toNat_of_nonneg (by omega)] at h2
    simpa [B64] using h2

end Go.Proofs.YtbapeilpkhbbeaaGreat

/- math/bits.Div64. -/
namespace Go.Proofs.YtbapeilpkhbbeaaGreat
open Go.RowKit

/-- A quotient's digit is guessed (base 2^32): u and then d are divided by yn1 2^32 + yn0; q, r are the guess and its rest. -/
structure KnI (u d yn1 yn0 q r : Int) : Prop where
  q0 : 0 ≤ q
  q1 : q ≤ 4294967297
  r0 : 0 ≤ r
  r1 : r ≤ 4294967295
  eq : q * yn1 + r = u
  up : r * 4294967296 + d < q * yn0 + (yn1 * 4294967296 + yn0)

theorem KnI.start {u d yn1 yn0 : Int} (hu0 : 0 ≤ u) (hu : u < yn1 * 4294967296 + yn0) (h1 : 2147483648 ≤ yn1) (h2 : yn1 ≤ 4294967295) (h3 : 0 ≤ yn0) (h4 : yn0 ≤ 4294967295) (d1 : d ≤ 4294967295) :
    KnI u d yn1 yn0 (u / yn1) (u - u / yn1 * yn1) := by
  have hq := Int.ediv_nonneg hu0 (show 0 ≤ yn1 by omega)
  have e := Int.emod_add_mul_ediv u yn1
  rw [Int.mul_comm] at e
  have r0 := Int.emod_nonneg u (show yn1 ≠ 0 by omega)
  have r1 := Int.emod_lt_of_pos u (show 0 < yn1 by omega)
  generalize u / yn1 = q at *
  generalize u % yn1 = r at *
  have hr : u - q * yn1 = r := by omega
  rw [hr]
  have hp : 0 ≤ q * yn0 := Int.mul_nonneg hq h3
  refine ⟨hq, ?_, r0, by omega, by omega, by omega⟩
  by_cases hc : q ≤ 4294967297
  · exact hc
  · exfalso
    have := Int.mul_le_mul_of_nonneg_right (show 4294967298 ≤ q by omega) (show 0 ≤ yn1 by omega)
    omega

theorem KnI.digit {u d yn1 yn0 q r : Int} (_h1 : 2147483648 ≤ yn1) (_h3 : 0 ≤ yn0) (he : q * yn1 + r = u) (up : r * 4294967296 + d < q * yn0 + (yn1 * 4294967296 + yn0)) (lo : q * yn0 ≤ 4294967296 * r + d) :
    q = (u * 4294967296 + d) / (yn1 * 4294967296 + yn0) := by
  have hy : 0 < yn1 * 4294967296 + yn0 := by omega
  have e : q * (yn1 * 4294967296 + yn0) = q * yn1 * 4294967296 + q * yn0 := by rw [Int.mul_add, Int.mul_assoc]
  have := (Int.ediv_emod_unique hy (a := u * 4294967296 + d) (r := u * 4294967296 + d - q * (yn1 * 4294967296 + yn0)) (q := q)).2 ⟨by rw [Int.mul_comm (yn1 * 4294967296 + yn0) q]; omega, by rw [e]; omega, by rw [e]; omega⟩
  exact this.1.symm

theorem KnI.more {u d yn1 yn0 q r : Int} (h : KnI u d yn1 yn0 q r) (hu : u < yn1 * 4294967296 + yn0) (h1 : 2147483648 ≤ yn1) (h3 : 0 ≤ yn0) (h4 : yn0 ≤ 4294967295) (d0 : 0 ≤ d) (d1 : d ≤ 4294967295)
    (ht : 4294967296 ≤ q ∨ 4294967296 * r + d < q * yn0) : 1 ≤ q ∧ (q - 1) * yn1 + (r + yn1) = u ∧ (r + yn1) * 4294967296 + d < (q - 1) * yn0 + (yn1 * 4294967296 + yn0) ∧ (4294967296 ≤ r + yn1 → (q - 1) * yn0 ≤ 4294967296 * (r + yn1) + d) := by
  have hlt : 4294967296 * r + d < q * yn0 := by
    rcases ht with ht | ht
    · have e := h.eq
      have a := Int.mul_le_mul_of_nonneg_right ht (show 0 ≤ yn1 by omega)
      have b := Int.mul_le_mul_of_nonneg_right ht h3
      have := h.r0
      omega
    · exact ht
  have hq : 1 ≤ q := by
    by_cases hc : 1 ≤ q
    · exact hc
    · exfalso
      have : q = 0 := by have := h.q0; omega
      subst this
      have := h.r0
      simp at hlt; omega
  have e1 := h.eq
  refine ⟨hq, by rw [Int.sub_mul]; omega, by rw [Int.sub_mul]; have := h.up; omega, fun hr => ?_⟩
  have a := Int.mul_le_mul_of_nonneg_right (show q - 1 ≤ 4294967296 by have := h.q1; omega) h3
  omega

theorem KnI.next {u d yn1 yn0 q r : Int} (h : KnI u d yn1 yn0 q r) (hu : u < yn1 * 4294967296 + yn0) (h1 : 2147483648 ≤ yn1) (h3 : 0 ≤ yn0) (h4 : yn0 ≤ 4294967295) (d0 : 0 ≤ d) (d1 : d ≤ 4294967295)
    (ht : 4294967296 ≤ q ∨ 4294967296 * r + d < q * yn0) (hr : r + yn1 < 4294967296) : KnI u d yn1 yn0 (q - 1) (r + yn1) := by
  obtain ⟨a, b, c, _⟩ := h.more hu h1 h3 h4 d0 d1 ht
  exact ⟨by omega, by have := h.q1; omega, by have := h.r0; omega, by omega, b, c⟩

theorem or_disj (h l : Int) (s : Nat) (h0 : 0 ≤ h) (h1 : h * 2 ^ s < 18446744073709551616) (l0 : 0 ≤ l) (l1 : l < 2 ^ s) (l2 : l < 18446744073709551616) : bits .or .u64 (h * 2 ^ s) l = h * 2 ^ s + l := by
  obtain ⟨a, rfl⟩ := Int.eq_ofNat_of_zero_le h0
  obtain ⟨b, rfl⟩ := Int.eq_ofNat_of_zero_le l0
  have e : ((a : Int) * 2 ^ s) = ((a * 2 ^ s : Nat) : Int) := by simp
  have hb : b < 2 ^ s := by
    have e2 : ((2 : Int) ^ s) = ((2 ^ s : Nat) : Int) := by simp
    rw [e2] at l1; omega
  rw [e] at h1 ⊢
  by_cases ha : a = 0
  · subst ha
    simp only [Nat.zero_mul, Int.natCast_zero, Int.zero_add]
    have := bits_or_u64_nat 0 b (by omega) (by omega)
    simpa using this
  · have hle : 2 ^ s ≤ a * 2 ^ s := Nat.le_mul_of_pos_left _ (by omega)
    rw [bits_or_u64_nat (a * 2 ^ s) b (by omega) (by omega)]
    have := Nat.two_pow_add_eq_or_of_lt hb a
    rw [Nat.mul_comm a, ← this]; omega

/-- The numbers that the division begins with: shifted by s, and cut. -/
theorem norm_facts {hi lo y yN : Int} {s : Nat} (h0 : 0 < hi) (h1 : hi < y) (l0 : 0 ≤ lo) (l1 : lo < B64) (hs : s ≤ 63) (hyN : yN = y * 2 ^ s) (hn : yN < B64) :
    let u := hi * 2 ^ s + lo / 2 ^ (64 - s)
    let v := lo * 2 ^ s % B64
    bits .or .u64 (IntKind.u64.wrap (hi * 2 ^ s)) (lo / 2 ^ (64 - s)) = u ∧ 0 ≤ u ∧ u < yN ∧ u * B64 + v = (hi * B64 + lo) * 2 ^ s := by
  have hp : (0 : Int) < 2 ^ s := Int.pow_pos (by decide)
  have hp2 : (0 : Int) < 2 ^ (64 - s) := Int.pow_pos (by decide)
  have hpp : (2 : Int) ^ (64 - s) * 2 ^ s = B64 := by rw [← Int.pow_add, Nat.sub_add_cancel (by omega)]; rfl
  have hlt : (hi + 1) * 2 ^ s ≤ y * 2 ^ s := Int.mul_le_mul_of_nonneg_right (by omega) (Int.le_of_lt hp)
  rw [Int.add_mul, ← hyN] at hlt
  have hq0 : 0 ≤ lo / 2 ^ (64 - s) := Int.ediv_nonneg l0 (Int.le_of_lt hp2)
  have hq1 : lo / 2 ^ (64 - s) < 2 ^ s := Int.ediv_lt_of_lt_mul hp2 (by rw [Int.mul_comm, hpp]; exact l1)
  have hh0 : 0 ≤ hi * 2 ^ s := Int.mul_nonneg (by omega) (Int.le_of_lt hp)
  have hw : IntKind.u64.wrap (hi * 2 ^ s) = hi * 2 ^ s := by rw [IntKind.wrap_u64]; unfold B64 at hn; exact Int.emod_eq_of_lt hh0 (by omega)
  have hs64 : (2 : Int) ^ s ≤ B64 := by rw [← hpp]; have := Int.mul_le_mul_of_nonneg_right (show (1 : Int) ≤ 2 ^ (64 - s) by omega) (Int.le_of_lt hp); omega
  have e3 : lo * 2 ^ s / B64 = lo / 2 ^ (64 - s) := by rw [← hpp]; exact Int.mul_ediv_mul_of_pos_left _ _ hp
  have e4 := Int.emod_add_mul_ediv (lo * 2 ^ s) B64
  rw [e3] at e4
  refine ⟨?_, by omega, by omega, ?_⟩
  · rw [hw]
    exact or_disj hi _ s (by omega) (by unfold B64 at hn; omega) hq0 hq1 (by unfold B64 at hs64; omega)
  · have a1 := Int.add_mul (hi * 2 ^ s) (lo / 2 ^ (64 - s)) B64
    have a2 := Int.add_mul (hi * B64) lo (2 ^ s)
    have a3 : hi * 2 ^ s * B64 = hi * B64 * 2 ^ s := by rw [Int.mul_assoc, Int.mul_comm (2 ^ s), Int.mul_assoc]
    have a4 := Int.mul_comm B64 (lo / 2 ^ (64 - s))
    omega

/-- The two digits and the rest give quotient and rest. -/
theorem div_join {N y yN u v1 v0 d1 d0 u21 r0 : Int} {s : Nat} (hy : 0 < y) (hyN : yN = y * 2 ^ s) (hN : (u * 4294967296 + v1) * 4294967296 + v0 = N * 2 ^ s)
    (h1 : u21 = u * 4294967296 + v1 - d1 * yN) (h0 : r0 = u21 * 4294967296 + v0 - d0 * yN) (r00 : 0 ≤ r0) (r01 : r0 < yN) : N / y = d1 * 4294967296 + d0 ∧ N % y = r0 / 2 ^ s := by
  have hp : (0 : Int) < 2 ^ s := Int.pow_pos (by decide)
  have e : r0 = (N - y * (d1 * 4294967296 + d0)) * 2 ^ s := by
    rw [Int.sub_mul, ← hN, h0, h1, hyN]; grind
  have hd : r0 / 2 ^ s = N - y * (d1 * 4294967296 + d0) := by rw [e]; exact Int.mul_ediv_cancel _ (by omega)
  have a0 : 0 ≤ r0 / 2 ^ s := Int.ediv_nonneg r00 (Int.le_of_lt hp)
  have a1 : r0 / 2 ^ s < y := Int.ediv_lt_of_lt_mul hp (by rw [← hyN]; exact r01)
  rw [hd] at a0 a1 ⊢
  have := (Int.ediv_emod_unique hy (a := N) (r := N - y * (d1 * 4294967296 + d0)) (q := d1 * 4294967296 + d0)).2 ⟨by omega, a0, a1⟩
  exact this

/-- What stands after a digit: no carry is lost. -/
theorem rest_wrap {u d q yN : Int} (hy : 0 < yN) (hyB : yN < 18446744073709551616) (hq : q = (u * 4294967296 + d) / yN) :
    IntKind.u64.wrap (IntKind.u64.wrap (IntKind.u64.wrap (u * 4294967296) + d) - IntKind.u64.wrap (q * yN)) = u * 4294967296 + d - q * yN ∧ 0 ≤ u * 4294967296 + d - q * yN ∧ u * 4294967296 + d - q * yN < yN := by
  have e := Int.emod_add_mul_ediv (u * 4294967296 + d) yN
  rw [← hq, Int.mul_comm yN q] at e
  have a := Int.emod_nonneg (u * 4294967296 + d) (show yN ≠ 0 by omega)
  have b := Int.emod_lt_of_pos (u * 4294967296 + d) hy
  generalize q * yN = p at *
  refine ⟨?_, by omega, by omega⟩
  rw [IntKind.wrap_u64, IntKind.wrap_u64, IntKind.wrap_u64, IntKind.wrap_u64]; omega
theorem digit_lt {u d yN : Int} (h0 : 0 ≤ u) (h1 : u < yN) (d0 : 0 ≤ d) (d1 : d ≤ 4294967295) : 0 ≤ (u * 4294967296 + d) / yN ∧ (u * 4294967296 + d) / yN ≤ 4294967295 := by
  refine ⟨Int.ediv_nonneg (by omega) (by omega), ?_⟩
  have := Int.ediv_lt_of_lt_mul (show 0 < yN by omega) (show u * 4294967296 + d < 4294967296 * yN by omega)
  omega
theorem mask_facts (v : Int) (h0 : 0 ≤ v) (h1 : v < 18446744073709551616) : bits .and .u64 v 4294967295 = v % 4294967296 := by
  obtain ⟨a, rfl⟩ := Int.eq_ofNat_of_zero_le h0
  rw [Mul64.maskN a (by omega)]; omega
theorem prod_bd {q y0 : Int} (q0 : 0 ≤ q) (q1 : q ≤ 4294967295) (h0 : 0 ≤ y0) (h1 : y0 ≤ 4294967295) : 0 ≤ q * y0 ∧ q * y0 ≤ 18446744065119617025 := by
  refine ⟨Int.mul_nonneg q0 h0, ?_⟩
  have := Int.mul_le_mul_of_nonneg_right q1 h0
  omega
theorem quo_bd {u y1 : Int} (h0 : 0 ≤ u) (h : 2147483648 ≤ y1) (hu : u ≤ 18446744073709551615) : 0 ≤ u / y1 ∧ u / y1 ≤ 18446744073709551615 ∧ 0 ≤ u / y1 * y1 ∧ u / y1 * y1 ≤ u := by
  have e := Int.emod_add_mul_ediv u y1
  rw [Int.mul_comm] at e
  have a := Int.emod_nonneg u (show y1 ≠ 0 by omega)
  have b := Int.ediv_nonneg h0 (show 0 ≤ y1 by omega)
  have c : u / y1 ≤ u := Int.ediv_le_self _ h0
  have d : 0 ≤ u / y1 * y1 := Int.mul_nonneg b (by omega)
  exact ⟨b, by omega, d, by omega⟩

/-- The same, as the program computes it. -/
theorem KnI.begin {u d yn1 yn0 : Int} (hu0 : 0 ≤ u) (hu64 : u ≤ 18446744073709551615) (hu : u < yn1 * 4294967296 + yn0) (h1 : 2147483648 ≤ yn1) (h2 : yn1 ≤ 4294967295) (h3 : 0 ≤ yn0) (h4 : yn0 ≤ 4294967295) (d1 : d ≤ 4294967295) :
    KnI u d yn1 yn0 (IntKind.u64.wrap (u.tdiv yn1)) (IntKind.u64.wrap (u - IntKind.u64.wrap (IntKind.u64.wrap (u.tdiv yn1) * yn1))) := by
  obtain ⟨a, b, c, e⟩ := quo_bd hu0 h1 hu64
  have e1 : IntKind.u64.wrap (u.tdiv yn1) = u / yn1 := by rw [Int.tdiv_eq_ediv_of_nonneg hu0, IntKind.wrap_u64]; omega
  have e2 : IntKind.u64.wrap (u / yn1 * yn1) = u / yn1 * yn1 := by rw [IntKind.wrap_u64]; omega
  have e3 : IntKind.u64.wrap (u - u / yn1 * yn1) = u - u / yn1 * yn1 := by rw [IntKind.wrap_u64]; omega
  rw [e1, e2, e3]
  exact KnI.start hu0 hu h1 h2 h3 h4 d1

set_option maxRecDepth 100000 in
set_option maxHeartbeats 8000000 in
theorem div64_big (hi lo y : Int) (h0 : 0 < hi) (h1 : hi < y) (l0 : 0 ≤ lo) (l1 : lo < B64) (y1 : y < B64) (w : World) :
    Calls Tryz.prog 146 #[.int .u64 hi, .int .u64 lo, .int .u64 y] w fun e w' => e = .returned (.tuple #[.int .u64 ((hi * B64 + lo) / y), .int .u64 ((hi * B64 + lo) % y)]) ∧ w = w' := by
  have hy0 : (y == 0) = false := by rw [beq_eq_false_iff_ne]; omega
  have hh0 : (hi == 0) = false := by rw [beq_eq_false_iff_ne]; omega
  have hyh : ¬ y ≤ hi := by omega
  have H1 := hid h1; have L1 := hid l1; have Y1 := hid y1
  clear l1 y1
  go_enter Tryz.func146, Tryz.ntmps146
  go_wp2_with fail
  refine (lz64 y (by have := H1.out; omega) Y1.out w).mono ?_
  rintro e w' ⟨s, rfl, hs, hn0, hn1, rfl⟩
  have h2 : IntKind.u64.wrap (y * 2 ^ s) = y * 2 ^ s := by rw [IntKind.wrap_u64]; unfold B64 at hn1; exact Int.emod_eq_of_lt (by omega) hn1
  obtain ⟨yN, hyN⟩ : ∃ yN, yN = y * 2 ^ s := ⟨_, rfl⟩
  have h2' : IntKind.u64.wrap (y * 2 ^ s) = yN := h2.trans hyN.symm
  rw [← hyN] at hn0 hn1
  obtain ⟨n1, n2, n3, n4⟩ := norm_facts h0 h1 l0 L1.out hs hyN hn1
  obtain ⟨u, hu⟩ : ∃ u, u = hi * 2 ^ s + lo / 2 ^ (64 - s) := ⟨_, rfl⟩
  obtain ⟨v, hv⟩ : ∃ v, v = lo * 2 ^ s % B64 := ⟨_, rfl⟩
  simp only [← hu, ← hv] at n1 n2 n3 n4
  have hv0 : 0 ≤ v := by rw [hv]; exact Int.emod_nonneg _ (by decide)
  have hv1 : v < B64 := by rw [hv]; exact Int.emod_lt_of_pos _ B64_pos
  have hwv : IntKind.u64.wrap (lo * 2 ^ s) = v := by rw [hv, IntKind.wrap_u64]; rfl
  unfold B64 at hn1 hv1
  have hm1 := mask_facts yN (by omega) hn1
  have hm2 := mask_facts v hv0 hv1
  obtain ⟨yn1, hyn1⟩ : ∃ yn1, yN / 4294967296 = yn1 := ⟨_, rfl⟩
  obtain ⟨yn0, hyn0⟩ : ∃ yn0, yN % 4294967296 = yn0 := ⟨_, rfl⟩
  obtain ⟨v1, hvv1⟩ : ∃ v1, v / 4294967296 = v1 := ⟨_, rfl⟩
  obtain ⟨v0, hvv0⟩ : ∃ v0, v % 4294967296 = v0 := ⟨_, rfl⟩
  rw [hyn0] at hm1
  rw [hvv0] at hm2
  have hb1 : 2147483648 ≤ yn1 := by omega
  have hb2 : yn1 ≤ 4294967295 := by omega
  have hb3 : 0 ≤ yn0 := by omega
  have hb4 : yn0 ≤ 4294967295 := by omega
  have v10 : 0 ≤ v1 := by omega
  have v11 : v1 ≤ 4294967295 := by omega
  have v00 : 0 ≤ v0 := by omega
  have v01 : v0 ≤ 4294967295 := by omega
  have HY : Hid (yn1 * 4294967296 + yn0 = yN) := hid (by omega)
  have HUv1 := hid (show u < yn1 * 4294967296 + yn0 by omega)
  have HN : Hid ((u * 4294967296 + v1) * 4294967296 + v0 = (hi * B64 + lo) * 2 ^ s) := hid (by rw [← n4]; unfold B64; omega)
  have KSv1 := hid (KnI.begin (d := v1) n2 (show u ≤ 18446744073709551615 by omega) HUv1.out hb1 hb2 hb3 hb4 v11)
  obtain ⟨d1, hd1⟩ : ∃ d1, d1 = (u * 4294967296 + v1) / yN := ⟨_, rfl⟩
  obtain ⟨w1, w2, w3⟩ := rest_wrap (show 0 < yN by omega) hn1 hd1
  have hdl := digit_lt n2 n3 v10 v11
  rw [← hd1] at hdl
  have hdl0 := hdl.1; have hdl1 := hdl.2
  obtain ⟨u21, hu21⟩ : ∃ u21, u21 = u * 4294967296 + v1 - d1 * yN := ⟨_, rfl⟩
  rw [← hu21] at w1 w2 w3
  have HUv0 := hid (show u21 < yn1 * 4294967296 + yn0 by rw [HY.out]; exact w3)
  have KSv0 := hid (KnI.begin (d := v0) w2 (show u21 ≤ 18446744073709551615 by omega) HUv0.out hb1 hb2 hb3 hb4 v01)
  obtain ⟨d0, hd0⟩ : ∃ d0, d0 = (u21 * 4294967296 + v0) / yN := ⟨_, rfl⟩
  obtain ⟨x1, x2, x3⟩ := rest_wrap (show 0 < yN by omega) hn1 hd0
  have hdm := digit_lt w2 w3 v00 v01
  rw [← hd0] at hdm
  have hdm0 := hdm.1; have hdm1 := hdm.2
  obtain ⟨r00, hr00⟩ : ∃ r00, r00 = u21 * 4294967296 + v0 - d0 * yN := ⟨_, rfl⟩
  rw [← hr00] at x1 x2 x3
  have HR := hid (div_join (show 0 < y by omega) hyN HN.out hu21 hr00 x2 x3)
  have HDv1 := hid hd1; have HDv0 := hid hd0
  have u0 := n2; clear n2 w2 u0; clear hyN hu hv n4 h2 hr00 hd0 hu21 hd1 hdl hdm hyn0 hvv0 hn0 hn1 hv0 hv1 n3 x2 x3 w3
  go_wp2
  go_loop [15, 16] (fun qv rv => ∃ q r : Int, qv = .int .u64 q ∧ rv = .int .u64 r ∧ KnI u v1 yn1 yn0 q r) (fun qv _ => (intOf qv).toNat)
  case atStart => exact ⟨_, _, rfl, rfl, KSv1.out⟩
  case round =>
    obtain ⟨q, r, rfl, rfl, H⟩ := hrel
    have q0 := H.q0; have q1 := H.q1; have r0 := H.r0; have r1 := H.r1
    by_cases ht : 4294967296 ≤ q ∨ 4294967296 * r + v1 < q * yn0
    · have hm := H.more HUv1.out hb1 hb3 hb4 v10 v11 ht
      have hq1 := hm.1
      by_cases hr : r + yn1 < 4294967296
      · have HK := hid (H.next HUv1.out hb1 hb3 hb4 v10 v11 ht hr)
        clear hm H
        by_cases hqb : 4294967296 ≤ q
        · clear ht
          go_wp2
          go_round
          case rel => exact ⟨_, _, rfl, rfl, HK.out⟩
          case measure => simp [intOf]; omega
        · have ht' : 4294967296 * r + v1 < q * yn0 := by omega
          have hpb := prod_bd q0 (by omega) hb3 hb4
          have hp0 := hpb.1; have hp1 := hpb.2
          clear ht hpb
          go_wp2
          go_round
          case rel => exact ⟨_, _, rfl, rfl, HK.out⟩
          case measure => simp [intOf]; omega
      · have hqd := KnI.digit hb1 hb3 hm.2.1 hm.2.2.1 (hm.2.2.2 (by omega))
        rw [HY.out, ← HDv1.out] at hqd
        clear hm H
        by_cases hqb : 4294967296 ≤ q
        · clear ht
          go_wp2
          go_loop [18, 16] (fun qv rv => ∃ q r : Int, qv = .int .u64 q ∧ rv = .int .u64 r ∧ KnI u21 v0 yn1 yn0 q r) (fun qv _ => (intOf qv).toNat)
          case atStart => exact ⟨_, _, rfl, rfl, KSv0.out⟩
          case round =>
            obtain ⟨q, r, rfl, rfl, H⟩ := hrel
            have q0 := H.q0; have q1 := H.q1; have r0 := H.r0; have r1 := H.r1
            by_cases ht : 4294967296 ≤ q ∨ 4294967296 * r + v0 < q * yn0
            · have hm := H.more HUv0.out hb1 hb3 hb4 v00 v01 ht
              have hq1 := hm.1
              by_cases hr : r + yn1 < 4294967296
              · have HK := hid (H.next HUv0.out hb1 hb3 hb4 v00 v01 ht hr)
                clear hm H
                by_cases hqb : 4294967296 ≤ q
                · clear ht
                  go_wp2
                  go_round
                  case rel => exact ⟨_, _, rfl, rfl, HK.out⟩
                  case measure => simp [intOf]; omega
                · have ht' : 4294967296 * r + v0 < q * yn0 := by omega
                  have hpb := prod_bd q0 (by omega) hb3 hb4
                  have hp0 := hpb.1; have hp1 := hpb.2
                  clear ht hpb
                  go_wp2
                  go_round
                  case rel => exact ⟨_, _, rfl, rfl, HK.out⟩
                  case measure => simp [intOf]; omega
              · have hqd := KnI.digit hb1 hb3 hm.2.1 hm.2.2.1 (hm.2.2.2 (by omega))
                rw [HY.out, ← HDv0.out] at hqd
                clear hm H
                by_cases hqb : 4294967296 ≤ q
                · clear ht
                  go_wp2
                  go_ret2
                  exact ⟨by rw [HR.out.1, HR.out.2]; rfl, rfl⟩
                · have ht' : 4294967296 * r + v0 < q * yn0 := by omega
                  have hpb := prod_bd q0 (by omega) hb3 hb4
                  have hp0 := hpb.1; have hp1 := hpb.2
                  clear ht hpb
                  go_wp2
                  go_ret2
                  exact ⟨by rw [HR.out.1, HR.out.2]; rfl, rfl⟩
            · have hqb : q < 4294967296 := by omega
              have ht' : q * yn0 ≤ 4294967296 * r + v0 := by omega
              have hqd := KnI.digit hb1 hb3 H.eq H.up ht'
              rw [HY.out, ← HDv0.out] at hqd
              have hpb := prod_bd q0 (by omega) hb3 hb4
              have hp0 := hpb.1; have hp1 := hpb.2
              clear H ht hpb
              subst hqd
              go_wp2
              go_ret2
              exact ⟨by rw [HR.out.1, HR.out.2]; rfl, rfl⟩
        · have ht' : 4294967296 * r + v1 < q * yn0 := by omega
          have hpb := prod_bd q0 (by omega) hb3 hb4
          have hp0 := hpb.1; have hp1 := hpb.2
          clear ht hpb
          go_wp2
          go_loop [18, 16] (fun qv rv => ∃ q r : Int, qv = .int .u64 q ∧ rv = .int .u64 r ∧ KnI u21 v0 yn1 yn0 q r) (fun qv _ => (intOf qv).toNat)
          case atStart => exact ⟨_, _, rfl, rfl, KSv0.out⟩
          case round =>
            obtain ⟨q, r, rfl, rfl, H⟩ := hrel
            have q0 := H.q0; have q1 := H.q1; have r0 := H.r0; have r1 := H.r1
            by_cases ht : 4294967296 ≤ q ∨ 4294967296 * r + v0 < q * yn0
            · have hm := H.more HUv0.out hb1 hb3 hb4 v00 v01 ht
              have hq1 := hm.1
              by_cases hr : r + yn1 < 4294967296
              · have HK := hid (H.next HUv0.out hb1 hb3 hb4 v00 v01 ht hr)
                clear hm H
                by_cases hqb : 4294967296 ≤ q
                · clear ht
                  go_wp2
                  go_round
                  case rel => exact ⟨_, _, rfl, rfl, HK.out⟩
                  case measure => simp [intOf]; omega
                · have ht' : 4294967296 * r + v0 < q * yn0 := by omega
                  have hpb := prod_bd q0 (by omega) hb3 hb4
                  have hp0 := hpb.1; have hp1 := hpb.2
                  clear ht hpb
                  go_wp2
                  go_round
                  case rel => exact ⟨_, _, rfl, rfl, HK.out⟩
                  case measure => simp [intOf]; omega
              · have hqd := KnI.digit hb1 hb3 hm.2.1 hm.2.2.1 (hm.2.2.2 (by omega))
                rw [HY.out, ← HDv0.out] at hqd
                clear hm H
                by_cases hqb : 4294967296 ≤ q
                · clear ht
                  go_wp2
                  go_ret2
                  exact ⟨by rw [HR.out.1, HR.out.2]; rfl, rfl⟩
                · have ht' : 4294967296 * r + v0 < q * yn0 := by omega
                  have hpb := prod_bd q0 (by omega) hb3 hb4
                  have hp0 := hpb.1; have hp1 := hpb.2
                  clear ht hpb
                  go_wp2
                  go_ret2
                  exact ⟨by rw [HR.out.1, HR.out.2]; rfl, rfl⟩
            · have hqb : q < 4294967296 := by omega
              have ht' : q * yn0 ≤ 4294967296 * r + v0 := by omega
              have hqd := KnI.digit hb1 hb3 H.eq H.up ht'
              rw [HY.out, ← HDv0.out] at hqd
              have hpb := prod_bd q0 (by omega) hb3 hb4
              have hp0 := hpb.1; have hp1 := hpb.2
              clear H ht hpb
              subst hqd
              go_wp2
              go_ret2
              exact ⟨by rw [HR.out.1, HR.out.2]; rfl, rfl⟩
    · have hqb : q < 4294967296 := by omega
      have ht' : q * yn0 ≤ 4294967296 * r + v1 := by omega
      have hqd := KnI.digit hb1 hb3 H.eq H.up ht'
      rw [HY.out, ← HDv1.out] at hqd
      have hpb := prod_bd q0 (by omega) hb3 hb4
      have hp0 := hpb.1; have hp1 := hpb.2
      clear H ht hpb
      subst hqd
      go_wp2
      go_loop [18, 16] (fun qv rv => ∃ q r : Int, qv = .int .u64 q ∧ rv = .int .u64 r ∧ KnI u21 v0 yn1 yn0 q r) (fun qv _ => (intOf qv).toNat)
      case atStart => exact ⟨_, _, rfl, rfl, KSv0.out⟩
      case round =>
        obtain ⟨q, r, rfl, rfl, H⟩ := hrel
        have q0 := H.q0; have q1 := H.q1; have r0 := H.r0; have r1 := H.r1
        by_cases ht : 4294967296 ≤ q ∨ 4294967296 * r + v0 < q * yn0
        · have hm := H.more HUv0.out hb1 hb3 hb4 v00 v01 ht
          have hq1 := hm.1
          by_cases hr : r + yn1 < 4294967296
          · have HK := hid (H.next HUv0.out hb1 hb3 hb4 v00 v01 ht hr)
            clear hm H
            by_cases hqb : 4294967296 ≤ q
            · clear ht
              go_wp2
              go_round
              case rel => exact ⟨_, _, rfl, rfl, HK.out⟩
              case measure => simp [intOf]; omega
            · have ht' : 4294967296 * r + v0 < q * yn0 := by omega
              have hpb := prod_bd q0 (by omega) hb3 hb4
              have hp0 := hpb.1; have hp1 := hpb.2
              clear ht hpb
              go_wp2
              go_round
              case rel => exact ⟨_, _, rfl, rfl, HK.out⟩
              case measure => simp [intOf]; omega
          · have hqd := KnI.digit hb1 hb3 hm.2.1 hm.2.2.1 (hm.2.2.2 (by omega))
            rw [HY.out, ← HDv0.out] at hqd
            clear hm H
            by_cases hqb : 4294967296 ≤ q
            · clear ht
              go_wp2
              go_ret2
              exact ⟨by rw [HR.out.1, HR.out.2]; rfl, rfl⟩
            · have ht' : 4294967296 * r + v0 < q * yn0 := by omega
              have hpb := prod_bd q0 (by omega) hb3 hb4
              have hp0 := hpb.1; have hp1 := hpb.2
              clear ht hpb
              go_wp2
              go_ret2
              exact ⟨by rw [HR.out.1, HR.out.2]; rfl, rfl⟩
        · have hqb : q < 4294967296 := by omega
          have ht' : q * yn0 ≤ 4294967296 * r + v0 := by omega
          have hqd := KnI.digit hb1 hb3 H.eq H.up ht'
          rw [HY.out, ← HDv0.out] at hqd
          have hpb := prod_bd q0 (by omega) hb3 hb4
          have hp0 := hpb.1; have hp1 := hpb.2
          clear H ht hpb
          subst hqd
          go_wp2
          go_ret2
          exact ⟨by rw [HR.out.1, HR.out.2]; rfl, rfl⟩

set_option maxRecDepth 100000 in
set_option maxHeartbeats 2000000 in
theorem div64_zero (lo y : Int) (h1 : 0 < y) (l0 : 0 ≤ lo) (l1 : lo < B64) (_y1 : y < B64) (w : World) :
    Calls Tryz.prog 146 #[.int .u64 0, .int .u64 lo, .int .u64 y] w fun e w' => e = .returned (.tuple #[.int .u64 (lo / y), .int .u64 (lo % y)]) ∧ ∃ nq, w' = w.drewN nq := by
  have hy0 : (y == 0) = false := by rw [beq_eq_false_iff_ne]; omega
  have hyh : ¬ y ≤ 0 := by omega
  have e1 : IntKind.u64.wrap (lo.tdiv y) = lo / y := by
    have := Int.ediv_nonneg l0 (show 0 ≤ y by omega)
    have := Int.ediv_le_self y l0
    rw [Int.tdiv_eq_ediv_of_nonneg l0, IntKind.wrap_u64]; unfold B64 at l1; omega
  have e2 : lo.tmod y = lo % y := Int.tmod_eq_emod_of_nonneg l0
  have E1 := hid e1; have E2 := hid e2
  clear l1 e1 e2
  go_enter Tryz.func146, Tryz.ntmps146
  go_wp2
  go_region
  all_goals go_wp2
  go_ret2
  exact ⟨by rw [← E1.out]; rfl, 1, rfl⟩

/-- math/bits.Div64, the world behind it said by draws. -/
theorem div64_any (hi lo y : Int) (h0 : 0 ≤ hi) (h1 : hi < y) (l0 : 0 ≤ lo) (l1 : lo < B64) (y1 : y < B64) (w : World) :
    Calls Tryz.prog 146 #[.int .u64 hi, .int .u64 lo, .int .u64 y] w fun e w' => e = .returned (.tuple #[.int .u64 ((hi * B64 + lo) / y), .int .u64 ((hi * B64 + lo) % y)]) ∧ ∃ nq, w' = w.drewN nq := by
  by_cases h : hi = 0
  · subst h
    have := div64_zero lo y h1 l0 l1 y1 w
    simpa using this
  · refine (div64_big hi lo y (by omega) h1 l0 l1 y1 w).mono ?_
    rintro e w' ⟨rfl, rfl⟩
    exact ⟨rfl, 0, rfl⟩

end Go.Proofs.YtbapeilpkhbbeaaGreat
