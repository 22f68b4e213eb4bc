/- strconv.FormatUint at base 10, of every number of 64 bits, where the library's table of powers is laid. Decimal digits, padded; exact.padded. The number that digits stand for. exact.multiplyAdd. exact.decimals of a number below 100: its one group's digits. -/
import Derived.Test.YtbapeilpkhbbeaaGreatDoorYn17
import Derived.Lib.AppendIntMem
import Derived.Lib.ItoaMem
import Derived.Lib.LaidTab
import Derived.Test.YtbapeilpkhbbeaaGreatDoorYn16
import Derived.Test.YtbapeilpkhbbeaaGreatDoorYn11
import Derived.Maps.AppendAt
import Derived.Test.YtbapeilpkhbbeaaGreatDoorYn04
/- strconv.FormatUint at base 10, of every number of 64 bits, where the library's table of powers is laid. -/
namespace Go.Proofs.YtbapeilpkhbbeaaGreatDoor
open Go.RowKit Go.Sort

/-- The table of the powers of ten is laid. -/
def Tab (w : World) : Prop := Lib.TabIs Tryz.prog w "internal/strconv.uint64pow10" .u64 Lib.pow10Tab
theorem Tab.below {w w' : World} (h : Tab w) (hb : Below w.heap.size w w') : Tab w' := by
  unfold Tab Lib.TabIs World.var? at *
  cases hg : Tryz.prog.globalNamed "internal/strconv.uint64pow10" with
  | none => simp [hg] at h
  | some g =>
    simp only [hg, Option.bind_some] at h ⊢
    have hlt : g < w.heap.size := by
      rcases Nat.lt_or_ge g w.heap.size with h' | h'
      · exact h'
      · rw [Array.getElem?_eq_none h'] at h; simp at h
    rw [hb.block g hlt]
    exact h

set_option maxRecDepth 100000 in
set_option maxHeartbeats 4000000 in
theorem formatInner_big (u : Nat) (hu : 100 ≤ u) (hu64 : u < 18446744073709551616) (w : World) (ht : Tab w) :
    Calls Tryz.prog 108 #[.int .u64 u, .int .i64 10] w fun e w' => e = .returned (.string ⟨(Lib.decDigits u).toArray⟩) ∧ Below w.heap.size w w' := by
  have hu1 : 1 ≤ u := by omega
  have hnd20 : Lib.nDigits u ≤ 20 := by have := Lib.numDigits_eq u hu1 hu64; split at this <;> omega
  have hal : Tryz.prog.arrayLen 179 = 24 := by kernel_rfl
  have hsl : ∀ W, (Instr.sliceAt 179 (.pointer (some ⟨w.heap.size, 0, none⟩)) none (some (.int .i64 (Lib.nDigits u : Int))) none).run Tryz.prog W = .ok (.slice (some ⟨w.heap.size, 0, none⟩) (Lib.nDigits u) 24) W := fun W => by
    rw [run_sliceAt_array_h W 179 ⟨w.heap.size, 0, none⟩ (by simp [Program.arrayLen, Program.elem, Tryz.underlying179]) .i64 (Lib.nDigits u : Int) (by omega) (by rw [hal]; omega)]
    go_simp
  have hH0 := Lib.holds_zero0 w 179 (Lib.nDigits u) (by omega)
  have hfmt := Tryz.internal_strconv_formatBase10 w.heap.size 0 24 u (Array.replicate (Lib.nDigits u) 0) (w.alloc (.cells Lib.zeros24 179)) hH0 (by rw [Array.size_replicate]; exact Lib.lt_pow_nDigits u) hu64 (by rw [Array.size_replicate]; omega)
  rw [Array.size_replicate] at hfmt
  have HH0 := hid hH0
  have HT := hid ht
  have iu : ¬ (u : Int) < 100 := by omega
  have Hu := hid hu
  have Hnd := hid hnd20
  clear hH0 hal ht hu hnd20
  have Hfmt := hid hfmt
  clear hfmt
  go_enter Tryz.func108, Tryz.ntmps108
  go_wp2_with fail
  refine (Tryz.internal_strconv_numDigits u hu1 hu64 _ (Lib.tabIs_alloc HT.out _)).mono ?_
  rintro e w' ⟨rfl, rfl⟩
  go_wp2_with fail
  refine Hfmt.out.mono ?_
  rintro e w' ⟨rfl, k, v', dk, rfl, hF⟩
  have hcv : (convert 105 9 (.slice (some ⟨w.heap.size, 0, none⟩) (Lib.nDigits u) 24)).run Tryz.prog ((putRow (fun (b : UInt8) => Value.int .u8 (b.toNat : Int)) (w.alloc (.cells Lib.zeros24 179)) w.heap.size 0 dk).drewN k) = .ok (.string ⟨(Lib.decDigits u).toArray⟩) ((putRow (fun (b : UInt8) => Value.int .u8 (b.toNat : Int)) (w.alloc (.cells Lib.zeros24 179)) w.heap.size 0 dk).drewN k) := by
    have h := run_convert_bytes_back (P := Tryz.prog) ((putRow (fun (b : UInt8) => Value.int .u8 (b.toNat : Int)) (w.alloc (.cells Lib.zeros24 179)) w.heap.size 0 dk).drewN k) 105 9 5 ⟨w.heap.size, 0, none⟩ 24 (Lib.decDigits u) Tryz.underlying105 Tryz.underlying5 Tryz.underlying9 (fun j hj => by
      rw [Lib.row_is_numeral hF j hj, Lib.add_plain, World.cell?_drewN]
      exact cell?_putRow (fun (b : UInt8) => Value.int .u8 (b.toNat : Int)) _ w.heap.size 0 _ dk HH0.out (by rw [hF.size, Array.size_replicate]) j (by rw [hF.size]; rw [Lib.decDigits_length] at hj; exact hj))
    rw [Lib.decDigits_length] at h
    exact h
  go_wp2
  go_ret
  obtain ⟨os, eo⟩ := Lib.fin_at w (.cells Lib.zeros24 179) dk k 0
  refine ⟨rfl, ?_⟩
  rw [show (World.drewN (putRow (fun (b : UInt8) => Value.int .u8 (b.toNat : Int)) (w.alloc (.cells Lib.zeros24 179)) w.heap.size 0 dk) k) = _ from eo]
  exact Lib.below_grow w.heap.size w (Nat.le_refl _) k os
theorem format_any (u : Nat) (hu64 : u < 18446744073709551616) (w : World) (ht : Tab w) : Calls Tryz.prog 59 #[.int .u64 u, .int .i64 10] w fun e w' => e = .returned (.string ⟨(Lib.decDigits u).toArray⟩) ∧ Below w.heap.size w w' := by
  by_cases hu : u < 100
  · refine (format_small u hu w).mono ?_
    rintro e w' ⟨rfl, rfl⟩
    exact ⟨rfl, Below.refl _ _⟩
  · have HS := hid (formatInner_big u (by omega) hu64 w ht)
    clear hu64
    go_enter Tryz.func59, Tryz.ntmps59
    go_wp2_with fail
    refine HS.out.mono ?_
    rintro e w' ⟨rfl, hb⟩
    go_wp2
    go_ret
    exact ⟨rfl, hb⟩
end Go.Proofs.YtbapeilpkhbbeaaGreatDoor

/- Decimal digits, padded; exact.padded. -/
namespace Go.Proofs.YtbapeilpkhbbeaaGreatDoor
open Go.RowKit

/-- The k last decimal digits, with zeros ahead. -/
def padD : Nat → Nat → List UInt8
  | 0, _ => []
  | k + 1, r => padD k (r / 10) ++ [UInt8.ofNat (48 + r % 10)]
theorem dec_small {n : Nat} (h : n < 10) : Lib.decDigits n = [UInt8.ofNat (48 + n)] := by
  rw [Lib.decDigits, dif_pos h]
theorem dec_big {n : Nat} (h : ¬ n < 10) : Lib.decDigits n = Lib.decDigits (n / 10) ++ [UInt8.ofNat (48 + n % 10)] := by
  rw [Lib.decDigits, dif_neg h]
theorem dec_join : ∀ (k q r : Nat), 0 < q → r < 10 ^ k → Lib.decDigits (q * 10 ^ k + r) = Lib.decDigits q ++ padD k r
  | 0, q, r, hq, hr => by
    have : r = 0 := by simpa using hr
    subst this
    simp [padD]
  | k + 1, q, r, hq, hr => by
    have h1 : 0 < q * 10 ^ (k + 1) := Nat.mul_pos hq (Nat.pow_pos (by decide))
    have h2 : q * 10 ^ (k + 1) = q * 10 ^ k * 10 := by rw [Nat.pow_succ, Nat.mul_assoc]
    have h3 : 0 < q * 10 ^ k := Nat.mul_pos hq (Nat.pow_pos (by decide))
    rw [dec_big (by omega), h2, show (q * 10 ^ k * 10 + r) / 10 = q * 10 ^ k + r / 10 by omega, show (q * 10 ^ k * 10 + r) % 10 = r % 10 by omega, dec_join k q (r / 10) hq (by rw [Nat.pow_succ] at hr; omega), padD, List.append_assoc]
theorem pad_dec : ∀ (k r : Nat), 0 < k → r < 10 ^ k → (Lib.decDigits r).length ≤ k ∧ padD k r = List.replicate (k - (Lib.decDigits r).length) 48 ++ Lib.decDigits r
  | 0, _, h, _ => absurd h (by decide)
  | k + 1, r, _, hr => by
    by_cases h10 : r < 10
    · rw [dec_small h10]
      refine ⟨by simp, ?_⟩
      have h0 : ∀ j, padD j 0 = List.replicate j 48 := by
        intro j
        induction j with
        | zero => rfl
        | succ j ih => rw [padD, Nat.zero_div, ih, List.replicate_succ']; rfl
      rw [padD, show r / 10 = 0 by omega, h0, Nat.mod_eq_of_lt h10]
      simp
    · have hk : 0 < k := by
        rcases Nat.eq_zero_or_pos k with e | e
        · subst e; simp at hr; omega
        · exact e
      obtain ⟨h1, h2⟩ := pad_dec k (r / 10) hk (by rw [Nat.pow_succ] at hr; omega)
      rw [dec_big h10, padD, h2]
      refine ⟨by simp; omega, ?_⟩
      simp [List.append_assoc]
/-- The digits of the groups, the lowest first. -/
def joinG : List Nat → List UInt8
  | [] => []
  | [x] => Lib.decDigits x
  | x :: y :: l => joinG (y :: l) ++ padD 19 x
theorem gls_ne {n : Nat} (h : n ≠ 0) : gls n ≠ [] := by rw [gls_pos h]; simp
theorem join_gls : ∀ (k n : Nat), n ≤ k → n ≠ 0 → joinG (gls n) = Lib.decDigits n
  | 0, n, hk, hn => absurd (by omega) hn
  | k + 1, n, hk, hn => by
    rw [gls_pos hn]
    by_cases hd : n / 10000000000000000000 = 0
    · rw [hd, gls_zero, joinG, Nat.mod_eq_of_lt (by omega)]
    · have ih := join_gls k (n / 10000000000000000000) (by have := Nat.div_lt_self (show 0 < n by omega) (show 1 < 10000000000000000000 by decide); omega) hd
      cases hg : gls (n / 10000000000000000000) with
      | nil => exact absurd hg (gls_ne hd)
      | cons y l =>
        rw [joinG, ← hg, ih]
        have h := dec_join 19 (n / 10000000000000000000) (n % 10000000000000000000) (by omega) (Nat.mod_lt _ (by decide))
        rw [← h]
        congr 1
        rw [show (10 : Nat) ^ 19 = 10000000000000000000 by decide]
        exact Nat.div_add_mod' n 10000000000000000000
theorem repeat_zero (c : Nat) : Lib.repeatL (⟨#[48]⟩ : ByteArray).data.toList c = List.replicate c 48 := by
  induction c with
  | zero => rfl
  | succ c ih => rw [Lib.repeatL, ih, List.replicate_succ]; rfl

set_option maxRecDepth 100000 in
set_option maxHeartbeats 1000000 in
theorem padded_any (l : List UInt8) (size : Nat) (w : World) (hl : l.length ≤ 1000000) (hs : size ≤ 1000000) :
    Calls Tryz.prog 24 #[.string ⟨l.toArray⟩, .int .i64 (size : Int)] w fun e w' => e = .returned (.string ⟨(List.replicate (size - l.length) 48 ++ l).toArray⟩) ∧ Below w.heap.size w w' := by
  obtain ⟨s, hs0⟩ : ∃ s : ByteArray, s = ⟨l.toArray⟩ := ⟨_, rfl⟩
  have hz : s.size = l.length := by rw [hs0]; rfl
  obtain ⟨c, hc⟩ : ∃ c : Nat, c = size - l.length := ⟨_, rfl⟩
  obtain ⟨t, ht⟩ : ∃ t : ByteArray, t = ⟨(List.replicate c 48).toArray⟩ := ⟨_, rfl⟩
  have htz : t.size = c := by rw [ht]; show (List.replicate c (48 : UInt8)).length = c; simp
  have hR := Tryz.strings_Repeat ⟨#[48]⟩ c w (by omega) (by show 1 * c ≤ _; omega)
  rw [repeat_zero, ← ht] at hR
  have hmx : max (0 : Int) ((size : Int) - (s.size : Int)) = (c : Int) := by rw [hz, hc]; omega
  have HE := hid (show (⟨(List.replicate (size - l.length) 48 ++ l).toArray⟩ : ByteArray) = t ++ s by
    rw [ht, hs0, hc]
    apply ByteArray.ext
    simp [ByteArray.data_append])
  have hq : ¬ 9223372036854775807 < t.size + s.size := by omega
  have hw1 : (0 : Int) ≤ (size : Int) := by omega
  have hw2 : (size : Int) ≤ 1000000 := by omega
  have hw3 : (0 : Int) ≤ (s.size : Int) := by omega
  have hw4 : (s.size : Int) ≤ 1000000 := by omega
  rw [HE.out, ← hs0]
  have HR := hid hR; have Hmx := hid hmx
  clear hs0 hz hc ht htz hR hmx
  go_enter Tryz.func24, Tryz.ntmps24
  go_wp2_with fail
  rw [Hmx.out]
  refine HR.out.mono ?_
  rintro e w1 ⟨rfl, hb⟩
  go_wp2
  go_ret
  exact ⟨rfl, hb⟩
end Go.Proofs.YtbapeilpkhbbeaaGreatDoor

/- The number that digits stand for. -/
namespace Go.Proofs.YtbapeilpkhbbeaaGreatDoor
open Go.RowKit

/-- A digit. -/
def isD (c : UInt8) : Bool := decide (48 ≤ c.toNat) && decide (c.toNat ≤ 57)
/-- A digit's value. -/
def dC (c : UInt8) : Nat := c.toNat - 48
/-- The number that digits stand for, behind a. -/
def dvA (a : Nat) (l : List UInt8) : Nat := l.foldl (fun a c => 10 * a + dC c) a
abbrev dv (l : List UInt8) : Nat := dvA 0 l
theorem dvA_nil (a : Nat) : dvA a [] = a := by unfold dvA; simp only [List.foldl_nil]
theorem dvA_cons (a : Nat) (c : UInt8) (l : List UInt8) : dvA a (c :: l) = dvA (10 * a + dC c) l := by unfold dvA; simp only [List.foldl_cons]
theorem dvA_append (l m : List UInt8) (a : Nat) : dvA a (l ++ m) = dvA (dvA a l) m := by unfold dvA; simp only [List.foldl_append]
theorem dvA_shift (l : List UInt8) : ∀ (a : Nat), dvA a l = a * 10 ^ l.length + dvA 0 l := by
  induction l with
  | nil => intro a; simp [dvA_nil]
  | cons c l ih =>
    intro a
    have h1 := ih (10 * a + dC c)
    have h2 := ih (10 * 0 + dC c)
    have e4 : a * (10 ^ l.length * 10) = 10 * a * 10 ^ l.length := by simp only [Nat.mul_comm, Nat.mul_assoc]
    rw [List.length_cons, Nat.pow_succ, e4, dvA_cons, dvA_cons, h1, h2, Nat.add_mul, Nat.mul_zero, Nat.zero_add, Nat.add_assoc]
theorem dv_append (l m : List UInt8) : dv (l ++ m) = dv l * 10 ^ m.length + dv m := by
  have e : dv (l ++ m) = dvA (dvA 0 l) m := dvA_append l m 0
  rw [e, dvA_shift]
theorem isD_le {c : UInt8} (h : isD c = true) : 48 ≤ c.toNat ∧ c.toNat ≤ 57 := by
  unfold isD at h
  simp at h
  exact h
theorem dC_le {c : UInt8} (h : isD c = true) : dC c ≤ 9 := by
  have := isD_le h
  unfold dC
  omega
theorem dv_lt (l : List UInt8) : l.all isD = true → dv l < 10 ^ l.length := by
  induction l with
  | nil => intro _; simp [dvA_nil]
  | cons c l ih =>
    intro h
    simp only [List.all_cons, Bool.and_eq_true] at h
    have h1 := dC_le h.1
    have h2 : dvA 0 l < 10 ^ l.length := ih h.2
    show dvA (10 * 0 + dC c) l < _
    rw [dvA_shift, List.length_cons, Nat.pow_succ, Nat.mul_zero, Nat.zero_add]
    have h3 : dC c * 10 ^ l.length ≤ 9 * 10 ^ l.length := Nat.mul_le_mul_right _ h1
    omega
theorem dig_nat {x : Nat} (h : x < 10) : (UInt8.ofNat (48 + x)).toNat = 48 + x := by
  rw [UInt8.toNat_ofNat']
  omega
theorem dec_digits : ∀ (k n : Nat), n ≤ k → (Lib.decDigits n).all isD = true ∧ dv (Lib.decDigits n) = n
  | 0, n, h => by
    obtain rfl : n = 0 := by omega
    rw [dec_small (by decide)]
    exact ⟨by decide, by decide⟩
  | k + 1, n, h => by
    by_cases hn : n < 10
    · rw [dec_small hn]
      refine ⟨?_, ?_⟩
      · simp [isD]; omega
      · show 10 * 0 + dC (UInt8.ofNat (48 + n)) = n
        unfold dC
        rw [dig_nat hn]; omega
    · obtain ⟨h1, h2⟩ := dec_digits k (n / 10) (by omega)
      rw [dec_big hn]
      refine ⟨?_, ?_⟩
      · rw [List.all_append, h1]
        have : n % 10 < 10 := Nat.mod_lt _ (by decide)
        simp [isD]; omega
      · rw [dv_append, h2]
        have e : dv [UInt8.ofNat (48 + n % 10)] = n % 10 := by
          show 10 * 0 + dC (UInt8.ofNat (48 + n % 10)) = n % 10
          unfold dC
          rw [dig_nat (Nat.mod_lt _ (by decide))]; omega
        rw [e]
        simp only [List.length_singleton, Nat.pow_one]
        omega
theorem pcs_join : ∀ (k : Nat) (l : List UInt8), l.length ≤ k → (pcs l).flatten = l
  | 0, l, h => by
    obtain rfl : l = [] := List.eq_nil_of_length_eq_zero (by omega)
    rw [pcs_nil]; rfl
  | k + 1, l, h => by
    by_cases hl : l = []
    · subst hl; rw [pcs_nil]; rfl
    · have : 0 < l.length := List.length_pos_iff.2 hl
      rw [pcs_pos hl, List.flatten_cons, pcs_join k (l.drop 19) (by simp; omega), List.take_append_drop]
theorem pcs_len : ∀ (k : Nat) (l : List UInt8), l.length ≤ k → (pcs l).length ≤ l.length
  | 0, l, h => by
    obtain rfl : l = [] := List.eq_nil_of_length_eq_zero (by omega)
    rw [pcs_nil]; simp
  | k + 1, l, h => by
    by_cases hl : l = []
    · subst hl; rw [pcs_nil]; simp
    · have : 0 < l.length := List.length_pos_iff.2 hl
      rw [pcs_pos hl, List.length_cons]
      have := pcs_len k (l.drop 19) (by simp; omega)
      simp at this
      omega
/-- Of a number's text the first byte is no zero, but of 0. -/
theorem dec_head : ∀ (k n : Nat), n ≤ k → 0 < n → ∃ c l, Lib.decDigits n = c :: l ∧ c ≠ 48
  | 0, n, h, h0 => by omega
  | k + 1, n, h, h0 => by
    by_cases hn : n < 10
    · rw [dec_small hn]
      refine ⟨_, _, rfl, fun e => ?_⟩
      have := congrArg UInt8.toNat e
      rw [dig_nat hn] at this
      have e2 : (48 : UInt8).toNat = 48 := rfl
      omega
    · obtain ⟨c, l, e, hc⟩ := dec_head k (n / 10) (by omega) (by omega)
      rw [dec_big hn, e]
      exact ⟨c, _, rfl, hc⟩
end Go.Proofs.YtbapeilpkhbbeaaGreatDoor

/- exact.multiplyAdd. -/
namespace Go.Proofs.YtbapeilpkhbbeaaGreatDoor
open Go.RowKit

/-- The row that multiplyAdd begins with. -/
def putR (y : Int) (n : Nat) : List Int := y :: List.replicate n 0
theorem putR_len (y : Int) (n : Nat) : (putR y n).length = n + 1 := by simp [putR]
theorem putR_val (y : Int) (n : Nat) : val B64 (putR y n) = y := by
  have : val B64 (List.replicate n 0) = 0 := val_replicate _ _
  show y + B64 * val B64 (List.replicate n 0) = y
  rw [this]; simp
theorem putR_dig {y : Int} (h0 : 0 ≤ y) (h1 : y < B64) (n : Nat) : Dig B64 (putR y n) := Dig.cons h0 h1 (Dig.replicate B64_pos _)

theorem put_bound {P V a x y t : Int} (hP : 0 < P) (hV : 0 ≤ V) (ha0 : 0 ≤ a) (ha : a < P) (x0 : 0 ≤ x) (x1 : x < B64) (y1 : y < B64) (h : V + P * t = a * x + y) : t < B64 := by
  by_cases ht : t < B64
  · exact ht
  · have h1 : P * B64 ≤ P * t := Int.mul_le_mul_of_nonneg_left (by omega) (Int.le_of_lt hP)
    have h2 : a * x ≤ (P - 1) * (B64 - 1) := Int.mul_le_mul (by omega) (by omega) x0 (by omega)
    rw [Int.sub_mul, Int.mul_sub] at h2
    omega

set_option maxRecDepth 100000 in
set_option maxHeartbeats 2000000 in
theorem multiplyAdd_any (va : Value) (a x y : Int) (K : Nat) (w : World) (hA : Nt w va a K) (hK : K ≤ 1073741823) (x0 : 0 ≤ x) (x1 : x < B64) (y0 : 0 ≤ y) (y1 : y < B64) :
    Calls Tryz.prog 144 #[va, .int .u64 x, .int .u64 y] w (RetN w (a * x + y) (K + 1)) := by
  obtain ⟨ao, ca, LA, rfl, hA⟩ := hA
  obtain ⟨n, hn⟩ : ∃ n, n = LA.length := ⟨_, rfl⟩
  have hn30 : n ≤ 1073741823 := by have := hA.le; omega
  rw [← hn]
  have HA := hid hA; have Hn := hid hn; have X1 := hid x1; have Y1 := hid y1
  clear hA hn x1 y1
  obtain ⟨i0, hi, hz0, hz1, hz2⟩ := info_parts Tryz.info63
  go_enter Tryz.func144, Tryz.ntmps144
  go_wp2_with (at_make; refine wpList_make_row w rfl _ _ 54 rfl 63 i0 .u64 Tryz.underlying54 hi hz0 hz1 .i64 .i64 _ _ (n + 1) rfl rfl (by omega) (by omega) (by rw [hz2]; omega) (by unfold maxLen; omega) ?_)
  intro w1 hrow hg1
  have hb1 := grown_below hg1
  have hr0 : Row .u64 63 (w1.setCell ⟨w.heap.size, 0, none⟩ (.int .u64 y)) w.heap.size (putR y n) := by
    have h := hrow.set 0 y
    rwa [show (List.replicate (n + 1) (0 : Int)).set 0 y = putR y n by simp [putR, List.replicate_succ]] at h
  have hc0 := hrow.cell 0 (by simp)
  have hf0 := hrow.frozen 0
  obtain ⟨z0, hz0'⟩ : ∃ z : Int, (List.replicate (n + 1) (0 : Int))[0]?.getD 0 = z := ⟨_, rfl⟩
  rw [hz0'] at hc0
  obtain ⟨W1, hW1⟩ : ∃ W, W = w1.setCell ⟨w.heap.size, 0, none⟩ (.int .u64 y) := ⟨_, rfl⟩
  have hbW : Below w.heap.size w W1 := by rw [hW1]; exact hb1.setCell (Nat.le_refl _) _
  have hgW : w.grownBy W1 (some w.heap.size) := by rw [hW1]; exact grown_trans (grown_any hg1) (grown_set _ _ _ _)
  rw [← hW1] at hr0
  have hAr := HA.out.rd.keptNew hgW (HA.out.rd.ne (Nat.le_refl w.heap.size))
  have hc := addProduct_any w.heap.size [] ((putR y n).take n) ((putR y n).drop n) LA (n + 1) ca ao x W1 (by rw [List.nil_append, List.take_append_drop]; exact hr0) (fun u hu => putR_dig y0 Y1.out n u (List.mem_of_mem_take hu)) HA.out.dig x0 X1.out (by rw [List.length_take, putR_len]; omega) (by omega) hAr (by rw [List.length_take, putR_len, ← Hn.out]; omega) (HA.out.rd.ne (Nat.le_refl w.heap.size))
  rw [show ((putR y n).take n).length = n by rw [List.length_take, putR_len]; omega, ← Hn.out] at hc
  have HC := hid hc; have HW1 := hid hW1; have HB := hid hbW
  clear hrow hg1 hz0' hc hW1 hbW hgW hAr hr0 hb1
  obtain ⟨s, hs⟩ : ∃ s, (putR y n).drop n = [s] := by
    have h : ((putR y n).drop n).length = 1 := by rw [List.length_drop, putR_len]; omega
    match (putR y n).drop n, h with
    | [s], _ => exact ⟨s, rfl⟩
  have hsd : 0 ≤ s ∧ s < B64 := putR_dig y0 Y1.out n s (List.mem_of_mem_drop (by rw [hs]; simp))
  have hsv : val B64 ((putR y n).take n) + B64 ^ n * s = y := by
    have h := val_append B64 ((putR y n).take n) ((putR y n).drop n)
    rw [List.take_append_drop, putR_val, hs, List.length_take, putR_len, show min n (n + 1) = n by omega] at h
    have e1 : val B64 [s] = s := by simp [val]
    rw [e1] at h
    exact h.symm
  have HS := hid hs; have HSd := hid hsd; have HSv := hid hsv
  clear hs hsd hsv
  go_wp2_with fail
  rw [← HW1.out]
  refine HC.out.mono ?_
  rintro e w2 ⟨A1, cc, rfl, HI⟩
  rw [HS.out] at HI
  have hlA : A1.length = n := by rw [HI.len, List.length_take, putR_len]; omega
  have hrow2 : Row .u64 63 w2 w.heap.size (A1 ++ [s]) := by simpa using HI.row
  have hcn : w2.cell? ⟨w.heap.size, n, none⟩ = some (.int .u64 s) := by
    have h := hrow2.cell n (by simp; omega)
    rwa [show (A1 ++ [s])[n]?.getD 0 = s by rw [← hlA]; simp] at h
  have hfn := hrow2.frozen n
  have heq : val B64 A1 + B64 ^ n * (s + cc) = a * x + y := by
    have h1 := HI.eq
    have h2 := HSv.out
    rw [HA.out.eq] at h1
    rw [Int.mul_add]; omega
  have ha0 := HA.out.nonneg
  have ha1 : a < B64 ^ n := by
    have h := val_lt B64_pos HA.out.dig
    rwa [HA.out.eq, ← Hn.out] at h
  have hb := put_bound (Int.pow_pos B64_pos) (val_nonneg B64_pos HI.dig) ha0 ha1 x0 X1.out Y1.out heq
  have hc0' := HI.c0; have hc1' := HI.c1; have hs0 := HSd.out.1
  have hwr : IntKind.u64.wrap (s + cc) = s + cc := by rw [IntKind.wrap_u64]; unfold B64 at hb; omega
  have hr3 : Row .u64 63 (w2.setCell ⟨w.heap.size, n, none⟩ (.int .u64 (s + cc))) w.heap.size (A1 ++ [s + cc]) := by
    have h := hrow2.set n (s + cc)
    rwa [show (A1 ++ [s]).set n (s + cc) = A1 ++ [s + cc] by rw [← hlA]; simp] at h
  have hdg : Dig B64 (A1 ++ [s + cc]) := by
    intro u hu
    simp only [List.mem_append, List.mem_singleton] at hu
    rcases hu with hu | rfl
    · exact HI.dig u hu
    · exact ⟨by omega, hb⟩
  have hvl : val B64 (A1 ++ [s + cc]) = a * x + y := by
    rw [val_append, hlA, ← heq]; simp [val]
  have ht := trim64_any (some ⟨w.heap.size, 0, none⟩) (n + 1) (A1 ++ [s + cc]) _ (row_rd hr3 (by simp; omega) (by omega))
  rw [show (A1 ++ [s + cc]).length = n + 1 by simp; omega] at ht
  have hres := nt_row (c := n + 1) (K := K + 1) hr3 hdg hvl (by simp; omega) (by omega) (by simp; have := HA.out.le; have := Hn.out; omega)
  have HT := hid ht; have Hres := hid hres
  have HBx := hid (show Below w.heap.size w (w2.setCell ⟨w.heap.size, n, none⟩ (.int .u64 (s + cc))) from (HB.out.grown HI.gr HB.out.size (fun i e => by cases e; exact Nat.le_refl _)).setCell (Nat.le_refl _) _)
  have hn0 : (0 : Int) ≤ (n : Int) := by omega
  have hn1 : (n : Int) < (n : Int) + 1 := by omega
  clear ht hres hr3 hdg hvl hrow2 HI heq ha1 hb
  go_wp2_with (go_at_call 96; refine HT.out.mono ?_; rintro e w3 ⟨rfl, rfl⟩)
  go_ret
  exact ⟨_, rfl, Hres.out, HBx.out⟩
end Go.Proofs.YtbapeilpkhbbeaaGreatDoor

/- exact.decimals of a number below 100: its one group's digits. -/
namespace Go.Proofs.YtbapeilpkhbbeaaGreatDoor
open Go.RowKit Go.Shelf
attribute [local go_sem] Oper.semAt_some

theorem Tryz.infoS : (Tryz.prog.info? 9).map (fun i => (i.zero, i.size, i.bytes)) = some (some (.string ⟨#[]⟩), 1, 16) := by kernel_rfl

end Go.Proofs.YtbapeilpkhbbeaaGreatDoor
