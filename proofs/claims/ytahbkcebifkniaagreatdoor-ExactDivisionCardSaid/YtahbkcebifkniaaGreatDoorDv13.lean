/- The document's own integers: double, split, byFew. The document's own integers: Sign, Neg, Add, Sub, Cmp. Written by gen_ref8.py. The document's own integers: From. The document's own integers: Mul. The document's own integers: Gcd. The document's own integers: SameWords, Int, SameInt, LikeInt, NoInt. exact.Over: the ratio of two numbers of 64 bits, or ErrZero. exact.readRatio where the denominator is not 0. -/
import Derived.Test.YtahbkcebifkniaaGreatDoorDv12
import Derived.Deep.AppendLies
import Derived.Deep.DeepCutAuto
import Derived.Deep.CutBlock
import Derived.IntWalk
import Derived.Test.YtahbkcebifkniaaGreatDoorDv05
import Derived.Test.YtahbkcebifkniaaGreatDoorDv10
/- The document's own integers: double, split, byFew. -/
namespace Go.Proofs.YtahbkcebifkniaaGreatDoor
open Go.RowKit

theorem new_one0 {w : World} {T : TypeId} {y : Value} (j : Nat) (u : Value) (hj : ([y] : List Value)[j]? = some u) : (w.alloc (.cells #[y] T (0, 0))).cell? ((⟨w.heap.size, 0, none⟩ : Addr).add j) = some u := by
  match j, hj with
  | 0, hj =>
    simp at hj; subst hj
    have h : (w.alloc (.cells #[y] T (0, 0))).heap[w.heap.size]? = some (.cells #[y] T (0, 0)) := by show (w.heap.push _)[w.heap.size]? = _; simp
    exact (cell_of_row _ w.heap.size 0 _ T (0, 0) h).trans rfl
theorem R16_4 : R16 ^ 4 = 18446744073709551616 := by decide
theorem R16_3 : R16 ^ 3 = 281474976710656 := by decide
theorem R16_one : 1 < R16 := by decide
theorem pow_lt_gen {B : Int} (hB : 1 < B) {m n : Nat} (h : B ^ m < B ^ n) : m < n := by
  by_cases hmn : m < n
  · exact hmn
  · have := pow_mono (show 0 < B by omega) (show n ≤ m by omega); omega
theorem Md.lt {w : World} {v : Value} {n : Int} {K : Nat} (h : Md w v n K) : n < R16 ^ K := by
  obtain ⟨ao, c, L, rfl, h⟩ := h
  rw [← h.eq]
  exact Int.lt_of_lt_of_le (val_lt R16_pos h.dig) (pow_mono R16_pos h.le)
theorem Md.tight {w : World} {v : Value} {n : Int} {K K' : Nat} (h : Md w v n K) (hn : n < R16 ^ K') : Md w v n K' := by
  obtain ⟨ao, c, L, rfl, h⟩ := h
  refine ⟨ao, c, L, rfl, h.rd, h.dig, h.nrm, h.eq, ?_⟩
  rcases Nat.eq_zero_or_pos L.length with k | k
  · omega
  · have := h.nrm.low R16_pos h.dig k
    rw [h.eq] at this
    have := pow_lt_gen R16_one (Int.lt_of_le_of_lt this hn)
    omega
theorem val_top_gen {B : Int} {L : List Int} {k : Nat} (hl : L.length = k + 1) : val B L = val B (L.take k) + B ^ k * L[k]?.getD 0 := by
  have e := take_succ_getD L k (by omega)
  rw [List.take_of_length_le (by omega)] at e
  have h := congrArg (val B) e
  rw [h, val_snoc, List.length_take, Nat.min_eq_left (by omega)]
theorem nrm_of_low {B : Int} (hB : 0 < B) {L : List Int} {k : Nat} (hd : Dig B L) (hl : L.length = k + 1) (h : B ^ k ≤ val B L) : Nrm L := by
  have e := val_top_gen (B := B) hl
  have h1 := val_lt hB (hd.take k)
  rw [List.length_take, Nat.min_eq_left (by omega)] at h1
  have hne : L[k]?.getD 0 ≠ 0 := by intro h0; rw [h0, Int.mul_zero] at e; omega
  have e2 := take_succ_getD L k (by omega)
  rw [List.take_of_length_le (by omega)] at e2
  unfold Nrm
  rw [e2, trimL_snoc, if_neg hne]

structure DgL (w : World) (ao : Option Addr) (c : Nat) (L : List Int) (n : Int) (K : Nat) : Prop where
  rd : Rd w .i64 ao c L
  dig : Dig R16 L
  eq : val R16 L = n
  le : L.length ≤ K

structure DbI (w wr : World) (A : List Int) (bit : Int) (k : Nat) (ov : Value) (Q : List Int) (c : Int) : Prop where
  g : GrI w wr k ov Q
  c0 : 0 ≤ c
  c1 : c ≤ 1
  eq : val R16 Q + R16 ^ k * c = 2 * val R16 (A.take k) + bit
theorem DbI.next {w wr wx : World} {A Q : List Int} {bit : Int} {k : Nat} {ov ov' : Value} {c : Int} (H : DbI w wr A bit k ov Q c) (x : Int) (hx : x = A[k]?.getD 0) (hA : Dig R16 A) (hka : k < A.length)
    (hg : GrI w wx (k + 1) ov' (Q ++ [(2 * x + c) % 65536])) : DbI w wx A bit (k + 1) ov' (Q ++ [(2 * x + c) % 65536]) ((2 * x + c) / 65536) := by
  have a := hA.at R16_pos k
  rw [← hx] at a
  have c0 := H.c0; have c1 := H.c1
  unfold R16 at a
  refine ⟨hg, by omega, by omega, ?_⟩
  rw [val_snoc, H.g.len, val_take_succ R16 A k hka, ← hx, Int.pow_succ]
  have e := H.eq
  have hd : (2 * x + c) % 65536 + R16 * ((2 * x + c) / 65536) = 2 * x + c := Int.emod_add_mul_ediv (2 * x + c) 65536
  generalize (2 * x + c) % 65536 = lo at *
  generalize (2 * x + c) / 65536 = hi at *
  generalize R16 ^ k = p at *
  generalize R16 = r at *
  grind

structure SpI (w wr : World) (n : Int) (k : Nat) (ov : Value) (Q : List Int) (m : Int) : Prop where
  g : GrI w wr k ov Q
  m0 : 0 ≤ m
  m1 : m ≤ n
  eq : val R16 Q + R16 ^ k * m = n
  lo : k = 0 ∨ R16 ^ (k - 1) ≤ n
theorem SpI.next {w wr wx : World} {n m : Int} {k : Nat} {ov ov' : Value} {Q : List Int} (H : SpI w wr n k ov Q m) (hm : 0 < m) (hg : GrI w wx (k + 1) ov' (Q ++ [m % 65536])) : SpI w wx n (k + 1) ov' (Q ++ [m % 65536]) (m / 65536) := by
  have m1 := H.m1
  have e := H.eq
  have hp : (0 : Int) < R16 ^ k := Int.pow_pos R16_pos
  have hq := val_nonneg R16_pos H.g.dig
  refine ⟨hg, by omega, by omega, ?_, .inr ?_⟩
  · rw [val_snoc, H.g.len, Int.pow_succ]
    have hd : m % 65536 + R16 * (m / 65536) = m := Int.emod_add_mul_ediv m 65536
    generalize m % 65536 = lo at *
    generalize m / 65536 = hi at *
    generalize R16 ^ k = p at *
    generalize R16 = r at *
    grind
  · have : R16 ^ k * 1 ≤ R16 ^ k * m := Int.mul_le_mul_of_nonneg_left (by omega) (Int.le_of_lt hp)
    rw [Nat.add_sub_cancel]; omega
theorem SpI.few {w wr : World} {n m : Int} {k : Nat} {ov : Value} {Q : List Int} (H : SpI w wr n k ov Q m) (hn : n < 18446744073709551616) : k ≤ 4 := by
  rcases H.lo with h | h
  · omega
  · have h4 : R16 ^ (k - 1) < R16 ^ 4 := Int.lt_of_le_of_lt h (by rw [R16_4]; exact hn)
    have := pow_lt_gen R16_one h4; omega
theorem SpI.done {w wr : World} {n : Int} {k : Nat} {ov : Value} {Q : List Int} (H : SpI w wr n k ov Q 0) (hn : n < 18446744073709551616) : Md wr ov n 4 := by
  have hk := H.few hn
  have e := H.eq
  rw [Int.mul_zero, Int.add_zero] at e
  refine H.g.md (by omega) ?_ e hk
  have hl := H.g.len
  rcases H.lo with h | h
  · rw [h] at hl; rw [List.eq_nil_of_length_eq_zero hl]; rfl
  · rcases k with _ | k
    · rw [List.eq_nil_of_length_eq_zero hl]; rfl
    · exact nrm_of_low R16_pos H.g.dig hl (by rw [e]; exact h)

def RetMM (w : World) (q r : Int) (Kq Kr : Nat) (e : Ending) (w' : World) : Prop := ∃ v1 v2, e = .returned (.tuple #[v1, v2]) ∧ Md w' v1 q Kq ∧ Md w' v2 r Kr ∧ Below w.heap.size w w'

end Go.Proofs.YtahbkcebifkniaaGreatDoor

/- The document's own integers: Sign, Neg, Add, Sub, Cmp. Written by gen_ref8.py. -/
namespace Go.Proofs.YtahbkcebifkniaaGreatDoor
open Go.RowKit

theorem RetO.dg {w : World} {n : Int} {K K' : Nat} {e : Ending} {w' : World} (h : RetO w n K e w') (hK : K ≤ K') : ∃ v, e = .returned v ∧ Dg w' v n K' ∧ Below w.heap.size w w' := by
  obtain ⟨v, Q, rfl, ho, hl, hd, hv, hb⟩ := h
  refine ⟨v, rfl, ?_, hb⟩
  rcases ho.2 with ⟨rfl, h0⟩ | ⟨g, cap, cur, rfl, hg, hh, hn, hcm, hs, ht⟩
  · subst h0
    obtain rfl : Q = [] := List.eq_nil_of_length_eq_zero hl
    exact ⟨none, 0, [], rfl, Rd.nil _ _, hd, hv, by simp⟩
  · subst hl
    exact ⟨_, cap, Q, rfl, owns_rd ho hcm, hd, hv, hK⟩
theorem le_of_either {a b : Int} (h : a ≤ b ∨ a < b) : a ≤ b := by omega
end Go.Proofs.YtahbkcebifkniaaGreatDoor

/- The document's own integers: From. -/
namespace Go.Proofs.YtahbkcebifkniaaGreatDoor
open Go.RowKit

def un16 : List Int → List Int
  | [] => []
  | x :: l => x % 65536 :: x / 65536 :: un16 l
theorem un16_val : ∀ l : List Int, val R16 (un16 l) = val B32 l
  | [] => rfl
  | x :: l => by
    have h := un16_val l
    have e : B32 = R16 * R16 := by decide
    have d := Int.emod_add_mul_ediv x R16
    simp only [un16, val, h, e]
    unfold R16 at *; grind
theorem un16_len : ∀ l : List Int, (un16 l).length = 2 * l.length
  | [] => rfl
  | x :: l => by simp only [un16, List.length_cons, un16_len l]; omega
theorem un16_dig : ∀ {l : List Int}, Dig B32 l → Dig R16 (un16 l)
  | [], _ => Dig.nil _
  | x :: l, h => by
    have h1 := h.head
    have e : B32 = 4294967296 := rfl
    rw [e] at h1
    refine Dig.cons (by omega) (by unfold R16; omega) (Dig.cons (by omega) (by unfold R16; omega) (un16_dig h.tail))
theorem un16_snoc : ∀ (l : List Int) (x : Int), un16 (l ++ [x]) = un16 l ++ [x % 65536, x / 65536]
  | [], x => rfl
  | y :: l, x => by simp [un16, un16_snoc l x]

structure FrI (W0 wr : World) (W : List Int) (k : Nat) (ov : Value) : Prop where
  own : wr.ownsRow W0.heap.size 3 1 ov (2 * k) ((un16 (W.take k)).map (Value.int .i64))
  low : Below W0.heap.size W0 wr

end Go.Proofs.YtahbkcebifkniaaGreatDoor

/- The document's own integers: Mul. -/
namespace Go.Proofs.YtahbkcebifkniaaGreatDoor
open Go.RowKit

theorem val_take_any (B : Int) (M : List Int) (k : Nat) : val B (M.take (k + 1)) = val B (M.take k) + B ^ k * M[k]?.getD 0 := by
  by_cases hk : k < M.length
  · exact val_take_succ B M k hk
  · rw [List.take_of_length_le (by omega), List.take_of_length_le (by omega)]
    simp [Nat.le_of_not_lt hk]

/-- Behind k digits of the i-th row of a product. -/
structure MuI (W0 wr : World) (A B : List Int) (i k : Nat) (R : List Int) (c : Int) : Prop where
  row : Row .i64 3 wr W0.heap.size R
  len : R.length = A.length + B.length + 1
  dig : Dig R16 R
  c0 : 0 ≤ c
  c1 : c ≤ 65535
  eq : val R16 R + R16 ^ (i + k) * c = val R16 (A.take i) * val R16 B + R16 ^ i * (A[i]?.getD 0 * val R16 (B.take k))
  low : Below W0.heap.size W0 wr

theorem MuI.fits {W0 wr : World} {A B : List Int} {i k : Nat} {R : List Int} {c : Int} (H : MuI W0 wr A B i k R c) (hA : Dig R16 A) (hB : Dig R16 B) (hi : i < A.length) (hk : k < B.length ∨ 0 < c) : k ≤ B.length := by
  by_cases h : k ≤ B.length
  · exact h
  · exfalso
    have hc : 0 < c := by omega
    have e := H.eq
    rw [List.take_of_length_le (show B.length ≤ k by omega)] at e
    have e2 : val R16 (A.take i) * val R16 B + R16 ^ i * (A[i]?.getD 0 * val R16 B) = val R16 (A.take (i + 1)) * val R16 B := by
      rw [val_take_any R16 A i]; grind
    rw [e2] at e
    have h1 := val_lt R16_pos (hA.take (i + 1))
    rw [List.length_take, Nat.min_eq_left (by omega)] at h1
    have h2 := val_lt R16_pos hB
    have h3 := val_nonneg R16_pos hB
    have h4 := val_nonneg R16_pos (hA.take (i + 1))
    have h5 := val_nonneg R16_pos H.dig
    have h6 : val R16 (A.take (i + 1)) * val R16 B ≤ R16 ^ (i + 1) * R16 ^ B.length := Int.mul_le_mul (Int.le_of_lt h1) (Int.le_of_lt h2) h3 (Int.le_of_lt (Int.pow_pos R16_pos))
    rw [← Int.pow_add] at h6
    have h7 : R16 ^ (i + 1 + B.length) ≤ R16 ^ (i + k) := pow_mono R16_pos (by omega)
    have h8 : R16 ^ (i + k) * 1 ≤ R16 ^ (i + k) * c := Int.mul_le_mul_of_nonneg_left (by omega) (Int.le_of_lt (Int.pow_pos R16_pos))
    have h9 : val R16 (A.take (i + 1)) * val R16 B < R16 ^ (i + 1) * R16 ^ B.length ∨ val R16 B = 0 := by
      rcases Int.lt_or_eq_of_le h3 with h | h
      · left
        have a1 : val R16 (A.take (i + 1)) * val R16 B < R16 ^ (i + 1) * val R16 B := Int.mul_lt_mul_of_pos_right h1 h
        have a2 : R16 ^ (i + 1) * val R16 B ≤ R16 ^ (i + 1) * R16 ^ B.length := Int.mul_le_mul_of_nonneg_left (Int.le_of_lt h2) (Int.le_of_lt (Int.pow_pos R16_pos))
        omega
      · right; exact h.symm
    rw [← Int.pow_add] at h9
    have hp : (0 : Int) < R16 ^ (i + k) := Int.pow_pos R16_pos
    rcases h9 with h | h
    · omega
    · rw [h, Int.mul_zero] at e; omega

theorem MuI.step {W0 wr : World} {A B : List Int} {i k : Nat} {R : List Int} {c : Int} (H : MuI W0 wr A B i k R c) (hA : Dig R16 A) (hB : Dig R16 B) (hi : i < A.length) (hk : k ≤ B.length) (x y t n : Int) (hx : x = A[i]?.getD 0) (hy : y = B[k]?.getD 0) (ht : t = R[i + k]?.getD 0) (hn : n = t + x * y + c) :
    0 ≤ n ∧ n < 4294967296 ∧ MuI W0 (wr.setCell ⟨W0.heap.size, i + k, none⟩ (.int .i64 (n % 65536))) A B i (k + 1) (R.set (i + k) (n % 65536)) (n / 65536) := by
  have a := hA.at R16_pos i; have b := hB.at R16_pos k; have d := H.dig.at R16_pos (i + k)
  rw [← hx] at a; rw [← hy] at b; rw [← ht] at d
  unfold R16 at a b d
  have c0 := H.c0; have c1 := H.c1
  have p0 : 0 ≤ x * y := Int.mul_nonneg a.1 b.1
  have p1 : x * y ≤ 65535 * 65535 := Int.mul_le_mul (by omega) (by omega) b.1 (by decide)
  have n0 : 0 ≤ n := by omega
  have n1 : n < 4294967296 := by omega
  have hl : i + k < R.length := by rw [H.len]; omega
  refine ⟨n0, n1, ⟨H.row.set _ _, by simpa using H.len, H.dig.set _ (by omega) (by unfold R16; omega), by omega, by omega, ?_, H.low.setCell (Nat.le_refl _) _⟩⟩
  rw [val_set _ _ _ _ hl, val_take_any R16 B k, ← hx, ← hy, ← ht, show i + (k + 1) = i + k + 1 by omega, Int.pow_succ]
  have e := H.eq
  rw [← hx] at e
  have hd : n % 65536 + R16 * (n / 65536) = n := Int.emod_add_mul_ediv n 65536
  rw [Int.pow_add] at *
  generalize n % 65536 = lo at *
  generalize n / 65536 = hi2 at *
  generalize R16 ^ i = p at *
  generalize R16 ^ k = q at *
  generalize R16 = r at *
  grind

theorem MuI.drewN {W0 wr : World} {A B : List Int} {i k : Nat} {R : List Int} {c : Int} (H : MuI W0 wr A B i k R c) (n : Nat) : MuI W0 (wr.drewN n) A B i k R c := ⟨H.row, H.len, H.dig, H.c0, H.c1, H.eq, below_drewN H.low n⟩
theorem MuI.done {W0 wr : World} {A B : List Int} {i k : Nat} {R : List Int} (H : MuI W0 wr A B i k R 0) (hk : B.length ≤ k) : MuI W0 wr A B (i + 1) 0 R 0 := by
  refine ⟨H.row, H.len, H.dig, H.c0, H.c1, ?_, H.low⟩
  have e := H.eq
  rw [List.take_of_length_le hk] at e
  rw [val_take_any R16 A i]
  simp [val] at e ⊢
  rw [e]; grind

end Go.Proofs.YtahbkcebifkniaaGreatDoor

/- The document's own integers: Gcd. -/
namespace Go.Proofs.YtahbkcebifkniaaGreatDoor
open Go.RowKit

theorem gcd_ev_ev {X Y : Int} (hx : X % 2 = 0) (hy : Y % 2 = 0) : Int.gcd X Y = 2 * Int.gcd (X / 2) (Y / 2) := by
  have e1 : X = 2 * (X / 2) := by omega
  have e2 : Y = 2 * (Y / 2) := by omega
  have := Int.gcd_mul_left 2 (X / 2) (Y / 2)
  rw [← e1, ← e2] at this
  exact this
theorem gcd_ev_odd {X Y : Int} (hx : X % 2 = 0) (hy : Y % 2 ≠ 0) : Int.gcd (X / 2) Y = Int.gcd X Y := by
  have e1 : X = 2 * (X / 2) := by omega
  have e2 : Y = 2 * (Y / 2) + 1 := by omega
  apply Nat.dvd_antisymm
  · apply Int.dvd_gcd
    · have := Int.gcd_dvd_left (X / 2) Y
      have h := Int.dvd_mul_of_dvd_right this (b := 2)
      rw [← e1] at h; exact h
    · exact Int.gcd_dvd_right (X / 2) Y
  · apply Int.dvd_gcd
    · have h1 := Int.gcd_dvd_left X Y
      have h2 := Int.gcd_dvd_right X Y
      have h := Int.dvd_sub (Int.dvd_mul_of_dvd_right h2 (b := X / 2)) (Int.dvd_mul_of_dvd_right h1 (b := Y / 2))
      have e : X / 2 * Y - Y / 2 * X = X / 2 := by
        generalize X / 2 = a at *
        generalize Y / 2 = b at *
        subst e1; subst e2; grind
      rw [e] at h; exact h
    · exact Int.gcd_dvd_right X Y
theorem gcd_odd_ev {X Y : Int} (hx : X % 2 ≠ 0) (hy : Y % 2 = 0) : Int.gcd X (Y / 2) = Int.gcd X Y := by
  rw [Int.gcd_comm, gcd_ev_odd hy hx, Int.gcd_comm]
theorem gcd_less_l (X Y : Int) : Int.gcd (X - Y) Y = Int.gcd X Y := by
  rw [Int.gcd_comm]; have := gcd_sub_mul X Y 1; rw [Int.one_mul] at this; exact this
theorem gcd_less_r (X Y : Int) : Int.gcd X (Y - X) = Int.gcd X Y := by
  rw [Int.gcd_comm, gcd_less_l, Int.gcd_comm]
theorem gcd_pos {X Y : Int} (h : 0 < X) : 0 < Int.gcd X Y := by
  rcases Nat.eq_zero_or_pos (Int.gcd X Y) with h0 | h0
  · have := Int.gcd_dvd_left X Y
    rw [h0] at this
    have := Int.zero_dvd.1 this; omega
  · exact h0
theorem gcd_le {X Y : Int} (hx : 0 < X) : (Int.gcd X Y : Int) ≤ X := Int.le_of_dvd hx (Int.gcd_dvd_left X Y)
theorem gcd_lt_of {X Y M : Int} (hx : 0 ≤ X) (hy : 0 ≤ Y) (h1 : X < M) (h2 : Y < M) : (Int.gcd X Y : Int) < M := by
  rcases Int.lt_or_eq_of_le hx with h | h
  · exact Int.lt_of_le_of_lt (gcd_le h) h1
  · rw [← h]; simp [Int.gcd]; omega

theorem Md.unique {w : World} {v : Value} {n n' : Int} {K K' : Nat} (h : Md w v n K) (h' : Md w v n' K') : n = n' := by
  obtain ⟨ao, c, L, rfl, h⟩ := h
  obtain ⟨ao', c', L', e, h'⟩ := h'
  obtain ⟨e1, e2, _⟩ := Value.slice.inj e
  subst e1
  rw [← h.eq, ← h'.eq, h.rd.unique h'.rd e2]
open Classical in
/-- The number that digits stand for, 0 if none. -/
noncomputable def mdOf (w : World) (v : Value) : Nat := if h : ∃ n : Int, ∃ K, Md w v n K then (Classical.choose h).toNat else 0
theorem mdOf_eq {w : World} {v : Value} {n : Int} {K : Nat} (h : Md w v n K) : mdOf w v = n.toNat := by
  have hx : ∃ n : Int, ∃ K, Md w v n K := ⟨n, K, h⟩
  unfold mdOf
  rw [dif_pos hx]
  obtain ⟨K', h'⟩ := Classical.choose_spec hx
  rw [h'.unique h]
noncomputable def rgM (w : World) (x y : Value) : Nat := 2 * (mdOf w x + mdOf w y) + if mdOf w x < mdOf w y then 1 else 0

/-- What holds ahead of a round. -/
structure RgI (W0 wr : World) (xv yv : Value) (X Y : Int) (t G K : Nat) : Prop where
  x : Md wr xv X K
  y : Md wr yv Y K
  g : 2 ^ t * Int.gcd X Y = G
  lt : (G : Int) < R16 ^ K
  low : Below W0.heap.size W0 wr

theorem rgM_lt {w w' : World} {xv yv xv' yv' : Value} {X Y X' Y' : Int} {K K' : Nat} (hx : Md w xv X K) (hy : Md w yv Y K) (hx' : Md w' xv' X' K') (hy' : Md w' yv' Y' K') (h : X' + Y' < X + Y ∨ (X' = Y ∧ Y' = X ∧ X < Y)) : rgM w' xv' yv' < rgM w xv yv := by
  unfold rgM
  rw [mdOf_eq hx, mdOf_eq hy, mdOf_eq hx', mdOf_eq hy']
  have a := hx.nonneg; have b := hy.nonneg; have c := hx'.nonneg; have d := hy'.nonneg
  rcases h with h | ⟨h1, h2, h3⟩
  · split <;> split <;> omega
  · subst h1; subst h2; split <;> split <;> omega

theorem RgI.few {W0 wr : World} {xv yv : Value} {X Y : Int} {t G K : Nat} (H : RgI W0 wr xv yv X Y t G K) (hx : 0 < X) : t < 16 * K := by
  have h1 : (2 : Int) ^ t ≤ G := by
    have hg := H.g
    have hp : 0 < Int.gcd X Y := gcd_pos hx
    have hn : 2 ^ t * 1 ≤ 2 ^ t * Int.gcd X Y := Nat.mul_le_mul_left _ hp
    rw [hg] at hn
    have : ((2 ^ t * 1 : Nat) : Int) ≤ (G : Int) := by exact_mod_cast hn
    simpa using this
  have h2 : R16 ^ K = (2 : Int) ^ (16 * K) := by rw [Int.pow_mul]; rfl
  have h3 := H.lt
  rw [h2] at h3
  exact pow_lt_gen (by decide) (Int.lt_of_le_of_lt h1 h3)

theorem Md.few3 {w : World} {ao : Option Addr} {n c : Nat} {x : Int} {K : Nat} (h : Md w (.slice ao n c) x K) (hn : n ≤ 3) : Md w (.slice ao n c) x 3 := by
  obtain ⟨ao', c', L, e, h⟩ := h
  obtain ⟨e1, e2, e3⟩ := Value.slice.inj e
  subst e1; subst e3
  exact ⟨ao, c, L, e, h.rd, h.dig, h.nrm, h.eq, by omega⟩
theorem Md.pos_iff {w : World} {ao : Option Addr} {n c : Nat} {x : Int} {K : Nat} (h : Md w (.slice ao n c) x K) : 0 < n ↔ 0 < x := by
  have h0 := h.nonneg
  obtain ⟨ao', c', L, e, h⟩ := h
  obtain ⟨e1, e2, e3⟩ := Value.slice.inj e
  have := h.zero_iff
  omega
theorem Md.many {w : World} {ao : Option Addr} {n c : Nat} {x : Int} {K : Nat} (h : Md w (.slice ao n c) x K) (hn : ¬ n ≤ 3) : R16 ^ 3 ≤ x := by
  obtain ⟨ao', c', L, e, h⟩ := h
  obtain ⟨e1, e2, e3⟩ := Value.slice.inj e
  have := h.nrm.low R16_pos h.dig (by omega)
  rw [h.eq] at this
  exact Int.le_trans (pow_mono R16_pos (by omega)) this
theorem mod_dec {X Y : Int} (hx : 0 ≤ X) (hy : 0 < Y) : Y + X % Y < X + Y ∨ (Y = Y ∧ X % Y = X ∧ X < Y) := by
  have h1 := Int.emod_lt_of_pos X hy
  by_cases h : X < Y
  · right; exact ⟨rfl, Int.emod_eq_of_lt hx h, h⟩
  · left; omega
theorem RgI.next {W0 wr w' : World} {xv yv xv' yv' : Value} {X Y X' Y' : Int} {t t' G K : Nat} (H : RgI W0 wr xv yv X Y t G K) (hx : Md w' xv' X' K) (hy : Md w' yv' Y' K) (hg : 2 ^ t' * Int.gcd X' Y' = 2 ^ t * Int.gcd X Y) (hb : Below wr.heap.size wr w') : RgI W0 w' xv' yv' X' Y' t' G K :=
  ⟨hx, hy, by rw [hg]; exact H.g, H.lt, H.low.trans (hb.mono H.low.size)⟩

end Go.Proofs.YtahbkcebifkniaaGreatDoor

/- The document's own integers: SameWords, Int, SameInt, LikeInt, NoInt. -/
namespace Go.Proofs.YtahbkcebifkniaaGreatDoor
open Go.RowKit

/-! Lists of words. -/
theorem take_eq_step {L M : List Int} {k : Nat} (hl : k < L.length) (hm : k < M.length) (h : L.take k = M.take k) (he : L[k]?.getD 0 = M[k]?.getD 0) : L.take (k + 1) = M.take (k + 1) := by
  rw [take_succ_getD L k hl, take_succ_getD M k hm, h, he]

def pack16 : List Int → List Int
  | [] => []
  | [x] => [x]
  | x :: y :: l => (x + 65536 * y) :: pack16 l
theorem pack16_val : ∀ l : List Int, val B32 (pack16 l) = val R16 l
  | [] => rfl
  | [x] => by simp [pack16, val]
  | x :: y :: l => by
    have h := pack16_val l
    have e : B32 = 4294967296 := rfl
    have e2 : R16 = 65536 := rfl
    rw [e, e2] at h
    simp only [pack16, val, h, e, e2]
    omega
theorem pack16_len : ∀ l : List Int, (pack16 l).length = (l.length + 1) / 2
  | [] => rfl
  | [x] => by simp [pack16]
  | x :: y :: l => by simp only [pack16, List.length_cons, pack16_len l]; omega
theorem pack16_dig : ∀ {l : List Int}, Dig R16 l → Dig B32 (pack16 l)
  | [], _ => Dig.nil _
  | [x], h => by
    have h1 := h.head; unfold R16 at h1
    exact Dig.cons h1.1 (by unfold B32; omega) (Dig.nil _)
  | x :: y :: l, h => by
    have h1 := h.head; have h2 := h.tail.head; unfold R16 at h1 h2
    exact Dig.cons (by omega) (by unfold B32; omega) (pack16_dig h.tail.tail)
theorem pack16_nrm {l : List Int} (hd : Dig R16 l) (hn : Nrm l) : Nrm (pack16 l) := by
  rcases Nat.eq_zero_or_pos l.length with h0 | h0
  · rw [List.eq_nil_of_length_eq_zero h0]; rfl
  · have lo := hn.low R16_pos hd h0
    obtain ⟨q, hq⟩ : ∃ q, (l.length + 1) / 2 = q + 1 := ⟨(l.length + 1) / 2 - 1, by omega⟩
    refine nrm_of_low B32_pos (pack16_dig hd) (by rw [pack16_len, hq]) ?_
    rw [pack16_val]
    have e : B32 ^ q = R16 ^ (2 * q) := by rw [Int.pow_mul]; rfl
    rw [e]
    exact Int.le_trans (pow_mono R16_pos (by omega)) lo
theorem pack16_step : ∀ (k : Nat) (L : List Int), 2 * k < L.length → pack16 (L.take (2 * k + 2)) = pack16 (L.take (2 * k)) ++ [L[2 * k]?.getD 0 + 65536 * L[2 * k + 1]?.getD 0]
  | 0, [], h => by simp at h
  | 0, [x], _ => by simp [pack16]
  | 0, x :: y :: l, _ => by simp [pack16]
  | k + 1, [], h => by simp at h
  | k + 1, [x], h => by simp at h
  | k + 1, x :: y :: l, h => by
    have ih := pack16_step k l (by simp at h; omega)
    have e1 : 2 * (k + 1) + 2 = (2 * k + 2) + 1 + 1 := by omega
    have e2 : 2 * (k + 1) = 2 * k + 1 + 1 := by omega
    rw [e1, e2]
    simp only [List.take_succ_cons, pack16, ih, List.cons_append]
    simp

/-- The value v (an api.Int) is the normal form of z. -/
def An (w : World) (v : Value) (z : Int) (K : Nat) : Prop := ∃ ao c L, v = .agg #[.bool (decide (z < 0)), .slice ao L.length c] ∧ Rd w .u32 ao c L ∧ Dig B32 L ∧ Nrm L ∧ val B32 L = (z.natAbs : Int) ∧ L.length ≤ K
theorem An.below {w w' : World} {v : Value} {n : Int} {K B : Nat} (h : An w v n K) (hb : Below B w w') (hB : w.heap.size ≤ B) : An w' v n K := by
  obtain ⟨ao, c, L, e, hr, h⟩ := h; exact ⟨ao, c, L, e, hr.below hb hB, h⟩
theorem An.set {w : World} {s : Value} {n : Int} {K : Nat} (h : An w s n K) {a : Addr} {u : Value} (hu : w.cell? a = some u) (hn : ∀ x, u ≠ .int .u32 x) (v : Value) : An (w.setCell a v) s n K := by
  obtain ⟨ao, c, L, e, hr, h⟩ := h; exact ⟨ao, c, L, e, hr.set hu hn v, h⟩
def RetAn (w : World) (z : Int) (K : Nat) (e : Ending) (w' : World) : Prop := ∃ v, e = .returned v ∧ An w' v z K ∧ Below w.heap.size w w'

theorem owns_slice {w : World} {base n s : Nat} {e : TypeId} {v : Value} {xs : List Value} (h : w.ownsRow base e s v n xs) : ∃ ao cap, v = .slice ao n cap := by
  rcases h.2 with ⟨rfl, rfl⟩ | ⟨g, cap, cur, rfl, _⟩
  · exact ⟨_, _, rfl⟩
  · exact ⟨_, _, rfl⟩

theorem owns_any {w : World} {base n c : Nat} {e : TypeId} {k : IntKind} {vo : Option Addr} {L : List Int} (h : w.ownsRow base e 1 (.slice vo n c) n (L.map (Value.int k))) (hl : L.length = n) : Rd w k vo c L := by
  rcases h.2 with ⟨e, rfl⟩ | ⟨g, cap, cur, e, hb, hh, hn, hcm, _⟩
  · obtain rfl : L = [] := List.eq_nil_of_length_eq_zero hl
    obtain ⟨rfl, _, rfl⟩ := Value.slice.inj e
    exact Rd.nil _ _
  · obtain ⟨rfl, _, rfl⟩ := Value.slice.inj e
    subst hl
    exact owns_rd h hcm

/-- The words so far. -/
structure InI (w W0 wr : World) (nb : Bool) (L : List Int) (k : Nat) (ov : Value) : Prop where
  ob : wr.heap[w.heap.size + 2]? = some (.cells #[.bool nb, ov] 24 (0, 0))
  own : wr.ownsRow W0.heap.size 94 1 ov k ((pack16 (L.take (2 * k))).map (Value.int .u32))
  low : Below (w.heap.size + 2) W0 wr
  siz : W0.heap.size ≤ wr.heap.size

theorem InI.cells {w W0 wr : World} {nb : Bool} {L : List Int} {k : Nat} {ov : Value} (H : InI w W0 wr nb L k ov) :
    wr.cell? ⟨w.heap.size + 2, 0, none⟩ = some (.bool nb) ∧ wr.cell? ⟨w.heap.size + 2, 1, none⟩ = some ov ∧ wr.frozen? ⟨w.heap.size + 2, 1, none⟩ = false :=
  ⟨(cell_of_row wr _ 0 _ _ (0, 0) H.ob).trans rfl, (cell_of_row wr _ 1 _ _ (0, 0) H.ob).trans rfl, frozen_of_row wr _ 1 _ _ H.ob⟩

theorem InI.kept3 {w W0 wr w3 : World} {nb : Bool} {L : List Int} {k : Nat} {ov : Value} (H : InI w W0 wr nb L k ov) (hw0 : W0.heap.size = w.heap.size + 3) {o : Obj} (hg : (wr.alloc o).grownBy w3 ov.ownBlock) : w3.heap[w.heap.size + 2]? = some (.cells #[.bool nb, ov] 24 (0, 0)) := by
  rw [hg.block (w.heap.size + 2) (by have := H.siz; simp; omega) (fun e => by have := owns_block H.own _ e.symm; omega)]
  show (wr.heap.push o)[w.heap.size + 2]? = _
  rw [Array.getElem?_push_lt (by have := H.siz; omega)]
  have h := H.ob
  rw [Array.getElem?_eq_getElem (by have := H.siz; omega)] at h
  exact h
theorem InI.next {w W0 wr w3 : World} {nb : Bool} {L : List Int} {k : Nat} {ov ov' : Value} (H : InI w W0 wr nb L k ov) (hw0 : W0.heap.size = w.heap.size + 3) (o : Obj) (y : Int) (hk : 2 * k < L.length) (hy : y = L[2 * k]?.getD 0 + 65536 * L[2 * k + 1]?.getD 0)
    (hown : w3.ownsRow W0.heap.size 94 1 ov' (k + 1) ((pack16 (L.take (2 * k))).map (Value.int .u32) ++ [.int .u32 y])) (hg : (wr.alloc o).grownBy w3 ov.ownBlock) :
    InI w W0 (w3.setCell ⟨w.heap.size + 2, 1, none⟩ ov') nb L (k + 1) ov' := by
  have hlow3 : Below (w.heap.size + 2) W0 w3 := (H.low.alloc (by have := H.siz; omega) o).grown hg (by have := H.siz; simp; omega) (fun i e => by have := owns_block H.own i e; omega)
  have hsz3 : W0.heap.size ≤ w3.heap.size := by have := hg.size; simp at this; have := H.siz; omega
  have hob3 : w3.heap[w.heap.size + 2]? = some (.cells #[.bool nb, ov] 24 (0, 0)) := by
    rw [hg.block (w.heap.size + 2) (by have := H.siz; simp; omega) (fun e => by have := owns_block H.own _ e.symm; omega)]
    show (wr.heap.push o)[w.heap.size + 2]? = _
    rw [Array.getElem?_push_lt (by have := H.siz; omega)]
    have h := H.ob
    rw [Array.getElem?_eq_getElem (by have := H.siz; omega)] at h
    exact h
  refine ⟨?_, ?_, hlow3.setCell (Nat.le_refl _) _, by simpa using hsz3⟩
  · rw [heap_setCell_same w3 _ 1 _ _ _ hob3]; rfl
  · have h := ownsRow_setCell_below hown (a := ⟨w.heap.size + 2, 1, none⟩) (by simp; omega) ov'
    rw [show 2 * (k + 1) = 2 * k + 2 by omega, pack16_step k L hk, ← hy, List.map_append]
    exact h

end Go.Proofs.YtahbkcebifkniaaGreatDoor

/- exact.Over: the ratio of two numbers of 64 bits, or ErrZero. -/
namespace Go.Proofs.YtahbkcebifkniaaGreatDoor
open Go.RowKit

theorem FrA.ai {w0 w : World} {v : Value} {z : Int} {K : Nat} (h : FrA w0 w v z K) : Ai w v z K := by
  obtain ⟨s, rfl, L, ho, hd, hn, hv, hl⟩ := h
  obtain ⟨ao, c, rfl⟩ := owns_slice ho
  refine ⟨_, ao, c, L, rfl, owns_any ho rfl, hd, hl, ?_⟩
  rw [hv]
  unfold sgn
  by_cases h : z < 0 <;> simp [h] <;> omega

set_option maxRecDepth 100000 in
set_option maxHeartbeats 1000000 in
theorem Over_any (n d : Int) (w : World) (n0 : -9223372036854775808 ≤ n) (n1 : n < 9223372036854775808) (d0 : -9223372036854775808 ≤ d) (d1 : d < 9223372036854775808) (hd : d ≠ 0) :
    Calls Tryz.prog 49 #[.int .i64 n, .int .i64 d] w fun e w' => ∃ f, e = .returned (.tuple #[f, .int .i64 0]) ∧ FrR w w' f (lowN (sgn (decide (n < 0) != decide (d < 0)) (n.natAbs : Int)) (d.natAbs : Int)) (lowD (sgn (decide (n < 0) != decide (d < 0)) (n.natAbs : Int)) (d.natAbs : Int)) 2 ∧ Below w.heap.size w w' := by
  obtain ⟨W0, hW0⟩ : ∃ W0, W0 = (w.alloc (.cells #[.bool false, .slice none 0 0, .bool false, .slice none 0 0] 37)) := ⟨_, rfl⟩
  have hB0 : Below w.heap.size w W0 := by rw [hW0]; exact (Below.refl _ _).alloc (Nat.le_refl _) _
  have hz0 : W0.heap.size = w.heap.size + 1 := by rw [hW0]; simp
  have HT : Hid (∀ w', Below W0.heap.size W0 w' → (w'.cell? ⟨w.heap.size, 0, none⟩ = some (.bool false) ∧ w'.cell? ⟨w.heap.size, 1, none⟩ = some (.slice none 0 0) ∧ w'.cell? ⟨w.heap.size, 2, none⟩ = some (.bool false) ∧ w'.cell? ⟨w.heap.size, 3, none⟩ = some (.slice none 0 0)) ∧ (w'.frozen? ⟨w.heap.size, 0, none⟩ = false ∧ w'.frozen? ⟨w.heap.size, 1, none⟩ = false ∧ w'.frozen? ⟨w.heap.size, 2, none⟩ = false ∧ w'.frozen? ⟨w.heap.size, 3, none⟩ = false)) := hid (fun w' hb => by
    refine ⟨⟨?_, ?_, ?_, ?_⟩, ?_, ?_, ?_, ?_⟩ <;> (first | (rw [hb.cell (by rw [hz0]; simp), hW0]; simp [go_sem]; done) | (rw [hb.frozen (by rw [hz0]; simp), hW0]; simp [go_sem]; done)))
  have HB0 := hid hB0; have Hz0 := hid hz0; have HW := hid hW0
  clear hW0 hB0 hz0
  go_enter Tryz.func49, Tryz.ntmps49
  go_upto_region 1 with (fail)
  rw [← HW.out]
  go_wp2_with fail
  refine (of_any n W0 n0 n1).mono ?_
  rintro e w1 ⟨v1, rfl, hv1, hb1⟩
  go_wp2_with fail
  refine (of_any d w1 d0 d1).mono ?_
  rintro e w2 ⟨v2, rfl, hv2, hb2⟩
  have hX2 : Below W0.heap.size W0 w2 := hb1.trans (hb2.mono hb1.size)
  go_wp2_with fail
  refine (Make_any v1 v2 n d 2 w2 (hv1.ai.below hb2 (Nat.le_refl _)) hv2.ai hd (by decide)).mono ?_
  rintro e w6 ⟨_, rfl, hv6, hb6⟩
  obtain ⟨z1, o6, m6, c6, z2, o7, m7, c7, rfl, H6, H7⟩ := FrR.opened hv6
  have hX6 : Below W0.heap.size W0 w6 := hX2.trans (hb6.mono hX2.size)
  obtain ⟨⟨hr0, hr1, hr2, hr3⟩, hf0, hf1, hf2, hf3⟩ := HT.out _ hX6
  clear hv6
  go_wp2
  have hz0 := Hz0.out; have hs5 := hX2.size
  have hw6 : Below w.heap.size w w6 := HB0.out.trans (hX6.mono (by omega))
  have hlt : w.heap.size < w2.heap.size := by omega
  refine bodyPost_ret (v := .tuple #[.agg #[.bool z1, .slice o6 m6 c6, .bool z2, .slice o7 m7 c7], .int .i64 0]) (by simp [results, Tryz.results49, go_sem, hr0, hr1, hr2, hr3]) rfl ⟨_, rfl, ?_, (((hw6.setCell (by simp) _).setCell (by simp) _).setCell (by simp) _).setCell (by simp) _⟩
  refine ⟨_, _, _, _, rfl, ?_, ?_⟩
  · exact ((((H6.out.set hlt _).set hlt _).set hlt _).set hlt _).base (by omega)
  · exact ((((H7.out.set hlt _).set hlt _).set hlt _).set hlt _).base (by omega)

set_option maxRecDepth 100000 in
set_option maxHeartbeats 1000000 in
theorem Over_zero (n : Int) (w : World) (n0 : -9223372036854775808 ≤ n) (n1 : n < 9223372036854775808) :
    Calls Tryz.prog 49 #[.int .i64 n, .int .i64 0] w fun e w' => e = .returned (.tuple #[.agg #[.bool false, .slice none 0 0, .bool false, .slice none 0 0], .int .i64 10]) ∧ Below w.heap.size w w' := by
  obtain ⟨W0, hW0⟩ : ∃ W0, W0 = (w.alloc (.cells #[.bool false, .slice none 0 0, .bool false, .slice none 0 0] 37)) := ⟨_, rfl⟩
  have hB0 : Below w.heap.size w W0 := by rw [hW0]; exact (Below.refl _ _).alloc (Nat.le_refl _) _
  have hz0 : W0.heap.size = w.heap.size + 1 := by rw [hW0]; simp
  have HT : Hid (∀ w', Below W0.heap.size W0 w' → (w'.cell? ⟨w.heap.size, 0, none⟩ = some (.bool false) ∧ w'.cell? ⟨w.heap.size, 1, none⟩ = some (.slice none 0 0) ∧ w'.cell? ⟨w.heap.size, 2, none⟩ = some (.bool false) ∧ w'.cell? ⟨w.heap.size, 3, none⟩ = some (.slice none 0 0)) ∧ (w'.frozen? ⟨w.heap.size, 0, none⟩ = false ∧ w'.frozen? ⟨w.heap.size, 1, none⟩ = false ∧ w'.frozen? ⟨w.heap.size, 2, none⟩ = false ∧ w'.frozen? ⟨w.heap.size, 3, none⟩ = false)) := hid (fun w' hb => by
    refine ⟨⟨?_, ?_, ?_, ?_⟩, ?_, ?_, ?_, ?_⟩ <;> (first | (rw [hb.cell (by rw [hz0]; simp), hW0]; simp [go_sem]; done) | (rw [hb.frozen (by rw [hz0]; simp), hW0]; simp [go_sem]; done)))
  have HB0 := hid hB0; have Hz0 := hid hz0; have HW := hid hW0
  clear hW0 hB0 hz0
  go_enter Tryz.func49, Tryz.ntmps49
  go_upto_region 1 with (fail)
  rw [← HW.out]
  go_wp2_with fail
  refine (of_any n W0 n0 n1).mono ?_
  rintro e w1 ⟨v1, rfl, hv1, hb1⟩
  go_wp2_with fail
  refine (of_any 0 w1 (by decide) (by decide)).mono ?_
  rintro e w2 ⟨v2, rfl, hv2, hb2⟩
  have hX2 : Below W0.heap.size W0 w2 := hb1.trans (hb2.mono hb1.size)
  go_wp2_with fail
  refine (Make_zero v1 v2 n 2 w2 (hv1.ai.below hb2 (Nat.le_refl _)) hv2.ai (by decide)).mono ?_
  rintro e w6 ⟨rfl, hb6⟩
  have hX6 : Below W0.heap.size W0 w6 := hX2.trans (hb6.mono hX2.size)
  obtain ⟨⟨hr0, hr1, hr2, hr3⟩, hf0, hf1, hf2, hf3⟩ := HT.out _ hX6
  go_wp2
  have hw6 : Below w.heap.size w w6 := HB0.out.trans (hX6.mono (by have := Hz0.out; omega))
  exact bodyPost_ret (v := .tuple #[.agg #[.bool false, .slice none 0 0, .bool false, .slice none 0 0], .int .i64 10]) (by simp [results, Tryz.results49, go_sem, hr0, hr1, hr2, hr3]) rfl ⟨rfl, (((hw6.setCell (by simp) _).setCell (by simp) _).setCell (by simp) _).setCell (by simp) _⟩
end Go.Proofs.YtahbkcebifkniaaGreatDoor

/- exact.readRatio where the denominator is not 0. -/
namespace Go.Proofs.YtahbkcebifkniaaGreatDoor
open Go.RowKit

/-- A value that reads as a ratio of two integers. -/
def Ra (w : World) (v : Value) (x y : Int) (K : Nat) : Prop := ∃ b1 o1 m1 c1 b2 o2 m2 c2, v = .agg #[.bool b1, .slice o1 m1 c1, .bool b2, .slice o2 m2 c2] ∧ Ai w (.agg #[.bool b1, .slice o1 m1 c1]) x K ∧ Ai w (.agg #[.bool b2, .slice o2 m2 c2]) y K
theorem Ra.below {w w' : World} {v : Value} {x y : Int} {K B : Nat} (h : Ra w v x y K) (hb : Below B w w') (hB : w.heap.size ≤ B) : Ra w' v x y K := by
  obtain ⟨b1, o1, m1, c1, b2, o2, m2, c2, rfl, h1, h2⟩ := h
  exact ⟨b1, o1, m1, c1, b2, o2, m2, c2, rfl, h1.below hb hB, h2.below hb hB⟩
theorem Ra.opened {w : World} {v : Value} {x y : Int} {K : Nat} (h : Ra w v x y K) : ∃ b1 o1 m1 c1 b2 o2 m2 c2, v = .agg #[.bool b1, .slice o1 m1 c1, .bool b2, .slice o2 m2 c2] ∧ Hid (∀ w', Below w.heap.size w w' → Ai w' (.agg #[.bool b1, .slice o1 m1 c1]) x K) ∧ Hid (∀ w', Below w.heap.size w w' → Ai w' (.agg #[.bool b2, .slice o2 m2 c2]) y K) := by
  obtain ⟨b1, o1, m1, c1, b2, o2, m2, c2, rfl, h1, h2⟩ := h
  exact ⟨b1, o1, m1, c1, b2, o2, m2, c2, rfl, hid (fun _ hb => h1.below hb (Nat.le_refl _)), hid (fun _ hb => h2.below hb (Nat.le_refl _))⟩
theorem FrR.ra {w0 w : World} {v : Value} {x y : Int} {K : Nat} (h : FrR w0 w v x y K) : Ra w v x y K := by
  obtain ⟨b1, o1, m1, c1, b2, o2, m2, c2, rfl, h1, h2⟩ := FrR.opened h
  exact ⟨b1, o1, m1, c1, b2, o2, m2, c2, rfl, h1.out.ai, h2.out.ai⟩

set_option maxRecDepth 100000 in
set_option maxHeartbeats 1000000 in
theorem readRatio_ne (v : Value) (x y : Int) (K : Nat) (w : World) (hv : Ra w v x y K) (hy : y ≠ 0) (hK : K ≤ 1073741823) :
    Calls Tryz.prog 41 #[v] w fun e w' => ∃ f, e = .returned f ∧ Ft w' f (sgn (decide (x < 0) != decide (y < 0)) (x.natAbs : Int)) (y.natAbs : Int) ((K + 1) / 2) ∧ Below w.heap.size w w' := by
  obtain ⟨xb, xo, xm, xc, yb, yo, ym, yc, rfl, Hx, Hy⟩ := Ra.opened hv
  clear hv
  obtain ⟨W0, hW0⟩ : ∃ W0, W0 = ((w.alloc (.cells #[.bool xb, .slice xo xm xc, .bool yb, .slice yo ym yc] 37)).alloc (.cells #[.bool false, .slice none 0 0, .slice none 0 0] 66)) := ⟨_, rfl⟩
  have hB0 : Below w.heap.size w W0 := by rw [hW0]; exact ((Below.refl _ _).alloc (Nat.le_refl _) _).alloc (by simp) _
  have hz0 : W0.heap.size = w.heap.size + 2 := by rw [hW0]; simp
  have HS : Hid (∀ w', Below (w.heap.size + 1) W0 w' → w'.cell? ⟨w.heap.size, 0, none⟩ = some (.bool xb) ∧ w'.cell? ⟨w.heap.size, 1, none⟩ = some (.slice xo xm xc) ∧ w'.cell? ⟨w.heap.size, 2, none⟩ = some (.bool yb) ∧ w'.cell? ⟨w.heap.size, 3, none⟩ = some (.slice yo ym yc)) := hid (fun w' hb => by
    refine ⟨?_, ?_, ?_, ?_⟩ <;> (rw [hb.cell (by simp <;> omega), hW0]; simp [go_sem]))
  have HT : Hid (∀ w', Below (w.heap.size + 2) W0 w' → (w'.cell? ⟨w.heap.size + 1, 0, none⟩ = some (.bool false) ∧ w'.cell? ⟨w.heap.size + 1, 1, none⟩ = some (.slice none 0 0) ∧ w'.cell? ⟨w.heap.size + 1, 2, none⟩ = some (.slice none 0 0)) ∧ (w'.frozen? ⟨w.heap.size + 1, 0, none⟩ = false ∧ w'.frozen? ⟨w.heap.size + 1, 1, none⟩ = false ∧ w'.frozen? ⟨w.heap.size + 1, 2, none⟩ = false)) := hid (fun w' hb => by
    refine ⟨⟨?_, ?_, ?_⟩, ?_, ?_, ?_⟩ <;> (first | (rw [hb.cell (by simp <;> omega), hW0]; simp [go_sem]; done) | (rw [hb.frozen (by simp <;> omega), hW0]; simp [go_sem]; done)))
  have HB0 := hid hB0; have Hz0 := hid hz0; have HW := hid hW0
  clear hW0 hB0 hz0
  have hcy : cmpI y 0 ≠ 0 := by unfold cmpI; split <;> (try split) <;> omega
  obtain ⟨t, ht⟩ : ∃ t, t = cmpI y 0 := ⟨_, rfl⟩
  rw [← ht] at hcy
  have Ht := hid ht
  clear ht
  go_enter Tryz.func41, Tryz.ntmps41
  go_upto_region 1 with (fail)
  rw [← HW.out]
  obtain ⟨k0, k1, k2, k3⟩ := HS.out _ (Below.refl _ _)
  go_wp2_with fail
  refine (read_any _ y K _ (Hy.out _ HB0.out) (by omega)).mono ?_
  rintro e w1 ⟨_, rfl, hv1, hb1⟩
  obtain ⟨b1, o1, m1, c1, rfl, H1, H1s, H1b⟩ := It.opened hv1
  have hB1 : Below (w.heap.size + 2) W0 w1 := hb1.mono (by have := Hz0.out; omega)
  clear k0 k1 k2 k3 hv1 hb1
  go_wp2_with fail
  obtain ⟨W2, hW2⟩ : ∃ W2, W2 = w1.alloc (.cells #[.bool b1, .slice o1 m1 c1] 51) := ⟨_, rfl⟩
  have hal : Below w1.heap.size w1 W2 := by rw [hW2]; exact (Below.refl _ _).alloc (Nat.le_refl _) _
  have hz2 : W2.heap.size = w1.heap.size + 1 := by rw [hW2]; simp
  have hs1 := hB1.size
  have hB2 : Below (w.heap.size + 2) W0 W2 := hB1.trans (hal.mono (by have := Hz0.out; omega))
  have hbx := HS.out _ (hB2.mono (by omega))
  have hby0 : W2.cell? ⟨w1.heap.size, 0, none⟩ = some (.bool b1) := by rw [hW2]; simp [go_sem]
  have hby1 : W2.cell? ⟨w1.heap.size, 1, none⟩ = some (.slice o1 m1 c1) := by rw [hW2]; simp [go_sem]
  have HSS : Hid (∀ w', Kp W2.heap.size (w.heap.size + 1) W2 w' → w'.cell? ⟨w.heap.size, 0, none⟩ = some (.bool xb) ∧ w'.cell? ⟨w.heap.size, 1, none⟩ = some (.slice xo xm xc) ∧ w'.cell? ⟨w1.heap.size, 0, none⟩ = some (.bool b1) ∧ w'.cell? ⟨w1.heap.size, 1, none⟩ = some (.slice o1 m1 c1)) := hid (fun w' h => by
    have := Hz0.out
    exact ⟨(h.cell _ (by simp; omega) (by simp)).trans hbx.1, (h.cell _ (by simp; omega) (by simp)).trans hbx.2.1, (h.cell _ (by simp; omega) (by simp; omega)).trans hby0, (h.cell _ (by simp; omega) (by simp; omega)).trans hby1⟩)
  rw [← hW2]
  have HAL := hid hal; have HB2 := hid hB2; have Hz2 := hid hz2; have Hs1 := hid hs1
  clear hW2 hbx hby0 hby1 hal hB2 hz2 hs1 hB1
  refine (sign_any _ y _ _ (H1.out _ HAL.out)).mono ?_
  rintro e w3 ⟨rfl, hb3⟩
  rw [← Ht.out]
  have hw3 : Below w.heap.size w w3 := HB0.out.trans ((HB2.out.trans (hb3.mono HB2.out.size |>.mono (by have := Hz0.out; omega))).mono (by omega))
  go_wp2
  go_region_held3 (fun w' => w'.cell? ⟨w.heap.size, 0, none⟩ = some (.bool xb) ∧ w'.cell? ⟨w.heap.size, 1, none⟩ = some (.slice xo xm xc) ∧ w'.cell? ⟨w1.heap.size, 0, none⟩ = some (.bool b1) ∧ w'.cell? ⟨w1.heap.size, 1, none⟩ = some (.slice o1 m1 c1)) ((refine HSS.out _ ?_; repeat (first | assumption | exact Kp.of_below (by assumption) | exact Kp.of_below (Below.refl _ _) | exact Kp.of_below (Below.refl _ _).drew | exact Kp.of_below (Below.drew (by assumption)) | (refine Kp.set ?_ (by simp) _)))) (first
    | (go_at_call 28; refine (read_any _ x K _ (Hx.out _ hw3.drew) (by omega)).mono ?_; rintro e w4 ⟨_, rfl, hv4, hb4⟩; obtain ⟨b4, o4, m4, c4, rfl, H4, H4s, H4b⟩ := It.opened hv4; have hX4 : Below W2.heap.size W2 w4 := hb3.drew.trans (hb4.mono (by have := hb3.size; simp; omega)))
    | (go_at_call 66; refine (divided_any _ _ x y _ _ (H4.out _ (Below.refl _ _)) (H1.out _ (HAL.out.trans (hX4.mono HAL.out.size)))).mono ?_; rintro e w5 ⟨_, rfl, ⟨_, _, rfl, hn5, hd5⟩, hb5⟩; obtain ⟨o6, m6, c6, rfl, H6⟩ := Nt.opened hn5; obtain ⟨o7, m7, c7, rfl, H7⟩ := Nt.opened hd5; have hX5 : Below W2.heap.size W2 w5 := hX4.trans (hb5.mono hX4.size); obtain ⟨⟨hr0, hr1, hr2⟩, hf0, hf1, hf2⟩ := HT.out _ (HB2.out.trans (hX5.mono HB2.out.size |>.mono (by have := Hz0.out; omega)))))
  go_wp2
  have hz0 := Hz0.out; have hz2 := Hz2.out; have hs1 := Hs1.out; have hs5 := hX5.size
  have hw5 : Below w.heap.size w w5 := HB0.out.trans ((HB2.out.trans (hX5.mono (by omega))).mono (by omega))
  refine bodyPost_ret (v := .agg #[.bool (decide (sgn (decide (x < 0) != decide (y < 0)) (x.natAbs : Int) < 0)), .slice o6 m6 c6, .slice o7 m7 c7]) (by simp [results, Tryz.results41, go_sem, hr0, hr1, hr2]) rfl ⟨_, rfl, ?_, ((hw5.setCell (by simp <;> omega) _).setCell (by simp <;> omega) _).setCell (by simp <;> omega) _⟩
  refine ⟨_, _, rfl, ?_, ?_⟩
  · exact nt_keeps (((((Keeps.refl _ _).setCell (u := .bool false) hr0 (fun x h => (by cases h)) _).setCell (u := .slice none 0 0) (by simp [go_sem, hr1]) (fun x h => (by cases h)) _).setCell (u := .slice none 0 0) (by simp [go_sem, hr2]) (fun x h => (by cases h)) _)) (H6.out _ (Below.refl _ _))
  · exact nt_keeps (((((Keeps.refl _ _).setCell (u := .bool false) hr0 (fun x h => (by cases h)) _).setCell (u := .slice none 0 0) (by simp [go_sem, hr1]) (fun x h => (by cases h)) _).setCell (u := .slice none 0 0) (by simp [go_sem, hr2]) (fun x h => (by cases h)) _)) (H7.out _ (Below.refl _ _))
end Go.Proofs.YtahbkcebifkniaaGreatDoor
