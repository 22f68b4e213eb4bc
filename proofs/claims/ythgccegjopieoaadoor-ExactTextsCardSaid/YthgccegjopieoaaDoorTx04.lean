/- exact.divideStep: a limb of a quotient. exact.shiftLeft. exact.compare. exact.shiftRight. exact.divide. exact.divide: its walk. (exact.natural).words: the words of a natural, in new memory. -/
import Derived.Test.YthgccegjopieoaaDoorTx03
import Derived.Test.YthgccegjopieoaaDoorTx02
/- exact.divideStep: a limb of a quotient. -/
namespace Go.Proofs.YthgccegjopieoaaDoor
open Go.RowKit

/-- Behind a guess q: what is left, or what is lacking (negative). -/
structure StepN (V D q : Int) (n : Nat) (A1 : List Int) (h : Int) (neg : Bool) : Prop where
  len : A1.length = n
  dig : Dig B64 A1
  h0 : 0 ≤ h
  h1 : h < B64
  q0 : 0 ≤ q
  q1 : q < B64
  eq : val B64 A1 + B64 ^ n * h = V - q * D + (if neg then B64 ^ n * B64 else 0)
  up : V - q * D < D

theorem StepN.neg_lt {V D q : Int} {n : Nat} {A1 : List Int} {h : Int} (H : StepN V D q n A1 h true) : V - q * D < 0 := by
  have e := H.eq
  have hl := val_lt B64_pos H.dig
  rw [H.len] at hl
  have hm := Int.mul_le_mul_of_nonneg_left (show h ≤ B64 - 1 by have := H.h1; omega) (Int.le_of_lt (Int.pow_pos (m := n) B64_pos))
  rw [Int.mul_sub] at hm
  simp only [if_true] at e
  generalize B64 ^ n * B64 = X at *
  generalize B64 ^ n * h = Y at *
  omega
theorem StepN.pos_le {V D q : Int} {n : Nat} {A1 : List Int} {h : Int} (H : StepN V D q n A1 h false) : 0 ≤ V - q * D := by
  have e := H.eq
  have hl := val_nonneg B64_pos H.dig
  have hm := Int.mul_nonneg (Int.le_of_lt (Int.pow_pos (m := n) B64_pos)) H.h0
  simp only [Bool.false_eq_true, if_false, Int.add_zero] at e
  omega

/-- At the end: the quotient and the rest. -/
theorem StepN.done {V D q : Int} {n : Nat} {A1 : List Int} {h : Int} (H : StepN V D q n A1 h false) (hD : 0 < D) : q = V / D ∧ val B64 (A1 ++ [h]) = V % D := by
  have e := H.eq
  simp only [Bool.false_eq_true, if_false, Int.add_zero] at e
  have u := (Int.ediv_emod_unique hD (a := V) (r := V - q * D) (q := q)).2 ⟨by rw [Int.mul_comm]; omega, H.pos_le, H.up⟩
  refine ⟨u.1.symm, ?_⟩
  rw [val_snoc, H.len, e, u.2]

/-- Where it is negative, the quotient is not 0. -/
theorem StepN.q_pos {V D q : Int} {n : Nat} {A1 : List Int} {h : Int} (H : StepN V D q n A1 h true) (hV : 0 ≤ V) : 1 ≤ q := by
  have h1 := H.neg_lt
  rcases Int.lt_or_le 0 q with k | k
  · omega
  · have : q = 0 := by have := H.q0; omega
    subst this; omega

/-- The divisor is added once. -/
theorem StepN.next {V D q : Int} {n : Nat} {A1 : List Int} {h : Int} (H : StepN V D q n A1 h true) (hV : 0 ≤ V) (hDn : D ≤ B64 ^ n) (_hD0 : 0 < D) {A2 : List Int} {cc : Int} (hl : A2.length = n) (hd : Dig B64 A2) (c0 : 0 ≤ cc) (c1 : cc ≤ 1) (he : val B64 A2 + B64 ^ n * cc = val B64 A1 + D) :
    StepN V D (q - 1) n A2 ((h + cc) % B64) (((h + cc) % B64) != 0) := by
  have hq := H.q_pos hV
  have hneg := H.neg_lt
  have e := H.eq
  simp only [if_true] at e
  have hp : 0 < B64 ^ n := Int.pow_pos B64_pos
  have hl2 := val_lt B64_pos hd
  rw [hl] at hl2
  have hn2 := val_nonneg B64_pos hd
  have hq1 := H.q1; have h0 := H.h0; have h1 := H.h1
  have hqD : (q - 1) * D ≤ (q - 1) * B64 ^ n := Int.mul_le_mul_of_nonneg_left hDn (by omega)
  have hqB : (q - 1) * B64 ^ n ≤ (B64 - 2) * B64 ^ n := Int.mul_le_mul_of_nonneg_right (by omega) (Int.le_of_lt hp)
  have es : (q - 1) * D = q * D - D := by rw [Int.sub_mul, Int.one_mul]
  have eb : (B64 - 2) * B64 ^ n = B64 ^ n * B64 - 2 * B64 ^ n := by rw [Int.sub_mul, Int.mul_comm B64]
  by_cases hw : h + cc < B64
  · have hm : (h + cc) % B64 = h + cc := Int.emod_eq_of_lt (by omega) hw
    have ev : val B64 A2 + B64 ^ n * (h + cc) = V - (q - 1) * D + B64 ^ n * B64 := by rw [Int.mul_add]; omega
    have hne : h + cc ≠ 0 := by
      intro hz
      rw [hz] at ev
      omega
    rw [hm]
    have hb : ((h + cc) != 0) = true := by rw [bne_iff_ne]; exact hne
    rw [hb]
    exact ⟨hl, hd, by omega, hw, by omega, by omega, by simp only [if_true]; exact ev, by omega⟩
  · have hh : h + cc = B64 := by omega
    have hm : (h + cc) % B64 = 0 := by rw [hh]; exact Int.emod_self
    rw [hm]
    have ev : val B64 A2 + B64 ^ n * 0 = V - (q - 1) * D := by
      have : B64 ^ n * (h + cc) = B64 ^ n * B64 := by rw [hh]
      rw [Int.mul_add] at this
      omega
    exact ⟨hl, hd, Int.le_refl 0, B64_pos, by omega, by omega, by simpa using ev, by omega⟩

/-- The first subtraction. -/
theorem StepN.begin {V D q : Int} {n : Nat} {A A1 : List Int} {h cc : Int} (hA : A.length = n) (hV : V = val B64 A + B64 ^ n * h) (h0 : 0 ≤ h) (h1 : h < B64) (hl : A1.length = n) (hd : Dig B64 A1) (c0 : 0 ≤ cc) (c1 : cc < B64) (he : val B64 A1 - B64 ^ n * cc = val B64 A - D * q) (q0 : 0 ≤ q) (q1 : q < B64) (up : V - q * D < D) :
    StepN V D q n A1 ((h - cc) % B64) (decide (h < cc)) := by
  have _ := hA
  by_cases hlt : h < cc
  · have hm : (h - cc) % B64 = h - cc + B64 := by
      have := Int.emod_eq_of_lt (a := h - cc + B64) (b := B64) (by omega) (by omega)
      rw [← this]; simp
    rw [hm, decide_eq_true hlt]
    refine ⟨hl, hd, by omega, by omega, q0, q1, ?_, up⟩
    simp only [if_true]
    rw [hV, Int.mul_add, Int.mul_sub, Int.mul_comm q D]; omega
  · have hm : (h - cc) % B64 = h - cc := Int.emod_eq_of_lt (by omega) (by omega)
    rw [hm, decide_eq_false hlt]
    refine ⟨hl, hd, by omega, by omega, q0, q1, ?_, up⟩
    simp only [Bool.false_eq_true, if_false, Int.add_zero]
    rw [hV, Int.mul_sub, Int.mul_comm q D]; omega

/-- What holds at the loop's head. -/
structure StepI (w wr : World) (g : Nat) (P S : List Int) (V D : Int) (n : Nat) (q : Int) (A1 : List Int) (h : Int) (neg : Bool) : Prop where
  num : StepN V D q n A1 h neg
  row : Row .u64 75 wr g (P ++ A1 ++ ([h] ++ S))
  gr : w.grownBy wr (some g)

end Go.Proofs.YthgccegjopieoaaDoor

/- exact.shiftLeft. -/
namespace Go.Proofs.YthgccegjopieoaaDoor
open Go.RowKit

theorem or_low (h l : Int) (s : Nat) (h0 : 0 ≤ h) (h1 : h * 2 ^ s < 18446744073709551616) (l0 : 0 ≤ l) (l1 : l < 2 ^ s) (l2 : l < 18446744073709551616) : bits .or .u64 l (h * 2 ^ s) = l + h * 2 ^ s := by
  have hc := or_disj h l s h0 h1 l0 l1 l2
  obtain ⟨a, rfl⟩ := Int.eq_ofNat_of_zero_le h0
  obtain ⟨b, rfl⟩ := Int.eq_ofNat_of_zero_le l0
  have e : ((a : Int) * 2 ^ s) = ((a * 2 ^ s : Nat) : Int) := by simp
  rw [e] at hc h1 ⊢
  rw [bits_or_u64_nat _ _ (by omega) (by omega)] at hc ⊢
  rw [Nat.or_comm]; omega

theorem pow_split {s : Nat} (hs : s ≤ 63) : (0 : Int) < 2 ^ s ∧ (0 : Int) < 2 ^ (64 - s) ∧ (2 : Int) ^ (64 - s) * 2 ^ s = B64 :=
  ⟨Int.pow_pos (by decide), Int.pow_pos (by decide), by rw [← Int.pow_add, Nat.sub_add_cancel (by omega)]; rfl⟩

/-- A limb, shifted: what stays in the place, and what goes on. -/
theorem shl_step {x h : Int} {s : Nat} (hs : s ≤ 63) (x0 : 0 ≤ x) (x1 : x < B64) (h0 : 0 ≤ h) (h1 : h < 2 ^ s) :
    let lo := bits .or .u64 h (IntKind.u64.wrap (x * 2 ^ s))
    let up := x / 2 ^ (64 - s)
    0 ≤ lo ∧ lo < B64 ∧ 0 ≤ up ∧ up < 2 ^ s ∧ lo + B64 * up = h + x * 2 ^ s := by
  obtain ⟨p1, p2, p3⟩ := pow_split hs
  have hw : IntKind.u64.wrap (x * 2 ^ s) = (x % 2 ^ (64 - s)) * 2 ^ s := by
    rw [IntKind.wrap_u64, show (18446744073709551616 : Int) = 2 ^ (64 - s) * 2 ^ s from p3.symm]
    rw [Int.mul_comm x, Int.mul_comm (2 ^ (64 - s)) (2 ^ s), Int.mul_emod_mul_of_pos _ _ p1, Int.mul_comm]
  have m0 := Int.emod_nonneg x (show (2 : Int) ^ (64 - s) ≠ 0 by omega)
  have m1 := Int.emod_lt_of_pos x p2
  have me := Int.emod_add_mul_ediv x (2 ^ (64 - s))
  have hm : (x % 2 ^ (64 - s) + 1) * 2 ^ s ≤ B64 := by rw [← p3]; exact Int.mul_le_mul_of_nonneg_right (by omega) (Int.le_of_lt p1)
  rw [Int.add_mul] at hm
  have hh : h < 18446744073709551616 := by
    have : (2 : Int) ^ s ≤ B64 := by have := Int.mul_nonneg m0 (Int.le_of_lt p1); omega
    unfold B64 at this; omega
  have ho := or_low (x % 2 ^ (64 - s)) h s m0 (by unfold B64 at hm; omega) h0 h1 hh
  have hx2 : x * 2 ^ s = x % 2 ^ (64 - s) * 2 ^ s + B64 * (x / 2 ^ (64 - s)) := by
    rw [← p3]
    have e : x * 2 ^ s = (x % 2 ^ (64 - s) + 2 ^ (64 - s) * (x / 2 ^ (64 - s))) * 2 ^ s := by rw [me]
    rw [e]; grind
  have mp := Int.mul_nonneg m0 (Int.le_of_lt p1)
  simp only [hw, ho]
  refine ⟨by omega, by omega, Int.ediv_nonneg x0 (Int.le_of_lt p2), Int.ediv_lt_of_lt_mul p2 (by rw [Int.mul_comm, p3]; exact x1), by omega⟩

structure ShlI (w wr : World) (g : Nat) (LA : List Int) (wh pt k : Nat) (Q : List Int) (h : Int) : Prop where
  row : Row .u64 75 wr g (List.replicate wh 0 ++ (Q ++ (h :: List.replicate (LA.length - k) 0)))
  gr : w.grownBy wr (some g)
  len : Q.length = k
  dig : Dig B64 Q
  h0 : 0 ≤ h
  h1 : h < 2 ^ pt
  eq : val B64 Q + B64 ^ k * h = val B64 (LA.take k) * 2 ^ pt

theorem set_mid {wh : Nat} {Q S : List Int} {h y : Int} {i : Nat} (hi : i = wh + Q.length) : (List.replicate wh (0 : Int) ++ (Q ++ (h :: S))).set i y = List.replicate wh 0 ++ (Q ++ (y :: S)) := by
  rw [hi, List.set_append_right _ _ (by simp), List.length_replicate, Nat.add_sub_cancel_left, List.set_append_right _ _ (Nat.le_refl _), Nat.sub_self, List.set_cons_zero]

theorem ShlI.cells {w wr : World} {g : Nat} {LA Q : List Int} {wh pt k : Nat} {h : Int} (H : ShlI w wr g LA wh pt k Q h) (hk : k < LA.length) :
    wr.cell? ⟨g, k + wh, none⟩ = some (.int .u64 h) ∧ wr.cell? ⟨g, k + wh + 1, none⟩ = some (.int .u64 0) := by
  have hl := H.len
  constructor
  · rw [H.row.cell (k + wh) (by simp; omega), List.getElem?_append_right (by simp), List.length_replicate, List.getElem?_append_right (by omega), show k + wh - wh - Q.length = 0 by omega]; rfl
  · rw [H.row.cell (k + wh + 1) (by simp; omega), List.getElem?_append_right (by simp; omega), List.length_replicate, List.getElem?_append_right (by omega), show k + wh + 1 - wh - Q.length = 1 by omega]
    cases LA.length - k <;> simp [List.replicate_succ]

theorem ShlI.step {w wr : World} {g : Nat} {LA Q : List Int} {wh pt k : Nat} {h x : Int} (H : ShlI w wr g LA wh pt k Q h) (hp : pt ≤ 63) (hk : k < LA.length) (hx : x = LA[k]?.getD 0) (x0 : 0 ≤ x) (x1 : x < B64) :
    ShlI w ((wr.drew.setCell ⟨g, k + wh, none⟩ (.int .u64 (bits .or .u64 h (IntKind.u64.wrap (x * 2 ^ pt))))).setCell ⟨g, k + wh + 1, none⟩ (.int .u64 (x / 2 ^ (64 - pt)))) g LA wh pt (k + 1) (Q ++ [bits .or .u64 h (IntKind.u64.wrap (x * 2 ^ pt))]) (x / 2 ^ (64 - pt)) := by
  obtain ⟨a, b, c, d, e⟩ := shl_step hp x0 x1 H.h0 H.h1
  have hl := H.len
  generalize bits .or .u64 h (IntKind.u64.wrap (x * 2 ^ pt)) = lo at *
  generalize x / 2 ^ (64 - pt) = up at *
  have hr : Row .u64 75 wr.drew g (List.replicate wh 0 ++ (Q ++ (h :: List.replicate (LA.length - k) 0))) := H.row
  have h1 := hr.set (k + wh) lo
  rw [set_mid (by omega)] at h1
  have hz : LA.length - k = (LA.length - (k + 1)) + 1 := by omega
  rw [hz, List.replicate_succ] at h1
  have h2 := h1.set (k + wh + 1) up
  have e1 : List.replicate wh (0 : Int) ++ (Q ++ (lo :: 0 :: List.replicate (LA.length - (k + 1)) 0)) = List.replicate wh 0 ++ ((Q ++ [lo]) ++ (0 :: List.replicate (LA.length - (k + 1)) 0)) := by simp
  rw [e1, set_mid (by simp; omega)] at h2
  refine ⟨h2, grown_trans (grown_trans (grown_drew H.gr) (grown_set _ _ _ _)) (grown_set _ _ _ _), by simp [hl], H.dig.append (Dig.cons a b (Dig.nil _)), c, d, ?_⟩
  rw [val_snoc, hl, val_take_succ B64 LA k hk, ← hx, Int.pow_succ]
  have e2 := H.eq
  grind

end Go.Proofs.YthgccegjopieoaaDoor

/- exact.compare. -/
namespace Go.Proofs.YthgccegjopieoaaDoor
open Go.RowKit

theorem val_take_drop (B : Int) (l : List Int) (k : Nat) (hk : k ≤ l.length) : val B l = val B (l.take k) + B ^ k * val B (l.drop k) := by
  have h := val_append B (l.take k) (l.drop k)
  rw [List.take_append_drop, List.length_take, Nat.min_eq_left hk] at h
  exact h

/-- The highest digit that differs decides. -/
theorem cmp_top {B : Int} (hB : 0 < B) {l m : List Int} {k : Nat} (hl : Dig B l) (hm : Dig B m) (hkl : k < l.length) (hkm : k < m.length) (he : l.drop (k + 1) = m.drop (k + 1)) (hne : l[k]?.getD 0 ≠ m[k]?.getD 0) :
    cmpI (val B l) (val B m) = cmpI (l[k]?.getD 0) (m[k]?.getD 0) := by
  rw [val_take_drop B l (k + 1) hkl, val_take_drop B m (k + 1) hkm, he, take_succ_getD l k hkl, take_succ_getD m k hkm, val_snoc, val_snoc, List.length_take, List.length_take, Nat.min_eq_left (Nat.le_of_lt hkl), Nat.min_eq_left (Nat.le_of_lt hkm)]
  have h1 := val_lt hB (hl.take k); have h2 := val_lt hB (hm.take k)
  have h3 := val_nonneg hB (hl.take k); have h4 := val_nonneg hB (hm.take k)
  rw [List.length_take, Nat.min_eq_left (Nat.le_of_lt hkl)] at h1
  rw [List.length_take, Nat.min_eq_left (Nat.le_of_lt hkm)] at h2
  have hp : 0 < B ^ k := Int.pow_pos hB
  generalize l[k]?.getD 0 = x at *
  generalize m[k]?.getD 0 = y at *
  generalize B ^ k = p at *
  rcases Int.lt_trichotomy x y with h | h | h
  · have := Int.mul_le_mul_of_nonneg_left (show x + 1 ≤ y by omega) (Int.le_of_lt hp)
    rw [Int.mul_add] at this
    rw [cmpI_lt h, cmpI_lt (by omega)]
  · exact absurd h hne
  · have := Int.mul_le_mul_of_nonneg_left (show y + 1 ≤ x by omega) (Int.le_of_lt hp)
    rw [Int.mul_add] at this
    rw [cmpI_gt h, cmpI_gt (by omega)]

theorem drop_step (l m : List Int) (k : Nat) (hl : k < l.length) (hm : k < m.length) (he : l.drop (k + 1) = m.drop (k + 1)) (h : l[k]?.getD 0 = m[k]?.getD 0) : l.drop k = m.drop k := by
  rw [List.drop_eq_getElem_cons hl, List.drop_eq_getElem_cons hm, he]
  have e1 : l[k]?.getD 0 = l[k] := by simp [hl]
  have e2 : m[k]?.getD 0 = m[k] := by simp [hm]
  rw [← e1, ← e2, h]

end Go.Proofs.YthgccegjopieoaaDoor

/- exact.shiftRight. -/
namespace Go.Proofs.YthgccegjopieoaaDoor
open Go.RowKit

structure ShrI (w wr : World) (g : Nat) (D : List Int) (pt k : Nat) (Q : List Int) : Prop where
  row : Row .u64 75 wr g (Q ++ D.drop k)
  gr : w.grownBy wr (some g)
  len : Q.length = k
  dig : Dig B64 Q
  eq : val B64 Q * 2 ^ pt + D[0]?.getD 0 % 2 ^ pt = val B64 (D.take k) + B64 ^ k * (D[k]?.getD 0 % 2 ^ pt)

theorem ShrI.cell {w wr : World} {g : Nat} {D Q : List Int} {pt k : Nat} (H : ShrI w wr g D pt k Q) {i : Nat} (hi : k ≤ i) (hk : i < D.length) : wr.cell? ⟨g, i, none⟩ = some (.int .u64 (D[i]?.getD 0)) := by
  have hl := H.len
  rw [H.row.cell i (by simp; omega), List.getElem?_append_right (by omega), List.getElem?_drop, hl, show k + (i - k) = i by omega]

theorem ShrI.next {w wr wx : World} {g : Nat} {D Q : List Int} {pt k : Nat} {lo : Int} (H : ShrI w wr g D pt k Q) (hk : k < D.length) (h0 : 0 ≤ lo) (h1 : lo < B64) (he : lo * 2 ^ pt + D[k]?.getD 0 % 2 ^ pt = D[k]?.getD 0 + B64 * (D[k + 1]?.getD 0 % 2 ^ pt))
    (hr : Row .u64 75 wx g (Q ++ (lo :: D.drop (k + 1)))) (hg : w.grownBy wx (some g)) : ShrI w wx g D pt (k + 1) (Q ++ [lo]) := by
  refine ⟨by simpa using hr, hg, by simp [H.len], H.dig.append (Dig.cons h0 h1 (Dig.nil _)), ?_⟩
  rw [val_snoc, H.len, val_take_succ B64 D k hk, Int.pow_succ]
  have e := H.eq
  grind

end Go.Proofs.YthgccegjopieoaaDoor

/- exact.divide. -/
namespace Go.Proofs.YthgccegjopieoaaDoor
open Go.RowKit

theorem Nt.lt {w : World} {v : Value} {n : Int} {K : Nat} (h : Nt w v n K) : n < B64 ^ K := by
  obtain ⟨ao, c, L, rfl, h⟩ := h
  rw [← h.eq]
  exact Int.lt_of_lt_of_le (val_lt B64_pos h.dig) (pow_mono B64_pos h.le)

/-- What the numbers are when j limbs of the quotient are still to come. -/
structure DvN (V D : Int) (j : Nat) (QT R : List Int) : Prop where
  digQ : Dig B64 QT
  digR : Dig B64 R
  eq : V = val B64 QT * B64 ^ j * D + val B64 R
  lt : val B64 R < B64 ^ j * D

/-- The limbs that the step takes hold less than the divisor times the base; what lies above them is 0. -/
theorem DvN.parts {V D : Int} {j m : Nat} {QT P M S : List Int} (H : DvN V D (j + 1) QT (P ++ M ++ S)) (hD : D < B64 ^ (m + 2)) (hP : P.length = j) (hM : M.length = m + 3) : val B64 M < B64 * D ∧ val B64 S = 0 := by
  have hl := H.lt
  have d1 := val_nonneg B64_pos (show Dig B64 P from fun x hx => H.digR x (by simp [hx]))
  have d2 := val_nonneg B64_pos (show Dig B64 M from fun x hx => H.digR x (by simp [hx]))
  have d3 := val_nonneg B64_pos (show Dig B64 S from fun x hx => H.digR x (by simp [hx]))
  have hp : 0 < B64 ^ j := Int.pow_pos B64_pos
  have hp2 : 0 < B64 ^ (m + 3) := Int.pow_pos B64_pos
  rw [List.append_assoc, val_append, val_append, hP, hM, show B64 ^ (j + 1) = B64 ^ j * B64 from Int.pow_succ _ _, Int.mul_assoc] at hl
  have e1 := Int.mul_nonneg (Int.le_of_lt hp2) d3
  have hlt : val B64 M + B64 ^ (m + 3) * val B64 S < B64 * D := Int.lt_of_mul_lt_mul_left (a := B64 ^ j) (by omega) (Int.le_of_lt hp)
  refine ⟨by omega, ?_⟩
  have e2 : B64 * D < B64 ^ (m + 3) := by
    have := Int.mul_lt_mul_of_pos_left hD B64_pos
    rw [show m + 3 = (m + 2) + 1 by omega, Int.pow_succ, Int.mul_comm (B64 ^ (m + 2))]; exact this
  have e3 : B64 ^ (m + 3) * val B64 S < B64 ^ (m + 3) * 1 := by omega
  have := Int.lt_of_mul_lt_mul_left e3 (Int.le_of_lt hp2)
  omega

theorem DvN.step {V D : Int} {j m : Nat} {QT P M M' S : List Int} (H : DvN V D (j + 1) QT (P ++ M ++ S)) (hD : D < B64 ^ (m + 2)) (hD0 : 0 < D) (hP : P.length = j) (hM : M.length = m + 3) (hl' : M'.length = m + 3) (hd' : Dig B64 M') (hv : val B64 M' = val B64 M % D) :
    DvN V D j (val B64 M / D :: QT) (P ++ M' ++ S) := by
  have hp := H.parts hD hP hM
  have dP : Dig B64 P := fun x hx => H.digR x (by simp [hx])
  have dS : Dig B64 S := fun x hx => H.digR x (by simp [hx])
  have d2 := val_nonneg B64_pos (show Dig B64 M from fun x hx => H.digR x (by simp [hx]))
  have q0 : 0 ≤ val B64 M / D := Int.ediv_nonneg d2 (Int.le_of_lt hD0)
  have q1 : val B64 M / D < B64 := Int.ediv_lt_of_lt_mul hD0 hp.1
  have e := Int.emod_add_mul_ediv (val B64 M) D
  have r1 := Int.emod_lt_of_pos (val B64 M) hD0
  have hPl := val_lt B64_pos dP
  rw [hP] at hPl
  refine ⟨Dig.cons q0 q1 H.digQ, (dP.append hd').append dS, ?_, ?_⟩
  · have e2 := H.eq
    rw [List.append_assoc, val_append, val_append, hP, hM, hp.2, Int.pow_succ] at e2
    rw [List.append_assoc, val_append, val_append, hP, hl', hp.2, hv]
    simp only [val]
    generalize val B64 M / D = q at *
    generalize val B64 M % D = r at *
    generalize B64 ^ j = p at *
    grind
  · rw [List.append_assoc, val_append, val_append, hP, hl', hp.2, hv, Int.mul_zero, Int.add_zero]
    have := Int.mul_le_mul_of_nonneg_left (show val B64 M % D + 1 ≤ D from r1) (Int.le_of_lt (Int.pow_pos (m := j) B64_pos))
    rw [Int.mul_add, Int.mul_one] at this
    omega

theorem DvN.done {V D : Int} {QT R : List Int} (H : DvN V D 0 QT R) (hD0 : 0 < D) : val B64 QT = V / D ∧ val B64 R = V % D := by
  have e := H.eq; have l := H.lt
  simp only [Int.pow_zero, Int.mul_one, Int.one_mul] at e l
  have u := (Int.ediv_emod_unique hD0 (a := V) (r := val B64 R) (q := val B64 QT)).2 ⟨by rw [Int.mul_comm]; omega, val_nonneg B64_pos H.digR, l⟩
  exact ⟨u.1.symm, u.2.symm⟩

end Go.Proofs.YthgccegjopieoaaDoor

/- exact.divide: its walk. -/
namespace Go.Proofs.YthgccegjopieoaaDoor
open Go.RowKit

theorem DvN.start {a b p : Int} {t m ls : Nat} {LS : List Int} (hd : Dig B64 LS) (hv : val B64 LS = a * p) (hle : LS.length ≤ t + m + 2) (hp : 0 < p) (hlt : a < B64 ^ t * b) (hls : ls = LS.length := by rfl) :
    DvN (a * p) (b * p) t [] (LS ++ List.replicate (t + m + 2 - ls) (0 : Int)) ∧ (LS ++ List.replicate (t + m + 2 - ls) (0 : Int)).length = t + m + 1 + 1 := by
  subst hls
  have hvR : val B64 (LS ++ List.replicate (t + m + 2 - LS.length) (0 : Int)) = a * p := by rw [val_append, val_replicate, hv]; simp
  refine ⟨⟨Dig.nil _, hd.append (Dig.replicate B64_pos _), by rw [hvR]; simp [val], ?_⟩, by simp; omega⟩
  rw [hvR, ← Int.mul_assoc]
  exact Int.mul_lt_mul_of_pos_right hlt hp

/-- What holds when j limbs of the quotient are still to come. -/
structure DvI (w wr : World) (gw gq b2 o2 dc : Nat) (LD : List Int) (V D : Int) (n T j : Nat) (QT R : List Int) : Prop where
  num : DvN V D j QT R
  lenQ : j + QT.length = T
  lenR : R.length = n + 1
  work : Row .u64 75 wr gw R
  quo : Row .u64 75 wr gq (List.replicate j 0 ++ QT)
  div : Rd wr .u64 (some ⟨b2, o2, none⟩) dc LD
  low : Below w.heap.size w wr

theorem DvI.step {w wr w' : World} {gw gq b2 o2 dc : Nat} {LD : List Int} {V D : Int} {n T j m : Nat} {QT P A S A1 : List Int} {h h1 : Int} (H : DvI w wr gw gq b2 o2 dc LD V D n T (j + 1) QT (P ++ (A ++ [h]) ++ S)) (hD : D < B64 ^ (m + 2)) (hD0 : 0 < D) (hP : P.length = j) (hA : A.length = m + 2)
    (hI : StepI wr w' gw P S (val B64 (A ++ [h])) D (m + 2) (val B64 (A ++ [h]) / D) A1 h1 false) (hv : val B64 (A1 ++ [h1]) = val B64 (A ++ [h]) % D) (n1 : gq ≠ gw) (n2 : b2 ≠ gw) (n3 : b2 ≠ gq) (s1 : w.heap.size ≤ gw) (s2 : w.heap.size ≤ gq) :
    DvI w (w'.setCell ⟨gq, j, none⟩ (.int .u64 (val B64 (A ++ [h]) / D))) gw gq b2 o2 dc LD V D n T j (val B64 (A ++ [h]) / D :: QT) (P ++ (A1 ++ [h1]) ++ S) := by
  have hl1 : (A1 ++ [h1]).length = m + 3 := by simp [hI.num.len]
  have hN := H.num.step hD hD0 hP (show (A ++ [h]).length = m + 3 by simp [hA]) hl1 (hI.num.dig.append (Dig.cons hI.num.h0 hI.num.h1 (Dig.nil _))) hv
  have hq := (H.quo.kept hI.gr (by simp [n1])).set j (val B64 (A ++ [h]) / D)
  rw [List.replicate_succ', List.append_assoc, List.set_append_right _ _ (by simp), List.length_replicate, Nat.sub_self] at hq
  refine ⟨hN, by have := H.lenQ; simp; omega, ?_, ?_, hq, ?_, (H.low.grown hI.gr H.low.size (fun i e => by cases e; exact s1)).setCell s2 _⟩
  · have := H.lenR; have := hI.num.len; simp at *; omega
  · have hr : Row .u64 75 w' gw (P ++ (A1 ++ [h1]) ++ S) := by have := hI.row; simpa using this
    exact hr.kept (grown_set _ _ _ _) (by simp; exact fun e => n1 e.symm)
  · exact (H.div.kept hI.gr (fun _ b o e => by cases e; simpa using n2)).kept (grown_set _ _ _ _) (fun _ b o e => by cases e; simpa using n3)

end Go.Proofs.YthgccegjopieoaaDoor

/- (exact.natural).words: the words of a natural, in new memory. -/
namespace Go.Proofs.YthgccegjopieoaaDoor
open Go.RowKit

def unpack : List Int → List Int
  | [] => []
  | x :: l => x % B32 :: x / B32 :: unpack l

theorem unpack_val : ∀ l : List Int, val B32 (unpack l) = val B64 l
  | [] => rfl
  | x :: l => by
    have h := unpack_val l
    have e : B64 = B32 * B32 := by decide
    have d := Int.emod_add_mul_ediv x B32
    simp only [unpack, val, h, e]; grind
theorem unpack_len : ∀ l : List Int, (unpack l).length = 2 * l.length
  | [] => rfl
  | x :: l => by simp only [unpack, List.length_cons, unpack_len l]; omega
theorem unpack_dig : ∀ {l : List Int}, Dig B64 l → Dig B32 (unpack l)
  | [], _ => Dig.nil _
  | x :: l, h => by
    have := h.head
    refine Dig.cons (Int.emod_nonneg _ (by decide)) (Int.emod_lt_of_pos _ B32_pos) (Dig.cons (Int.ediv_nonneg this.1 (by decide)) ?_ (unpack_dig h.tail))
    exact Int.ediv_lt_of_lt_mul B32_pos (by have := this.2; have e : B32 * B32 = B64 := by decide
                                            omega)
theorem unpack_snoc : ∀ (l : List Int) (x : Int), unpack (l ++ [x]) = unpack l ++ [x % B32, x / B32]
  | [], x => rfl
  | y :: l, x => by simp [unpack, unpack_snoc l x]

/-- A slice of words that the call has made, in normal form, whose number is n. -/
def FrW (w0 w : World) (v : Value) (n : Int) (K : Nat) : Prop := ∃ L : List Int, w.ownsRow w0.heap.size 52 1 v L.length (L.map (Value.int .u32)) ∧ Dig B32 L ∧ Nrm L ∧ val B32 L = n ∧ L.length ≤ K
def RetW (w : World) (n : Int) (K : Nat) (e : Ending) (w' : World) : Prop := ∃ v, e = .returned v ∧ FrW w w' v n K ∧ Below w.heap.size w w'

theorem owns_take {w : World} {base g n cap : Nat} {e : TypeId} {xs : List Value} (h : w.ownsRow base e 1 (.slice (some ⟨g, 0, none⟩) n cap) n xs) (m : Nat) (hm : m ≤ n) :
    w.ownsRow base e 1 (.slice (some ⟨g, 0, none⟩) m cap) m (xs.take m) := by
  rcases h.2 with ⟨h', _⟩ | ⟨g', cap', cur, h', hb, hg, hnc, hcm, hcs, ht⟩
  · simp at h'
  · simp only [Value.slice.injEq, Option.some.injEq, Addr.mk.injEq, and_true, true_and] at h'
    obtain ⟨rfl, rfl⟩ := h'
    refine ⟨by have := h.1; simp at this ⊢; omega, .inr ⟨g, cap, cur, rfl, hb, hg, by omega, hcm, hcs, ?_⟩⟩
    rw [← ht, List.take_take, Nat.min_eq_left (by omega)]; simp
theorem owns_rd {w : World} {base g cap : Nat} {e : TypeId} {k : IntKind} {L : List Int} (h : w.ownsRow base e 1 (.slice (some ⟨g, 0, none⟩) L.length cap) L.length (L.map (Value.int k))) (hc : cap ≤ 9223372036854775807) :
    Rd w k (some ⟨g, 0, none⟩) cap L := by
  have hcap : L.length ≤ cap := by
    rcases h.2 with ⟨h', _⟩ | ⟨g', cap', cur, h', hb, hg, hnc, _⟩
    · simp at h'
    · simp only [Value.slice.injEq, Option.some.injEq, Addr.mk.injEq, and_true, true_and] at h'
      obtain ⟨rfl, rfl⟩ := h'; exact hnc
  refine ⟨hcap, hc, fun _ => ⟨_, _, rfl⟩, fun b off e i hi => ?_⟩
  cases e
  rw [Nat.zero_add, h.cellAt i (by omega)]
  simp [hi]

theorem Tryd.info52 : (Tryd.prog.info? 52).map (fun i => (i.zero, i.size, i.bytes)) = some (some (.int .u32 0), 1, 4) := by kernel_rfl

set_option maxRecDepth 100000 in
set_option maxHeartbeats 1000000 in
theorem words_any (va : Value) (a : Int) (K : Nat) (w : World) (hA : Nt w va a K) (hk : K ≤ 1073741824) :
    Calls Tryd.prog 23 #[va] w (RetW w a (2 * K)) := by
  obtain ⟨ao, ca, L, rfl, hA⟩ := hA
  obtain ⟨n, hn⟩ : ∃ n, n = L.length := ⟨_, rfl⟩
  have hnK : n ≤ K := by have := hA.le; omega
  have hn30 : n ≤ 1073741824 := by omega
  rw [← hn]
  have HA := hid hA; have Hn := hid hn
  clear hA hn
  obtain ⟨i0, hi, hz0, hz1, hz2⟩ := info_parts Tryd.info52
  by_cases h0 : n = 0
  · subst h0
    go_enter Tryd.func23, Tryd.ntmps23
    go_wp2
    go_ret
    obtain rfl : L = [] := List.eq_nil_of_length_eq_zero Hn.out.symm
    exact ⟨_, rfl, ⟨[], World.ownsRow_nil _ _ _ _, Dig.nil _, rfl, HA.out.eq, Nat.zero_le _⟩, Below.refl _ _⟩
  · have hb0 : ((n : Int) == 0) = false := by rw [beq_eq_false_iff_ne]; omega
    obtain ⟨b, o, rfl⟩ := HA.out.rd.adr (by have := Hn.out; omega)
    go_enter Tryd.func23, Tryd.ntmps23
    go_wp2_with (at_make; refine wpList_make_own w rfl _ _ 22 rfl w.heap.size 52 i0 (.int .u32 0) 1 Tryd.underlying22 hi hz0 hz1 _ _ _ (2 * n) rfl rfl (by omega) (by rw [hz2]; omega) (by unfold maxLen; omega) (Nat.le_refl _) ?_)
    intro w1 hown1 hg1
    have hb1 := grown_below hg1
    go_wp2
    go_loopw [3, 15] (fun v iv wr => ∃ k : Nat, k ≤ n ∧ iv = .int .i64 k ∧ v = .slice (some ⟨w.heap.size, 0, none⟩) (2 * k) (2 * n) ∧ wr.ownsRow w.heap.size 52 1 (.slice (some ⟨w.heap.size, 0, none⟩) (2 * k) (2 * n)) (2 * k) ((unpack (L.take k)).map (Value.int .u32)) ∧ Below w.heap.size w wr) (fun _ iv _ => n - (intOf iv).toNat)
    case atStart => exact ⟨0, Nat.zero_le _, rfl, rfl, hown1, hb1⟩
    case round =>
      obtain ⟨k, hk, rfl, rfl, hown, hb⟩ := hrel
      by_cases hlt : k < n
      · have hx : wr.cell? ⟨b, o + k, none⟩ = some (.int .u64 (L[k]?.getD 0)) := (HA.out.rd.below hb (Nat.le_refl _)).cell b o rfl k (by have := Hn.out; omega)
        have hd := HA.out.dig.at B64_pos k
        have hts := take_succ_getD L k (by have := Hn.out; omega)
        have hus := unpack_snoc (L.take k) (L[k]?.getD 0)
        rw [← hts] at hus
        obtain ⟨x, hxe⟩ : ∃ x, x = L[k]?.getD 0 := ⟨_, rfl⟩
        rw [← hxe] at hx hd hus
        have HU := hid hus; have HX := hid hxe
        have d0 := hd.1; have d1 := hd.2; unfold B64 at d1
        clear hts hus hxe hown1 hg1 hb1
        go_wp2_with (at_builtin; refine wpList_append_fits _ rfl _ _ 22 rfl w.heap.size 52 i0 1 Tryd.underlying22 hi hz1 w.heap.size (2 * k) (2 * n) _ rfl (hown.alloc _) ⟨wr.heap.size, 0, none⟩ 2 2 [.int .u32 (x % 4294967296), .int .u32 (x / 4294967296)] rfl rfl ?c1 ?c2 ?c3 ?_)
        case c1 =>
          intro j u hj
          match j, hj with
          | 0, hj => simp at hj; subst hj; simp [Addr.add]
          | 1, hj => simp at hj; subst hj; simp [Addr.add]
        case c2 => intro u hu; simp at hu; rcases hu with rfl | rfl <;> rfl
        case c3 => omega
        intro w2 hown2 hg2
        have hb2 := (hb.alloc hb.size (.cells #[.int .u32 (x % 4294967296), .int .u32 (x / 4294967296)] 52)).grown hg2 (by simp; have := hb.size; omega) (fun k e => by cases e; exact Nat.le_refl _)
        have hown3 : w2.ownsRow w.heap.size 52 1 (.slice (some ⟨w.heap.size, 0, none⟩) (2 * (k + 1)) (2 * n)) (2 * (k + 1)) ((unpack (L.take (k + 1))).map (Value.int .u32)) := by
          rw [HU.out, List.map_append]; exact hown2
        clear hown2 hg2 hown hb
        have Hown := hid hown3; clear hown3
        go_wp2
        go_roundw
        case rel => exact ⟨k + 1, by omega, by go_num, rfl, Hown.out, hb2⟩
        case measure => simp [intOf]; omega
      · obtain rfl : k = n := by omega
        have hl : 2 * k = (unpack L).length := by rw [unpack_len, ← Hn.out]
        have hown4 : wr.ownsRow w.heap.size 52 1 (.slice (some ⟨w.heap.size, 0, none⟩) (unpack L).length (2 * k)) (unpack L).length ((unpack L).map (Value.int .u32)) := by
          have := hown; rw [Hn.out, List.take_length, ← Hn.out] at this; rw [← hl]; exact this
        have ht := trim32_any (some ⟨w.heap.size, 0, none⟩) (2 * k) (unpack L) wr (owns_rd hown4 (by omega))
        rw [← hl] at ht
        have HT := hid ht; have Hown := hid hown4; have Hb := hid hb
        clear ht hown4 hown hb hl hown1 hg1 hb1
        go_wp2_with (go_at_call 38; refine HT.out.mono ?_; rintro e w2 ⟨rfl, rfl⟩)
        go_ret
        refine ⟨_, rfl, ⟨trimL (unpack L), ?_, (unpack_dig HA.out.dig).trim, Nrm.trim _, by rw [val_trim, unpack_val]; exact HA.out.eq, ?_⟩, Hb.out⟩
        · have h := owns_take Hown.out (trimL (unpack L)).length (trimL_len _)
          rw [← List.map_take, ← trimL_take] at h
          exact h
        · have := trimL_len (unpack L); rw [unpack_len] at this; have := HA.out.le; omega

end Go.Proofs.YthgccegjopieoaaDoor
