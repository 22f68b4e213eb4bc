/- The texts of numbers, read again, are these numbers. exact.Power, exact.Root. Written by gen_power.py. The document's own integers: SameInt, LikeInt; the law's spoil. The law's own: an integer in memory of its own. The law's own once more: the words lie in memory of the call's own, with room for three more. How the arguments of the laws are opened (an api.Int reads as its sign and its list of words), and the last step of a row whose law returns true and leaves all that was there before. The law ExactField, its walk. Written by gen_field.py. -/
import Derived.Test.YtilpkocmdpofpaaGreatDoorBk38
import Derived.Test.YtilpkocmdpofpaaGreatDoorBk37
import Derived.Test.YtilpkocmdpofpaaGreatDoorBk33
import Derived.Test.YtilpkocmdpofpaaGreatDoorBk34
import Derived.Test.YtilpkocmdpofpaaGreatDoorBk23
import Derived.Laws.MakeOwn
import Derived.Test.YtilpkocmdpofpaaGreatDoorBk14
import Derived.Deep.Onto
import Derived.ProofKit
import Derived.Below
import Derived.Lib.SmallJoins
import Derived.Deep.Slices
import Derived.Test.YtilpkocmdpofpaaGreatDoorBk36
/- The texts of numbers, read again, are these numbers. -/
namespace Go.Proofs.YtilpkocmdpofpaaGreatDoor
open Go.RowKit

theorem cut_no {c : UInt8} {l : List UInt8} (h : c ∉ l) : Lib.cut l [c] = (l, [], false) := by
  have h1 : Lib.index l [c] = -1 := Lib.index_none (fun j hj => by
    rw [← Bool.not_eq_true]
    intro ho
    have := Lib.occAt_head (c := c) (t := []) rfl ho
    exact h (List.mem_of_getElem? this))
  unfold Lib.cut
  rw [h1]
  rfl
theorem cut_yes {c : UInt8} {a b : List UInt8} (h : c ∉ a) : Lib.cut (a ++ c :: b) [c] = (a, b, true) := by
  have h1 : Lib.index (a ++ c :: b) [c] = (a.length : Int) := Lib.index_first (by simp) (by simp [Lib.occAt]) (fun j hj => by
    rw [← Bool.not_eq_true]
    intro ho
    have h2 := Lib.occAt_head (c := c) (t := []) rfl ho
    rw [List.getElem?_append_left hj] at h2
    exact h (List.mem_of_getElem? h2))
  unfold Lib.cut
  rw [h1, if_pos (by omega)]
  simp
theorem digits_no {l : List UInt8} (h : l.all isD = true) {c : UInt8} (hc : isD c = false) : c ∉ l := fun hm => by
  rw [List.all_eq_true] at h
  rw [h c hm] at hc
  cases hc
theorem pre_no {c : UInt8} {l : List UInt8} (h : c ∉ l) : Lib.hasPrefix l [c] = false := by
  cases l with
  | nil => rfl
  | cons d l =>
    have hne : c ≠ d := fun e => h (by rw [e]; exact List.mem_cons_self)
    simp [Lib.hasPrefix, List.isPrefixOf, hne]
theorem pre_yes (c : UInt8) (l : List UInt8) : Lib.hasPrefix (c :: l) [c] = true := by simp [Lib.hasPrefix, List.isPrefixOf]
theorem neg_yes (l : List UInt8) : negB (45 :: l) = true ∧ bodyL (45 :: l) = l := by
  refine ⟨pre_yes 45 l, ?_⟩
  unfold bodyL Lib.trimPrefix
  rw [if_pos (pre_yes 45 l)]
  rfl
theorem neg_no {l : List UInt8} (h : l.all isD = true) : negB l = false ∧ bodyL l = l := by
  have h1 := pre_no (digits_no h (c := 45) (by decide))
  refine ⟨h1, ?_⟩
  unfold bodyL Lib.trimPrefix
  rw [if_neg (by rw [h1]; exact Bool.false_ne_true)]
/-- A sign ahead of digits. -/
def sgL (b : Bool) (l : List UInt8) : List UInt8 := if b then 45 :: l else l
theorem sg_parts (b : Bool) {l : List UInt8} (h : l.all isD = true) : negB (sgL b l) = b ∧ bodyL (sgL b l) = l := by
  cases b with
  | false => exact neg_no h
  | true => exact neg_yes l
theorem sg_no (b : Bool) {l : List UInt8} {c : UInt8} (h : c ∉ l) (hc : c ≠ 45) : c ∉ sgL b l := by
  cases b with
  | false => exact h
  | true => simp [sgL, hc, h]
theorem dec_ne (n : Nat) : Lib.decDigits n ≠ [] := by
  intro e
  by_cases hn : n < 10
  · rw [dec_small hn] at e; cases e
  · rw [dec_big hn] at e; simp at e
theorem dec_ok (n : Nat) : (Lib.decDigits n).all isD = true ∧ digB (Lib.decDigits n) = true ∧ leadB (Lib.decDigits n) = true ∧ dv (Lib.decDigits n) = n := by
  obtain ⟨h1, h2⟩ := dec_digits n n (Nat.le_refl _)
  refine ⟨h1, ?_, ?_, h2⟩
  · unfold digB
    rw [h1, decide_eq_true (dec_ne n)]; rfl
  · by_cases h0 : n = 0
    · subst h0; rw [dec_small (by decide)]; rfl
    · obtain ⟨c, l, e, hc⟩ := dec_head n n (Nat.le_refl _) (by omega)
      unfold leadB
      rw [e]
      have : Lib.hasPrefix (c :: l) [48] = false := by simp [Lib.hasPrefix, List.isPrefixOf, Ne.symm hc]
      rw [this]
      simp

/-- The text of an integer, as a list. -/
def txL (z : Int) : List UInt8 := sgL (decide (z < 0)) (Lib.decDigits z.natAbs)
theorem tx_eq (z : Int) : tx z = ⟨(txL z).toArray⟩ := by
  unfold tx txL sgL
  by_cases h : z < 0
  · rw [if_pos h, decide_eq_true h]
    apply ByteArray.ext
    simp [ByteArray.data_append]
  · rw [if_neg h, decide_eq_false h]
    rfl
theorem sgn_abs_eq (z : Int) : sgn (decide (z < 0)) (z.natAbs : Int) = z := by
  unfold sgn
  by_cases h : z < 0
  · simp [h]; omega
  · simp [h]; omega
theorem prs_tx (z : Int) : prsB (txL z) = true ∧ prsZ (txL z) = z := by
  obtain ⟨h1, h2, h3, h4⟩ := dec_ok z.natAbs
  obtain ⟨p1, p2⟩ := sg_parts (decide (z < 0)) h1
  unfold txL prsB prsZ
  rw [p1, p2, h2, h3, h4]
  refine ⟨?_, sgn_abs_eq z⟩
  by_cases h : z < 0
  · have : ¬ z.natAbs = 0 := by omega
    simp [this]
  · simp [h]
theorem tx_no (z : Int) {c : UInt8} (h1 : isD c = false) (h2 : c ≠ 45) : c ∉ txL z := sg_no _ (digits_no (dec_ok z.natAbs).1 h1) h2
theorem prf_tx (z : Int) : prfB (txL z) = true ∧ prfN (txL z) = z ∧ prfD (txL z) = 1 := by
  have e1 : cutB 47 (txL z) = false := by unfold cutB; rw [cut_no (tx_no z (by decide) (by decide))]
  have e2 : cutB 46 (txL z) = false := by unfold cutB; rw [cut_no (tx_no z (by decide) (by decide))]
  have n1 : ¬ cutB 47 (txL z) = true := by rw [e1]; exact Bool.false_ne_true
  have n2 : ¬ cutB 46 (txL z) = true := by rw [e2]; exact Bool.false_ne_true
  obtain ⟨h1, h2⟩ := prs_tx z
  unfold prfB prfN prfD
  rw [if_neg n1, if_neg n2, if_neg n1, if_neg n2, if_neg n1, if_neg n2]
  exact ⟨h1, h2, rfl⟩

/-- The text of a ratio, as a list. -/
def shL (N D : Int) : List UInt8 := if D = 1 then txL N else txL N ++ 47 :: txL D
theorem sh_eq (N : Int) {D : Int} (hD : 0 < D) : shT N D = ⟨(shL N D).toArray⟩ := by
  unfold shT shL
  by_cases h : D = 1
  · rw [if_pos h, if_pos h]; exact tx_eq N
  · rw [if_neg h, if_neg h, tx_eq]
    have e : txL D = Lib.decDigits D.natAbs := by unfold txL sgL; rw [decide_eq_false (by omega : ¬ D < 0)]; rfl
    rw [e]
    apply ByteArray.ext
    simp [ByteArray.data_append]
theorem prf_sh (N : Int) {D : Int} (hD : 0 < D) : prfB (shL N D) = true ∧ prfN (shL N D) = N ∧ prfD (shL N D) = D := by
  unfold shL
  by_cases h : D = 1
  · rw [if_pos h, h]; exact prf_tx N
  · rw [if_neg h]
    have hc := cut_yes (b := txL D) (tx_no N (c := 47) (by decide) (by decide))
    have e1 : cutB 47 (txL N ++ 47 :: txL D) = true := by unfold cutB; rw [hc]
    have e2 : cutA 47 (txL N ++ 47 :: txL D) = txL N := by unfold cutA; rw [hc]
    have e3 : cutZ 47 (txL N ++ 47 :: txL D) = txL D := by unfold cutZ; rw [hc]
    obtain ⟨h1, h2⟩ := prs_tx N
    obtain ⟨h3, h4⟩ := prs_tx D
    unfold prfB prfN prfD
    rw [if_pos e1, if_pos e1, if_pos e1, e2, e3]
    unfold quoB
    rw [h1, h2, h3, h4, decide_eq_true hD]
    exact ⟨rfl, rfl, rfl⟩
theorem txL_len {z : Int} {m : Nat} (h : z.natAbs < 10 ^ m) : (txL z).length ≤ m + 2 := by
  have := decs_len _ _ h
  unfold txL sgL
  split
  · rw [List.length_cons]; omega
  · omega
theorem shL_len {N D : Int} {m k : Nat} (h : N.natAbs < 10 ^ m) (h2 : D.natAbs < 10 ^ k) : (shL N D).length ≤ m + k + 5 := by
  have h3 := txL_len h
  have h4 := txL_len h2
  unfold shL
  split
  · omega
  · rw [List.length_append, List.length_cons]; omega

/-- The decimals, as a list. -/
def dcS (N : Int) (p : Nat) : List UInt8 := sgL (decide (N < 0)) ((dcL N p).take ((dcL N p).length - p) ++ if 0 < p then 46 :: (dcL N p).drop ((dcL N p).length - p) else [])
theorem dc_eq (N : Int) (p : Nat) : dcT N p = ⟨(dcS N p).toArray⟩ := by
  have hb : dcB ⟨(dcL N p).toArray⟩ p = ⟨((dcL N p).take ((dcL N p).length - p) ++ if 0 < p then 46 :: (dcL N p).drop ((dcL N p).length - p) else []).toArray⟩ := by
    unfold dcB
    have e : (⟨(dcL N p).toArray⟩ : ByteArray).size = (dcL N p).length := rfl
    have e2 := ba_drop (dcL N p) ((dcL N p).length - p)
    rw [e] at e2
    rw [e, e2, ba_take]
    by_cases h : 0 < p
    · rw [if_pos h, if_pos h]
      apply ByteArray.ext
      simp [ByteArray.data_append]
    · rw [if_neg h, if_neg h, List.append_nil]
  unfold dcT dcS sgL
  rw [hb]
  by_cases h : N < 0
  · rw [if_pos h, decide_eq_true h]
    apply ByteArray.ext
    simp [ByteArray.data_append]
  · rw [if_neg h, decide_eq_false h]
    rfl
theorem dv_zeros (k : Nat) (l : List UInt8) : dv (List.replicate k 48 ++ l) = dv l := by
  induction k with
  | zero => rfl
  | succ k ih =>
    rw [List.replicate_succ, List.cons_append]
    exact ih
theorem dcL_ok (N : Int) (p : Nat) : (dcL N p).all isD = true ∧ dv (dcL N p) = N.natAbs ∧ p + 1 ≤ (dcL N p).length := by
  obtain ⟨h1, h2, h3, h4⟩ := dec_ok N.natAbs
  unfold dcL
  refine ⟨?_, ?_, ?_⟩
  · rw [List.all_append, h1, Bool.and_true]
    simp [List.all_replicate]
    right; decide
  · rw [dv_zeros, h4]
  · simp; omega
theorem dcL_lead (N : Int) (p : Nat) (hp : 0 < p) : leadB ((dcL N p).take ((dcL N p).length - p)) = true := by
  obtain ⟨h1, h2, h3, h4⟩ := dec_ok N.natAbs
  by_cases hl : (Lib.decDigits N.natAbs).length ≤ p
  · have e : (dcL N p).length = p + 1 := by unfold dcL; simp; omega
    unfold leadB
    have : ((dcL N p).take ((dcL N p).length - p)).length = 1 := by rw [List.length_take, e]; omega
    simp [this]
  · have e : dcL N p = Lib.decDigits N.natAbs := by
      unfold dcL
      rw [show p + 1 - (Lib.decDigits N.natAbs).length = 0 by omega]; rfl
    have h0 : 0 < N.natAbs := by
      rcases Nat.eq_zero_or_pos N.natAbs with h | h
      · rw [h, dec_small (by decide)] at hl; simp at hl; omega
      · exact h
    obtain ⟨c, l, ec, hc⟩ := dec_head _ _ (Nat.le_refl _) h0
    rw [e]
    have hn : 0 < (Lib.decDigits N.natAbs).length - p := by omega
    obtain ⟨k, hk⟩ : ∃ k, (Lib.decDigits N.natAbs).length - p = k + 1 := ⟨_, (Nat.succ_pred_eq_of_pos hn).symm⟩
    rw [hk, ec, List.take_succ_cons]
    unfold leadB
    have : Lib.hasPrefix (c :: l.take k) [48] = false := by simp [Lib.hasPrefix, List.isPrefixOf, Ne.symm hc]
    rw [this]; simp
theorem prf_dc (N : Int) (p : Nat) (hp : p ≤ 100) : prfB (dcS N p) = true ∧ prfN (dcS N p) = N ∧ prfD (dcS N p) = 10 ^ p := by
  by_cases h0 : 0 < p
  · obtain ⟨a1, a2, a3⟩ := dcL_ok N p
    have hlead := dcL_lead N p h0
    obtain ⟨F, hF⟩ : ∃ F, F = (dcL N p).take ((dcL N p).length - p) := ⟨_, rfl⟩
    obtain ⟨G, hG⟩ : ∃ G, G = (dcL N p).drop ((dcL N p).length - p) := ⟨_, rfl⟩
    have hFG : F ++ G = dcL N p := by rw [hF, hG]; exact List.take_append_drop _ _
    have hFl : 0 < F.length := by rw [hF, List.length_take]; omega
    have hGl : G.length = p := by rw [hG, List.length_drop]; omega
    have hall := a1
    rw [← hFG, List.all_append, Bool.and_eq_true] at hall
    have es : dcS N p = sgL (decide (N < 0)) F ++ 46 :: G := by
      unfold dcS
      rw [if_pos h0, ← hF, ← hG]
      unfold sgL
      split <;> rfl
    obtain ⟨p1, p2⟩ := sg_parts (decide (N < 0)) hall.1
    have hno : (47 : UInt8) ∉ dcS N p := by
      rw [es, List.mem_append, List.mem_cons]
      rintro (h | h | h)
      · exact sg_no _ (digits_no hall.1 (by decide)) (by decide) h
      · exact absurd h (by decide)
      · exact digits_no hall.2 (by decide) h
    have hc := cut_yes (b := G) (sg_no (decide (N < 0)) (digits_no hall.1 (c := 46) (by decide)) (by decide))
    rw [← es] at hc
    have n1 : ¬ cutB 47 (dcS N p) = true := by unfold cutB; rw [cut_no hno]; exact Bool.false_ne_true
    have e1 : cutB 46 (dcS N p) = true := by unfold cutB; rw [hc]
    have e2 : cutA 46 (dcS N p) = sgL (decide (N < 0)) F := by unfold cutA; rw [hc]
    have e3 : cutZ 46 (dcS N p) = G := by unfold cutZ; rw [hc]
    unfold prfB prfN prfD
    rw [if_neg n1, if_pos e1, if_neg n1, if_pos e1, if_neg n1, if_pos e1, e2, e3]
    unfold decB decZ
    rw [p1, p2, hFG, a2, hGl]
    refine ⟨?_, sgn_abs_eq N, rfl⟩
    rw [← hF] at hlead
    rw [hlead, decide_eq_true hp]
    have b1 : F.isEmpty = false := by cases F with | nil => simp at hFl | cons _ _ => rfl
    have b2 : G.isEmpty = false := by cases G with | nil => simp at hGl; omega | cons _ _ => rfl
    have b3 : digB (dcL N p) = true := by
      unfold digB
      rw [a1, decide_eq_true (show dcL N p ≠ [] by intro e; rw [e] at a3; simp at a3)]; rfl
    rw [b1, b2, b3]; rfl
  · obtain rfl : p = 0 := by omega
    have es : dcS N 0 = txL N := by
      unfold dcS txL
      rw [if_neg h0, List.append_nil, Nat.sub_zero, List.take_length]
      have : dcL N 0 = Lib.decDigits N.natAbs := by
        unfold dcL
        have := dec_ne N.natAbs
        have : 0 < (Lib.decDigits N.natAbs).length := List.length_pos_iff.2 this
        rw [show 0 + 1 - (Lib.decDigits N.natAbs).length = 0 by omega]; rfl
      rw [this]
    rw [es]
    exact prf_tx N
theorem dcS_len {N : Int} {p m : Nat} (h : N.natAbs < 10 ^ m) : (dcS N p).length ≤ m + 2 * p + 5 := by
  have h1 := decs_len _ _ h
  have h2 : (dcL N p).length ≤ m + 1 + p + 1 := by unfold dcL; simp; omega
  unfold dcS sgL
  have h3 : ((dcL N p).take ((dcL N p).length - p) ++ if 0 < p then 46 :: (dcL N p).drop ((dcL N p).length - p) else []).length ≤ m + p + 4 := by
    rw [List.length_append, List.length_take]
    split
    · rw [List.length_cons, List.length_drop]; omega
    · simp; omega
  split
  · rw [List.length_cons]; omega
  · omega

theorem sgn_nat (b : Bool) (n : Nat) : (sgn b (n : Int)).natAbs = n := by unfold sgn; cases b <;> simp
/-- What a text stands for is not larger than its bytes allow. -/
theorem prs_bound {l : List UInt8} (h : prsB l = true) : (prsZ l).natAbs < 10 ^ l.length := by
  unfold prsB digB at h
  simp only [Bool.and_eq_true] at h
  have h1 := dv_lt _ h.1.1.2
  unfold prsZ
  rw [sgn_nat]
  exact Nat.lt_of_lt_of_le h1 (Nat.pow_le_pow_right (by decide) (bodyL_len l))
theorem prf_bound {l : List UInt8} (h : prfB l = true) : (prfN l).natAbs < 10 ^ l.length ∧ (prfD l).natAbs < 10 ^ (l.length + 1) := by
  have l1 := cut_len 47 l
  have l2 := cut_len 46 l
  unfold prfB at h
  unfold prfN prfD
  by_cases c1 : cutB 47 l = true
  · rw [if_pos c1] at h
    rw [if_pos c1, if_pos c1]
    unfold quoB at h
    simp only [Bool.and_eq_true] at h
    exact ⟨Nat.lt_of_lt_of_le (prs_bound h.1.1) (Nat.pow_le_pow_right (by decide) (by omega)), Nat.lt_of_lt_of_le (prs_bound h.1.2) (Nat.pow_le_pow_right (by decide) (by omega))⟩
  · rw [if_neg c1] at h
    rw [if_neg c1, if_neg c1]
    by_cases c2 : cutB 46 l = true
    · rw [if_pos c2] at h
      rw [if_pos c2, if_pos c2]
      unfold decB digB at h
      simp only [Bool.and_eq_true] at h
      have h1 := dv_lt _ h.2.2
      have h2 := bodyL_len (cutA 46 l)
      refine ⟨?_, ?_⟩
      · unfold decZ
        rw [sgn_nat]
        exact Nat.lt_of_lt_of_le h1 (Nat.pow_le_pow_right (by decide) (by rw [List.length_append]; omega))
      · have e : ((10 : Int) ^ (cutZ 46 l).length).natAbs = 10 ^ (cutZ 46 l).length := by rw [Int.natAbs_pow]; rfl
        rw [e]
        exact Nat.pow_lt_pow_right (by decide) (by omega)
    · rw [if_neg c2] at h
      rw [if_neg c2, if_neg c2]
      exact ⟨prs_bound h, Nat.one_lt_pow (by omega) (by decide)⟩
end Go.Proofs.YtilpkocmdpofpaaGreatDoor

/- exact.Power, exact.Root. Written by gen_power.py. -/
namespace Go.Proofs.YtilpkocmdpofpaaGreatDoor
open Go.RowKit

/-- An integer in new memory, and the error. -/
def RetAE (w : World) (z : Int) (K : Nat) (err : Int) (e : Ending) (w' : World) : Prop := ∃ v, e = .returned (.tuple #[v, .int .i64 err]) ∧ FrA w w' v z K ∧ Below w.heap.size w w'
theorem sgn_pow (x : Int) (n : Nat) : sgn (decide (x < 0) && decide (n % 2 = 1)) ((x.natAbs : Int) ^ n) = x ^ n := by
  by_cases hx : x < 0
  · have e : (x.natAbs : Int) = -x := by omega
    obtain ⟨k, hk⟩ : ∃ k, n = 2 * k ∨ n = 2 * k + 1 := ⟨n / 2, by omega⟩
    have sq : (-x) ^ 2 = x ^ 2 := by rw [Int.pow_succ, Int.pow_succ, Int.pow_zero, Int.pow_succ, Int.pow_succ, Int.pow_zero]; simp [Int.neg_mul_neg]
    rcases hk with rfl | rfl
    · have h2 : ¬ 2 * k % 2 = 1 := by omega
      simp only [hx, h2, decide_true, decide_false, Bool.and_false, sgn, e]
      simp only [Int.pow_mul, sq]
      simp
    · have h2 : (2 * k + 1) % 2 = 1 := by omega
      simp only [hx, h2, decide_true, Bool.and_self, sgn, e, if_true]
      simp only [Int.pow_succ, Int.pow_mul, sq]
      simp [Int.mul_neg]
  · have e : (x.natAbs : Int) = x := by omega
    simp [hx, sgn, e]

set_option maxRecDepth 100000 in
set_option maxHeartbeats 2000000 in
theorem Power_any (u : Value) (x : Int) (K : Nat) (n M : Nat) (w : World) (hn : n ≤ 1024) (hM : (K + 1) / 2 * n + 1 ≤ M) (hKM : (K + 1) / 2 ≤ M) (hM2 : M ≤ 200000) (hu : Ai w u x K) (hK : K ≤ 10000000) :
    Calls Tryz.prog 32 #[u, .int .i64 n] w (RetAE w (x ^ n) (2 * M) 0) := by
  obtain ⟨xb, xo, xm, xc, rfl, Hx⟩ := Ai.opened hu
  clear hu
  obtain ⟨W0, hW0⟩ : ∃ W0, W0 = ((w.alloc (.cells #[.bool xb, .slice xo xm xc] 24)).alloc (.cells #[.bool false, .slice none 0 0] 24)) := ⟨_, rfl⟩
  have hB0 : Below w.heap.size w W0 := by rw [hW0]; exact ((Below.refl _ _).alloc (Nat.le_refl _) _).alloc (by simp) _
  have hz0 : W0.heap.size = w.heap.size + 2 := by rw [hW0]; simp
  have HS : Hid (∀ w', Below (w.heap.size + 1) W0 w' → w'.cell? ⟨w.heap.size, 0, none⟩ = some (.bool xb) ∧ w'.cell? ⟨w.heap.size, 1, none⟩ = some (.slice xo xm xc)) := hid (fun w' hb => by
    refine ⟨?_, ?_⟩ <;> (rw [hb.cell (by simp <;> omega), hW0]; simp [go_sem]))
  have HT : Hid (∀ w', Below (w.heap.size + 2) W0 w' → (w'.cell? ⟨w.heap.size + 1, 0, none⟩ = some (.bool false) ∧ w'.cell? ⟨w.heap.size + 1, 1, none⟩ = some (.slice none 0 0)) ∧ (w'.frozen? ⟨w.heap.size + 1, 0, none⟩ = false ∧ w'.frozen? ⟨w.heap.size + 1, 1, none⟩ = false)) := hid (fun w' hb => by
    refine ⟨⟨?_, ?_⟩, ?_, ?_⟩ <;> (first | (rw [hb.cell (by simp <;> omega), hW0]; simp [go_sem]; done) | (rw [hb.frozen (by simp <;> omega), hW0]; simp [go_sem]; done)))
  have HB0 := hid hB0; have Hz0 := hid hz0; have HW := hid hW0
  clear hW0 hB0 hz0
  have hn0 : ¬ ((n : Int) < 0) := by omega
  have hn1 : ¬ (1024 < (n : Int)) := by omega
  go_enter Tryz.func32, Tryz.ntmps32
  go_upto_region 3 with (fail)
  rw [← HW.out]
  obtain ⟨k0, k1⟩ := HS.out _ (Below.refl _ _)
  go_wp2_with fail
  refine (read_any _ x K _ (Hx.out _ HB0.out) (by omega)).mono ?_
  rintro e w1 ⟨_, rfl, hv1, hb1⟩
  obtain ⟨b1, o1, m1, c1, rfl, H1, H1s, H1b⟩ := It.opened hv1
  have hB1 : Below (w.heap.size + 2) W0 w1 := hb1.mono (by have := Hz0.out; omega)
  obtain ⟨W2, hW2⟩ : ∃ W2, W2 = w1.alloc (.cells #[.bool b1, .slice o1 m1 c1] 84) := ⟨_, rfl⟩
  have hal : Below w1.heap.size w1 W2 := by rw [hW2]; exact (Below.refl _ _).alloc (Nat.le_refl _) _
  have hB2 : Below (w.heap.size + 2) W0 W2 := hB1.trans (hal.mono (by have := hB1.size; have := Hz0.out; omega))
  have hc0 : W2.cell? ⟨w1.heap.size, 0, none⟩ = some (.bool b1) := by rw [hW2]; simp [go_sem]
  have hc1 : W2.cell? ⟨w1.heap.size, 1, none⟩ = some (.slice o1 m1 c1) := by rw [hW2]; simp [go_sem]
  have HN1 : Hid (∀ w', Below W2.heap.size W2 w' → Nt w' (.slice o1 m1 c1) (x.natAbs : Int) ((K + 1) / 2)) := hid (fun w' h => H1s.out _ (hal.trans (h.mono hal.size)))
  have HB2 := hid hB2; have Hb1 := H1b
  have Hs2 := hid (show w.heap.size + 2 ≤ W2.heap.size by have := hB2.size; have := Hz0.out; omega)
  have HW2 := hid hW2
  clear k0 k1 hv1 hb1 hal hB1 hW2 hB2 H1 H1s
  go_upto_region 4 with (fail)
  rw [← HW2.out]
  have hraise := fun (w' : World) (hb : Below W2.heap.size W2 w') => raise_any (.slice o1 m1 c1) (x.natAbs : Int) ((K + 1) / 2) n M w' (HN1.out w' hb) hM hKM hM2 hn
  have HRa := hid hraise
  obtain ⟨q, hq⟩ : ∃ q, q = decide (n % 2 = 1) := ⟨_, rfl⟩
  have hq1 : ((n : Int) % 2 == 1) = q := by rw [hq]; by_cases h : n % 2 = 1 <;> simp [h] <;> omega
  have hq2 : ((n : Int).tmod 2 == 1) = q := by rw [Int.tmod_eq_emod_of_nonneg (by omega)]; exact hq1
  have Hq := hid hq
  clear hq hraise
  obtain ⟨z, hz⟩ : ∃ z, z = (b1 && q) := ⟨_, rfl⟩
  have Hz := hid hz
  clear hz
  cases b1 with
  | false =>
    obtain rfl : z = false := Hz.out
    go_wp2_with fail
    refine (HRa.out _ (Below.refl _ _)).mono ?_
    rintro e w3 ⟨v3, rfl, hv3, hb3⟩
    go_wp2_with fail
    refine (signed_any false v3 _ M _ hv3).mono ?_
    rintro e w4 ⟨_, rfl, hv4, hb4⟩
    rw [show sgn false ((x.natAbs : Int) ^ n) = x ^ n by have := sgn_pow x n; rw [← Hq.out, ← H1b.out] at this; simpa using this] at hv4
    obtain ⟨b4, o4, m4, c4, rfl, H4, _, _⟩ := It.opened hv4
    go_wp2_with fail
    refine (value_any _ _ _ _ (H4.out _ (Below.refl _ _)) (by omega)).mono ?_
    rintro e w5 ⟨_, rfl, ⟨_, rfl, hv5⟩, hb5⟩
    obtain ⟨o5, m5, c5, rfl, H5⟩ := FrW.opened hv5
    have hX4 : Below W2.heap.size W2 w4 := hb3.trans (hb4.mono hb3.size)
    have hX5 : Below W2.heap.size W2 w5 := hX4.trans (hb5.mono hX4.size)
    obtain ⟨⟨hr0, hr1⟩, hf0, hf1⟩ := HT.out _ (HB2.out.trans (hX5.mono Hs2.out))
    clear hv3 hv4 hv5 hb3 hb4
    go_wp2
    have hs2 := Hs2.out; have hs4 := hX4.size
    have hw6 : Below w.heap.size w w5 := HB0.out.trans ((HB2.out.trans (hX5.mono hs2)).mono (by omega))
    refine bodyPost_ret (v := .tuple #[.agg #[.bool (decide (x ^ n < 0)), .slice o5 m5 c5], .int .i64 0]) (by simp [results, Tryz.results32, go_sem, hr0, hr1]) rfl ⟨_, rfl, ⟨_, rfl, ?_⟩, (hw6.setCell (by simp <;> omega) _).setCell (by simp <;> omega) _⟩
    exact ((H5.out.set (by simp; omega) _).set (by simp; omega) _).base (by omega)
  | true =>
    obtain rfl : z = q := Hz.out
    go_wp2_with fail
    refine (HRa.out _ (Below.refl _ _)).mono ?_
    rintro e w3 ⟨v3, rfl, hv3, hb3⟩
    go_wp2_with fail
    refine (signed_any z v3 _ M _ hv3).mono ?_
    rintro e w4 ⟨_, rfl, hv4, hb4⟩
    rw [show sgn z ((x.natAbs : Int) ^ n) = x ^ n by have := sgn_pow x n; rw [← Hq.out, ← H1b.out] at this; simpa using this] at hv4
    obtain ⟨b4, o4, m4, c4, rfl, H4, _, _⟩ := It.opened hv4
    go_wp2_with fail
    refine (value_any _ _ _ _ (H4.out _ (Below.refl _ _)) (by omega)).mono ?_
    rintro e w5 ⟨_, rfl, ⟨_, rfl, hv5⟩, hb5⟩
    obtain ⟨o5, m5, c5, rfl, H5⟩ := FrW.opened hv5
    have hX4 : Below W2.heap.size W2 w4 := hb3.trans (hb4.mono hb3.size)
    have hX5 : Below W2.heap.size W2 w5 := hX4.trans (hb5.mono hX4.size)
    obtain ⟨⟨hr0, hr1⟩, hf0, hf1⟩ := HT.out _ (HB2.out.trans (hX5.mono Hs2.out))
    clear hv3 hv4 hv5 hb3 hb4
    go_wp2
    have hs2 := Hs2.out; have hs4 := hX4.size
    have hw6 : Below w.heap.size w w5 := HB0.out.trans ((HB2.out.trans (hX5.mono hs2)).mono (by omega))
    refine bodyPost_ret (v := .tuple #[.agg #[.bool (decide (x ^ n < 0)), .slice o5 m5 c5], .int .i64 0]) (by simp [results, Tryz.results32, go_sem, hr0, hr1]) rfl ⟨_, rfl, ⟨_, rfl, ?_⟩, (hw6.setCell (by simp <;> omega) _).setCell (by simp <;> omega) _⟩
    exact ((H5.out.set (by simp; omega) _).set (by simp; omega) _).base (by omega)
end Go.Proofs.YtilpkocmdpofpaaGreatDoor

/- The document's own integers: SameInt, LikeInt; the law's spoil. -/
namespace Go.Proofs.YtilpkocmdpofpaaGreatDoor
open Go.RowKit

/-- The value v (an api.Int) has these words. -/
def Lk (w : World) (v : Value) (neg : Bool) (W : List Int) : Prop := ∃ ao c, v = .agg #[.bool neg, .slice ao W.length c] ∧ Rd w .u32 ao c W

/-- What a spoilt world keeps. -/
structure Spd (B : Nat) (w w' : World) : Prop where
  low : Below B w w'
  siz : w.heap.size ≤ w'.heap.size
  cel : ∀ a v, w.cell? a = some v → (∀ x, v ≠ .int .u32 x) → w'.cell? a = some v
  u32 : ∀ a x, w.cell? a = some (.int .u32 x) → 0 ≤ x → x < 4294967296 → ∃ y, 0 ≤ y ∧ y < 4294967296 ∧ w'.cell? a = some (.int .u32 y)
  frz : ∀ a, a.block < w.heap.size → w'.frozen? a = w.frozen? a
theorem Spd.refl (B : Nat) (w : World) : Spd B w w := ⟨Below.refl _ _, Nat.le_refl _, fun _ _ h _ => h, fun _ x h h0 h1 => ⟨x, h0, h1, h⟩, fun _ _ => rfl⟩
theorem Spd.trans {B : Nat} {a b c : World} (h : Spd B a b) (g : Spd B b c) : Spd B a c :=
  ⟨h.low.trans g.low, Nat.le_trans h.siz g.siz, fun p _ e hn => g.cel p _ (h.cel p _ e hn) hn, fun p x e h0 h1 => by obtain ⟨y, y0, y1, e'⟩ := h.u32 p x e h0 h1; exact g.u32 p y e' y0 y1, fun p hp => (g.frz p (Nat.lt_of_lt_of_le hp h.siz)).trans (h.frz p hp)⟩
theorem Spd.of_below {B : Nat} {w w' : World} (hb : Below w.heap.size w w') (hB : B ≤ w.heap.size) : Spd B w w' :=
  ⟨hb.mono hB, hb.size, fun a _ e _ => (hb.cell (World.block_lt_of_cell? w a e)).trans e, fun a x e h0 h1 => ⟨x, h0, h1, (hb.cell (World.block_lt_of_cell? w a e)).trans e⟩, fun _ ha => hb.frozen ha⟩
theorem Spd.drewN {B : Nat} {w w' : World} (h : Spd B w w') (n : Nat) : Spd B w (w'.drewN n) := ⟨below_drewN h.low n, h.siz, h.cel, h.u32, h.frz⟩
theorem Spd.set {B : Nat} {w w' : World} (h : Spd B w w') {a : Addr} (ha : B ≤ a.block) {x y : Int} (hx : w'.cell? a = some (.int .u32 x)) (y0 : 0 ≤ y) (y1 : y < 4294967296) : Spd B w (w'.setCell a (.int .u32 y)) := by
  refine ⟨h.low.setCell ha _, by simpa using h.siz, fun p _ e hn => ?_, fun p z e h0 h1 => ?_, fun p hp => ?_⟩
  · have e' := h.cel p _ e hn
    have hne : a ≠ p := by rintro rfl; rw [hx] at e'; exact hn x (Option.some.inj e').symm
    exact (World.cell?_setCell_other w' a _ _ hne).trans e'
  · obtain ⟨u, u0, u1, e'⟩ := h.u32 p z e h0 h1
    by_cases hne : a = p
    · subst hne
      exact ⟨y, y0, y1, World.cell?_setCell_same w' a _ hx⟩
    · exact ⟨u, u0, u1, (World.cell?_setCell_other w' a _ _ hne).trans e'⟩
  · rw [World.frozen?_setCell]; exact h.frz p hp

end Go.Proofs.YtilpkocmdpofpaaGreatDoor

/- The law's own: an integer in memory of its own. -/
namespace Go.Proofs.YtilpkocmdpofpaaGreatDoor
open Go.RowKit

end Go.Proofs.YtilpkocmdpofpaaGreatDoor

/- The law's own once more: the words lie in memory of the call's own, with room for three more. -/
namespace Go.Proofs.YtilpkocmdpofpaaGreatDoor
open Go.RowKit

end Go.Proofs.YtilpkocmdpofpaaGreatDoor

/- How the arguments of the laws are opened (an api.Int reads as its sign and its list of words), and the last step of a row whose law returns true and leaves all that was there before. -/
namespace Go.Proofs.YtilpkocmdpofpaaGreatDoor
open Go.ChangeShapes Go.WideShapes Go.ChangeAt Go.RowKit Go.Joins

theorem Tryz.ownKnobNone : ownKnob Tryz.prog.godebug = none := by kernel_rfl
theorem Tryz.laidOutAll : laidOutB Tryz.prog = true := by kernel_rfl

/-- The number that a value is. -/
def intOf : Value → Int | .int _ x => x | _ => 0

set_option maxRecDepth 100000 in
theorem openInt {H : Type} {enc : TypeId × Value → H} {r : Reach} {b0 : Nat} {W : World} {sp : Nat → Bool} {v : Value} {d : DataW H} {p : List MemPlace}
    (hv : Value.okWide Tryz.prog W r b0 24 v) (h : DataW.Trod enc Tryz.prog W 0 sp true 24 v d p) : ∃ neg L, Lk W v neg L ∧ Dig B32 L := by
  obtain ⟨c0, c1, y0, y1, m, rfl, rfl, rfl, hy0, hy1⟩ := open_agg2 Tryz.underlying24 (by kernel_rfl) (by kernel_rfl) hv h
  obtain ⟨b, e0, _⟩ := DataW.trod_bool Tryz.underlying4 hy0
  simp at e0
  subst e0
  rcases Go.Deep.open_slice1 Tryz.underlying22 (by kernel_rfl) hy1 with ⟨e1, _⟩ | ⟨a, len, cap, k, n, V, D, Pl, e1, hb, hl, hm, hmm, _, hx⟩
  · simp at e1
    subst e1
    exact ⟨b, [], ⟨none, 0, rfl, Rd.nil _ _⟩, fun x hx => by cases hx⟩
  · simp at e1
    subst e1
    have hk : len ≤ k := by rw [hmm]; split <;> omega
    have hw : ∀ i, i < len → ∃ x, V i = .int .u32 x ∧ 0 ≤ x ∧ x < B32 ∧ W.cell? (a.add i) = some (.int .u32 x) := by
      intro i hi
      obtain ⟨hc, ht⟩ := hx i (by omega)
      obtain ⟨x, ex, _, hwf⟩ := DataW.trod_int Tryz.underlying53 ht
      simp at ex
      simp [Lit.wf, IntKind.min, IntKind.max, IntKind.signed, IntKind.bits] at hwf
      refine ⟨x, ex, by omega, by unfold B32; omega, by rw [hc, ex]⟩
    have hget : ∀ i, i < len → (((List.range len).map fun i => intOf (V i))[i]?.getD 0) = intOf (V i) := by
      intro i hi
      simp [hi]
    refine ⟨b, (List.range len).map fun i => intOf (V i), ⟨some a, cap, by simp, ?_⟩, ?_⟩
    · refine ⟨by simpa using hl, by unfold maxLen at hm; omega, fun hp => ?_, fun b off e i hi => ?_⟩
      · obtain ⟨x, _, _, _, hc⟩ := hw 0 (by simpa using hp)
        have hs := World.cell?_spot hc
        obtain ⟨ab, aoff, asp⟩ := a
        have : asp = none := by simpa [Addr.add] using hs
        exact ⟨ab, aoff, by rw [this]⟩
      · simp at hi
        obtain rfl := Option.some.inj e
        obtain ⟨x, ex, _, _, hc⟩ := hw i hi
        rw [hget i hi, ex]
        have ea : Addr.add ⟨b, off, none⟩ i = ⟨b, off + i, none⟩ := by
          by_cases h0 : i = 0 <;> simp [Addr.add, h0]
        rw [ea] at hc
        simpa [intOf] using hc
    · intro x hx
      obtain ⟨i, hi, rfl⟩ := List.mem_map.1 hx
      obtain ⟨y, ey, y0, y1, _⟩ := hw i (by simpa using hi)
      rw [ey]
      exact ⟨y0, y1⟩

/-- What lies below a bound reads as it did, whatever was made above it. -/
theorem allStays {H : Type} {enc : TypeId × Value → H} {P : Program} (hl : laidOutB P = true) {W W' : World} {sp' : Nat → Bool} : ∀ {ts : List TypeId} {vs : List Value} {ds : List (DataW H)} {ps : List MemPlace},
    (∀ t ∈ ts, P.readableRec t = true ∧ t < P.types.size) → DataW.TrodAll enc P W 0 (fun _ => true) true ts vs ds ps → (∀ p ∈ ps, W.sameAt W' p) → (∀ p ∈ ps, sp' p.block = true) → DataW.TrodAll enc P W' 0 sp' true ts vs ds ps
  | [], _, _, _, _, h, _, _ => by
    obtain ⟨rfl, rfl, rfl⟩ := trodAll_nil h
    exact trodAll_mk0
  | t :: ts, _, _, _, ht, h, hs, hp => by
    obtain ⟨v, vs1, d, ds1, a, b, rfl, rfl, rfl, h1, h2⟩ := trodAll_cons h
    refine ⟨a, b, ?_, ?_, rfl⟩
    · exact WideElems.Trod_stays hl (ht t (by simp)).1 (ht t (by simp)).2 h1 (fun p k => hs p (by simp [k])) (fun p k => hp p (by simp [k]))
    · exact allStays hl (fun u k => ht u (by simp [k])) h2 (fun p k => hs p (by simp [k])) (fun p k => hp p (by simp [k]))

/-- The last step of a row: the law returns true, its arguments read as they did. -/
theorem lawTrue {H : Type} {enc : TypeId × Value → H} {P : Program} {f : Func} {s : ChangeSpec} {apart fresh handsOn : Bool} {W W' : World} {args : Array Value} {ds gs : List (DataW H)} {before : List MemPlace} {tb : TypeId}
    (hl : laidOutB P = true) (hr : ∀ t ∈ f.params.toList, P.readableRec t = true ∧ t < P.types.size) (hv : s.vars = []) (hres : f.resultTypes = #[tb]) (hb : P.underlying tb = some .bool)
    (hfn : s.fn H (ds ++ gs) = { results := [.lit (.bool true)], args := ds })
    (hW : DataW.Whole enc P f.params.toList s.vars apart W args.toList ds gs before) (hlow : Below W.heap.size W W') :
    s.post enc P f apart fresh handsOn false W args (.bool true) W' := by
  have hW' := hW
  obtain ⟨p, q, hA, hV, hpq, _, _⟩ := hW
  rw [hv] at hV
  obtain ⟨rfl, rfl⟩ := trodVars_none hV
  have hlt := hW'.lt
  have e0 : before = p := by rw [hpq]; simp
  subst e0
  refine ⟨ds, [], before, [], before, [], hW', ?_, ?_, ?_, ?_, fun h => by cases h⟩
  · rw [hfn, hres]
    exact trodAll_mk1 (shut_bool hb _)
  · rw [hfn]
    exact allStays hl hr hA (fun p k => hlow.same (hlt p k)) (fun p k => by simpa using hlt p k)
  · rw [hfn, hv]
    rfl
  · exact World.keptBut_mono (fun p k => ⟨k, Or.inr (Or.inl k)⟩) (hlow.frame (· ∈ before))
end Go.Proofs.YtilpkocmdpofpaaGreatDoor

/- The law ExactField, its walk. Written by gen_field.py. -/
namespace Go.Proofs.YtilpkocmdpofpaaGreatDoor
open Go.RowKit

theorem wide_t (b1 b2 : Bool) (o1 o2 : Option Addr) (m1 c1 m2 c2 : Nat) (t : Int) (w : World) (ht : max (m1 : Int) (m2 : Int) = t) :
    Calls Tryz.prog 10 #[.agg #[.bool b1, .slice o1 m1 c1, .bool b2, .slice o2 m2 c2]] w fun e w' => e = .returned (.int .i64 t) ∧ Below w.heap.size w w' := by
  rw [← ht]; exact wide_any b1 b2 o1 o2 m1 c1 m2 c2 w
end Go.Proofs.YtilpkocmdpofpaaGreatDoor
