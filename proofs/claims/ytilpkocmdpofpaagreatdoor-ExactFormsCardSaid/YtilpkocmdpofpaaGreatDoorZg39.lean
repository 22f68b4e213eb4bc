/- exact.Quotient by values; hodoscoperef01.Wide. -/
import Derived.Test.YtilpkocmdpofpaaGreatDoorZg38
/- exact.Quotient by values; hodoscoperef01.Wide. -/
namespace Go.Proofs.YtilpkocmdpofpaaGreatDoor
open Go.RowKit

theorem sgn_pos {a b : Int} (hb : 0 < b) : sgn (decide (a < 0) != decide (b < 0)) (a.natAbs : Int) = a := by
  rw [decide_eq_false (show ¬ b < 0 by omega)]
  by_cases ha : a < 0
  · rw [decide_eq_true ha]; show -(a.natAbs : Int) = a; omega
  · rw [decide_eq_false ha]; show (a.natAbs : Int) = a; omega
theorem sgn_neg' {a b : Int} (hb : b < 0) : sgn (decide (a < 0) != decide (b < 0)) (a.natAbs : Int) = -a := by
  rw [decide_eq_true hb]
  by_cases ha : a < 0
  · rw [decide_eq_true ha]; show (a.natAbs : Int) = -a; omega
  · rw [decide_eq_false ha]; show -(a.natAbs : Int) = -a; omega
theorem alg_quot {z1 e1 d1 n1 z2 e2 d2 n2 : Int} (h1 : z1 * d1 = n1 * e1) (h2 : z2 * d2 = n2 * e2) : (z1 * e2) * (d1 * n2) = (n1 * d2) * (z2 * e1) := by grind
theorem sgn_same {r d n e : Int} (hd : 0 < d) (he : 0 < e) (h : r * d = n * e) : (0 < n → 0 < r) ∧ (n < 0 → r < 0) := by
  have hc := cmp_scale hd he h
  constructor
  · intro hn
    rcases Int.lt_trichotomy r 0 with hr | hr | hr
    · rw [cmp_lt'' hr, cmp_gt'' hn] at hc; cases hc
    · rw [hr, cmp_gt'' hn] at hc; cases hc
    · exact hr
  · intro hn
    rcases Int.lt_trichotomy r 0 with hr | hr | hr
    · exact hr
    · rw [hr, cmp_lt'' hn] at hc; cases hc
    · rw [cmp_gt'' hr, cmp_lt'' hn] at hc; cases hc

/-- The call hands back a ratio of the value n over d, open, and an error. -/
def RetVE (w : World) (n d : Int) (R : Nat) (err : Int) (e : Ending) (w' : World) : Prop := ∃ b1 o1 m1 c1 b2 o2 m2 c2, e = .returned (.tuple #[.agg #[.bool b1, .slice o1 m1 c1, .bool b2, .slice o2 m2 c2], .int .i64 err]) ∧ Hid (Rv w' (.agg #[.bool b1, .slice o1 m1 c1, .bool b2, .slice o2 m2 c2]) n d R) ∧ Below w.heap.size w w'
theorem Quotient_rv (u v : Value) (n1 d1 n2 d2 : Int) (K R : Nat) (w : World) (hu : Rv w u n1 d1 K) (hv : Rv w v n2 d2 K) (hn : n2 ≠ 0) (hK : K ≤ 150) (hR : 2 * K + 6 ≤ R) :
    Calls Tryz.prog 39 #[u, v] w (RetVE w (n1 * d2 * cmpI n2 0) (d1 * (n2 * cmpI n2 0)) R 0) := by
  obtain ⟨p1, x1, y1, hu, h1⟩ := hu
  obtain ⟨p2, x2, y2, hv, h2⟩ := hv
  have hs := sgn_same p2 (rd_pos y2) h2
  have hz : rn x2 y2 ≠ 0 := by rcases Int.lt_or_lt_of_ne hn with h | h <;> (first | (have := hs.2 h; omega) | (have := hs.1 h; omega))
  have hq := alg_quot h1 h2
  refine (Quotient_ne u v x1 y1 x2 y2 K w hu hv hz hK).mono ?_
  rintro e w' ⟨f, rfl, hf, hb⟩
  have hr1 := rd_pos y1
  have hr2 := rd_pos y2
  rcases Int.lt_or_lt_of_ne hn with h | h
  · have hz2 := hs.2 h
    have hb2 : rn x2 y2 * rd y1 < 0 := Int.mul_neg_of_neg_of_pos hz2 hr1
    rw [sgn_neg' hb2, show ((rn x2 y2 * rd y1).natAbs : Int) = -(rn x2 y2 * rd y1) by omega] at hf
    obtain ⟨b1, o1, m1, c1, b2, o2, m2, c2, he, hh, hb⟩ := retV (R := R) hf (n := n1 * d2 * cmpI n2 0) (e := d1 * (n2 * cmpI n2 0)) (by omega) (by rw [cmp_lt'' h]; exact Int.mul_pos p1 (by omega)) (by rw [cmp_lt'' h]; grind) (by omega) hb
    injection he with he
    subst he
    exact ⟨b1, o1, m1, c1, b2, o2, m2, c2, rfl, hh, hb⟩
  · have hz2 := hs.1 h
    have hb2 : 0 < rn x2 y2 * rd y1 := Int.mul_pos hz2 hr1
    rw [sgn_pos hb2, show ((rn x2 y2 * rd y1).natAbs : Int) = rn x2 y2 * rd y1 by omega] at hf
    obtain ⟨b1, o1, m1, c1, b2, o2, m2, c2, he, hh, hb⟩ := retV (R := R) hf (n := n1 * d2 * cmpI n2 0) (e := d1 * (n2 * cmpI n2 0)) hb2 (by rw [cmp_gt'' h]; exact Int.mul_pos p1 (by omega)) (by rw [cmp_gt'' h]; grind) (by omega) hb
    injection he with he
    subst he
    exact ⟨b1, o1, m1, c1, b2, o2, m2, c2, rfl, hh, hb⟩
theorem Quotient_rz (u v : Value) (n1 d1 d2 : Int) (K : Nat) (w : World) (hu : Rv w u n1 d1 K) (hv : Rv w v 0 d2 K) (hK : K ≤ 150) :
    Calls Tryz.prog 39 #[u, v] w fun e w' => e = .returned (.tuple #[.agg #[.bool false, .slice none 0 0, .bool false, .slice none 0 0], .int .i64 10]) ∧ Below w.heap.size w w' := by
  obtain ⟨p1, x1, y1, hu, h1⟩ := hu
  obtain ⟨p2, x2, y2, hv, h2⟩ := hv
  rw [Int.zero_mul] at h2
  have hz : rn x2 y2 = 0 := by
    rcases Int.mul_eq_zero.1 h2 with h | h
    · exact h
    · omega
  exact Quotient_zero u v x1 y1 x2 y2 K w hu hv hz hK

set_option maxRecDepth 100000 in
set_option maxHeartbeats 1000000 in
theorem wide_any (b1 b2 : Bool) (o1 o2 : Option Addr) (m1 c1 m2 c2 : Nat) (w : World) :
    Calls Tryz.prog 10 #[.agg #[.bool b1, .slice o1 m1 c1, .bool b2, .slice o2 m2 c2]] w fun e w' => e = .returned (.int .i64 (max (m1 : Int) (m2 : Int))) ∧ Below w.heap.size w w' := by
  have HB0 := hid (show Below w.heap.size w (w.alloc (.cells #[.bool b1, .slice o1 m1 c1, .bool b2, .slice o2 m2 c2] 26)) from (Below.refl _ _).alloc (Nat.le_refl _) _)
  go_enter Tryz.func10, Tryz.ntmps10
  go_wp2
  go_ret
  exact ⟨rfl, HB0.out⟩
end Go.Proofs.YtilpkocmdpofpaaGreatDoor
