/- The document's ratios: Make; and that both packages mean the same ratio in lowest terms. The document's ratios: Make. What the laws ask of a ratio and its error, the program's beside the document's: Over, Make, Whole; isRatio over both. Integers in normal form that a call hands back. The document's ratios by values: lowest, Whole; both packages' ratios side by side: Same, isRatio. exact.raise. Written by gen_power.py. exact.Div. Written by gen_ediv.py. exact.Power, exact.Root. Written by gen_power.py. A variable of the document's integers in a block of its own. The document's own integers: Power. The document's own integers: Root. Written by gen_rroot.py. What the law ExactDivides asks of an integer and its error, the program's beside the document's: Div, Root, Power; is over both. exact.groups: the iterator at numbers of one limb below the group's size: one round. -/
import Derived.Test.YtbapeilpkhbbeaaGreatBn27
import Derived.Test.YtbapeilpkhbbeaaGreatBn26
import Derived.Test.YtbapeilpkhbbeaaGreatBn20
import Derived.Test.YtbapeilpkhbbeaaGreatBn23
import Derived.Test.YtbapeilpkhbbeaaGreatBn22
import Derived.Test.YtbapeilpkhbbeaaGreatBn12
import Derived.Test.YtbapeilpkhbbeaaGreatBn25
import Derived.Test.YtbapeilpkhbbeaaGreatBn18
import Derived.Deep.RegionHeld3
import Derived.RangeFuncNested
import Derived.RangeFuncBound
import Derived.RangeFuncCalls
import Derived.RangeFuncLeaves
import Derived.Shelf.Abstract
import Derived.Shelf.RegionOpen
import Derived.WalkKit
import Derived.OwnWalkIn
import Derived.TacticsInMore
import Derived.LoopNIn
import Derived.LoopIn
import Derived.Test.YtbapeilpkhbbeaaGreatBn06
/- The document's ratios: Make; and that both packages mean the same ratio in lowest terms. -/
namespace Go.Proofs.YtbapeilpkhbbeaaGreat
open Go.RowKit

theorem rlowest_any (u v : Value) (n d : Int) (K : Nat) (w : World) (hu : Zt w u n K) (hv : Zt w v d K) (hd : d ≠ 0) (hK : K ≤ 67108864) (hK4 : 4 ≤ K) :
    Calls Tryz.prog 51 #[u, v] w fun e w' => ∃ f, e = .returned f ∧ Qt w' f (n.fdiv (gsg n d)) (d.fdiv (gsg n d)) (K + 3) ∧ Below w.heap.size w w' := by
  rcases Int.lt_or_gt_of_ne hd with h | h
  · exact rlowest_neg u v n d K w hu hv h hK hK4
  · exact rlowest_pos u v n d K w hu hv h hK hK4

/-- The sign of a quotient over its size. -/
def ratN (n d : Int) : Int := sgn (decide (n < 0) != decide (d < 0)) (n.natAbs : Int)
theorem ratN_abs (n d : Int) : ((ratN n d).natAbs : Int) = (n.natAbs : Int) := by
  unfold ratN sgn
  split <;> omega
theorem low_same (n d : Int) (hd : d ≠ 0) : lowN (ratN n d) (d.natAbs : Int) = n.fdiv (gsg n d) ∧ lowD (ratN n d) (d.natAbs : Int) = d.fdiv (gsg n d) := by
  have hg : (Int.gcd ((ratN n d).natAbs : Int) (d.natAbs : Int) : Int) = (Int.gcd n d : Int) := by
    rw [ratN_abs]
    simp [Int.gcd]
  obtain ⟨g, hgd⟩ : ∃ g : Int, g = (Int.gcd n d : Int) := ⟨_, rfl⟩
  have hgp : 0 < g := by rw [hgd]; have := Int.gcd_pos_of_ne_zero_right n hd; omega
  obtain ⟨q, hq⟩ := Int.gcd_dvd_left n d
  obtain ⟨p, hp⟩ := Int.gcd_dvd_right n d
  have hgs : gsg n d = if d < 0 then -g else g := by unfold gsg; rw [hgd]
  rw [← hgd] at hq hp hg
  have habs : (n.natAbs : Int) = g * (q.natAbs : Int) := by
    have h1 : (n.natAbs : Int) = (g.natAbs : Int) * (q.natAbs : Int) := by rw [← Int.natCast_mul, ← Int.natAbs_mul, ← hq]
    have h2 : (g.natAbs : Int) = g := by omega
    rw [h2] at h1
    exact h1
  have habd : (d.natAbs : Int) = g * (p.natAbs : Int) := by
    have h1 : (d.natAbs : Int) = (g.natAbs : Int) * (p.natAbs : Int) := by rw [← Int.natCast_mul, ← Int.natAbs_mul, ← hp]
    have h2 : (g.natAbs : Int) = g := by omega
    rw [h2] at h1
    exact h1
  have e1 : lowN (ratN n d) (d.natAbs : Int) = sgn (decide (ratN n d < 0)) (q.natAbs : Int) := by
    unfold lowN
    rw [hg, ratN_abs, habs, Int.mul_ediv_cancel_left _ (by omega)]
  have e2 : lowD (ratN n d) (d.natAbs : Int) = (p.natAbs : Int) := by
    unfold lowD
    rw [hg, habd, Int.mul_ediv_cancel_left _ (by omega)]
  have hn0 : n < 0 ↔ q < 0 := by
    rw [hq]
    constructor
    · intro h
      by_cases hc : q < 0
      · exact hc
      · have := Int.mul_nonneg (Int.le_of_lt hgp) (show 0 ≤ q by omega); omega
    · intro h; exact Int.mul_neg_of_pos_of_neg hgp h
  have hd0 : d < 0 ↔ p < 0 := by
    rw [hp]
    constructor
    · intro h
      by_cases hc : p < 0
      · exact hc
      · have := Int.mul_nonneg (Int.le_of_lt hgp) (show 0 ≤ p by omega); omega
    · intro h; exact Int.mul_neg_of_pos_of_neg hgp h
  have hnz : n = 0 ↔ q = 0 := by
    constructor
    · intro h
      rw [hq] at h
      rcases Int.mul_eq_zero.1 h with h | h
      · omega
      · exact h
    · intro h; rw [hq, h, Int.mul_zero]
  rw [e1, e2, hgs]
  have hrat : ratN n d < 0 ↔ (n ≠ 0 ∧ (decide (n < 0) != decide (d < 0)) = true) := by
    unfold ratN sgn
    cases (decide (n < 0) != decide (d < 0)) <;> simp <;> omega
  by_cases hs : d < 0
  · rw [if_pos hs]
    have f1 := fdiv_uniq (x := n) (y := -g) (q := -q) (r := 0) (by rw [hq, Int.neg_mul_neg, Int.mul_comm]; omega) (Or.inr ⟨by omega, Int.le_refl _⟩)
    have f2 := fdiv_uniq (x := d) (y := -g) (q := -p) (r := 0) (by rw [hp, Int.neg_mul_neg, Int.mul_comm]; omega) (Or.inr ⟨by omega, Int.le_refl _⟩)
    rw [f1.1, f2.1]
    have hp0 := hd0.1 hs
    refine ⟨?_, by omega⟩
    by_cases hx : n < 0
    · have hr : ¬ ratN n d < 0 := by rw [hrat]; simp [hx, hs]
      rw [decide_eq_false hr]
      have := hn0.1 hx
      simp [sgn]; omega
    · by_cases h0 : n = 0
      · have hr : ¬ ratN n d < 0 := by rw [hrat]; simp [h0]
        rw [decide_eq_false hr]
        have := hnz.1 h0
        simp [sgn]; omega
      · have hr : ratN n d < 0 := by rw [hrat]; simp [hx, hs, h0]
        rw [decide_eq_true hr]
        have : ¬ q < 0 := fun h => hx (hn0.2 h)
        simp [sgn]; omega
  · rw [if_neg hs]
    have f1 := fdiv_uniq (x := n) (y := g) (q := q) (r := 0) (by rw [hq, Int.mul_comm]; omega) (Or.inl ⟨Int.le_refl _, hgp⟩)
    have f2 := fdiv_uniq (x := d) (y := g) (q := p) (r := 0) (by rw [hp, Int.mul_comm]; omega) (Or.inl ⟨Int.le_refl _, hgp⟩)
    rw [f1.1, f2.1]
    have hp0 : ¬ p < 0 := fun h => hs (hd0.2 h)
    refine ⟨?_, by omega⟩
    by_cases hx : n < 0
    · have hr : ratN n d < 0 := by rw [hrat]; simp [hx, hs]; omega
      rw [decide_eq_true hr]
      have := hn0.1 hx
      simp [sgn]; omega
    · have hr : ¬ ratN n d < 0 := by rw [hrat]; simp [hx, hs]
      rw [decide_eq_false hr]
      have : ¬ q < 0 := fun h => hx (hn0.2 h)
      simp [sgn]; omega
end Go.Proofs.YtbapeilpkhbbeaaGreat

/- The document's ratios: Make. -/
namespace Go.Proofs.YtbapeilpkhbbeaaGreat
open Go.RowKit

theorem Qt.opened {w : World} {v : Value} {x y : Int} {K : Nat} (h : Qt w v x y K) : ∃ b1 o1 m1 c1 b2 o2 m2 c2, v = .agg #[.bool b1, .slice o1 m1 c1, .bool b2, .slice o2 m2 c2] ∧ Hid (∀ w', Below w.heap.size w w' → Zt w' (.agg #[.bool b1, .slice o1 m1 c1]) x K ∧ Zt w' (.agg #[.bool b2, .slice o2 m2 c2]) y K) := by
  obtain ⟨b1, o1, m1, c1, b2, o2, m2, c2, rfl, h1, h2⟩ := h
  exact ⟨b1, o1, m1, c1, b2, o2, m2, c2, rfl, hid (fun w' hb => ⟨h1.below hb (Nat.le_refl _), h2.below hb (Nat.le_refl _)⟩)⟩
theorem zt_len {w : World} {b : Bool} {o : Option Addr} {m c K : Nat} {z : Int} (h : Zt w (.agg #[.bool b, .slice o m c]) z K) : m = 0 ↔ z = 0 := by
  obtain ⟨s, e, ao, c', L, e2, hL⟩ := h
  subst e2
  simp at e
  obtain ⟨rfl, rfl, rfl, rfl⟩ := e
  have := hL.zero_iff
  omega

end Go.Proofs.YtbapeilpkhbbeaaGreat

/- What the laws ask of a ratio and its error, the program's beside the document's: Over, Make, Whole; isRatio over both. -/
namespace Go.Proofs.YtbapeilpkhbbeaaGreat
open Go.RowKit

/-- A ratio that the program gives back, with its error: that of n over d, in new memory. -/
def RatE (w : World) (B : Nat) (v : Value) (err n d : Int) : Prop := ∃ b1 o1 m1 c1 b2 o2 m2 c2, v = .agg #[.bool b1, .slice o1 m1 c1, .bool b2, .slice o2 m2 c2] ∧ Sp w B (.agg #[.bool b1, .slice o1 m1 c1]) ∧ Sp w B (.agg #[.bool b2, .slice o2 m2 c2]) ∧
  ((d ≠ 0 ∧ err = 0 ∧ An w (.agg #[.bool b1, .slice o1 m1 c1]) (n.fdiv (gsg n d)) 200 ∧ An w (.agg #[.bool b2, .slice o2 m2 c2]) (d.fdiv (gsg n d)) 200) ∨ (d = 0 ∧ err = 10 ∧ b1 = false ∧ m1 = 0 ∧ b2 = false ∧ m2 = 0))
/-- The document's. -/
def QotE (w : World) (q : Value) (err n d : Int) : Prop := ∃ b1 o1 m1 c1 b2 o2 m2 c2, q = .agg #[.bool b1, .slice o1 m1 c1, .bool b2, .slice o2 m2 c2] ∧
  ((d ≠ 0 ∧ err = 0 ∧ Zt w (.agg #[.bool b1, .slice o1 m1 c1]) (n.fdiv (gsg n d)) 200 ∧ Zt w (.agg #[.bool b2, .slice o2 m2 c2]) (d.fdiv (gsg n d)) 200) ∨ (d = 0 ∧ err = 10))
theorem RatE.below {w w' : World} {B B' : Nat} {v : Value} {err n d : Int} (h : RatE w B v err n d) (hb : Below B' w w') (hB : w.heap.size ≤ B') : RatE w' B v err n d := by
  obtain ⟨b1, o1, m1, c1, b2, o2, m2, c2, rfl, h1, h2, h3⟩ := h
  refine ⟨b1, o1, m1, c1, b2, o2, m2, c2, rfl, h1.below hb hB, h2.below hb hB, ?_⟩
  rcases h3 with ⟨a, b, c, d⟩ | h
  · exact Or.inl ⟨a, b, c.below hb hB, d.below hb hB⟩
  · exact Or.inr h
theorem QotE.below {w w' : World} {B' : Nat} {v : Value} {err n d : Int} (h : QotE w v err n d) (hb : Below B' w w') (hB : w.heap.size ≤ B') : QotE w' v err n d := by
  obtain ⟨b1, o1, m1, c1, b2, o2, m2, c2, rfl, h3⟩ := h
  refine ⟨b1, o1, m1, c1, b2, o2, m2, c2, rfl, ?_⟩
  rcases h3 with ⟨a, b, c, d⟩ | h
  · exact Or.inl ⟨a, b, c.below hb hB, d.below hb hB⟩
  · exact Or.inr h
theorem RatE.opened {w : World} {B : Nat} {v : Value} {err n d : Int} (h : RatE w B v err n d) : ∃ b1 o1 m1 c1 b2 o2 m2 c2, v = .agg #[.bool b1, .slice o1 m1 c1, .bool b2, .slice o2 m2 c2] ∧ Hid (∀ w', Below w.heap.size w w' → RatE w' B (.agg #[.bool b1, .slice o1 m1 c1, .bool b2, .slice o2 m2 c2]) err n d) := by
  have h' := h
  obtain ⟨b1, o1, m1, c1, b2, o2, m2, c2, rfl, _⟩ := h
  exact ⟨b1, o1, m1, c1, b2, o2, m2, c2, rfl, hid (fun w' hb => h'.below hb (Nat.le_refl _))⟩
theorem QotE.opened {w : World} {v : Value} {err n d : Int} (h : QotE w v err n d) : ∃ b1 o1 m1 c1 b2 o2 m2 c2, v = .agg #[.bool b1, .slice o1 m1 c1, .bool b2, .slice o2 m2 c2] ∧ Hid (∀ w', Below w.heap.size w w' → QotE w' (.agg #[.bool b1, .slice o1 m1 c1, .bool b2, .slice o2 m2 c2]) err n d) := by
  have h' := h
  obtain ⟨b1, o1, m1, c1, b2, o2, m2, c2, rfl, _⟩ := h
  exact ⟨b1, o1, m1, c1, b2, o2, m2, c2, rfl, hid (fun w' hb => h'.below hb (Nat.le_refl _))⟩
theorem sp_empty (w : World) (B : Nat) (b : Bool) : Sp w B (.agg #[.bool b, .slice none 0 0]) := ⟨b, none, 0, 0, rfl, by decide, Nat.le_refl _, by decide, fun h => by omega⟩
theorem RatE.rt {w : World} {B : Nat} {v : Value} {x : Int} (h : RatE w B v 0 x 1) : Rt w v x 1 200 := by
  obtain ⟨b1, o1, m1, c1, b2, o2, m2, c2, rfl, _, _, h3⟩ := h
  have hg : gsg x 1 = 1 := by unfold gsg; simp
  rcases h3 with ⟨_, _, a1, a2⟩ | ⟨h, _⟩
  · rw [hg, Int.fdiv_one] at a1 a2
    exact ⟨b1, o1, m1, c1, b2, o2, m2, c2, rfl, a1, a2⟩
  · exact absurd h (by decide)
theorem RatE.sps {w : World} {B : Nat} {b1 b2 : Bool} {o1 o2 : Option Addr} {m1 c1 m2 c2 : Nat} {err n d : Int} (h : RatE w B (.agg #[.bool b1, .slice o1 m1 c1, .bool b2, .slice o2 m2 c2]) err n d) : Sp w B (.agg #[.bool b1, .slice o1 m1 c1]) ∧ Sp w B (.agg #[.bool b2, .slice o2 m2 c2]) := by
  obtain ⟨p1, q1, n1, d1, p2, q2, n2, d2, e, h1, h2, _⟩ := h
  injection e with e
  simp at e
  obtain ⟨rfl, ⟨rfl, rfl, rfl⟩, rfl, rfl, rfl, rfl⟩ := e
  exact ⟨h1, h2⟩
end Go.Proofs.YtbapeilpkhbbeaaGreat

/- Integers in normal form that a call hands back. -/
namespace Go.Proofs.YtbapeilpkhbbeaaGreat
open Go.RowKit

theorem An.mono {w : World} {v : Value} {z : Int} {K K' : Nat} (h : An w v z K) (hK : K ≤ K') : An w v z K' := by
  obtain ⟨ao, c, L, e, h1, h2, h3, h4, h5⟩ := h
  exact ⟨ao, c, L, e, h1, h2, h3, h4, Nat.le_trans h5 hK⟩
theorem An.ai {w : World} {v : Value} {z : Int} {K : Nat} (h : An w v z K) : Ai w v z K := by
  obtain ⟨ao, c, L, rfl, h1, h2, h3, h4, h5⟩ := h
  refine ⟨_, ao, c, L, rfl, h1, h2, h5, ?_⟩
  rw [h4]
  unfold sgn
  by_cases hz : z < 0
  · rw [decide_eq_true hz]; simp; omega
  · rw [decide_eq_false hz]; simp; omega
end Go.Proofs.YtbapeilpkhbbeaaGreat

/- The document's ratios by values: lowest, Whole; both packages' ratios side by side: Same, isRatio. -/
namespace Go.Proofs.YtbapeilpkhbbeaaGreat
open Go.RowKit

/-- The document's ratio of the value n over d. -/
def Qv (w : World) (q : Value) (n d : Int) (K : Nat) : Prop := 0 < d ∧ Qt w q (lowN n d) (lowD n d) K
theorem Qv.below {w w' : World} {v : Value} {n d : Int} {K B : Nat} (h : Qv w v n d K) (hb : Below B w w') (hB : w.heap.size ≤ B) : Qv w' v n d K := ⟨h.1, h.2.below hb hB⟩
theorem Qv.mono {w : World} {v : Value} {n d : Int} {K K' : Nat} (h : Qv w v n d K) (hK : K ≤ K') : Qv w v n d K' := by
  obtain ⟨h0, b1, o1, m1, c1, b2, o2, m2, c2, e, h1, h2⟩ := h
  exact ⟨h0, b1, o1, m1, c1, b2, o2, m2, c2, e, h1.mono hK, h2.mono hK⟩
theorem Qv.conv {w : World} {v : Value} {n d m e : Int} {K : Nat} (h : Qv w v n d K) (he : 0 < e) (hv : n * e = m * d) : Qv w v m e K := by
  obtain ⟨h0, h⟩ := h
  have hl := low_uniq h0 he hv
  rw [hl.1, hl.2] at h
  exact ⟨he, h⟩
theorem Qv.opened {w : World} {v : Value} {n d : Int} {K : Nat} (h : Qv w v n d K) : ∃ b1 o1 m1 c1 b2 o2 m2 c2, v = .agg #[.bool b1, .slice o1 m1 c1, .bool b2, .slice o2 m2 c2] ∧ Hid (∀ w', Below w.heap.size w w' → Qv w' (.agg #[.bool b1, .slice o1 m1 c1, .bool b2, .slice o2 m2 c2]) n d K) := by
  have h' := h
  obtain ⟨h0, b1, o1, m1, c1, b2, o2, m2, c2, rfl, h1, h2⟩ := h
  exact ⟨b1, o1, m1, c1, b2, o2, m2, c2, rfl, hid (fun w' hb => h'.below hb (Nat.le_refl _))⟩
theorem Qv.num {w : World} {b1 b2 : Bool} {o1 o2 : Option Addr} {m1 c1 m2 c2 : Nat} {n d : Int} {K : Nat} (h : Qv w (.agg #[.bool b1, .slice o1 m1 c1, .bool b2, .slice o2 m2 c2]) n d K) : Zt w (.agg #[.bool b1, .slice o1 m1 c1]) (lowN n d) K ∧ Zt w (.agg #[.bool b2, .slice o2 m2 c2]) (lowD n d) K := by
  obtain ⟨h0, p1, q1, n1, d1, p2, q2, n2, d2, e, h1, h2⟩ := h
  injection e with e
  simp at e
  obtain ⟨rfl, ⟨rfl, rfl, rfl⟩, rfl, rfl, rfl, rfl⟩ := e
  exact ⟨h1, h2⟩
/-- The call hands back the document's ratio of the value n over d, open. -/
def RetQ (w : World) (n d : Int) (R : Nat) (e : Ending) (w' : World) : Prop := ∃ b1 o1 m1 c1 b2 o2 m2 c2, e = .returned (.agg #[.bool b1, .slice o1 m1 c1, .bool b2, .slice o2 m2 c2]) ∧ Hid (Qv w' (.agg #[.bool b1, .slice o1 m1 c1, .bool b2, .slice o2 m2 c2]) n d R) ∧ Below w.heap.size w w'
theorem retQ {w w' : World} {f : Value} {n d m e : Int} {K R : Nat} (h : Qv w' f n d K) (he : 0 < e) (hv : n * e = m * d) (hK : K ≤ R) (hb : Below w.heap.size w w') : RetQ w m e R (.returned f) w' := by
  have h2 := (h.conv he hv).mono hK
  obtain ⟨b1, o1, m1, c1, b2, o2, m2, c2, rfl, _⟩ := Qv.opened h2
  exact ⟨b1, o1, m1, c1, b2, o2, m2, c2, rfl, hid h2, hb⟩
theorem RetQ.conv {w w' : World} {n d m e : Int} {K R : Nat} {en : Ending} (h : RetQ w n d K en w') (he : 0 < e) (hv : n * e = m * d) (hK : K ≤ R) : RetQ w m e R en w' := by
  obtain ⟨b1, o1, m1, c1, b2, o2, m2, c2, rfl, H, hb⟩ := h
  exact ⟨b1, o1, m1, c1, b2, o2, m2, c2, rfl, hid ((H.out.conv he hv).mono hK), hb⟩
theorem ratN_rn (n : Int) {d : Int} (hd : d ≠ 0) : ratN n d = rn n d ∧ (d.natAbs : Int) = rd d := by
  unfold ratN rn rd
  rw [if_neg hd, if_neg hd]
  exact ⟨rfl, rfl⟩
theorem ratN_pos (n : Int) {d : Int} (hd : 0 < d) : ratN n d = n ∧ (d.natAbs : Int) = d := by
  have h1 := ratN_rn n (show d ≠ 0 by omega)
  have h2 := rn_pos n hd
  exact ⟨h1.1.trans h2.1, by omega⟩
theorem rlowest_v (u v : Value) (n d : Int) (K R : Nat) (w : World) (hu : Zt w u n K) (hv : Zt w v d K) (hd : 0 < d) (hK : K ≤ 67108864) (hK4 : 4 ≤ K) (hR : K + 3 ≤ R) :
    Calls Tryz.prog 51 #[u, v] w (RetQ w n d R) := by
  refine (rlowest_any u v n d K w hu hv (by omega) hK hK4).mono ?_
  rintro e w' ⟨f, rfl, hf, hb⟩
  have hl := low_same n d (by omega)
  rw [(ratN_pos n hd).1, (ratN_pos n hd).2] at hl
  rw [← hl.1, ← hl.2] at hf
  exact retQ ⟨hd, hf⟩ hd rfl hR hb
theorem rlowest_r (u v : Value) (n d : Int) (K R : Nat) (w : World) (hu : Zt w u n K) (hv : Zt w v d K) (hd : d ≠ 0) (hK : K ≤ 67108864) (hK4 : 4 ≤ K) (hR : K + 3 ≤ R) :
    Calls Tryz.prog 51 #[u, v] w (RetQ w (rn n d) (rd d) R) := by
  refine (rlowest_any u v n d K w hu hv hd hK hK4).mono ?_
  rintro e w' ⟨f, rfl, hf, hb⟩
  have hl := low_same n d hd
  rw [(ratN_rn n hd).1, (ratN_rn n hd).2] at hl
  rw [← hl.1, ← hl.2] at hf
  exact retQ ⟨rd_pos d, hf⟩ (rd_pos d) rfl hR hb
theorem low_one (x : Int) : lowN x 1 = x ∧ lowD x 1 = 1 := by
  have h := low_val x (show (0 : Int) < 1 by decide)
  have h1 : lowD x 1 = 1 := by
    have := (low_small x (show (0 : Int) < 1 by decide)).1
    omega
  rw [h1] at h
  exact ⟨by omega, h1⟩
theorem Qt.whole {w : World} {v : Value} {x : Int} {K : Nat} (h : Qt w v x 1 K) : Qv w v x 1 K := by
  refine ⟨by decide, ?_⟩
  rw [(low_one x).1, (low_one x).2]
  exact h
theorem rwhole_v (u : Value) (x : Int) (K : Nat) (w : World) (hu : Zt w u x K) (hK : 4 ≤ K) :
    Calls Tryz.prog 77 #[u] w (RetQ w x 1 K) := by
  refine (rwhole_any u x K w hu hK).mono ?_
  rintro e w' ⟨f, rfl, hf, hb⟩
  exact retQ hf.whole (by decide) rfl (Nat.le_refl _) hb

/-- A ratio that the program has given back, in new memory: the value n over d in normal form. -/
def Pv (w : World) (B : Nat) (v : Value) (n d : Int) : Prop := ∃ b1 o1 m1 c1 b2 o2 m2 c2, v = .agg #[.bool b1, .slice o1 m1 c1, .bool b2, .slice o2 m2 c2] ∧ El w B (.agg #[.bool b1, .slice o1 m1 c1]) (lowN n d) ∧ El w B (.agg #[.bool b2, .slice o2 m2 c2]) (lowD n d)
theorem Pv.below {w w' : World} {B B' : Nat} {v : Value} {n d : Int} (h : Pv w B v n d) (hb : Below B' w w') (hB : w.heap.size ≤ B') : Pv w' B v n d := by
  obtain ⟨b1, o1, m1, c1, b2, o2, m2, c2, rfl, h1, h2⟩ := h
  exact ⟨b1, o1, m1, c1, b2, o2, m2, c2, rfl, h1.below hb hB, h2.below hb hB⟩
theorem FrR.pv {w1 w : World} {v : Value} {z d n e : Int} {K B : Nat} (h : FrR w1 w v (lowN z d) (lowD z d) K) (hd : 0 < d) (he : 0 < e) (hv : z * e = n * d) (hK : K ≤ 200) (hB : B ≤ w1.heap.size) : Pv w B v n e := by
  obtain ⟨b1, o1, m1, c1, b2, o2, m2, c2, rfl, H1, H2⟩ := FrR.opened h
  have hl := low_uniq hd he hv
  have e1 := FrA.el H1.out hK hB
  have e2 := FrA.el H2.out hK hB
  rw [hl.1] at e1
  rw [hl.2] at e2
  exact ⟨b1, o1, m1, c1, b2, o2, m2, c2, rfl, e1, e2⟩
theorem Pv.opened {w : World} {B : Nat} {v : Value} {n d : Int} (h : Pv w B v n d) : ∃ b1 o1 m1 c1 b2 o2 m2 c2, v = .agg #[.bool b1, .slice o1 m1 c1, .bool b2, .slice o2 m2 c2] ∧ Hid (∀ w', Below w.heap.size w w' → Pv w' B (.agg #[.bool b1, .slice o1 m1 c1, .bool b2, .slice o2 m2 c2]) n d) := by
  have h' := h
  obtain ⟨b1, o1, m1, c1, b2, o2, m2, c2, rfl, h1, h2⟩ := h
  exact ⟨b1, o1, m1, c1, b2, o2, m2, c2, rfl, hid (fun w' hb => h'.below hb (Nat.le_refl _))⟩
theorem Pv.rt {w : World} {B : Nat} {v : Value} {n d : Int} (h : Pv w B v n d) : Rt w v (lowN n d) (lowD n d) 200 := by
  obtain ⟨b1, o1, m1, c1, b2, o2, m2, c2, rfl, h1, h2⟩ := h
  exact ⟨b1, o1, m1, c1, b2, o2, m2, c2, rfl, h1.1, h2.1⟩
theorem Pv.sps {w : World} {B : Nat} {b1 b2 : Bool} {o1 o2 : Option Addr} {m1 c1 m2 c2 : Nat} {n d : Int} (h : Pv w B (.agg #[.bool b1, .slice o1 m1 c1, .bool b2, .slice o2 m2 c2]) n d) : Sp w B (.agg #[.bool b1, .slice o1 m1 c1]) ∧ Sp w B (.agg #[.bool b2, .slice o2 m2 c2]) := by
  obtain ⟨p1, q1, n1, d1, p2, q2, n2, d2, e, h1, h2⟩ := h
  injection e with e
  simp at e
  obtain ⟨rfl, ⟨rfl, rfl, rfl⟩, rfl, rfl, rfl, rfl⟩ := e
  exact ⟨h1.2, h2.2⟩
/-- With its error. -/
def PvE (w : World) (B : Nat) (v : Value) (err n d : Int) : Prop := ∃ b1 o1 m1 c1 b2 o2 m2 c2, v = .agg #[.bool b1, .slice o1 m1 c1, .bool b2, .slice o2 m2 c2] ∧ ((err = 0 ∧ Pv w B (.agg #[.bool b1, .slice o1 m1 c1, .bool b2, .slice o2 m2 c2]) n d) ∨ (err ≠ 0 ∧ b1 = false ∧ o1 = none ∧ m1 = 0 ∧ c1 = 0 ∧ b2 = false ∧ o2 = none ∧ m2 = 0 ∧ c2 = 0))
def QvE (w : World) (v : Value) (err n d : Int) : Prop := ∃ b1 o1 m1 c1 b2 o2 m2 c2, v = .agg #[.bool b1, .slice o1 m1 c1, .bool b2, .slice o2 m2 c2] ∧ ((err = 0 ∧ ∃ K, K ≤ 268435456 ∧ Qv w (.agg #[.bool b1, .slice o1 m1 c1, .bool b2, .slice o2 m2 c2]) n d K) ∨ err ≠ 0)
theorem PvE.below {w w' : World} {B B' : Nat} {v : Value} {err n d : Int} (h : PvE w B v err n d) (hb : Below B' w w') (hB : w.heap.size ≤ B') : PvE w' B v err n d := by
  obtain ⟨b1, o1, m1, c1, b2, o2, m2, c2, e, h⟩ := h
  refine ⟨b1, o1, m1, c1, b2, o2, m2, c2, e, ?_⟩
  rcases h with ⟨h1, h2⟩ | h
  · exact Or.inl ⟨h1, h2.below hb hB⟩
  · exact Or.inr h
theorem QvE.below {w w' : World} {B' : Nat} {v : Value} {err n d : Int} (h : QvE w v err n d) (hb : Below B' w w') (hB : w.heap.size ≤ B') : QvE w' v err n d := by
  obtain ⟨b1, o1, m1, c1, b2, o2, m2, c2, e, h⟩ := h
  refine ⟨b1, o1, m1, c1, b2, o2, m2, c2, e, ?_⟩
  rcases h with ⟨h1, K, hK, h2⟩ | h
  · exact Or.inl ⟨h1, K, hK, h2.below hb hB⟩
  · exact Or.inr h
def RetPE (w : World) (B : Nat) (err n d : Int) (e : Ending) (w' : World) : Prop := ∃ b1 o1 m1 c1 b2 o2 m2 c2, e = .returned (.tuple #[.agg #[.bool b1, .slice o1 m1 c1, .bool b2, .slice o2 m2 c2], .int .i64 err]) ∧ Hid (PvE w' B (.agg #[.bool b1, .slice o1 m1 c1, .bool b2, .slice o2 m2 c2]) err n d) ∧ Below w.heap.size w w'
def RetQvE (w : World) (err n d : Int) (e : Ending) (w' : World) : Prop := ∃ b1 o1 m1 c1 b2 o2 m2 c2, e = .returned (.tuple #[.agg #[.bool b1, .slice o1 m1 c1, .bool b2, .slice o2 m2 c2], .int .i64 err]) ∧ Hid (QvE w' (.agg #[.bool b1, .slice o1 m1 c1, .bool b2, .slice o2 m2 c2]) err n d) ∧ Below w.heap.size w w'
theorem Pv.retE {w w' : World} {B : Nat} {v : Value} {n d : Int} (h : Pv w' B v n d) (hb : Below w.heap.size w w') : RetPE w B 0 n d (.returned (.tuple #[v, .int .i64 0])) w' := by
  have h' := h
  obtain ⟨b1, o1, m1, c1, b2, o2, m2, c2, rfl, _⟩ := Pv.opened h
  exact ⟨b1, o1, m1, c1, b2, o2, m2, c2, rfl, hid ⟨b1, o1, m1, c1, b2, o2, m2, c2, rfl, Or.inl ⟨rfl, h'⟩⟩, hb⟩
theorem retPE_bad {w w' : World} (B : Nat) {err : Int} (n d : Int) (he : err ≠ 0) (hb : Below w.heap.size w w') : RetPE w B err n d (.returned (.tuple #[.agg #[.bool false, .slice none 0 0, .bool false, .slice none 0 0], .int .i64 err])) w' :=
  ⟨_, _, _, _, _, _, _, _, rfl, hid ⟨_, _, _, _, _, _, _, _, rfl, Or.inr ⟨he, rfl, rfl, rfl, rfl, rfl, rfl, rfl, rfl⟩⟩, hb⟩
theorem RetQ.retE {w w' : World} {n d : Int} {K : Nat} {e : Ending} (h : RetQ w n d K e w') (hK : K ≤ 268435456) : ∃ v, e = .returned v ∧ RetQvE w 0 n d (.returned (.tuple #[v, .int .i64 0])) w' := by
  obtain ⟨b1, o1, m1, c1, b2, o2, m2, c2, rfl, H, hb⟩ := h
  exact ⟨_, rfl, b1, o1, m1, c1, b2, o2, m2, c2, rfl, hid ⟨b1, o1, m1, c1, b2, o2, m2, c2, rfl, Or.inl ⟨rfl, K, hK, H.out⟩⟩, hb⟩
theorem retQvE_bad {w w' : World} {err : Int} (n d : Int) (he : err ≠ 0) (hb : Below w.heap.size w w') : RetQvE w err n d (.returned (.tuple #[.agg #[.bool false, .slice none 0 0, .bool false, .slice none 0 0], .int .i64 err])) w' :=
  ⟨_, _, _, _, _, _, _, _, rfl, hid ⟨_, _, _, _, _, _, _, _, rfl, Or.inr he⟩, hb⟩
theorem isRatio_pv (v q : Value) (err n d : Int) (B : Nat) (w : World) (hv : PvE w B v err n d) (hq : QvE w q err n d) :
    Calls Tryz.prog 21 #[v, .int .i64 err, q, .int .i64 err] w fun e w' => e = .returned (.bool true) ∧ Below w.heap.size w w' := by
  obtain ⟨b1, o1, m1, c1, b2, o2, m2, c2, rfl, h⟩ := hv
  obtain ⟨p1, q1, n1, d1, p2, q2, n2, d2, rfl, g⟩ := hq
  rcases h with ⟨rfl, h⟩ | ⟨he, rfl, rfl, rfl, rfl, rfl, rfl, rfl, rfl⟩
  · rcases g with ⟨_, K, hK, g⟩ | g
    · exact isRatio_same _ _ _ _ 200 K w h.rt g.2 hK
    · exact absurd rfl g
  · exact isRatio_none _ _ _ _ err w he _ ⟨_, _, _, _, _, _, _, _, rfl⟩
theorem PvE.sps {w : World} {B : Nat} {b1 b2 : Bool} {o1 o2 : Option Addr} {m1 c1 m2 c2 : Nat} {err n d : Int} (h : PvE w B (.agg #[.bool b1, .slice o1 m1 c1, .bool b2, .slice o2 m2 c2]) err n d) : Sp w B (.agg #[.bool b1, .slice o1 m1 c1]) ∧ Sp w B (.agg #[.bool b2, .slice o2 m2 c2]) := by
  obtain ⟨p1, q1, n1, d1, p2, q2, n2, d2, e, h⟩ := h
  injection e with e
  simp at e
  obtain ⟨rfl, ⟨rfl, rfl, rfl⟩, rfl, rfl, rfl, rfl⟩ := e
  rcases h with ⟨_, h⟩ | ⟨_, rfl, rfl, rfl, rfl, rfl, rfl, rfl, rfl⟩
  · exact h.sps
  · exact ⟨sp_empty w B _, sp_empty w B _⟩
end Go.Proofs.YtbapeilpkhbbeaaGreat

/- exact.raise. Written by gen_power.py. -/
namespace Go.Proofs.YtbapeilpkhbbeaaGreat
open Go.RowKit

end Go.Proofs.YtbapeilpkhbbeaaGreat

/- exact.Div. Written by gen_ediv.py. -/
namespace Go.Proofs.YtbapeilpkhbbeaaGreat
open Go.RowKit

end Go.Proofs.YtbapeilpkhbbeaaGreat

/- exact.Power, exact.Root. Written by gen_power.py. -/
namespace Go.Proofs.YtbapeilpkhbbeaaGreat
open Go.RowKit

end Go.Proofs.YtbapeilpkhbbeaaGreat

/- A variable of the document's integers in a block of its own. -/
namespace Go.Proofs.YtbapeilpkhbbeaaGreat
open Go.RowKit

/-- Block g holds the integer z. -/
def CellZ (w : World) (g : Nat) (z : Int) (K : Nat) : Prop := ∃ b o m c, w.cell? ⟨g, 0, none⟩ = some (.bool b) ∧ w.cell? ⟨g, 1, none⟩ = some (.slice o m c) ∧ w.frozen? ⟨g, 0, none⟩ = false ∧ w.frozen? ⟨g, 1, none⟩ = false ∧ Zt w (.agg #[.bool b, .slice o m c]) z K
theorem CellZ.lt {w : World} {g : Nat} {z : Int} {K : Nat} (h : CellZ w g z K) : g < w.heap.size := by
  obtain ⟨b, o, m, c, h0, _⟩ := h
  exact World.block_lt_of_cell? _ _ h0
theorem CellZ.mono {w : World} {g : Nat} {z : Int} {K K' : Nat} (h : CellZ w g z K) (hk : K ≤ K') : CellZ w g z K' := by
  obtain ⟨b, o, m, c, h0, h1, h2, h3, hz⟩ := h
  exact ⟨b, o, m, c, h0, h1, h2, h3, hz.mono hk⟩
theorem CellZ.below {w w' : World} {g : Nat} {z : Int} {K B : Nat} (h : CellZ w g z K) (hb : Below B w w') (hB : w.heap.size ≤ B) : CellZ w' g z K := by
  have hl : g < B := Nat.lt_of_lt_of_le h.lt hB
  obtain ⟨b, o, m, c, h0, h1, h2, h3, hz⟩ := h
  exact ⟨b, o, m, c, (hb.cell (p := ⟨g, 0, none⟩) hl).trans h0, (hb.cell (p := ⟨g, 1, none⟩) hl).trans h1, (hb.frozen (p := ⟨g, 0, none⟩) hl).trans h2, (hb.frozen (p := ⟨g, 1, none⟩) hl).trans h3, hz.below hb hB⟩
theorem CellZ.opened {w : World} {g : Nat} {z : Int} {K : Nat} (h : CellZ w g z K) : ∃ b o m c, Hid (∀ w', Below w.heap.size w w' → w'.cell? ⟨g, 0, none⟩ = some (.bool b) ∧ w'.cell? ⟨g, 1, none⟩ = some (.slice o m c) ∧ w'.frozen? ⟨g, 0, none⟩ = false ∧ w'.frozen? ⟨g, 1, none⟩ = false) ∧
    Hid (∀ w', Below w.heap.size w w' → Zt w' (.agg #[.bool b, .slice o m c]) z K) ∧ Hid (∀ w', Below w.heap.size w w' → Md w' (.slice o m c) (z.natAbs : Int) K) ∧ Hid (b = decide (z < 0)) := by
  have hl := h.lt
  obtain ⟨b, o, m, c, h0, h1, h2, h3, hz⟩ := h
  obtain ⟨b', o', m', c', e, H1, H2, H3⟩ := Zt.opened hz
  cases e
  exact ⟨b, o, m, c, hid (fun w' hb => ⟨(hb.cell (p := ⟨g, 0, none⟩) hl).trans h0, (hb.cell (p := ⟨g, 1, none⟩) hl).trans h1, (hb.frozen (p := ⟨g, 0, none⟩) hl).trans h2, (hb.frozen (p := ⟨g, 1, none⟩) hl).trans h3⟩), H1, H2, H3⟩
theorem CellZ.new {w : World} {T : TypeId} {b : Bool} {o : Option Addr} {m c : Nat} {z : Int} {K : Nat} (hz : Zt w (.agg #[.bool b, .slice o m c]) z K) : CellZ (w.alloc (.cells #[.bool b, .slice o m c] T)) w.heap.size z K :=
  ⟨b, o, m, c, by simp [go_sem], by simp [go_sem], by simp [go_sem], by simp [go_sem], hz.below ((Below.refl _ _).alloc (Nat.le_refl _) _) (Nat.le_refl _)⟩
theorem CellZ.keeps {w : World} {g : Nat} {z : Int} {K : Nat} (h : CellZ w g z K) (u0 u1 : Value) : Keeps .i64 w ((w.setCell ⟨g, 0, none⟩ u0).setCell ⟨g, 1, none⟩ u1) := by
  obtain ⟨b, o, m, c, h0, h1, h2, h3, hz⟩ := h
  exact keeps_two h0 h1 nofun nofun u0 u1
theorem CellZ.store {w : World} {g : Nat} {z z' : Int} {K K' : Nat} (h : CellZ w g z K) {b : Bool} {o : Option Addr} {m c : Nat} (hz : Zt w (.agg #[.bool b, .slice o m c]) z' K') : CellZ ((w.setCell ⟨g, 0, none⟩ (.bool b)).setCell ⟨g, 1, none⟩ (.slice o m c)) g z' K' := by
  have hk := h.keeps (.bool b) (.slice o m c)
  obtain ⟨b', o', m', c', h0, h1, h2, h3, _⟩ := h
  have ht := two_cells h0 h1 (.bool b) (.slice o m c)
  exact ⟨b, o, m, c, ht.1, ht.2, by simpa using h2, by simpa using h3, zt_keeps hk hz⟩
theorem CellZ.other {w : World} {g g' : Nat} {z z' : Int} {K K' : Nat} (h : CellZ w g z K) (h' : CellZ w g' z' K') (hne : g' ≠ g) (u0 u1 : Value) : CellZ ((w.setCell ⟨g', 0, none⟩ u0).setCell ⟨g', 1, none⟩ u1) g z K := by
  have hk := h'.keeps u0 u1
  obtain ⟨b, o, m, c, h0, h1, h2, h3, hz⟩ := h
  refine ⟨b, o, m, c, ?_, ?_, by simpa using h2, by simpa using h3, zt_keeps hk hz⟩
  · rw [World.cell?_setCell_other _ _ _ _ (by simp <;> exact hne), World.cell?_setCell_other _ _ _ _ (by simp <;> exact hne)]; exact h0
  · rw [World.cell?_setCell_other _ _ _ _ (by simp <;> exact hne), World.cell?_setCell_other _ _ _ _ (by simp <;> exact hne)]; exact h1
theorem Md.onlyOne {w : World} {v : Value} {n n' : Int} {K K' : Nat} (h : Md w v n K) (h' : Md w v n' K') : n = n' := by
  obtain ⟨ao, c, L, rfl, h⟩ := h
  obtain ⟨ao', c', L', e, h'⟩ := h'
  obtain ⟨e1, e2, _⟩ := Value.slice.inj e
  subst e1
  rw [← h.eq, ← h'.eq, Rd.unique h.rd h'.rd e2]
open Classical in
/-- The number of a variable's block, 0 if none. -/
noncomputable def cellNat (w : World) (g : Nat) : Nat := if h : ∃ n : Int, ∃ v K, w.cell? ⟨g, 1, none⟩ = some v ∧ Md w v n K then (Classical.choose h).toNat else 0
theorem cellNat_eq {w : World} {g : Nat} {z : Int} {K : Nat} (h : CellZ w g z K) : cellNat w g = z.natAbs := by
  obtain ⟨b, o, m, c, h0, h1, h2, h3, hz⟩ := h
  obtain ⟨s, e, hm⟩ := hz
  cases e
  have hx : ∃ n : Int, ∃ v K, w.cell? ⟨g, 1, none⟩ = some v ∧ Md w v n K := ⟨_, _, K, h1, hm⟩
  unfold cellNat
  rw [dif_pos hx]
  obtain ⟨v', K', e', hm'⟩ := Classical.choose_spec hx
  have ev : Value.slice o m c = v' := Option.some.inj (h1.symm.trans e')
  subst ev
  rw [hm'.onlyOne hm]; simp
end Go.Proofs.YtbapeilpkhbbeaaGreat

/- The document's own integers: Power. -/
namespace Go.Proofs.YtbapeilpkhbbeaaGreat
open Go.RowKit

end Go.Proofs.YtbapeilpkhbbeaaGreat

/- The document's own integers: Root. Written by gen_rroot.py. -/
namespace Go.Proofs.YtbapeilpkhbbeaaGreat
open Go.RowKit

/-- What is known of the root so far; bit: the next one that is tried. -/
def RootN (x out bit : Int) (t T : Nat) : Prop := 0 ≤ out ∧ out * out ≤ x ∧ ((bit = 0 ∧ x < (out + 1) * (out + 1) ∧ t ≤ T + 1) ∨ (∃ j : Nat, t + j ≤ T ∧ bit = 2 ^ j ∧ x < (out + 2 * bit) * (out + 2 * bit)))
theorem RootN.no {x out : Int} {j t T : Nat} (ho : 0 ≤ out) (hox : out * out ≤ x) (ht : t + j ≤ T) (h : x < (out + 2 ^ j) * (out + 2 ^ j)) : RootN x out (2 ^ j / 2) (t + 1) T := by
  refine ⟨ho, hox, ?_⟩
  cases j with
  | zero => left; simp at h ⊢; exact ⟨h, by omega⟩
  | succ j =>
    right
    have e : (2 : Int) ^ (j + 1) / 2 = 2 ^ j := by rw [Int.pow_succ]; omega
    refine ⟨j, by omega, e, ?_⟩
    rw [e]
    rw [Int.pow_succ] at h
    rw [show out + 2 * 2 ^ j = out + 2 ^ j * 2 by omega]; exact h

structure R1 (w W0 wr : World) (go gb i : Nat) (p : Int) : Prop where
  celO : CellZ wr go 0 0
  celB : CellZ wr gb p (4 + i)
  num : p = 2 ^ i
  low : Below (w.heap.size + 2) W0 wr
end Go.Proofs.YtbapeilpkhbbeaaGreat

/- What the law ExactDivides asks of an integer and its error, the program's beside the document's: Div, Root, Power; is over both. -/
namespace Go.Proofs.YtbapeilpkhbbeaaGreat
open Go.RowKit

/-- An integer that the program gives back, with its error. -/
def IntE (w : World) (v : Value) (err z : Int) : Prop := ∃ b o m c, v = .agg #[.bool b, .slice o m c] ∧ ((err = 0 ∧ ∃ K, An w v z K) ∨ (err ≠ 0 ∧ b = false ∧ m = 0))
/-- The document's. -/
def ZE (w : World) (v : Value) (err z : Int) : Prop := ∃ b o m c, v = .agg #[.bool b, .slice o m c] ∧ ((err = 0 ∧ ∃ K, K ≤ 268435456 ∧ Zt w v z K) ∨ err ≠ 0)
theorem IntE.below {w w' : World} {B : Nat} {v : Value} {err z : Int} (h : IntE w v err z) (hb : Below B w w') (hB : w.heap.size ≤ B) : IntE w' v err z := by
  obtain ⟨b, o, m, c, e, h⟩ := h
  refine ⟨b, o, m, c, e, ?_⟩
  rcases h with ⟨h1, K, h2⟩ | h
  · exact Or.inl ⟨h1, K, h2.below hb hB⟩
  · exact Or.inr h
theorem ZE.below {w w' : World} {B : Nat} {v : Value} {err z : Int} (h : ZE w v err z) (hb : Below B w w') (hB : w.heap.size ≤ B) : ZE w' v err z := by
  obtain ⟨b, o, m, c, e, h⟩ := h
  refine ⟨b, o, m, c, e, ?_⟩
  rcases h with ⟨h1, K, hK, h2⟩ | h
  · exact Or.inl ⟨h1, K, hK, h2.below hb hB⟩
  · exact Or.inr h
theorem IntE.opened {w : World} {v : Value} {err z : Int} (h : IntE w v err z) : ∃ b o m c, v = .agg #[.bool b, .slice o m c] ∧ Hid (∀ w', Below w.heap.size w w' → IntE w' (.agg #[.bool b, .slice o m c]) err z) := by
  have h' := h
  obtain ⟨b, o, m, c, rfl, _⟩ := h
  exact ⟨b, o, m, c, rfl, hid (fun w' hb => h'.below hb (Nat.le_refl _))⟩
theorem ZE.opened {w : World} {v : Value} {err z : Int} (h : ZE w v err z) : ∃ b o m c, v = .agg #[.bool b, .slice o m c] ∧ Hid (∀ w', Below w.heap.size w w' → ZE w' (.agg #[.bool b, .slice o m c]) err z) := by
  have h' := h
  obtain ⟨b, o, m, c, rfl, _⟩ := h
  exact ⟨b, o, m, c, rfl, hid (fun w' hb => h'.below hb (Nat.le_refl _))⟩
end Go.Proofs.YtbapeilpkhbbeaaGreat

/- exact.groups: the iterator at numbers of one limb below the group's size: one round. -/
namespace Go.Proofs.YtbapeilpkhbbeaaGreat
open Go.RowKit Go.Shelf
attribute [local go_sem] Oper.semAt_some

end Go.Proofs.YtbapeilpkhbbeaaGreat
