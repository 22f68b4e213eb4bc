/- The document's ratios: Make; and that both packages mean the same ratio in lowest terms. The document's ratios: Make. What the laws ask of a ratio and its error, the program's beside the document's: Over, Make, Whole; isRatio over both. Integers in normal form that a call hands back. The document's ratios by values: lowest, Whole; both packages' ratios side by side: Same, isRatio. exact.Power, exact.Root. Written by gen_power.py. A variable of the document's integers in a block of its own. The document's own integers: Power. The document's own integers: Root. Written by gen_rroot.py. What the law ExactDivides asks of an integer and its error, the program's beside the document's: Div, Root, Power; is over both. -/
import Derived.Test.YtbapeilpkhbbeaaGreatDoorYn41
import Derived.Test.YtbapeilpkhbbeaaGreatDoorYn40
import Derived.Test.YtbapeilpkhbbeaaGreatDoorYn26
import Derived.Test.YtbapeilpkhbbeaaGreatDoorYn29
import Derived.Test.YtbapeilpkhbbeaaGreatDoorYn30
import Derived.Test.YtbapeilpkhbbeaaGreatDoorYn38
import Derived.Test.YtbapeilpkhbbeaaGreatDoorYn24
import Derived.Test.YtbapeilpkhbbeaaGreatDoorYn12
import Derived.Test.YtbapeilpkhbbeaaGreatDoorYn09
import Derived.Deep.RegionHeld3
/- The document's ratios: Make; and that both packages mean the same ratio in lowest terms. -/
namespace Go.Proofs.YtbapeilpkhbbeaaGreatDoor
open Go.RowKit

theorem rlowest_any (u v : Value) (n d : Int) (K : Nat) (w : World) (hu : Zt w u n K) (hv : Zt w v d K) (hd : d ≠ 0) (hK : K ≤ 67108864) (hK4 : 4 ≤ K) :
    Calls Tryz.prog 18 #[u, v] w fun e w' => ∃ f, e = .returned f ∧ Qt w' f (n.fdiv (gsg n d)) (d.fdiv (gsg n d)) (K + 3) ∧ Below w.heap.size w w' := by
  rcases Int.lt_or_gt_of_ne hd with h | h
  · exact rlowest_neg u v n d K w hu hv h hK hK4
  · exact rlowest_pos u v n d K w hu hv h hK hK4

/-- The sign of a quotient over its size. -/
def ratN (n d : Int) : Int := sgn (decide (n < 0) != decide (d < 0)) (n.natAbs : Int)
theorem ratN_abs (n d : Int) : ((ratN n d).natAbs : Int) = (n.natAbs : Int) := by
  unfold ratN sgn
  split <;> omega
theorem low_same (n d : Int) (hd : d ≠ 0) : lowN (ratN n d) (d.natAbs : Int) = n.fdiv (gsg n d) ∧ lowD (ratN n d) (d.natAbs : Int) = d.fdiv (gsg n d) := by
  have hg : (Int.gcd ((ratN n d).natAbs : Int) (d.natAbs : Int) : Int) = (Int.gcd n d : Int) := by
    rw [ratN_abs]
    simp [Int.gcd]
  obtain ⟨g, hgd⟩ : ∃ g : Int, g = (Int.gcd n d : Int) := ⟨_, rfl⟩
  have hgp : 0 < g := by rw [hgd]; have := Int.gcd_pos_of_ne_zero_right n hd; omega
  obtain ⟨q, hq⟩ := Int.gcd_dvd_left n d
  obtain ⟨p, hp⟩ := Int.gcd_dvd_right n d
  have hgs : gsg n d = if d < 0 then -g else g := by unfold gsg; rw [hgd]
  rw [← hgd] at hq hp hg
  have habs : (n.natAbs : Int) = g * (q.natAbs : Int) := by
    have h1 : (n.natAbs : Int) = (g.natAbs : Int) * (q.natAbs : Int) := by rw [← Int.natCast_mul, ← Int.natAbs_mul, ← hq]
    have h2 : (g.natAbs : Int) = g := by omega
    rw [h2] at h1
    exact h1
  have habd : (d.natAbs : Int) = g * (p.natAbs : Int) := by
    have h1 : (d.natAbs : Int) = (g.natAbs : Int) * (p.natAbs : Int) := by rw [← Int.natCast_mul, ← Int.natAbs_mul, ← hp]
    have h2 : (g.natAbs : Int) = g := by omega
    rw [h2] at h1
    exact h1
  have e1 : lowN (ratN n d) (d.natAbs : Int) = sgn (decide (ratN n d < 0)) (q.natAbs : Int) := by
    unfold lowN
    rw [hg, ratN_abs, habs, Int.mul_ediv_cancel_left _ (by omega)]
  have e2 : lowD (ratN n d) (d.natAbs : Int) = (p.natAbs : Int) := by
    unfold lowD
    rw [hg, habd, Int.mul_ediv_cancel_left _ (by omega)]
  have hn0 : n < 0 ↔ q < 0 := by
    rw [hq]
    constructor
    · intro h
      by_cases hc : q < 0
      · exact hc
      · have := Int.mul_nonneg (Int.le_of_lt hgp) (show 0 ≤ q by omega); omega
    · intro h; exact Int.mul_neg_of_pos_of_neg hgp h
  have hd0 : d < 0 ↔ p < 0 := by
    rw [hp]
    constructor
    · intro h
      by_cases hc : p < 0
      · exact hc
      · have := Int.mul_nonneg (Int.le_of_lt hgp) (show 0 ≤ p by omega); omega
    · intro h; exact Int.mul_neg_of_pos_of_neg hgp h
  have hnz : n = 0 ↔ q = 0 := by
    constructor
    · intro h
      rw [hq] at h
      rcases Int.mul_eq_zero.1 h with h | h
      · omega
      · exact h
    · intro h; rw [hq, h, Int.mul_zero]
  rw [e1, e2, hgs]
  have hrat : ratN n d < 0 ↔ (n ≠ 0 ∧ (decide (n < 0) != decide (d < 0)) = true) := by
    unfold ratN sgn
    cases (decide (n < 0) != decide (d < 0)) <;> simp <;> omega
  by_cases hs : d < 0
  · rw [if_pos hs]
    have f1 := fdiv_uniq (x := n) (y := -g) (q := -q) (r := 0) (by rw [hq, Int.neg_mul_neg, Int.mul_comm]; omega) (Or.inr ⟨by omega, Int.le_refl _⟩)
    have f2 := fdiv_uniq (x := d) (y := -g) (q := -p) (r := 0) (by rw [hp, Int.neg_mul_neg, Int.mul_comm]; omega) (Or.inr ⟨by omega, Int.le_refl _⟩)
    rw [f1.1, f2.1]
    have hp0 := hd0.1 hs
    refine ⟨?_, by omega⟩
    by_cases hx : n < 0
    · have hr : ¬ ratN n d < 0 := by rw [hrat]; simp [hx, hs]
      rw [decide_eq_false hr]
      have := hn0.1 hx
      simp [sgn]; omega
    · by_cases h0 : n = 0
      · have hr : ¬ ratN n d < 0 := by rw [hrat]; simp [h0]
        rw [decide_eq_false hr]
        have := hnz.1 h0
        simp [sgn]; omega
      · have hr : ratN n d < 0 := by rw [hrat]; simp [hx, hs, h0]
        rw [decide_eq_true hr]
        have : ¬ q < 0 := fun h => hx (hn0.2 h)
        simp [sgn]; omega
  · rw [if_neg hs]
    have f1 := fdiv_uniq (x := n) (y := g) (q := q) (r := 0) (by rw [hq, Int.mul_comm]; omega) (Or.inl ⟨Int.le_refl _, hgp⟩)
    have f2 := fdiv_uniq (x := d) (y := g) (q := p) (r := 0) (by rw [hp, Int.mul_comm]; omega) (Or.inl ⟨Int.le_refl _, hgp⟩)
    rw [f1.1, f2.1]
    have hp0 : ¬ p < 0 := fun h => hs (hd0.2 h)
    refine ⟨?_, by omega⟩
    by_cases hx : n < 0
    · have hr : ratN n d < 0 := by rw [hrat]; simp [hx, hs]; omega
      rw [decide_eq_true hr]
      have := hn0.1 hx
      simp [sgn]; omega
    · have hr : ¬ ratN n d < 0 := by rw [hrat]; simp [hx, hs]
      rw [decide_eq_false hr]
      have : ¬ q < 0 := fun h => hx (hn0.2 h)
      simp [sgn]; omega
end Go.Proofs.YtbapeilpkhbbeaaGreatDoor

/- The document's ratios: Make. -/
namespace Go.Proofs.YtbapeilpkhbbeaaGreatDoor
open Go.RowKit

theorem Qt.opened {w : World} {v : Value} {x y : Int} {K : Nat} (h : Qt w v x y K) : ∃ b1 o1 m1 c1 b2 o2 m2 c2, v = .agg #[.bool b1, .slice o1 m1 c1, .bool b2, .slice o2 m2 c2] ∧ Hid (∀ w', Below w.heap.size w w' → Zt w' (.agg #[.bool b1, .slice o1 m1 c1]) x K ∧ Zt w' (.agg #[.bool b2, .slice o2 m2 c2]) y K) := by
  obtain ⟨b1, o1, m1, c1, b2, o2, m2, c2, rfl, h1, h2⟩ := h
  exact ⟨b1, o1, m1, c1, b2, o2, m2, c2, rfl, hid (fun w' hb => ⟨h1.below hb (Nat.le_refl _), h2.below hb (Nat.le_refl _)⟩)⟩
theorem zt_len {w : World} {b : Bool} {o : Option Addr} {m c K : Nat} {z : Int} (h : Zt w (.agg #[.bool b, .slice o m c]) z K) : m = 0 ↔ z = 0 := by
  obtain ⟨s, e, ao, c', L, e2, hL⟩ := h
  subst e2
  simp at e
  obtain ⟨rfl, rfl, rfl, rfl⟩ := e
  have := hL.zero_iff
  omega

end Go.Proofs.YtbapeilpkhbbeaaGreatDoor

/- What the laws ask of a ratio and its error, the program's beside the document's: Over, Make, Whole; isRatio over both. -/
namespace Go.Proofs.YtbapeilpkhbbeaaGreatDoor
open Go.RowKit

/-- A ratio that the program gives back, with its error: that of n over d, in new memory. -/
def RatE (w : World) (B : Nat) (v : Value) (err n d : Int) : Prop := ∃ b1 o1 m1 c1 b2 o2 m2 c2, v = .agg #[.bool b1, .slice o1 m1 c1, .bool b2, .slice o2 m2 c2] ∧ Sp w B (.agg #[.bool b1, .slice o1 m1 c1]) ∧ Sp w B (.agg #[.bool b2, .slice o2 m2 c2]) ∧
  ((d ≠ 0 ∧ err = 0 ∧ An w (.agg #[.bool b1, .slice o1 m1 c1]) (n.fdiv (gsg n d)) 200 ∧ An w (.agg #[.bool b2, .slice o2 m2 c2]) (d.fdiv (gsg n d)) 200) ∨ (d = 0 ∧ err = 10 ∧ b1 = false ∧ m1 = 0 ∧ b2 = false ∧ m2 = 0))
/-- The document's. -/
def QotE (w : World) (q : Value) (err n d : Int) : Prop := ∃ b1 o1 m1 c1 b2 o2 m2 c2, q = .agg #[.bool b1, .slice o1 m1 c1, .bool b2, .slice o2 m2 c2] ∧
  ((d ≠ 0 ∧ err = 0 ∧ Zt w (.agg #[.bool b1, .slice o1 m1 c1]) (n.fdiv (gsg n d)) 200 ∧ Zt w (.agg #[.bool b2, .slice o2 m2 c2]) (d.fdiv (gsg n d)) 200) ∨ (d = 0 ∧ err = 10))
theorem RatE.below {w w' : World} {B B' : Nat} {v : Value} {err n d : Int} (h : RatE w B v err n d) (hb : Below B' w w') (hB : w.heap.size ≤ B') : RatE w' B v err n d := by
  obtain ⟨b1, o1, m1, c1, b2, o2, m2, c2, rfl, h1, h2, h3⟩ := h
  refine ⟨b1, o1, m1, c1, b2, o2, m2, c2, rfl, h1.below hb hB, h2.below hb hB, ?_⟩
  rcases h3 with ⟨a, b, c, d⟩ | h
  · exact Or.inl ⟨a, b, c.below hb hB, d.below hb hB⟩
  · exact Or.inr h
theorem QotE.below {w w' : World} {B' : Nat} {v : Value} {err n d : Int} (h : QotE w v err n d) (hb : Below B' w w') (hB : w.heap.size ≤ B') : QotE w' v err n d := by
  obtain ⟨b1, o1, m1, c1, b2, o2, m2, c2, rfl, h3⟩ := h
  refine ⟨b1, o1, m1, c1, b2, o2, m2, c2, rfl, ?_⟩
  rcases h3 with ⟨a, b, c, d⟩ | h
  · exact Or.inl ⟨a, b, c.below hb hB, d.below hb hB⟩
  · exact Or.inr h
theorem RatE.opened {w : World} {B : Nat} {v : Value} {err n d : Int} (h : RatE w B v err n d) : ∃ b1 o1 m1 c1 b2 o2 m2 c2, v = .agg #[.bool b1, .slice o1 m1 c1, .bool b2, .slice o2 m2 c2] ∧ Hid (∀ w', Below w.heap.size w w' → RatE w' B (.agg #[.bool b1, .slice o1 m1 c1, .bool b2, .slice o2 m2 c2]) err n d) := by
  have h' := h
  obtain ⟨b1, o1, m1, c1, b2, o2, m2, c2, rfl, _⟩ := h
  exact ⟨b1, o1, m1, c1, b2, o2, m2, c2, rfl, hid (fun w' hb => h'.below hb (Nat.le_refl _))⟩
theorem QotE.opened {w : World} {v : Value} {err n d : Int} (h : QotE w v err n d) : ∃ b1 o1 m1 c1 b2 o2 m2 c2, v = .agg #[.bool b1, .slice o1 m1 c1, .bool b2, .slice o2 m2 c2] ∧ Hid (∀ w', Below w.heap.size w w' → QotE w' (.agg #[.bool b1, .slice o1 m1 c1, .bool b2, .slice o2 m2 c2]) err n d) := by
  have h' := h
  obtain ⟨b1, o1, m1, c1, b2, o2, m2, c2, rfl, _⟩ := h
  exact ⟨b1, o1, m1, c1, b2, o2, m2, c2, rfl, hid (fun w' hb => h'.below hb (Nat.le_refl _))⟩
end Go.Proofs.YtbapeilpkhbbeaaGreatDoor

/- Integers in normal form that a call hands back. -/
namespace Go.Proofs.YtbapeilpkhbbeaaGreatDoor
open Go.RowKit

theorem FrA.an {w0 w : World} {v : Value} {z : Int} {K : Nat} (h : FrA w0 w v z K) : An w v z K := by
  obtain ⟨s, rfl, L, ho, hd, hn, hv, hl⟩ := h
  obtain ⟨ao, c, rfl⟩ := owns_slice ho
  exact ⟨ao, c, L, rfl, owns_any ho rfl, hd, hn, hv, hl⟩
theorem An.mono {w : World} {v : Value} {z : Int} {K K' : Nat} (h : An w v z K) (hK : K ≤ K') : An w v z K' := by
  obtain ⟨ao, c, L, e, h1, h2, h3, h4, h5⟩ := h
  exact ⟨ao, c, L, e, h1, h2, h3, h4, Nat.le_trans h5 hK⟩
theorem An.ai {w : World} {v : Value} {z : Int} {K : Nat} (h : An w v z K) : Ai w v z K := by
  obtain ⟨ao, c, L, rfl, h1, h2, h3, h4, h5⟩ := h
  refine ⟨_, ao, c, L, rfl, h1, h2, h5, ?_⟩
  rw [h4]
  unfold sgn
  by_cases hz : z < 0
  · rw [decide_eq_true hz]; simp; omega
  · rw [decide_eq_false hz]; simp; omega
end Go.Proofs.YtbapeilpkhbbeaaGreatDoor

/- The document's ratios by values: lowest, Whole; both packages' ratios side by side: Same, isRatio. -/
namespace Go.Proofs.YtbapeilpkhbbeaaGreatDoor
open Go.RowKit

/-- The document's ratio of the value n over d. -/
def Qv (w : World) (q : Value) (n d : Int) (K : Nat) : Prop := 0 < d ∧ Qt w q (lowN n d) (lowD n d) K
theorem Qv.below {w w' : World} {v : Value} {n d : Int} {K B : Nat} (h : Qv w v n d K) (hb : Below B w w') (hB : w.heap.size ≤ B) : Qv w' v n d K := ⟨h.1, h.2.below hb hB⟩
theorem Qv.mono {w : World} {v : Value} {n d : Int} {K K' : Nat} (h : Qv w v n d K) (hK : K ≤ K') : Qv w v n d K' := by
  obtain ⟨h0, b1, o1, m1, c1, b2, o2, m2, c2, e, h1, h2⟩ := h
  exact ⟨h0, b1, o1, m1, c1, b2, o2, m2, c2, e, h1.mono hK, h2.mono hK⟩
theorem Qv.conv {w : World} {v : Value} {n d m e : Int} {K : Nat} (h : Qv w v n d K) (he : 0 < e) (hv : n * e = m * d) : Qv w v m e K := by
  obtain ⟨h0, h⟩ := h
  have hl := low_uniq h0 he hv
  rw [hl.1, hl.2] at h
  exact ⟨he, h⟩
theorem Qv.opened {w : World} {v : Value} {n d : Int} {K : Nat} (h : Qv w v n d K) : ∃ b1 o1 m1 c1 b2 o2 m2 c2, v = .agg #[.bool b1, .slice o1 m1 c1, .bool b2, .slice o2 m2 c2] ∧ Hid (∀ w', Below w.heap.size w w' → Qv w' (.agg #[.bool b1, .slice o1 m1 c1, .bool b2, .slice o2 m2 c2]) n d K) := by
  have h' := h
  obtain ⟨h0, b1, o1, m1, c1, b2, o2, m2, c2, rfl, h1, h2⟩ := h
  exact ⟨b1, o1, m1, c1, b2, o2, m2, c2, rfl, hid (fun w' hb => h'.below hb (Nat.le_refl _))⟩
theorem Qv.num {w : World} {b1 b2 : Bool} {o1 o2 : Option Addr} {m1 c1 m2 c2 : Nat} {n d : Int} {K : Nat} (h : Qv w (.agg #[.bool b1, .slice o1 m1 c1, .bool b2, .slice o2 m2 c2]) n d K) : Zt w (.agg #[.bool b1, .slice o1 m1 c1]) (lowN n d) K ∧ Zt w (.agg #[.bool b2, .slice o2 m2 c2]) (lowD n d) K := by
  obtain ⟨h0, p1, q1, n1, d1, p2, q2, n2, d2, e, h1, h2⟩ := h
  injection e with e
  simp at e
  obtain ⟨rfl, ⟨rfl, rfl, rfl⟩, rfl, rfl, rfl, rfl⟩ := e
  exact ⟨h1, h2⟩
/-- The call hands back the document's ratio of the value n over d, open. -/
def RetQ (w : World) (n d : Int) (R : Nat) (e : Ending) (w' : World) : Prop := ∃ b1 o1 m1 c1 b2 o2 m2 c2, e = .returned (.agg #[.bool b1, .slice o1 m1 c1, .bool b2, .slice o2 m2 c2]) ∧ Hid (Qv w' (.agg #[.bool b1, .slice o1 m1 c1, .bool b2, .slice o2 m2 c2]) n d R) ∧ Below w.heap.size w w'
def RetQE (w : World) (n d : Int) (R : Nat) (err : Int) (e : Ending) (w' : World) : Prop := ∃ b1 o1 m1 c1 b2 o2 m2 c2, e = .returned (.tuple #[.agg #[.bool b1, .slice o1 m1 c1, .bool b2, .slice o2 m2 c2], .int .i64 err]) ∧ Hid (Qv w' (.agg #[.bool b1, .slice o1 m1 c1, .bool b2, .slice o2 m2 c2]) n d R) ∧ Below w.heap.size w w'
theorem retQ {w w' : World} {f : Value} {n d m e : Int} {K R : Nat} (h : Qv w' f n d K) (he : 0 < e) (hv : n * e = m * d) (hK : K ≤ R) (hb : Below w.heap.size w w') : RetQ w m e R (.returned f) w' := by
  have h2 := (h.conv he hv).mono hK
  obtain ⟨b1, o1, m1, c1, b2, o2, m2, c2, rfl, _⟩ := Qv.opened h2
  exact ⟨b1, o1, m1, c1, b2, o2, m2, c2, rfl, hid h2, hb⟩
theorem RetQ.conv {w w' : World} {n d m e : Int} {K R : Nat} {en : Ending} (h : RetQ w n d K en w') (he : 0 < e) (hv : n * e = m * d) (hK : K ≤ R) : RetQ w m e R en w' := by
  obtain ⟨b1, o1, m1, c1, b2, o2, m2, c2, rfl, H, hb⟩ := h
  exact ⟨b1, o1, m1, c1, b2, o2, m2, c2, rfl, hid ((H.out.conv he hv).mono hK), hb⟩
theorem ratN_rn (n : Int) {d : Int} (hd : d ≠ 0) : ratN n d = rn n d ∧ (d.natAbs : Int) = rd d := by
  unfold ratN rn rd
  rw [if_neg hd, if_neg hd]
  exact ⟨rfl, rfl⟩
theorem ratN_pos (n : Int) {d : Int} (hd : 0 < d) : ratN n d = n ∧ (d.natAbs : Int) = d := by
  have h1 := ratN_rn n (show d ≠ 0 by omega)
  have h2 := rn_pos n hd
  exact ⟨h1.1.trans h2.1, by omega⟩
theorem rlowest_v (u v : Value) (n d : Int) (K R : Nat) (w : World) (hu : Zt w u n K) (hv : Zt w v d K) (hd : 0 < d) (hK : K ≤ 67108864) (hK4 : 4 ≤ K) (hR : K + 3 ≤ R) :
    Calls Tryz.prog 18 #[u, v] w (RetQ w n d R) := by
  refine (rlowest_any u v n d K w hu hv (by omega) hK hK4).mono ?_
  rintro e w' ⟨f, rfl, hf, hb⟩
  have hl := low_same n d (by omega)
  rw [(ratN_pos n hd).1, (ratN_pos n hd).2] at hl
  rw [← hl.1, ← hl.2] at hf
  exact retQ ⟨hd, hf⟩ hd rfl hR hb
theorem rlowest_r (u v : Value) (n d : Int) (K R : Nat) (w : World) (hu : Zt w u n K) (hv : Zt w v d K) (hd : d ≠ 0) (hK : K ≤ 67108864) (hK4 : 4 ≤ K) (hR : K + 3 ≤ R) :
    Calls Tryz.prog 18 #[u, v] w (RetQ w (rn n d) (rd d) R) := by
  refine (rlowest_any u v n d K w hu hv hd hK hK4).mono ?_
  rintro e w' ⟨f, rfl, hf, hb⟩
  have hl := low_same n d hd
  rw [(ratN_rn n hd).1, (ratN_rn n hd).2] at hl
  rw [← hl.1, ← hl.2] at hf
  exact retQ ⟨rd_pos d, hf⟩ (rd_pos d) rfl hR hb
theorem low_one (x : Int) : lowN x 1 = x ∧ lowD x 1 = 1 := by
  have h := low_val x (show (0 : Int) < 1 by decide)
  have h1 : lowD x 1 = 1 := by
    have := (low_small x (show (0 : Int) < 1 by decide)).1
    omega
  rw [h1] at h
  exact ⟨by omega, h1⟩
theorem Qt.whole {w : World} {v : Value} {x : Int} {K : Nat} (h : Qt w v x 1 K) : Qv w v x 1 K := by
  refine ⟨by decide, ?_⟩
  rw [(low_one x).1, (low_one x).2]
  exact h
theorem rwhole_v (u : Value) (x : Int) (K : Nat) (w : World) (hu : Zt w u x K) (hK : 4 ≤ K) :
    Calls Tryz.prog 28 #[u] w (RetQ w x 1 K) := by
  refine (rwhole_any u x K w hu hK).mono ?_
  rintro e w' ⟨f, rfl, hf, hb⟩
  exact retQ hf.whole (by decide) rfl (Nat.le_refl _) hb

/-- A ratio that the program has given back, in new memory: the value n over d in normal form. -/
def Pv (w : World) (B : Nat) (v : Value) (n d : Int) : Prop := ∃ b1 o1 m1 c1 b2 o2 m2 c2, v = .agg #[.bool b1, .slice o1 m1 c1, .bool b2, .slice o2 m2 c2] ∧ El w B (.agg #[.bool b1, .slice o1 m1 c1]) (lowN n d) ∧ El w B (.agg #[.bool b2, .slice o2 m2 c2]) (lowD n d)
theorem Pv.below {w w' : World} {B B' : Nat} {v : Value} {n d : Int} (h : Pv w B v n d) (hb : Below B' w w') (hB : w.heap.size ≤ B') : Pv w' B v n d := by
  obtain ⟨b1, o1, m1, c1, b2, o2, m2, c2, rfl, h1, h2⟩ := h
  exact ⟨b1, o1, m1, c1, b2, o2, m2, c2, rfl, h1.below hb hB, h2.below hb hB⟩
theorem Pv.opened {w : World} {B : Nat} {v : Value} {n d : Int} (h : Pv w B v n d) : ∃ b1 o1 m1 c1 b2 o2 m2 c2, v = .agg #[.bool b1, .slice o1 m1 c1, .bool b2, .slice o2 m2 c2] ∧ Hid (∀ w', Below w.heap.size w w' → Pv w' B (.agg #[.bool b1, .slice o1 m1 c1, .bool b2, .slice o2 m2 c2]) n d) := by
  have h' := h
  obtain ⟨b1, o1, m1, c1, b2, o2, m2, c2, rfl, h1, h2⟩ := h
  exact ⟨b1, o1, m1, c1, b2, o2, m2, c2, rfl, hid (fun w' hb => h'.below hb (Nat.le_refl _))⟩
/-- With its error. -/
def PvE (w : World) (B : Nat) (v : Value) (err n d : Int) : Prop := ∃ b1 o1 m1 c1 b2 o2 m2 c2, v = .agg #[.bool b1, .slice o1 m1 c1, .bool b2, .slice o2 m2 c2] ∧ ((err = 0 ∧ Pv w B (.agg #[.bool b1, .slice o1 m1 c1, .bool b2, .slice o2 m2 c2]) n d) ∨ (err ≠ 0 ∧ b1 = false ∧ o1 = none ∧ m1 = 0 ∧ c1 = 0 ∧ b2 = false ∧ o2 = none ∧ m2 = 0 ∧ c2 = 0))
def QvE (w : World) (v : Value) (err n d : Int) : Prop := ∃ b1 o1 m1 c1 b2 o2 m2 c2, v = .agg #[.bool b1, .slice o1 m1 c1, .bool b2, .slice o2 m2 c2] ∧ ((err = 0 ∧ ∃ K, K ≤ 268435456 ∧ Qv w (.agg #[.bool b1, .slice o1 m1 c1, .bool b2, .slice o2 m2 c2]) n d K) ∨ err ≠ 0)
theorem PvE.below {w w' : World} {B B' : Nat} {v : Value} {err n d : Int} (h : PvE w B v err n d) (hb : Below B' w w') (hB : w.heap.size ≤ B') : PvE w' B v err n d := by
  obtain ⟨b1, o1, m1, c1, b2, o2, m2, c2, e, h⟩ := h
  refine ⟨b1, o1, m1, c1, b2, o2, m2, c2, e, ?_⟩
  rcases h with ⟨h1, h2⟩ | h
  · exact Or.inl ⟨h1, h2.below hb hB⟩
  · exact Or.inr h
theorem QvE.below {w w' : World} {B' : Nat} {v : Value} {err n d : Int} (h : QvE w v err n d) (hb : Below B' w w') (hB : w.heap.size ≤ B') : QvE w' v err n d := by
  obtain ⟨b1, o1, m1, c1, b2, o2, m2, c2, e, h⟩ := h
  refine ⟨b1, o1, m1, c1, b2, o2, m2, c2, e, ?_⟩
  rcases h with ⟨h1, K, hK, h2⟩ | h
  · exact Or.inl ⟨h1, K, hK, h2.below hb hB⟩
  · exact Or.inr h
def RetQvE (w : World) (err n d : Int) (e : Ending) (w' : World) : Prop := ∃ b1 o1 m1 c1 b2 o2 m2 c2, e = .returned (.tuple #[.agg #[.bool b1, .slice o1 m1 c1, .bool b2, .slice o2 m2 c2], .int .i64 err]) ∧ Hid (QvE w' (.agg #[.bool b1, .slice o1 m1 c1, .bool b2, .slice o2 m2 c2]) err n d) ∧ Below w.heap.size w w'
def RetP (w : World) (B : Nat) (n d : Int) (e : Ending) (w' : World) : Prop := ∃ b1 o1 m1 c1 b2 o2 m2 c2, e = .returned (.agg #[.bool b1, .slice o1 m1 c1, .bool b2, .slice o2 m2 c2]) ∧ Hid (Pv w' B (.agg #[.bool b1, .slice o1 m1 c1, .bool b2, .slice o2 m2 c2]) n d) ∧ Below w.heap.size w w'
theorem Pv.ret {w w' : World} {B : Nat} {v : Value} {n d : Int} (h : Pv w' B v n d) (hb : Below w.heap.size w w') : RetP w B n d (.returned v) w' := by
  have h' := h
  obtain ⟨b1, o1, m1, c1, b2, o2, m2, c2, rfl, _⟩ := Pv.opened h
  exact ⟨b1, o1, m1, c1, b2, o2, m2, c2, rfl, hid h', hb⟩
theorem RetQE.ret {w w' : World} {n d : Int} {K : Nat} {e : Ending} (h : RetQE w n d K 0 e w') (hK : K ≤ 268435456) : RetQvE w 0 n d e w' := by
  obtain ⟨b1, o1, m1, c1, b2, o2, m2, c2, rfl, H, hb⟩ := h
  exact ⟨b1, o1, m1, c1, b2, o2, m2, c2, rfl, hid ⟨b1, o1, m1, c1, b2, o2, m2, c2, rfl, Or.inl ⟨rfl, K, hK, H.out⟩⟩, hb⟩
theorem retQvE_bad {w w' : World} {err : Int} (n d : Int) (he : err ≠ 0) (hb : Below w.heap.size w w') : RetQvE w err n d (.returned (.tuple #[.agg #[.bool false, .slice none 0 0, .bool false, .slice none 0 0], .int .i64 err])) w' :=
  ⟨_, _, _, _, _, _, _, _, rfl, hid ⟨_, _, _, _, _, _, _, _, rfl, Or.inr he⟩, hb⟩
end Go.Proofs.YtbapeilpkhbbeaaGreatDoor

/- exact.Power, exact.Root. Written by gen_power.py. -/
namespace Go.Proofs.YtbapeilpkhbbeaaGreatDoor
open Go.RowKit

end Go.Proofs.YtbapeilpkhbbeaaGreatDoor

/- A variable of the document's integers in a block of its own. -/
namespace Go.Proofs.YtbapeilpkhbbeaaGreatDoor
open Go.RowKit

/-- Block g holds the integer z. -/
def CellZ (w : World) (g : Nat) (z : Int) (K : Nat) : Prop := ∃ b o m c, w.cell? ⟨g, 0, none⟩ = some (.bool b) ∧ w.cell? ⟨g, 1, none⟩ = some (.slice o m c) ∧ w.frozen? ⟨g, 0, none⟩ = false ∧ w.frozen? ⟨g, 1, none⟩ = false ∧ Zt w (.agg #[.bool b, .slice o m c]) z K
theorem CellZ.lt {w : World} {g : Nat} {z : Int} {K : Nat} (h : CellZ w g z K) : g < w.heap.size := by
  obtain ⟨b, o, m, c, h0, _⟩ := h
  exact World.block_lt_of_cell? _ _ h0
theorem CellZ.mono {w : World} {g : Nat} {z : Int} {K K' : Nat} (h : CellZ w g z K) (hk : K ≤ K') : CellZ w g z K' := by
  obtain ⟨b, o, m, c, h0, h1, h2, h3, hz⟩ := h
  exact ⟨b, o, m, c, h0, h1, h2, h3, hz.mono hk⟩
theorem CellZ.below {w w' : World} {g : Nat} {z : Int} {K B : Nat} (h : CellZ w g z K) (hb : Below B w w') (hB : w.heap.size ≤ B) : CellZ w' g z K := by
  have hl : g < B := Nat.lt_of_lt_of_le h.lt hB
  obtain ⟨b, o, m, c, h0, h1, h2, h3, hz⟩ := h
  exact ⟨b, o, m, c, (hb.cell (p := ⟨g, 0, none⟩) hl).trans h0, (hb.cell (p := ⟨g, 1, none⟩) hl).trans h1, (hb.frozen (p := ⟨g, 0, none⟩) hl).trans h2, (hb.frozen (p := ⟨g, 1, none⟩) hl).trans h3, hz.below hb hB⟩
theorem CellZ.opened {w : World} {g : Nat} {z : Int} {K : Nat} (h : CellZ w g z K) : ∃ b o m c, Hid (∀ w', Below w.heap.size w w' → w'.cell? ⟨g, 0, none⟩ = some (.bool b) ∧ w'.cell? ⟨g, 1, none⟩ = some (.slice o m c) ∧ w'.frozen? ⟨g, 0, none⟩ = false ∧ w'.frozen? ⟨g, 1, none⟩ = false) ∧
    Hid (∀ w', Below w.heap.size w w' → Zt w' (.agg #[.bool b, .slice o m c]) z K) ∧ Hid (∀ w', Below w.heap.size w w' → Md w' (.slice o m c) (z.natAbs : Int) K) ∧ Hid (b = decide (z < 0)) := by
  have hl := h.lt
  obtain ⟨b, o, m, c, h0, h1, h2, h3, hz⟩ := h
  obtain ⟨b', o', m', c', e, H1, H2, H3⟩ := Zt.opened hz
  cases e
  exact ⟨b, o, m, c, hid (fun w' hb => ⟨(hb.cell (p := ⟨g, 0, none⟩) hl).trans h0, (hb.cell (p := ⟨g, 1, none⟩) hl).trans h1, (hb.frozen (p := ⟨g, 0, none⟩) hl).trans h2, (hb.frozen (p := ⟨g, 1, none⟩) hl).trans h3⟩), H1, H2, H3⟩
theorem CellZ.new {w : World} {T : TypeId} {b : Bool} {o : Option Addr} {m c : Nat} {z : Int} {K : Nat} (hz : Zt w (.agg #[.bool b, .slice o m c]) z K) : CellZ (w.alloc (.cells #[.bool b, .slice o m c] T)) w.heap.size z K :=
  ⟨b, o, m, c, by simp [go_sem], by simp [go_sem], by simp [go_sem], by simp [go_sem], hz.below ((Below.refl _ _).alloc (Nat.le_refl _) _) (Nat.le_refl _)⟩
theorem CellZ.keeps {w : World} {g : Nat} {z : Int} {K : Nat} (h : CellZ w g z K) (u0 u1 : Value) : Keeps .i64 w ((w.setCell ⟨g, 0, none⟩ u0).setCell ⟨g, 1, none⟩ u1) := by
  obtain ⟨b, o, m, c, h0, h1, h2, h3, hz⟩ := h
  exact keeps_two h0 h1 nofun nofun u0 u1
theorem CellZ.store {w : World} {g : Nat} {z z' : Int} {K K' : Nat} (h : CellZ w g z K) {b : Bool} {o : Option Addr} {m c : Nat} (hz : Zt w (.agg #[.bool b, .slice o m c]) z' K') : CellZ ((w.setCell ⟨g, 0, none⟩ (.bool b)).setCell ⟨g, 1, none⟩ (.slice o m c)) g z' K' := by
  have hk := h.keeps (.bool b) (.slice o m c)
  obtain ⟨b', o', m', c', h0, h1, h2, h3, _⟩ := h
  have ht := two_cells h0 h1 (.bool b) (.slice o m c)
  exact ⟨b, o, m, c, ht.1, ht.2, by simpa using h2, by simpa using h3, zt_keeps hk hz⟩
theorem CellZ.other {w : World} {g g' : Nat} {z z' : Int} {K K' : Nat} (h : CellZ w g z K) (h' : CellZ w g' z' K') (hne : g' ≠ g) (u0 u1 : Value) : CellZ ((w.setCell ⟨g', 0, none⟩ u0).setCell ⟨g', 1, none⟩ u1) g z K := by
  have hk := h'.keeps u0 u1
  obtain ⟨b, o, m, c, h0, h1, h2, h3, hz⟩ := h
  refine ⟨b, o, m, c, ?_, ?_, by simpa using h2, by simpa using h3, zt_keeps hk hz⟩
  · rw [World.cell?_setCell_other _ _ _ _ (by simp <;> exact hne), World.cell?_setCell_other _ _ _ _ (by simp <;> exact hne)]; exact h0
  · rw [World.cell?_setCell_other _ _ _ _ (by simp <;> exact hne), World.cell?_setCell_other _ _ _ _ (by simp <;> exact hne)]; exact h1
/-- An integer of the document's, and the error. -/
def RetZtE (w : World) (z : Int) (K : Nat) (err : Int) (e : Ending) (w' : World) : Prop := ∃ v, e = .returned (.tuple #[v, .int .i64 err]) ∧ Zt w' v z K ∧ Below w.heap.size w w'

end Go.Proofs.YtbapeilpkhbbeaaGreatDoor

/- The document's own integers: Power. -/
namespace Go.Proofs.YtbapeilpkhbbeaaGreatDoor
open Go.RowKit

structure PwI (w W0 wr : World) (x : Int) (K g i : Nat) : Prop where
  cel : CellZ wr g (x ^ i) (4 + i * (K + 1))
  low : Below (w.heap.size + 2) W0 wr

set_option maxRecDepth 100000 in
set_option maxHeartbeats 4000000 in
theorem rpow_any (u : Value) (x : Int) (n K : Nat) (w : World) (hn : n ≤ 1024) (hu : Zt w u x K) (hK : K ≤ 100000) :
    Calls Tryz.prog 66 #[u, .int .i64 n] w (RetZtE w (x ^ n) (4 + n * (K + 1)) 0) := by
  obtain ⟨xb, xo, xm, xc, rfl, Hx, Hxs, Hxb⟩ := Zt.opened hu
  obtain ⟨W0, hW0⟩ : ∃ W0, W0 = ((w.alloc (.cells #[.bool xb, .slice xo xm xc] 31)).alloc (.cells #[.bool false, .slice none 0 0] 31)) := ⟨_, rfl⟩
  have hB0 : Below w.heap.size w W0 := by rw [hW0]; exact ((Below.refl _ _).alloc (Nat.le_refl _) _).alloc (by simp) _
  have hz0 : W0.heap.size = w.heap.size + 2 := by rw [hW0]; simp
  have HS : Hid (∀ w', Below (w.heap.size + 2) W0 w' → w'.cell? ⟨w.heap.size, 0, none⟩ = some (.bool xb) ∧ w'.cell? ⟨w.heap.size, 1, none⟩ = some (.slice xo xm xc)) := hid (fun w' hb => by
    refine ⟨?_, ?_⟩ <;> (rw [hb.cell (by simp <;> omega), hW0]; simp [go_sem]))
  have HT : Hid (∀ w', Below (w.heap.size + 2) W0 w' → (w'.cell? ⟨w.heap.size + 1, 0, none⟩ = some (.bool false) ∧ w'.cell? ⟨w.heap.size + 1, 1, none⟩ = some (.slice none 0 0)) ∧ (w'.frozen? ⟨w.heap.size + 1, 0, none⟩ = false ∧ w'.frozen? ⟨w.heap.size + 1, 1, none⟩ = false)) := hid (fun w' hb => by
    refine ⟨⟨?_, ?_⟩, ?_, ?_⟩ <;> (first | (rw [hb.cell (by simp <;> omega), hW0]; simp [go_sem]; done) | (rw [hb.frozen (by simp <;> omega), hW0]; simp [go_sem]; done)))
  have HB0 := hid hB0; have HW := hid hW0; have Hz0 := hid hz0
  have hn0 : ¬ ((n : Int) < 0) := by omega
  have hn1 : ¬ (1024 < (n : Int)) := by omega
  have Hn := hid hn
  clear hW0 hB0 hz0 hu hn
  go_enter Tryz.func66, Tryz.ntmps66
  go_upto_region 3 with (fail)
  rw [← HW.out]
  go_wp2_with fail
  refine (rof_any 1 _ (by decide) (by decide)).mono ?_
  rintro e w1 ⟨_, rfl, hv1, hb1⟩
  obtain ⟨b1, o1, m1, c1, rfl, H1, _, _⟩ := Zt.opened hv1
  obtain ⟨W2, hW2⟩ : ∃ W2, W2 = w1.alloc (.cells #[.bool b1, .slice o1 m1 c1] 31) := ⟨_, rfl⟩
  have HI0 : Hid (PwI w W0 W2 x K w1.heap.size 0) := hid ⟨by rw [hW2, Int.pow_zero]; exact (CellZ.new hv1).mono (by omega), by
    rw [hW2]
    exact (hb1.mono (by have := Hz0.out; omega)).alloc (by have := hb1.size; have := Hz0.out; omega) _⟩
  obtain ⟨g, hg⟩ : ∃ g, g = w1.heap.size := ⟨_, rfl⟩
  have hg2 : w.heap.size + 2 ≤ g := by have := hb1.size; have := Hz0.out; omega
  rw [← hg] at HI0
  have Hg2 := hid hg2
  go_wp2_with fail
  rw [← hW2, ← hg]
  clear hW2 hg hv1 hb1 H1 hg2
  go_loopw [7] (fun iv wr => ∃ i : Nat, i ≤ n ∧ iv = .int .i64 i ∧ PwI w W0 wr x K g i) (fun iv _ => n - (intOf iv).toNat)
  case atStart => exact ⟨0, Nat.zero_le _, rfl, HI0.out⟩
  case round =>
    obtain ⟨i, hi, rfl, H⟩ := hrel
    clear HI0
    obtain ⟨k0, k1⟩ := HS.out _ H.low
    obtain ⟨ob, oo, om, oc, HC, HZ, _, _⟩ := H.cel.opened
    obtain ⟨c0, c1, f0, f1⟩ := HC.out _ (Below.refl _ _)
    have HH := hid H
    have hbw : Below w.heap.size w wr := HB0.out.trans (H.low.mono (by omega))
    have HBw := hid hbw
    clear H hbw
    by_cases hlt : i < n
    · go_wp2_with fail
      refine (rmul_any _ _ (x ^ i) x (4 + i * (K + 1)) K _ (HZ.out _ (Below.refl _ _)) (Hx.out _ HBw.out) (by
        have h1 : i * (K + 1) ≤ 1024 * (K + 1) := Nat.mul_le_mul_right _ (by have := Hn.out; omega)
        omega) (by omega)).mono ?_
      rintro e w1 ⟨_, rfl, hv1, hb1⟩
      obtain ⟨b1, o1, m1, c1', rfl, _, _, _⟩ := Zt.opened hv1
      rw [← Int.pow_succ] at hv1
      have hc1 := HH.out.cel.below hb1 (Nat.le_refl _)
      have hN : PwI w W0 ((w1.setCell ⟨g, 0, none⟩ (.bool b1)).setCell ⟨g, 1, none⟩ (.slice o1 m1 c1')) x K g (i + 1) :=
        ⟨(hc1.store hv1).mono (by rw [Nat.add_mul]; omega), ((HH.out.low.trans (hb1.mono (Nat.le_trans (by have := Hz0.out; omega) HH.out.low.size))).setCell Hg2.out _).setCell Hg2.out _⟩
      have HN := hid hN
      clear c0 c1 f0 f1 k0 k1
      obtain ⟨c0, c1, f0, f1⟩ := HC.out _ hb1
      clear hN hc1 hv1 hb1
      go_wp2
      go_roundw
      case rel => exact ⟨i + 1, by omega, by go_num, HN.out⟩
      case measure => simp [intOf]; omega
    · obtain rfl : i = n := by omega
      obtain ⟨⟨hr0, hr1⟩, hf0, hf1⟩ := HT.out _ HH.out.low
      go_wp2
      refine bodyPost_ret (v := .tuple #[.agg #[.bool ob, .slice oo om oc], .int .i64 0]) (by simp [results, Tryz.results66, go_sem, hr0, hr1]) rfl ⟨_, rfl, ?_, (HBw.out.setCell (by simp <;> omega) _).setCell (by simp <;> omega) _⟩
      exact ((HZ.out _ (Below.refl _ _)).set hr0 (fun x h => (by cases h)) _).set (u := .slice none 0 0) (by simp [go_sem, hr1]) (fun x h => (by cases h)) _
end Go.Proofs.YtbapeilpkhbbeaaGreatDoor

/- The document's own integers: Root. Written by gen_rroot.py. -/
namespace Go.Proofs.YtbapeilpkhbbeaaGreatDoor
open Go.RowKit

/-- What is known of the root so far; bit: the next one that is tried. -/
def RootN (x out bit : Int) (t T : Nat) : Prop := 0 ≤ out ∧ out * out ≤ x ∧ ((bit = 0 ∧ x < (out + 1) * (out + 1) ∧ t ≤ T + 1) ∨ (∃ j : Nat, t + j ≤ T ∧ bit = 2 ^ j ∧ x < (out + 2 * bit) * (out + 2 * bit)))
theorem RootN.no {x out : Int} {j t T : Nat} (ho : 0 ≤ out) (hox : out * out ≤ x) (ht : t + j ≤ T) (h : x < (out + 2 ^ j) * (out + 2 ^ j)) : RootN x out (2 ^ j / 2) (t + 1) T := by
  refine ⟨ho, hox, ?_⟩
  cases j with
  | zero => left; simp at h ⊢; exact ⟨h, by omega⟩
  | succ j =>
    right
    have e : (2 : Int) ^ (j + 1) / 2 = 2 ^ j := by rw [Int.pow_succ]; omega
    refine ⟨j, by omega, e, ?_⟩
    rw [e]
    rw [Int.pow_succ] at h
    rw [show out + 2 * 2 ^ j = out + 2 ^ j * 2 by omega]; exact h

structure R1 (w W0 wr : World) (go gb i : Nat) (p : Int) : Prop where
  celO : CellZ wr go 0 0
  celB : CellZ wr gb p (4 + i)
  num : p = 2 ^ i
  low : Below (w.heap.size + 2) W0 wr
end Go.Proofs.YtbapeilpkhbbeaaGreatDoor

/- What the law ExactDivides asks of an integer and its error, the program's beside the document's: Div, Root, Power; is over both. -/
namespace Go.Proofs.YtbapeilpkhbbeaaGreatDoor
open Go.RowKit

/-- An integer that the program gives back, with its error. -/
def IntE (w : World) (v : Value) (err z : Int) : Prop := ∃ b o m c, v = .agg #[.bool b, .slice o m c] ∧ ((err = 0 ∧ ∃ K, An w v z K) ∨ (err ≠ 0 ∧ b = false ∧ m = 0))
/-- The document's. -/
def ZE (w : World) (v : Value) (err z : Int) : Prop := ∃ b o m c, v = .agg #[.bool b, .slice o m c] ∧ ((err = 0 ∧ ∃ K, K ≤ 268435456 ∧ Zt w v z K) ∨ err ≠ 0)
theorem IntE.below {w w' : World} {B : Nat} {v : Value} {err z : Int} (h : IntE w v err z) (hb : Below B w w') (hB : w.heap.size ≤ B) : IntE w' v err z := by
  obtain ⟨b, o, m, c, e, h⟩ := h
  refine ⟨b, o, m, c, e, ?_⟩
  rcases h with ⟨h1, K, h2⟩ | h
  · exact Or.inl ⟨h1, K, h2.below hb hB⟩
  · exact Or.inr h
theorem ZE.below {w w' : World} {B : Nat} {v : Value} {err z : Int} (h : ZE w v err z) (hb : Below B w w') (hB : w.heap.size ≤ B) : ZE w' v err z := by
  obtain ⟨b, o, m, c, e, h⟩ := h
  refine ⟨b, o, m, c, e, ?_⟩
  rcases h with ⟨h1, K, hK, h2⟩ | h
  · exact Or.inl ⟨h1, K, hK, h2.below hb hB⟩
  · exact Or.inr h
theorem IntE.opened {w : World} {v : Value} {err z : Int} (h : IntE w v err z) : ∃ b o m c, v = .agg #[.bool b, .slice o m c] ∧ Hid (∀ w', Below w.heap.size w w' → IntE w' (.agg #[.bool b, .slice o m c]) err z) := by
  have h' := h
  obtain ⟨b, o, m, c, rfl, _⟩ := h
  exact ⟨b, o, m, c, rfl, hid (fun w' hb => h'.below hb (Nat.le_refl _))⟩
theorem ZE.opened {w : World} {v : Value} {err z : Int} (h : ZE w v err z) : ∃ b o m c, v = .agg #[.bool b, .slice o m c] ∧ Hid (∀ w', Below w.heap.size w w' → ZE w' (.agg #[.bool b, .slice o m c]) err z) := by
  have h' := h
  obtain ⟨b, o, m, c, rfl, _⟩ := h
  exact ⟨b, o, m, c, rfl, hid (fun w' hb => h'.below hb (Nat.le_refl _))⟩
end Go.Proofs.YtbapeilpkhbbeaaGreatDoor
