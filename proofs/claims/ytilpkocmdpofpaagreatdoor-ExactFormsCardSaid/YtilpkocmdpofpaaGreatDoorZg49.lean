/- An api.Ratio argument of a law, opened. Written by gen_fieldrow.py. A ratio argument whose words are known, as a value. What the law ExactForms says of numbers: scaled ratios; Decimal, Lowest by values. -/
import Derived.Test.YtilpkocmdpofpaaGreatDoorZg48
import Derived.Test.YtilpkocmdpofpaaGreatDoorZg44
import Derived.Test.YtilpkocmdpofpaaGreatDoorZg47
/- An api.Ratio argument of a law, opened. Written by gen_fieldrow.py. -/
namespace Go.Proofs.YtilpkocmdpofpaaGreatDoor
open Go.ChangeShapes Go.WideShapes Go.ChangeAt Go.RowKit Go.Joins

set_option maxRecDepth 100000 in
theorem openIntT {H : Type} {enc : TypeId × Value → H} {W : World} {sp : Nat → Bool} {c0 c1 : Value} {y : DataW H × List MemPlace} {fuel : Nat}
    (h : DataW.trod enc Tryz.prog W 0 sp true fuel 24 [c0, c1] = some y) : ∃ neg L, Lk W (.agg #[c0, c1]) neg L ∧ Dig B32 L := by
  obtain ⟨y0, y1, m, _, _, h0, h1⟩ := trod_struct2 Tryz.underlying24 h
  have k0 : Tryz.prog.cellsOf 4 = 1 := by kernel_rfl
  have k1 : Tryz.prog.cellsOf 22 = 1 := by kernel_rfl
  have hy0 : DataW.trod enc Tryz.prog W 0 sp true m 4 [c0] = some y0 := by simpa [k0] using h0
  have hy1 : DataW.trod enc Tryz.prog W 0 sp true m 22 [c1] = some y1 := by simpa [k1] using h1
  clear h0 h1
  obtain ⟨b, e0, _⟩ := DataW.trod_bool Tryz.underlying4 hy0
  simp at e0
  subst e0
  rcases Go.Deep.open_slice1 Tryz.underlying22 (by kernel_rfl) hy1 with ⟨e1, _⟩ | ⟨a, len, cap, k, n, V, D, Pl, e1, hb, hl, hm, hmm, _, hx⟩
  · simp at e1
    subst e1
    exact ⟨b, [], ⟨none, 0, rfl, Rd.nil _ _⟩, fun x hx => by cases hx⟩
  · simp at e1
    subst e1
    have hk : len ≤ k := by rw [hmm]; split <;> omega
    have hw : ∀ i, i < len → ∃ x, V i = .int .u32 x ∧ 0 ≤ x ∧ x < B32 ∧ W.cell? (a.add i) = some (.int .u32 x) := by
      intro i hi
      obtain ⟨hc, ht⟩ := hx i (by omega)
      obtain ⟨x, ex, _, hwf⟩ := DataW.trod_int Tryz.underlying53 ht
      simp at ex
      simp [Lit.wf, IntKind.min, IntKind.max, IntKind.signed, IntKind.bits] at hwf
      refine ⟨x, ex, by omega, by unfold B32; omega, by rw [hc, ex]⟩
    have hget : ∀ i, i < len → (((List.range len).map fun i => intOf (V i))[i]?.getD 0) = intOf (V i) := by
      intro i hi
      simp [hi]
    refine ⟨b, (List.range len).map fun i => intOf (V i), ⟨some a, cap, by simp, ?_⟩, ?_⟩
    · refine ⟨by simpa using hl, by unfold maxLen at hm; omega, fun hp => ?_, fun b off e i hi => ?_⟩
      · obtain ⟨x, _, _, _, hc⟩ := hw 0 (by simpa using hp)
        have hs := World.cell?_spot hc
        obtain ⟨ab, aoff, asp⟩ := a
        have : asp = none := by simpa [Addr.add] using hs
        exact ⟨ab, aoff, by rw [this]⟩
      · simp at hi
        obtain rfl := Option.some.inj e
        obtain ⟨x, ex, _, _, hc⟩ := hw i hi
        rw [hget i hi, ex]
        have ea : Addr.add ⟨b, off, none⟩ i = ⟨b, off + i, none⟩ := by
          by_cases h0 : i = 0 <;> simp [Addr.add, h0]
        rw [ea] at hc
        simpa [intOf] using hc
    · intro x hx
      obtain ⟨i, hi, rfl⟩ := List.mem_map.1 hx
      obtain ⟨y, ey, y0, y1, _⟩ := hw i (by simpa using hi)
      rw [ey]
      exact ⟨y0, y1⟩


set_option maxRecDepth 100000 in
theorem openRatio {H : Type} {enc : TypeId × Value → H} {r : Reach} {b0 : Nat} {W : World} {sp : Nat → Bool} {v : Value} {d : DataW H} {p : List MemPlace}
    (hv : Value.okWide Tryz.prog W r b0 26 v) (h : DataW.Trod enc Tryz.prog W 0 sp true 26 v d p) : ∃ c0 c1 c2 c3 na LA nb LB, v = .agg #[c0, c1, c2, c3] ∧ Lk W (.agg #[c0, c1]) na LA ∧ Dig B32 LA ∧ Lk W (.agg #[c2, c3]) nb LB ∧ Dig B32 LB := by
  obtain ⟨cs, rfl, hsz⟩ := okWide_struct Tryz.underlying26 hv
  obtain ⟨c0, c1, c2, c3, rfl⟩ := array4 (hsz.trans (show Tryz.prog.cellsOf 26 = 4 by kernel_rfl))
  obtain ⟨fuel, hf⟩ := h
  obtain ⟨y0, y1, n, _, _, h0, h1⟩ := trod_struct2 Tryz.underlying26 hf
  have k : Tryz.prog.cellsOf 24 = 2 := by kernel_rfl
  obtain ⟨na, LA, hA, dA⟩ := openIntT (enc := enc) (c0 := c0) (c1 := c1) (by simpa [k, Value.cells] using h0)
  obtain ⟨nb, LB, hB, dB⟩ := openIntT (enc := enc) (c0 := c2) (c1 := c3) (by simpa [k, Value.cells] using h1)
  exact ⟨c0, c1, c2, c3, na, LA, nb, LB, rfl, hA, dA, hB, dB⟩

/-- The four cells of a ratio whose words are these. -/
def Lr (w : World) (v : Value) (na : Bool) (LA : List Int) (nb : Bool) (LB : List Int) : Prop := ∃ ao ca bo cb, v = .agg #[.bool na, .slice ao LA.length ca, .bool nb, .slice bo LB.length cb] ∧ Rd w .u32 ao ca LA ∧ Rd w .u32 bo cb LB ∧ Dig B32 LA ∧ Dig B32 LB
set_option maxRecDepth 100000 in
theorem openLr {H : Type} {enc : TypeId × Value → H} {r : Reach} {b0 : Nat} {W : World} {sp : Nat → Bool} {v : Value} {d : DataW H} {p : List MemPlace}
    (hv : Value.okWide Tryz.prog W r b0 26 v) (h : DataW.Trod enc Tryz.prog W 0 sp true 26 v d p) : ∃ na LA nb LB, Lr W v na LA nb LB := by
  obtain ⟨c0, c1, c2, c3, na, LA, nb, LB, rfl, ⟨ao, ca, e1, hA⟩, dA, ⟨bo, cb, e2, hB⟩, dB⟩ := openRatio hv h
  simp only [Value.agg.injEq, Array.mk.injEq, List.cons.injEq, and_true] at e1 e2
  obtain ⟨rfl, rfl⟩ := e1
  obtain ⟨rfl, rfl⟩ := e2
  exact ⟨na, LA, nb, LB, ao, ca, bo, cb, rfl, hA, hB, dA, dB⟩
end Go.Proofs.YtilpkocmdpofpaaGreatDoor

/- A ratio argument whose words are known, as a value. -/
namespace Go.Proofs.YtilpkocmdpofpaaGreatDoor
open Go.RowKit

theorem rvOf (k : Nat) {w : World} {na nb : Bool} {ao bo : Option Addr} {ca cb : Nat} {LA LB : List Int} (hA : Rd w .u32 ao ca LA) (hB : Rd w .u32 bo cb LB) (dA : Dig B32 LA) (dB : Dig B32 LB) (h : ¬ (k : Int) < max (LA.length : Int) (LB.length : Int)) : Rv w (.agg #[.bool na, .slice ao LA.length ca, .bool nb, .slice bo LB.length cb]) (rn (sgn na (val B32 LA)) (sgn nb (val B32 LB))) (rd (sgn nb (val B32 LB))) k :=
  ⟨rd_pos _, sgn na (val B32 LA), sgn nb (val B32 LB), ⟨na, ao, LA.length, ca, nb, bo, LB.length, cb, rfl, ⟨na, ao, ca, LA, rfl, hA, dA, by omega, rfl⟩, ⟨nb, bo, cb, LB, rfl, hB, dB, by omega, rfl⟩⟩, rfl⟩
end Go.Proofs.YtilpkocmdpofpaaGreatDoor

/- What the law ExactForms says of numbers: scaled ratios; Decimal, Lowest by values. -/
namespace Go.Proofs.YtilpkocmdpofpaaGreatDoor
open Go.RowKit

theorem rn_neg (x : Int) {y : Int} (hy : y < 0) : rn x y = -x ∧ rd y = -y := by
  have h0 : y ≠ 0 := by omega
  unfold rn rd sgn
  rw [if_neg h0, if_neg h0, decide_eq_true hy]
  refine ⟨?_, by omega⟩
  by_cases hx : x < 0
  · rw [decide_eq_true hx]; simp; omega
  · rw [decide_eq_false hx]; simp; omega
theorem ra_scale (x y k : Int) (hk : k ≠ 0) : rn (x * k) (y * k) * rd y = rn x y * rd (y * k) := by
  rcases Int.lt_trichotomy y 0 with hy | hy | hy
  · rcases Int.lt_trichotomy k 0 with h | h | h
    · have h1 := rn_pos (x * k) (Int.mul_pos_of_neg_of_neg hy h)
      have h2 := rn_neg x hy
      rw [h1.1, h1.2, h2.1, h2.2]; grind
    · exact absurd h hk
    · have h1 := rn_neg (x * k) (Int.mul_neg_of_neg_of_pos hy h)
      have h2 := rn_neg x hy
      rw [h1.1, h1.2, h2.1, h2.2]; grind
  · subst hy
    simp [rn]
  · rcases Int.lt_trichotomy k 0 with h | h | h
    · have h1 := rn_neg (x * k) (Int.mul_neg_of_pos_of_neg hy h)
      have h2 := rn_pos x hy
      rw [h1.1, h1.2, h2.1, h2.2]; grind
    · exact absurd h hk
    · have h1 := rn_pos (x * k) (Int.mul_pos hy h)
      have h2 := rn_pos x hy
      rw [h1.1, h1.2, h2.1, h2.2]; grind
theorem raV (x y : Int) (K : Nat) : KeepV (fun w v => Ra w v x y K) := fun w w' v hk h => by
  obtain ⟨b1, o1, m1, c1, b2, o2, m2, c2, rfl, h1, h2⟩ := h
  exact ⟨b1, o1, m1, c1, b2, o2, m2, c2, rfl, aiV _ _ _ _ _ hk h1, aiV _ _ _ _ _ hk h2⟩
theorem low_rv {w : World} {v : Value} {n d : Int} {K : Nat} (h : Ra w v (lowN n d) (lowD n d) K) (hd : 0 < d) : Rv w v n d K := by
  have hl := low_val n hd
  have hp := rn_pos (lowN n d) hl.2
  exact ⟨hd, _, _, h, by rw [hp.1, hp.2]; exact hl.1⟩
theorem Decimal_rv (v : Value) (n d : Int) (K p : Nat) (w : World) (hv : Rv w v n d K) (hK : K ≤ 140) (hp : p ≤ 100) (hT : Tab w) :
    Calls Tryz.prog 13 #[v, .int .i64 (p : Int)] w fun e w' => e = .returned (.tuple #[.string (dcT ((n * 10 ^ p * 2 + d).fdiv (d * 2)) p), .int .i64 0]) ∧ Below w.heap.size w w' := by
  obtain ⟨hd, x, y, hr, he⟩ := hv
  have h := Decimal_ra v x y K p w hr hK hp hT
  rw [fdiv_ratio (c := n * 10 ^ p * 2 + d) (e := d * 2) (by have := rd_pos y; omega) (by omega) (by grind)] at h
  exact h
end Go.Proofs.YtilpkocmdpofpaaGreatDoor
