/- exact.integer: signed, read, value, negated. exact.multiplyHalves, if multiply is right at shorter factors. exact.multiply at any factors (of 500,000 limbs together). Written by gen_mulany.py. exact.isOne, bitLength, gcdLimb. exact.bitLength, root. exact.root: its walk. exact.raise. Written by gen_power.py. Quotients rounded down, and their rests: plain facts. exact.integer: value, negated, plus; exact.Normal, Neg, Add, Sub. Written by gen_int2.py. exact.Normal, Neg, Add, Sub. Written by gen_int3.py. exact.multiply of factors of fewer than 80 limbs. exact.integer: times; exact.Mul, Sign, sign. Written by gen_int4.py. exact.integer: over (the quotient rounded down, and its rest). Written by gen_iover.py. A region that draws its order, by an invariant: what holds of the frame and the world while some of its operations have been carried out. Lehmer's steps of a common divisor: plain arithmetic. Lehmer's steps: the highest 64 bits; what the steps are. -/
import Derived.Test.YthgccegjopieoaaDoorTx04
import Derived.Test.YthgccegjopieoaaDoorTx02
import Derived.Deep.RegionHeld3
import Derived.Deep.DeepCutAuto
import Derived.Test.YthgccegjopieoaaDoorTx01
import Derived.Deep.RegionWith
/- exact.integer: signed, read, value, negated. -/
namespace Go.Proofs.YthgccegjopieoaaDoor
open Go.RowKit

/-- The value v reads in w as the integer z. -/
def It (w : World) (v : Value) (z : Int) (K : Nat) : Prop := ∃ s, v = .agg #[.bool (decide (z < 0)), s] ∧ Nt w s (z.natAbs : Int) K
def RetI (w : World) (z : Int) (K : Nat) (e : Ending) (w' : World) : Prop := ∃ v, e = .returned v ∧ It w' v z K ∧ Below w.heap.size w w'
theorem It.below {w w' : World} {v : Value} {n : Int} {K B : Nat} (h : It w v n K) (hb : Below B w w') (hB : w.heap.size ≤ B) : It w' v n K := by
  obtain ⟨s, rfl, h⟩ := h; exact ⟨s, rfl, h.below hb hB⟩
theorem It.mono {w : World} {v : Value} {n : Int} {K K' : Nat} (h : It w v n K) (hk : K ≤ K') : It w v n K' := by
  obtain ⟨s, rfl, h⟩ := h; exact ⟨s, rfl, h.mono hk⟩

theorem Nt.set {w : World} {s : Value} {n : Int} {K : Nat} (h : Nt w s n K) {a : Addr} {u : Value} (hu : w.cell? a = some u) (hn : ∀ x, u ≠ .int .u64 x) (v : Value) : Nt (w.setCell a v) s n K := by
  obtain ⟨ao, c, L, rfl, h⟩ := h; exact ⟨ao, c, L, rfl, h.rd.set hu hn v, h.dig, h.nrm, h.eq, h.le⟩
theorem It.set {w : World} {s : Value} {n : Int} {K : Nat} (h : It w s n K) {a : Addr} {u : Value} (hu : w.cell? a = some u) (hn : ∀ x, u ≠ .int .u64 x) (v : Value) : It (w.setCell a v) s n K := by
  obtain ⟨s, rfl, h⟩ := h; exact ⟨s, rfl, h.set hu hn v⟩

theorem NtL.zero_iff {w : World} {ao : Option Addr} {c : Nat} {L : List Int} {n : Int} {K : Nat} (h : NtL w ao c L n K) : L.length = 0 ↔ n = 0 := by
  constructor
  · intro hl; rw [← h.eq, List.eq_nil_of_length_eq_zero hl]; rfl
  · intro hn; rw [Nrm.eq_nil B64_pos h.dig h.nrm (by rw [h.eq, hn])]; rfl

/-- A number of which a sign and a size are known. -/
def sgn (neg : Bool) (n : Int) : Int := if neg then -n else n
theorem sgn_abs (neg : Bool) {n : Int} (h : 0 ≤ n) : ((sgn neg n).natAbs : Int) = n := by unfold sgn; split <;> omega
theorem sgn_lt (neg : Bool) {n : Int} (h : 0 ≤ n) : decide (sgn neg n < 0) = (neg && decide (0 < n)) := by
  unfold sgn; cases neg <;> simp <;> omega

set_option maxHeartbeats 1000000 in
theorem signed_any (neg : Bool) (s : Value) (n : Int) (K : Nat) (w : World) (h : Nt w s n K) :
    Calls Tryd.prog 27 #[.bool neg, s] w (RetI w (sgn neg n) K) := by
  have h0 := h.nonneg
  have hab := sgn_abs neg h0
  have hlt := sgn_lt neg h0
  obtain ⟨ao, c, L, rfl, h⟩ := h
  obtain ⟨m, hm⟩ : ∃ m, m = L.length := ⟨_, rfl⟩
  have hz := h.zero_iff
  have hd : decide (0 < n) = decide ((0 : Int) < (m : Int)) := by rw [hm]; apply decide_eq_decide.2; constructor <;> intro hh <;> omega
  rw [hd] at hlt
  rw [← hm]
  have H : Hid (∀ w', Below w.heap.size w w' → It w' (.agg #[.bool (neg && decide ((0 : Int) < (m : Int))), .slice ao m c]) (sgn neg n) K) := hid (fun w' hb => ⟨_, by rw [hlt], by rw [hab, hm]; exact ⟨ao, c, L, rfl, h.rd.below hb (Nat.le_refl _), h.dig, h.nrm, h.eq, h.le⟩⟩)
  clear hd hz hlt hab h0 h hm
  cases neg with
  | false =>
    go_enter Tryd.func27, Tryd.ntmps27
    go_wp2
    refine bodyPost_ret (v := .agg #[.bool false, .slice ao m c]) (by simp [results, Tryd.results27, go_sem]) rfl ⟨_, rfl, ?_, (Below.refl _ _).alloc (Nat.le_refl _) _⟩
    exact H.out _ ((Below.refl _ _).alloc (Nat.le_refl _) _)
  | true =>
    go_enter Tryd.func27, Tryd.ntmps27
    go_wp2
    refine bodyPost_ret (v := .agg #[.bool (decide ((0 : Int) < (m : Int))), .slice ao m c]) (by simp [results, Tryd.results27, go_sem]) rfl ⟨_, rfl, ?_, (Below.refl _ _).alloc (Nat.le_refl _) _⟩
    exact H.out _ ((Below.refl _ _).alloc (Nat.le_refl _) _)

/-- The value v (an api.Int) stands in w for the integer z. -/
structure AiL (w : World) (neg : Bool) (ao : Option Addr) (c : Nat) (W : List Int) (z : Int) (K : Nat) : Prop where
  rd : Rd w .u32 ao c W
  dig : Dig B32 W
  le : W.length ≤ K
  eq : z = sgn neg (val B32 W)
def Ai (w : World) (v : Value) (z : Int) (K : Nat) : Prop := ∃ neg ao c W, v = .agg #[.bool neg, .slice ao W.length c] ∧ AiL w neg ao c W z K
theorem Ai.below {w w' : World} {v : Value} {n : Int} {K B : Nat} (h : Ai w v n K) (hb : Below B w w') (hB : w.heap.size ≤ B) : Ai w' v n K := by
  obtain ⟨neg, ao, c, W, rfl, h⟩ := h; exact ⟨neg, ao, c, W, rfl, h.rd.below hb hB, h.dig, h.le, h.eq⟩

set_option maxRecDepth 100000 in
set_option maxHeartbeats 2000000 in
theorem read_any (v : Value) (z : Int) (K : Nat) (w : World) (h : Ai w v z K) (hK : K ≤ 1073741824) :
    Calls Tryd.prog 14 #[v] w (RetI w z ((K + 1) / 2)) := by
  obtain ⟨neg, ao, c, W, rfl, h⟩ := h
  obtain ⟨n, hn⟩ : ∃ n, n = W.length := ⟨_, rfl⟩
  have hf := fun (w' : World) (hb : Below w.heap.size w w') => fromWords_any ao c W w' (h.rd.below hb (Nat.le_refl _)) h.dig (by have := h.le; omega)
  rw [← hn] at hf ⊢
  have HF := hid hf; have H := hid h; have Hn := hid hn
  clear hf h hn
  go_enter Tryd.func14, Tryd.ntmps14
  go_wp2
  obtain ⟨W0, hW0⟩ : ∃ W0, W0 = ((w.alloc (.cells #[.bool neg, .slice ao n c] 24)).alloc (.cells #[.bool false, .slice none 0 0] 41)) := ⟨_, rfl⟩
  have hB0 : Below w.heap.size w W0 := by rw [hW0]; exact ((Below.refl _ _).alloc (Nat.le_refl _) _).alloc (by simp) _
  have hz0 : W0.heap.size = w.heap.size + 2 := by rw [hW0]; simp
  have HS : Hid (∀ w', Below (w.heap.size + 1) W0 w' → w'.cell? ⟨w.heap.size, 0, none⟩ = some (.bool neg) ∧ w'.cell? ⟨w.heap.size, 1, none⟩ = some (.slice ao n c)) := hid (fun w' hb => by
    constructor
    · rw [hb.cell (by simp), hW0]; simp [go_sem, World.cell?_alloc_past]
    · rw [hb.cell (by simp), hW0]; simp [go_sem, World.cell?_alloc_past])
  have HT : Hid (∀ w', Below (w.heap.size + 2) W0 w' → w'.cell? ⟨w.heap.size + 1, 0, none⟩ = some (.bool false) ∧ w'.cell? ⟨w.heap.size + 1, 1, none⟩ = some (.slice none 0 0) ∧ w'.frozen? ⟨w.heap.size + 1, 0, none⟩ = false ∧ w'.frozen? ⟨w.heap.size + 1, 1, none⟩ = false) := hid (fun w' hb => by
    refine ⟨?_, ?_, ?_, ?_⟩
    · rw [hb.cell (by simp), hW0]; simp [go_sem]
    · rw [hb.cell (by simp), hW0]; simp [go_sem]
    · rw [hb.frozen (by simp), hW0]; simp [go_sem]
    · rw [hb.frozen (by simp), hW0]; simp [go_sem])
  rw [← hW0]
  clear hW0
  go_region_held3 (fun w' => w'.cell? ⟨w.heap.size, 0, none⟩ = some (.bool neg) ∧ w'.cell? ⟨w.heap.size, 1, none⟩ = some (.slice ao n c)) ((refine HS.out _ ?_; first | assumption | exact Below.refl _ _ | exact (Below.refl _ _).drew | exact ((hB2.mono (Nat.le_succ _)).setCell (Nat.le_refl _) _).setCell (Nat.le_refl _) _)) (first
    | (go_at_call 28; refine (HF.out _ hB0.drew).mono ?_; rintro e w1 ⟨s, rfl, hs, hb1⟩; have hB1 : Below (w.heap.size + 2) W0 w1 := ((Below.refl _ _).drew).trans (hb1.mono (by simp; omega)); have hB1s := hB1.mono (Nat.le_succ _))
    | (go_at_call 27; refine (signed_any neg s _ _ _ hs).mono ?_; rintro e w2 ⟨_, rfl, ⟨_, rfl, qo, qc, QL, rfl, hq⟩, hb2⟩; have hB2 : Below (w.heap.size + 2) W0 w2 := hB1.trans (hb2.mono (by have := hB1.size; omega)); have hB2s := hB2.mono (Nat.le_succ _); obtain ⟨hr0, hr1, hr2, hr3⟩ := HT.out _ hB2))
  go_wp2
  have hbel : Below w.heap.size w w2 := hB0.trans (hB2.mono (by omega))
  refine bodyPost_ret (v := .agg #[.bool (decide (sgn neg (val B32 W) < 0)), .slice qo QL.length qc]) (by simp [results, Tryd.results14, go_sem, hr0, hr1]) rfl ⟨_, rfl, ?_, (hbel.setCell (by simp) _).setCell (by simp) _⟩
  have hfin : It w2 (.agg #[.bool (decide (sgn neg (val B32 W) < 0)), .slice qo QL.length qc]) z ((K + 1) / 2) := by
    rw [H.out.eq]
    exact ⟨_, rfl, qo, qc, QL, rfl, hq.rd, hq.dig, hq.nrm, hq.eq, by have := hq.le; have := Hn.out; have := H.out.le; omega⟩
  exact (hfin.set hr0 (fun x h => (by cases h)) _).set (u := .slice none 0 0) (by simp [go_sem, hr1]) (fun x h => (by cases h)) _

/-! Arguments, opened for a walk. -/
theorem It.opened {w : World} {v : Value} {z : Int} {K : Nat} (h : It w v z K) : ∃ b ao m c, v = .agg #[.bool b, .slice ao m c] ∧ Hid (∀ w', Below w.heap.size w w' → It w' (.agg #[.bool b, .slice ao m c]) z K) ∧ Hid (∀ w', Below w.heap.size w w' → Nt w' (.slice ao m c) (z.natAbs : Int) K) ∧ Hid (b = decide (z < 0)) := by
  obtain ⟨s, rfl, ao, c, L, rfl, h⟩ := h
  have hN : ∀ w', Below w.heap.size w w' → Nt w' (.slice ao L.length c) (z.natAbs : Int) K := fun w' hb => ⟨ao, c, L, rfl, h.rd.below hb (Nat.le_refl _), h.dig, h.nrm, h.eq, h.le⟩
  exact ⟨_, ao, L.length, c, rfl, hid (fun w' hb => ⟨_, rfl, hN w' hb⟩), hid hN, hid rfl⟩
theorem Ai.opened {w : World} {v : Value} {z : Int} {K : Nat} (h : Ai w v z K) : ∃ b ao m c, v = .agg #[.bool b, .slice ao m c] ∧ Hid (∀ w', Below w.heap.size w w' → Ai w' (.agg #[.bool b, .slice ao m c]) z K) := by
  obtain ⟨neg, ao, c, W, rfl, h⟩ := h
  exact ⟨neg, ao, W.length, c, rfl, hid (fun w' hb => ⟨neg, ao, c, W, rfl, h.rd.below hb (Nat.le_refl _), h.dig, h.le, h.eq⟩)⟩
theorem Nt.opened {w : World} {v : Value} {n : Int} {K : Nat} (h : Nt w v n K) : ∃ ao m c, v = .slice ao m c ∧ Hid (∀ w', Below w.heap.size w w' → Nt w' (.slice ao m c) n K) := by
  obtain ⟨ao, c, L, rfl, h⟩ := h
  exact ⟨ao, L.length, c, rfl, hid (fun w' hb => ⟨ao, c, L, rfl, h.rd.below hb (Nat.le_refl _), h.dig, h.nrm, h.eq, h.le⟩)⟩

/-! Results in new memory. -/
theorem owns_base {w : World} {B B' : Nat} {e : TypeId} {size n : Nat} {v : Value} {xs : List Value} (h : w.ownsRow B e size v n xs) (hb : B' ≤ B) : w.ownsRow B' e size v n xs := by
  refine ⟨h.1, ?_⟩
  rcases h.2 with h2 | ⟨g, cap, cur, hv, hg, r⟩
  · exact .inl h2
  · exact .inr ⟨g, cap, cur, hv, Nat.le_trans hb hg, r⟩
theorem FrW.base {w0 w1 w : World} {v : Value} {n : Int} {K : Nat} (h : FrW w1 w v n K) (hb : w0.heap.size ≤ w1.heap.size) : FrW w0 w v n K := by
  obtain ⟨L, h, r⟩ := h; exact ⟨L, owns_base h hb, r⟩
theorem FrW.set {w1 w : World} {v : Value} {n : Int} {K : Nat} (h : FrW w1 w v n K) {a : Addr} (ha : a.block < w1.heap.size) (u : Value) : FrW w1 (w.setCell a u) v n K := by
  obtain ⟨L, h, r⟩ := h; exact ⟨L, ownsRow_setCell_below h ha u, r⟩
theorem FrW.opened {w1 w : World} {v : Value} {n : Int} {K : Nat} (h : FrW w1 w v n K) : ∃ ao m c, v = .slice ao m c ∧ Hid (FrW w1 w (.slice ao m c) n K) := by
  obtain ⟨L, h, r⟩ := h
  rcases h.2 with ⟨rfl, _⟩ | ⟨g, cap, cur, rfl, _⟩
  · exact ⟨_, _, _, rfl, hid ⟨L, h, r⟩⟩
  · exact ⟨_, _, _, rfl, hid ⟨L, h, r⟩⟩
/-- A value of api.Int that the call has made, in normal form, which is z. -/
def FrA (w0 w : World) (v : Value) (z : Int) (K : Nat) : Prop := ∃ s, v = .agg #[.bool (decide (z < 0)), s] ∧ FrW w0 w s (z.natAbs : Int) K
def RetA (w : World) (z : Int) (K : Nat) (e : Ending) (w' : World) : Prop := ∃ v, e = .returned v ∧ FrA w w' v z K ∧ Below w.heap.size w w'

end Go.Proofs.YthgccegjopieoaaDoor

/- exact.multiplyHalves, if multiply is right at shorter factors. -/
namespace Go.Proofs.YthgccegjopieoaaDoor
open Go.RowKit

theorem Rd.drop {w : World} {k : IntKind} {b o : Nat} {c : Nat} {L : List Int} (h : Rd w k (some ⟨b, o, none⟩) c L) (n : Nat) (hn : n ≤ L.length) : Rd w k (some ⟨b, o + n, none⟩) (c - n) (L.drop n) := by
  have hc := h.cap
  refine ⟨by rw [List.length_drop]; omega, by have := h.most; omega, fun _ => ⟨_, _, rfl⟩, fun b' o' e i hi => ?_⟩
  cases e
  rw [List.length_drop] at hi
  rw [Nat.add_assoc, h.cell b o rfl (n + i) (by omega), List.getElem?_drop]

theorem Nrm.drop {L : List Int} (h : Nrm L) : ∀ n, Nrm (L.drop n) := by
  induction L with
  | nil => intro n; simpa using Nrm.nil
  | cons x l ih =>
    intro n
    cases n with
    | zero => simpa using h
    | succ n => simpa using ih h.tail n
end Go.Proofs.YthgccegjopieoaaDoor

/- exact.multiply at any factors (of 500,000 limbs together). Written by gen_mulany.py. -/
namespace Go.Proofs.YthgccegjopieoaaDoor
open Go.RowKit

theorem OwnV.mono {w : World} {B : Nat} {v : Value} {n : Int} {K K' : Nat} (h : OwnV w B v n K) (hk : K ≤ K') : OwnV w B v n K' := by
  rcases h with ⟨g, c, L, S, e, h, hK⟩ | h
  · exact .inl ⟨g, c, L, S, e, h, Nat.le_trans hK hk⟩
  · exact .inr h
theorem RetOwn.mono {w : World} {n : Int} {K K' : Nat} {e : Ending} {w' : World} (h : RetOwn w n K e w') (hk : K ≤ K') : RetOwn w n K' e w' := by
  obtain ⟨v, h1, h2, h3⟩ := h
  exact ⟨v, h1, h2.mono hk, h3⟩
end Go.Proofs.YthgccegjopieoaaDoor

/- exact.isOne, bitLength, gcdLimb. -/
namespace Go.Proofs.YthgccegjopieoaaDoor
open Go.RowKit

end Go.Proofs.YthgccegjopieoaaDoor

/- exact.bitLength, root. -/
namespace Go.Proofs.YthgccegjopieoaaDoor
open Go.RowKit Go.Shelf

/-- How many bits a number has. -/
def Bits (a : Int) (l : Nat) : Prop := (a = 0 ∧ l = 0) ∨ (1 ≤ l ∧ 2 ^ (l - 1) ≤ a ∧ a < 2 ^ l)

end Go.Proofs.YthgccegjopieoaaDoor

/- exact.root: its walk. -/
namespace Go.Proofs.YthgccegjopieoaaDoor
open Go.RowKit

theorem Rd.unique {w : World} {k : IntKind} {ao : Option Addr} {c c' : Nat} {L L' : List Int} (h : Rd w k ao c L) (h' : Rd w k ao c' L') (hl : L.length = L'.length) : L = L' := by
  by_cases h0 : L.length = 0
  · rw [List.eq_nil_of_length_eq_zero h0, List.eq_nil_of_length_eq_zero (l := L') (by omega)]
  · obtain ⟨b, o, rfl⟩ := h.adr (by omega)
    refine List.ext_getElem hl fun i h1 h2 => ?_
    have a := h.cell b o rfl i h1
    rw [h'.cell b o rfl i h2] at a
    have e := Value.int.inj (Option.some.inj a)
    simpa [h1, h2] using e.2.symm
theorem Nt.unique {w : World} {v : Value} {n n' : Int} {K K' : Nat} (h : Nt w v n K) (h' : Nt w v n' K') : n = n' := by
  obtain ⟨ao, c, L, rfl, h⟩ := h
  obtain ⟨ao', c', L', e, h'⟩ := h'
  obtain ⟨e1, e2, _⟩ := Value.slice.inj e
  subst e1
  rw [← h.eq, ← h'.eq, h.rd.unique h'.rd e2]

open Classical in
/-- The number that a value stands for, 0 if none. -/
noncomputable def natOf (w : World) (v : Value) : Nat := if h : ∃ n : Int, ∃ K, Nt w v n K then (Classical.choose h).toNat else 0
theorem natOf_eq {w : World} {v : Value} {n : Int} {K : Nat} (h : Nt w v n K) : natOf w v = n.toNat := by
  have hx : ∃ n : Int, ∃ K, Nt w v n K := ⟨n, K, h⟩
  unfold natOf
  rw [dif_pos hx]
  obtain ⟨K', h'⟩ := Classical.choose_spec hx
  rw [h'.unique h]

end Go.Proofs.YthgccegjopieoaaDoor

/- exact.raise. Written by gen_power.py. -/
namespace Go.Proofs.YthgccegjopieoaaDoor
open Go.RowKit

end Go.Proofs.YthgccegjopieoaaDoor

/- Quotients rounded down, and their rests: plain facts. -/
namespace Go.Proofs.YthgccegjopieoaaDoor

end Go.Proofs.YthgccegjopieoaaDoor

/- exact.integer: value, negated, plus; exact.Normal, Neg, Add, Sub. Written by gen_int2.py. -/
namespace Go.Proofs.YthgccegjopieoaaDoor
open Go.RowKit

set_option maxRecDepth 100000 in
set_option maxHeartbeats 4000000 in
theorem value_any (v : Value) (z : Int) (K : Nat) (w : World) (h : It w v z K) (hK : K ≤ 1073741824) :
    Calls Tryd.prog 11 #[v] w (RetA w z (2 * K)) := by
  obtain ⟨xb, xo, xm, xc, rfl, Hx, Hxs, Hxb⟩ := It.opened h
  go_enter Tryd.func11, Tryd.ntmps11
  go_wp2
  obtain ⟨W0, hW0⟩ : ∃ W0, W0 = ((w.alloc (.cells #[.bool xb, .slice xo xm xc] 41)).alloc (.cells #[.bool false, .slice none 0 0] 24)) := ⟨_, rfl⟩
  have hB0 : Below w.heap.size w W0 := by rw [hW0]; exact ((Below.refl _ _).alloc (by simp <;> omega) _).alloc (by simp <;> omega) _
  have hz0 : W0.heap.size = w.heap.size + 2 := by rw [hW0]; simp
  have HS : Hid (∀ w', Below (w.heap.size + 1) W0 w' → w'.cell? ⟨w.heap.size, 0, none⟩ = some (.bool xb) ∧ w'.cell? ⟨w.heap.size, 1, none⟩ = some (.slice xo xm xc)) := hid (fun w' hb => by
    refine ⟨?_, ?_⟩ <;> (first | (rw [hb.cell (by simp <;> omega), hW0]; simp [go_sem]; done) | (rw [hb.frozen (by simp <;> omega), hW0]; simp [go_sem]; done)))
  have HT : Hid (∀ w', Below (w.heap.size + 2) W0 w' → w'.cell? ⟨w.heap.size + 1, 0, none⟩ = some (.bool false) ∧ w'.cell? ⟨w.heap.size + 1, 1, none⟩ = some (.slice none 0 0) ∧ w'.frozen? ⟨w.heap.size + 1, 0, none⟩ = false ∧ w'.frozen? ⟨w.heap.size + 1, 1, none⟩ = false) := hid (fun w' hb => by
    refine ⟨?_, ?_, ?_, ?_⟩ <;> (first | (rw [hb.cell (by simp <;> omega), hW0]; simp [go_sem]; done) | (rw [hb.frozen (by simp <;> omega), hW0]; simp [go_sem]; done)))
  rw [← hW0]
  clear hW0
  go_region_held3 (fun w' => w'.cell? ⟨w.heap.size, 0, none⟩ = some (.bool xb) ∧ w'.cell? ⟨w.heap.size, 1, none⟩ = some (.slice xo xm xc)) ((refine HS.out _ ?_; first | assumption | exact Below.refl _ _ | exact (Below.refl _ _).drew | exact ((hB1.mono (Nat.le_succ _)).setCell (Nat.le_refl _) _).setCell (Nat.le_refl _) _)) (first
    | (go_at_call 23; refine (words_any _ _ _ _ (Hxs.out _ hB0.drew) hK).mono ?_; rintro e w1 ⟨v1, rfl, hv1, hb1⟩; obtain ⟨o1, m1, c1, rfl, HV⟩ := FrW.opened hv1; have hB1 : Below (w.heap.size + 2) W0 w1 := ((Below.refl _ _).drew).trans (hb1.mono (by simp; omega)); have hB1s := hB1.mono (Nat.le_succ _); obtain ⟨hr0, hr1, hr2, hr3⟩ := HT.out _ hB1))
  go_wp2
  have hbel : Below w.heap.size w w1 := hB0.trans (hB1.mono (by omega))
  refine bodyPost_ret (v := .agg #[.bool xb, .slice o1 m1 c1]) (by simp [results, Tryd.results11, go_sem, hr0, hr1]) rfl ⟨_, rfl, ?_, (hbel.setCell (by simp <;> omega) _).setCell (by simp <;> omega) _⟩
  rw [Hxb.out]
  exact ⟨_, rfl, ((HV.out.set (by simp; omega) _).set (by simp; omega) _).base (by simp; omega)⟩

end Go.Proofs.YthgccegjopieoaaDoor

/- exact.Normal, Neg, Add, Sub. Written by gen_int3.py. -/
namespace Go.Proofs.YthgccegjopieoaaDoor
open Go.RowKit

theorem FrA.set {w1 w : World} {v : Value} {z : Int} {K : Nat} (h : FrA w1 w v z K) {a : Addr} (ha : a.block < w1.heap.size) (u : Value) : FrA w1 (w.setCell a u) v z K := by
  obtain ⟨s, rfl, h⟩ := h; exact ⟨s, rfl, h.set ha u⟩

end Go.Proofs.YthgccegjopieoaaDoor

/- exact.multiply of factors of fewer than 80 limbs. -/
namespace Go.Proofs.YthgccegjopieoaaDoor
open Go.RowKit

end Go.Proofs.YthgccegjopieoaaDoor

/- exact.integer: times; exact.Mul, Sign, sign. Written by gen_int4.py. -/
namespace Go.Proofs.YthgccegjopieoaaDoor
open Go.RowKit

theorem sgn_mul (x y : Int) : sgn (decide (x < 0) != decide (y < 0)) ((x.natAbs : Int) * (y.natAbs : Int)) = x * y := by
  have hx : (x.natAbs : Int) = if x < 0 then -x else x := by split <;> omega
  have hy : (y.natAbs : Int) = if y < 0 then -y else y := by split <;> omega
  rw [hx, hy]
  by_cases h1 : x < 0 <;> by_cases h2 : y < 0 <;> simp [h1, h2, sgn, Int.neg_mul, Int.mul_neg]

end Go.Proofs.YthgccegjopieoaaDoor

/- exact.integer: over (the quotient rounded down, and its rest). Written by gen_iover.py. -/
namespace Go.Proofs.YthgccegjopieoaaDoor
open Go.RowKit

theorem Nt.len0 {w : World} {ao : Option Addr} {m c : Nat} {n : Int} {K : Nat} (h : Nt w (.slice ao m c) n K) : m = 0 ↔ n = 0 := by
  obtain ⟨ao', c', L, e, hl⟩ := h
  obtain ⟨_, rfl, _⟩ := Value.slice.inj e
  exact hl.zero_iff

end Go.Proofs.YthgccegjopieoaaDoor

/- A region that draws its order, by an invariant: what holds of the frame and the world while some of its operations have been carried out. -/
namespace Go.Proofs.YthgccegjopieoaaDoor
open Go.RowKit

theorem count_set_true : ∀ (l : List Bool) (i : Nat), l[i]? = some false → (l.set i true).count false + 1 = l.count false
  | [], i, h => by simp at h
  | b :: l, 0, h => by simp at h; subst h; simp
  | b :: l, i + 1, h => by
    have := count_set_true l i (by simpa using h)
    simp only [List.set_cons_succ, List.count_cons]; omega

/-- Of each operation the list of some that it waits for. -/
def waits (ops : Array Oper) (dep : List (List Nat)) : Bool :=
  (List.range ops.size).all fun i => (dep.getD i []).all fun d => ((ops[i]?).map fun o => o.after.toList.any fun e => Region.binds .any e && e.on == d).getD false
theorem waits_spec {ops : Array Oper} {dep : List (List Nat)} (h : waits ops dep = true) {L : Array Bool} {i : Nat} (hi : i ∈ Region.ready .any ops L) :
    i < ops.size ∧ L.getD i true = false ∧ ∀ d, d ∈ dep.getD i [] → L.getD d false = true := by
  unfold Region.ready at hi
  rw [List.mem_filter, List.mem_range] at hi
  obtain ⟨h1, h2⟩ := hi
  simp only [Bool.and_eq_true, Bool.not_eq_true'] at h2
  refine ⟨h1, h2.1, fun d hd => ?_⟩
  unfold waits at h
  rw [List.all_eq_true] at h
  have h3 := h i (List.mem_range.2 h1)
  rw [List.all_eq_true] at h3
  have h4 := h3 d hd
  have ho : ops[i]? = some ops[i] := by simp [h1]
  rw [ho] at h2 h4
  simp only [Option.map_some, Option.getD_some] at h2 h4
  rw [List.any_eq_true] at h4
  obtain ⟨e, he, h5⟩ := h4
  simp only [Bool.and_eq_true, beq_iff_eq] at h5
  have h6 := h2.2
  rw [Array.all_eq_true_iff_forall_mem] at h6
  have h7 := h6 e (by simpa using he)
  rw [h5.1, h5.2] at h7
  simpa using h7
/-- When nothing is ready all has been done, where each operation waits for earlier ones alone. -/
def early (ops : Array Oper) : Bool := (List.range ops.size).all fun i => ((ops[i]?).map fun o => o.after.toList.all fun e => !Region.binds .any e || decide (e.on < i)).getD false
theorem early_done {ops : Array Oper} (h : early ops = true) {L : Array Bool} (hsz : L.size = ops.size) (hL : Region.ready .any ops L = []) : ∀ n i, i < n → i < ops.size → L.getD i true = true := by
  intro n
  induction n with
  | zero => intro i hi; omega
  | succ n ih =>
    intro i hi hs
    by_cases hlt : i < n
    · exact ih i hlt hs
    · obtain rfl : i = n := by omega
      cases hb : L.getD i true with
      | true => rfl
      | false =>
        exfalso
        have hm : i ∈ Region.ready .any ops L := by
          unfold Region.ready
          rw [List.mem_filter, List.mem_range]
          refine ⟨hs, ?_⟩
          have ho : ops[i]? = some ops[i] := by simp [hs]
          rw [hb, ho]
          simp only [Option.map_some, Option.getD_some, Bool.not_false, Bool.true_and]
          rw [Array.all_eq_true_iff_forall_mem]
          intro e he
          unfold early at h
          rw [List.all_eq_true] at h
          have h3 := h i (List.mem_range.2 hs)
          rw [ho] at h3
          simp only [Option.map_some, Option.getD_some] at h3
          rw [List.all_eq_true] at h3
          have h4 := h3 e (by simpa using he)
          simp only [Bool.or_eq_true, Bool.not_eq_true', decide_eq_true_eq] at h4
          rcases h4 with h4 | h4
          · simp [h4]
          · have h5 := ih e.on h4 (by omega)
            have h6 : L.getD e.on false = true := by
              have hz : e.on < L.size := by omega
              simp [hz] at h5 ⊢; exact h5
            simp [h6]
        rw [hL] at hm; cases hm

/-! The region 'm, n := f(x), g(y)' of two structs (a bool and a slice) whose addresses are taken: two loads, two calls, two allotments, two stores. -/
/-- s points to a cell pair of a block that the region has made; b: it has been written with v. -/
def PtrAt (k : IntKind) (B : Nat) (w : World) (s : Value) (b : Bool) (v : Value) : Prop :=
  ∃ p v0 v1, s = .pointer (some ⟨p, 0, none⟩) ∧ B ≤ p ∧ w.cell? ⟨p, 0, none⟩ = some v0 ∧ w.cell? ⟨p, 1, none⟩ = some v1 ∧ w.frozen? ⟨p, 0, none⟩ = false ∧ w.frozen? ⟨p, 1, none⟩ = false ∧ (∀ x, v0 ≠ .int k x) ∧ (∀ x, v1 ≠ .int k x) ∧ (b = true → v = .agg #[v0, v1])

theorem PtrAt.below {k : IntKind} {B : Nat} {w w' : World} {s v : Value} {b : Bool} (h : PtrAt k B w s b v) (hb : Below w.heap.size w w') : PtrAt k B w' s b v := by
  obtain ⟨p, v0, v1, rfl, hp, c0, c1, f0, f1, r⟩ := h
  have hl := World.block_lt_of_cell? w _ c0
  exact ⟨p, v0, v1, rfl, hp, (hb.cell (p := ⟨p, 0, none⟩) hl).trans c0, (hb.cell (p := ⟨p, 1, none⟩) hl).trans c1, (hb.frozen (p := ⟨p, 0, none⟩) hl).trans f0, (hb.frozen (p := ⟨p, 1, none⟩) hl).trans f1, r⟩

structure PairJ (k : IntKind) (B : Nat) (W0 : World) (vx vy : Value) (G1 G2 : World → Value → Prop) (b0 b1 b2 b3 b4 b5 b6 b7 : Bool) (s5 s6 s7 s8 s9 s10 : Value) (w : World) : Prop where
  bel : Below B W0 w
  siz : B ≤ w.heap.size
  l0 : b0 = true → s7 = vx
  c1 : b1 = true → G1 w s8
  l2 : b2 = true → s9 = vy
  c3 : b3 = true → G2 w s10
  p4 : b4 = true → PtrAt k B w s5 b6 s8
  p5 : b5 = true → PtrAt k B w s6 b7 s10
  ne : b4 = true → b5 = true → s5 ≠ s6

section
variable {k : IntKind} {B : Nat} {W0 : World} {vx vy : Value} {G1 G2 : World → Value → Prop} {b0 b1 b2 b3 b4 b5 b6 b7 : Bool} {s5 s6 s7 s8 s9 s10 : Value} {w w' : World}

theorem PairJ.start (h : Below B W0 w) (hs : B ≤ w.heap.size) : PairJ k B W0 vx vy G1 G2 false false false false false false false false s5 s6 s7 s8 s9 s10 w :=
  ⟨h, hs, nofun, nofun, nofun, nofun, nofun, nofun, nofun⟩
theorem PtrAt.fresh {k : IntKind} {B : Nat} {w : World} {s v v' : Value} (h : PtrAt k B w s false v) : PtrAt k B w s false v' := by
  obtain ⟨p, v0, v1, rfl, hp, c0, c1, f0, f1, n0, n1, _⟩ := h
  exact ⟨p, v0, v1, rfl, hp, c0, c1, f0, f1, n0, n1, nofun⟩
theorem PairJ.drew (h : PairJ k B W0 vx vy G1 G2 b0 b1 b2 b3 b4 b5 b6 b7 s5 s6 s7 s8 s9 s10 w) (hG1 : ∀ w w' v, Keeps k w w' → G1 w v → G1 w' v) (hG2 : ∀ w w' v, Keeps k w w' → G2 w v → G2 w' v) : PairJ k B W0 vx vy G1 G2 b0 b1 b2 b3 b4 b5 b6 b7 s5 s6 s7 s8 s9 s10 w.drew :=
  ⟨h.bel.drew, h.siz, h.l0, fun e => hG1 _ _ _ (Keeps.refl _ _).drew (h.c1 e), h.l2, fun e => hG2 _ _ _ (Keeps.refl _ _).drew (h.c3 e), h.p4, h.p5, h.ne⟩
end

end Go.Proofs.YthgccegjopieoaaDoor

/- Lehmer's steps of a common divisor: plain arithmetic. -/
namespace Go.Proofs.YthgccegjopieoaaDoor

theorem leh_mul {u x D S : Int} (h0 : 0 ≤ u) (h1 : u ≤ D) (a0 : 0 ≤ x) (a1 : x < S) : 0 ≤ u * x ∧ u * x ≤ D * S - D := by
  refine ⟨Int.mul_nonneg h0 a0, ?_⟩
  have h2 : u * x ≤ D * x := Int.mul_le_mul_of_nonneg_right h1 a0
  have h3 : D * x ≤ D * (S - 1) := Int.mul_le_mul_of_nonneg_left (by omega) (by omega)
  rw [Int.mul_sub, Int.mul_one] at h3
  omega
theorem leh_pos {g u v x y D S : Int} (hg : g = 1 ∨ g = -1) (hu0 : 0 ≤ u) (hu : u ≤ D) (hv0 : 0 ≤ v) (hv : v ≤ D) (x0 : 0 ≤ x) (x1 : x < S) (y0 : 0 ≤ y) (y1 : y < S) : D ≤ D * S + g * (u * x - v * y) := by
  have h1 := leh_mul hu0 hu x0 x1
  have h2 := leh_mul hv0 hv y0 y1
  generalize u * x = p at *
  generalize v * y = q at *
  generalize D * S = r at *
  rcases hg with rfl | rfl
  · rw [Int.one_mul]; omega
  · rw [Int.neg_mul, Int.one_mul]; omega

/-- Some of Euclid's steps of a and b, told by their highest bits A and B. -/
structure LehN (a b A B : Int) (cnt a0 b0 a1 b1 hi lo : Int) : Prop where
  c0 : 0 ≤ cnt
  cb : cnt + 1 ≤ b0 + b1
  a00 : 0 ≤ a0
  b00 : 0 ≤ b0
  a10 : 0 ≤ a1
  b11 : 1 ≤ b1
  ab1 : a1 ≤ b1
  abs : a0 + a1 ≤ b0 + b1
  b0s : b0 < 4294967296
  b1s : b1 < 4294967296
  lo0 : 0 ≤ lo
  le : lo ≤ hi
  eA : b1 * hi + b0 * lo = A
  eB : a1 * hi + a0 * lo = B
  sg : ∃ g R0 R1 : Int, (g = 1 ∧ cnt % 2 = 0 ∨ g = -1 ∧ cnt % 2 = 1) ∧ R0 = g * (a0 * a - b0 * b) ∧ R1 = g * (b1 * b - a1 * a) ∧ hi = g * (a0 * A - b0 * B) ∧ lo = g * (b1 * B - a1 * A) ∧
    0 ≤ R1 ∧ (cnt = 0 ∧ R1 = b ∨ 0 < cnt ∧ R1 < R0 ∧ R0 ≤ b) ∧ Int.gcd R0 R1 = Int.gcd a b

theorem LehN.start {a b A B : Int} (hb : 0 ≤ b) (hB : 0 ≤ B) (hAB : B ≤ A) : LehN a b A B 0 1 0 0 1 A B :=
  ⟨by decide, by decide, by decide, by decide, by decide, by decide, by decide, by decide, by decide, by decide, hB, hAB, by omega, by omega, 1, a, b, .inl ⟨rfl, rfl⟩, by omega, by omega, by omega, by omega, hb, .inl ⟨rfl, rfl⟩, rfl⟩

theorem gcd_sub_mul (x y q : Int) : Int.gcd y (x - q * y) = Int.gcd x y := by
  apply Nat.dvd_antisymm
  · apply Int.dvd_gcd
    · have h1 := Int.gcd_dvd_left y (x - q * y)
      have h2 := Int.gcd_dvd_right y (x - q * y)
      have := Int.dvd_add h2 (Int.dvd_mul_of_dvd_right h1 (b := q))
      simpa using this
    · exact Int.gcd_dvd_left y (x - q * y)
  · apply Int.dvd_gcd
    · exact Int.gcd_dvd_right x y
    · exact Int.dvd_sub (Int.gcd_dvd_left x y) (Int.dvd_mul_of_dvd_right (Int.gcd_dvd_right x y))

/-- What the numbers of the next step are at most. -/
structure LehB (a0 b0 a1 b1 hi lo q rest a2 b2 : Int) : Prop where
  q1 : 1 ≤ q
  qh : q * lo ≤ hi
  r0 : 0 ≤ rest
  r1 : rest < lo
  a20 : 0 ≤ a2
  qa0 : 0 ≤ q * a1
  qa : q * a1 ≤ a2
  ab2 : a2 ≤ b2
  qb0 : 0 ≤ q * b1
  qb : q * b1 ≤ b2
  b21 : 1 ≤ b2
  bA : b2 * lo + b1 * rest = b1 * hi + b0 * lo
  bB : a2 * lo + a1 * rest = a1 * hi + a0 * lo

/-- A factor of what is small is small. -/
theorem leh_le {u x p A : Int} (hu : 0 ≤ u) (hx : 1 ≤ x) (hp : 0 ≤ p) (h : u * x + p = A) : u ≤ A := by
  have : u * 1 ≤ u * x := Int.mul_le_mul_of_nonneg_left hx hu
  omega

theorem LehB.fits {a0 b0 a1 b1 hi lo q rest a2 b2 A B : Int} (h : LehB a0 b0 a1 b1 hi lo q rest a2 b2) (hA : b1 * hi + b0 * lo = A) (hB : a1 * hi + a0 * lo = B) (hb1 : 1 ≤ b1) (ha1 : 0 ≤ a1) : b2 ≤ A ∧ a2 ≤ B ∧ (b2 ≤ rest → b1 + b2 ≤ A ∧ b2 * b2 ≤ A) := by
  have hlo : 1 ≤ lo := by have := h.r0; have := h.r1; omega
  have e1 := h.bA; have e2 := h.bB
  rw [hA] at e1; rw [hB] at e2
  have p1 : 0 ≤ b1 * rest := Int.mul_nonneg (by omega) h.r0
  have p2 : 0 ≤ a1 * rest := Int.mul_nonneg ha1 h.r0
  refine ⟨leh_le (by have := h.b21; omega) hlo p1 e1, leh_le h.a20 hlo p2 e2, fun hr => ?_⟩
  have hb2 := h.b21
  have g1 : b2 * 1 ≤ b2 * lo := Int.mul_le_mul_of_nonneg_left hlo (by omega)
  have g2 : b1 * 1 ≤ b1 * rest := Int.mul_le_mul_of_nonneg_left (by omega) (by omega)
  have g3 : b2 * b2 ≤ b2 * lo := Int.mul_le_mul_of_nonneg_left (by have := h.r1; omega) (by omega)
  constructor <;> omega

theorem sq_lt {x A : Int} (h : x * x ≤ A) (hA : A < 18446744073709551616) : x < 4294967296 := by
  by_cases h1 : x < 4294967296
  · exact h1
  · have : (4294967296 : Int) * 4294967296 ≤ x * x := Int.mul_le_mul (by omega) (by omega) (by decide) (by omega)
    omega

theorem LehN.next {a b A B S x y cnt a0 b0 a1 b1 hi lo q rest a2 b2 : Int} (H : LehN a b A B cnt a0 b0 a1 b1 hi lo) (h : LehB a0 b0 a1 b1 hi lo q rest a2 b2) (hr : rest = hi - q * lo) (h2 : a2 = a0 + q * a1) (h3 : b2 = b0 + q * b1)
    (ha : a = A * S + x) (hb : b = B * S + y) (x0 : 0 ≤ x) (x1 : x < S) (y0 : 0 ≤ y) (y1 : y < S) (hA : A < 18446744073709551616) (k1 : b2 ≤ rest) (k2 : b1 + b2 ≤ lo - rest) : LehN a b A B (cnt + 1) a1 b1 a2 b2 lo rest := by
  obtain ⟨g, R0, R1, hg, e0, e1, e2, e3, hp, hc, hgcd⟩ := H.sg
  have hg' : g = 1 ∨ g = -1 := by rcases hg with h | h; exact .inl h.1; exact .inr h.1
  have f := h.fits H.eA H.eB H.b11 H.a10
  have hsq := sq_lt (f.2.2 k1).2 hA
  have ab1 := H.ab1; have ab2 := h.ab2; have a10 := H.a10; have b11 := H.b11; have a20 := h.a20; have b21 := h.b21
  have w1 : R0 - q * R1 = rest * S + g * (a2 * x - b2 * y) := by
    rw [e0, e1, hr, e2, e3, ha, hb, h2, h3]; grind
  have w2 : R1 - (R0 - q * R1) = (lo - rest) * S + g * ((b1 + b2) * y - (a1 + a2) * x) := by
    rw [e0, e1, hr, e2, e3, ha, hb, h2, h3]; grind
  have p1 := leh_pos hg' a20 (by omega) (by omega) k1 x0 x1 y0 y1
  have p2 := leh_pos (D := lo - rest) hg' (by omega) k2 (show 0 ≤ a1 + a2 by omega) (by omega) y0 y1 x0 x1
  rw [← w1] at p1
  rw [← w2] at p2
  have r0 := h.r0; have r1 := h.r1
  refine ⟨by have := H.c0; omega, ?_, a10, by omega, a20, by omega, ab2, by omega, H.b1s, hsq, r0, by omega, by rw [h.bA]; exact H.eA, by rw [h.bB]; exact H.eB, -g, R1, R0 - q * R1, ?_, ?_, ?_, ?_, ?_, by omega, .inr ⟨by have := H.c0; omega, by omega, ?_⟩, ?_⟩
  · have h5 := H.cb; have h6 := h.qb; have h7 := h.q1
    have : 1 * b1 ≤ q * b1 := Int.mul_le_mul_of_nonneg_right h7 (by omega)
    omega
  · rcases hg with ⟨rfl, h⟩ | ⟨rfl, h⟩
    · right; exact ⟨rfl, by omega⟩
    · left; exact ⟨rfl, by omega⟩
  · rw [e1]; grind
  · rw [e0, e1, h2, h3]; grind
  · rw [e3]; grind
  · rw [hr, e2, e3, h2, h3]; grind
  · rcases hc with ⟨_, h⟩ | ⟨_, h, h'⟩ <;> omega
  · rw [← hgcd]; exact gcd_sub_mul R0 R1 q

end Go.Proofs.YthgccegjopieoaaDoor

/- Lehmer's steps: the highest 64 bits; what the steps are. -/
namespace Go.Proofs.YthgccegjopieoaaDoor
open Go.RowKit

end Go.Proofs.YthgccegjopieoaaDoor
