/- exact.integer: signed, read, value, negated. Quotients rounded down, and their rests: plain facts. -/
import Derived.Test.YtbapeilpkhbbeaaGreatDoorYn09
import Derived.Test.YtbapeilpkhbbeaaGreatDoorYn07
import Derived.Deep.RegionHeld3
/- exact.integer: signed, read, value, negated. -/
namespace Go.Proofs.YtbapeilpkhbbeaaGreatDoor
open Go.RowKit

/-- The value v reads in w as the integer z. -/
def It (w : World) (v : Value) (z : Int) (K : Nat) : Prop := ∃ s, v = .agg #[.bool (decide (z < 0)), s] ∧ Nt w s (z.natAbs : Int) K
def RetI (w : World) (z : Int) (K : Nat) (e : Ending) (w' : World) : Prop := ∃ v, e = .returned v ∧ It w' v z K ∧ Below w.heap.size w w'
theorem It.below {w w' : World} {v : Value} {n : Int} {K B : Nat} (h : It w v n K) (hb : Below B w w') (hB : w.heap.size ≤ B) : It w' v n K := by
  obtain ⟨s, rfl, h⟩ := h; exact ⟨s, rfl, h.below hb hB⟩
theorem It.mono {w : World} {v : Value} {n : Int} {K K' : Nat} (h : It w v n K) (hk : K ≤ K') : It w v n K' := by
  obtain ⟨s, rfl, h⟩ := h; exact ⟨s, rfl, h.mono hk⟩

theorem Nt.set {w : World} {s : Value} {n : Int} {K : Nat} (h : Nt w s n K) {a : Addr} {u : Value} (hu : w.cell? a = some u) (hn : ∀ x, u ≠ .int .u64 x) (v : Value) : Nt (w.setCell a v) s n K := by
  obtain ⟨ao, c, L, rfl, h⟩ := h; exact ⟨ao, c, L, rfl, h.rd.set hu hn v, h.dig, h.nrm, h.eq, h.le⟩
theorem It.set {w : World} {s : Value} {n : Int} {K : Nat} (h : It w s n K) {a : Addr} {u : Value} (hu : w.cell? a = some u) (hn : ∀ x, u ≠ .int .u64 x) (v : Value) : It (w.setCell a v) s n K := by
  obtain ⟨s, rfl, h⟩ := h; exact ⟨s, rfl, h.set hu hn v⟩

theorem NtL.zero_iff {w : World} {ao : Option Addr} {c : Nat} {L : List Int} {n : Int} {K : Nat} (h : NtL w ao c L n K) : L.length = 0 ↔ n = 0 := by
  constructor
  · intro hl; rw [← h.eq, List.eq_nil_of_length_eq_zero hl]; rfl
  · intro hn; rw [Nrm.eq_nil B64_pos h.dig h.nrm (by rw [h.eq, hn])]; rfl

/-- A number of which a sign and a size are known. -/
def sgn (neg : Bool) (n : Int) : Int := if neg then -n else n
theorem sgn_abs (neg : Bool) {n : Int} (h : 0 ≤ n) : ((sgn neg n).natAbs : Int) = n := by unfold sgn; split <;> omega
theorem sgn_lt (neg : Bool) {n : Int} (h : 0 ≤ n) : decide (sgn neg n < 0) = (neg && decide (0 < n)) := by
  unfold sgn; cases neg <;> simp <;> omega

set_option maxHeartbeats 1000000 in
theorem signed_any (neg : Bool) (s : Value) (n : Int) (K : Nat) (w : World) (h : Nt w s n K) :
    Calls Tryz.prog 21 #[.bool neg, s] w (RetI w (sgn neg n) K) := by
  have h0 := h.nonneg
  have hab := sgn_abs neg h0
  have hlt := sgn_lt neg h0
  obtain ⟨ao, c, L, rfl, h⟩ := h
  obtain ⟨m, hm⟩ : ∃ m, m = L.length := ⟨_, rfl⟩
  have hz := h.zero_iff
  have hd : decide (0 < n) = decide ((0 : Int) < (m : Int)) := by rw [hm]; apply decide_eq_decide.2; constructor <;> intro hh <;> omega
  rw [hd] at hlt
  rw [← hm]
  have H : Hid (∀ w', Below w.heap.size w w' → It w' (.agg #[.bool (neg && decide ((0 : Int) < (m : Int))), .slice ao m c]) (sgn neg n) K) := hid (fun w' hb => ⟨_, by rw [hlt], by rw [hab, hm]; exact ⟨ao, c, L, rfl, h.rd.below hb (Nat.le_refl _), h.dig, h.nrm, h.eq, h.le⟩⟩)
  clear hd hz hlt hab h0 h hm
  cases neg with
  | false =>
    go_enter Tryz.func21, Tryz.ntmps21
    go_wp2
    refine bodyPost_ret (v := .agg #[.bool false, .slice ao m c]) (by simp [results, Tryz.results21, go_sem]) rfl ⟨_, rfl, ?_, (Below.refl _ _).alloc (Nat.le_refl _) _⟩
    exact H.out _ ((Below.refl _ _).alloc (Nat.le_refl _) _)
  | true =>
    go_enter Tryz.func21, Tryz.ntmps21
    go_wp2
    refine bodyPost_ret (v := .agg #[.bool (decide ((0 : Int) < (m : Int))), .slice ao m c]) (by simp [results, Tryz.results21, go_sem]) rfl ⟨_, rfl, ?_, (Below.refl _ _).alloc (Nat.le_refl _) _⟩
    exact H.out _ ((Below.refl _ _).alloc (Nat.le_refl _) _)

/-- The value v (an api.Int) stands in w for the integer z. -/
structure AiL (w : World) (neg : Bool) (ao : Option Addr) (c : Nat) (W : List Int) (z : Int) (K : Nat) : Prop where
  rd : Rd w .u32 ao c W
  dig : Dig B32 W
  le : W.length ≤ K
  eq : z = sgn neg (val B32 W)
def Ai (w : World) (v : Value) (z : Int) (K : Nat) : Prop := ∃ neg ao c W, v = .agg #[.bool neg, .slice ao W.length c] ∧ AiL w neg ao c W z K
theorem Ai.below {w w' : World} {v : Value} {n : Int} {K B : Nat} (h : Ai w v n K) (hb : Below B w w') (hB : w.heap.size ≤ B) : Ai w' v n K := by
  obtain ⟨neg, ao, c, W, rfl, h⟩ := h; exact ⟨neg, ao, c, W, rfl, h.rd.below hb hB, h.dig, h.le, h.eq⟩

set_option maxRecDepth 100000 in
set_option maxHeartbeats 2000000 in
theorem read_any (v : Value) (z : Int) (K : Nat) (w : World) (h : Ai w v z K) (hK : K ≤ 1073741824) :
    Calls Tryz.prog 39 #[v] w (RetI w z ((K + 1) / 2)) := by
  obtain ⟨neg, ao, c, W, rfl, h⟩ := h
  obtain ⟨n, hn⟩ : ∃ n, n = W.length := ⟨_, rfl⟩
  have hf := fun (w' : World) (hb : Below w.heap.size w w') => fromWords_any ao c W w' (h.rd.below hb (Nat.le_refl _)) h.dig (by have := h.le; omega)
  rw [← hn] at hf ⊢
  have HF := hid hf; have H := hid h; have Hn := hid hn
  clear hf h hn
  go_enter Tryz.func39, Tryz.ntmps39
  go_wp2
  obtain ⟨W0, hW0⟩ : ∃ W0, W0 = ((w.alloc (.cells #[.bool neg, .slice ao n c] 24)).alloc (.cells #[.bool false, .slice none 0 0] 56)) := ⟨_, rfl⟩
  have hB0 : Below w.heap.size w W0 := by rw [hW0]; exact ((Below.refl _ _).alloc (Nat.le_refl _) _).alloc (by simp) _
  have hz0 : W0.heap.size = w.heap.size + 2 := by rw [hW0]; simp
  have HS : Hid (∀ w', Below (w.heap.size + 1) W0 w' → w'.cell? ⟨w.heap.size, 0, none⟩ = some (.bool neg) ∧ w'.cell? ⟨w.heap.size, 1, none⟩ = some (.slice ao n c)) := hid (fun w' hb => by
    constructor
    · rw [hb.cell (by simp), hW0]; simp [go_sem, World.cell?_alloc_past]
    · rw [hb.cell (by simp), hW0]; simp [go_sem, World.cell?_alloc_past])
  have HT : Hid (∀ w', Below (w.heap.size + 2) W0 w' → w'.cell? ⟨w.heap.size + 1, 0, none⟩ = some (.bool false) ∧ w'.cell? ⟨w.heap.size + 1, 1, none⟩ = some (.slice none 0 0) ∧ w'.frozen? ⟨w.heap.size + 1, 0, none⟩ = false ∧ w'.frozen? ⟨w.heap.size + 1, 1, none⟩ = false) := hid (fun w' hb => by
    refine ⟨?_, ?_, ?_, ?_⟩
    · rw [hb.cell (by simp), hW0]; simp [go_sem]
    · rw [hb.cell (by simp), hW0]; simp [go_sem]
    · rw [hb.frozen (by simp), hW0]; simp [go_sem]
    · rw [hb.frozen (by simp), hW0]; simp [go_sem])
  rw [← hW0]
  clear hW0
  go_region_held3 (fun w' => w'.cell? ⟨w.heap.size, 0, none⟩ = some (.bool neg) ∧ w'.cell? ⟨w.heap.size, 1, none⟩ = some (.slice ao n c)) ((refine HS.out _ ?_; first | assumption | exact Below.refl _ _ | exact (Below.refl _ _).drew | exact ((hB2.mono (Nat.le_succ _)).setCell (Nat.le_refl _) _).setCell (Nat.le_refl _) _)) (first
    | (go_at_call 79; refine (HF.out _ hB0.drew).mono ?_; rintro e w1 ⟨s, rfl, hs, hb1⟩; have hB1 : Below (w.heap.size + 2) W0 w1 := ((Below.refl _ _).drew).trans (hb1.mono (by simp; omega)); have hB1s := hB1.mono (Nat.le_succ _))
    | (go_at_call 21; refine (signed_any neg s _ _ _ hs).mono ?_; rintro e w2 ⟨_, rfl, ⟨_, rfl, qo, qc, QL, rfl, hq⟩, hb2⟩; have hB2 : Below (w.heap.size + 2) W0 w2 := hB1.trans (hb2.mono (by have := hB1.size; omega)); have hB2s := hB2.mono (Nat.le_succ _); obtain ⟨hr0, hr1, hr2, hr3⟩ := HT.out _ hB2))
  go_wp2
  have hbel : Below w.heap.size w w2 := hB0.trans (hB2.mono (by omega))
  refine bodyPost_ret (v := .agg #[.bool (decide (sgn neg (val B32 W) < 0)), .slice qo QL.length qc]) (by simp [results, Tryz.results39, go_sem, hr0, hr1]) rfl ⟨_, rfl, ?_, (hbel.setCell (by simp) _).setCell (by simp) _⟩
  have hfin : It w2 (.agg #[.bool (decide (sgn neg (val B32 W) < 0)), .slice qo QL.length qc]) z ((K + 1) / 2) := by
    rw [H.out.eq]
    exact ⟨_, rfl, qo, qc, QL, rfl, hq.rd, hq.dig, hq.nrm, hq.eq, by have := hq.le; have := Hn.out; have := H.out.le; omega⟩
  exact (hfin.set hr0 (fun x h => (by cases h)) _).set (u := .slice none 0 0) (by simp [go_sem, hr1]) (fun x h => (by cases h)) _

/-! Arguments, opened for a walk. -/
theorem It.opened {w : World} {v : Value} {z : Int} {K : Nat} (h : It w v z K) : ∃ b ao m c, v = .agg #[.bool b, .slice ao m c] ∧ Hid (∀ w', Below w.heap.size w w' → It w' (.agg #[.bool b, .slice ao m c]) z K) ∧ Hid (∀ w', Below w.heap.size w w' → Nt w' (.slice ao m c) (z.natAbs : Int) K) ∧ Hid (b = decide (z < 0)) := by
  obtain ⟨s, rfl, ao, c, L, rfl, h⟩ := h
  have hN : ∀ w', Below w.heap.size w w' → Nt w' (.slice ao L.length c) (z.natAbs : Int) K := fun w' hb => ⟨ao, c, L, rfl, h.rd.below hb (Nat.le_refl _), h.dig, h.nrm, h.eq, h.le⟩
  exact ⟨_, ao, L.length, c, rfl, hid (fun w' hb => ⟨_, rfl, hN w' hb⟩), hid hN, hid rfl⟩
theorem Ai.opened {w : World} {v : Value} {z : Int} {K : Nat} (h : Ai w v z K) : ∃ b ao m c, v = .agg #[.bool b, .slice ao m c] ∧ Hid (∀ w', Below w.heap.size w w' → Ai w' (.agg #[.bool b, .slice ao m c]) z K) := by
  obtain ⟨neg, ao, c, W, rfl, h⟩ := h
  exact ⟨neg, ao, W.length, c, rfl, hid (fun w' hb => ⟨neg, ao, c, W, rfl, h.rd.below hb (Nat.le_refl _), h.dig, h.le, h.eq⟩)⟩
theorem Nt.opened {w : World} {v : Value} {n : Int} {K : Nat} (h : Nt w v n K) : ∃ ao m c, v = .slice ao m c ∧ Hid (∀ w', Below w.heap.size w w' → Nt w' (.slice ao m c) n K) := by
  obtain ⟨ao, c, L, rfl, h⟩ := h
  exact ⟨ao, L.length, c, rfl, hid (fun w' hb => ⟨ao, c, L, rfl, h.rd.below hb (Nat.le_refl _), h.dig, h.nrm, h.eq, h.le⟩)⟩

/-! Results in new memory. -/
theorem owns_base {w : World} {B B' : Nat} {e : TypeId} {size n : Nat} {v : Value} {xs : List Value} (h : w.ownsRow B e size v n xs) (hb : B' ≤ B) : w.ownsRow B' e size v n xs := by
  refine ⟨h.1, ?_⟩
  rcases h.2 with h2 | ⟨g, cap, cur, hv, hg, r⟩
  · exact .inl h2
  · exact .inr ⟨g, cap, cur, hv, Nat.le_trans hb hg, r⟩
theorem FrW.base {w0 w1 w : World} {v : Value} {n : Int} {K : Nat} (h : FrW w1 w v n K) (hb : w0.heap.size ≤ w1.heap.size) : FrW w0 w v n K := by
  obtain ⟨L, h, r⟩ := h; exact ⟨L, owns_base h hb, r⟩
theorem FrW.set {w1 w : World} {v : Value} {n : Int} {K : Nat} (h : FrW w1 w v n K) {a : Addr} (ha : a.block < w1.heap.size) (u : Value) : FrW w1 (w.setCell a u) v n K := by
  obtain ⟨L, h, r⟩ := h; exact ⟨L, ownsRow_setCell_below h ha u, r⟩
theorem FrW.opened {w1 w : World} {v : Value} {n : Int} {K : Nat} (h : FrW w1 w v n K) : ∃ ao m c, v = .slice ao m c ∧ Hid (FrW w1 w (.slice ao m c) n K) := by
  obtain ⟨L, h, r⟩ := h
  rcases h.2 with ⟨rfl, _⟩ | ⟨g, cap, cur, rfl, _⟩
  · exact ⟨_, _, _, rfl, hid ⟨L, h, r⟩⟩
  · exact ⟨_, _, _, rfl, hid ⟨L, h, r⟩⟩
/-- A value of api.Int that the call has made, in normal form, which is z. -/
def FrA (w0 w : World) (v : Value) (z : Int) (K : Nat) : Prop := ∃ s, v = .agg #[.bool (decide (z < 0)), s] ∧ FrW w0 w s (z.natAbs : Int) K
def RetA (w : World) (z : Int) (K : Nat) (e : Ending) (w' : World) : Prop := ∃ v, e = .returned v ∧ FrA w w' v z K ∧ Below w.heap.size w w'

end Go.Proofs.YtbapeilpkhbbeaaGreatDoor

/- Quotients rounded down, and their rests: plain facts. -/
namespace Go.Proofs.YtbapeilpkhbbeaaGreatDoor

theorem fdiv_uniq {x y q r : Int} (e : x = q * y + r) (h : (0 ≤ r ∧ r < y) ∨ (y < r ∧ r ≤ 0)) : x.fdiv y = q ∧ x.fmod y = r := by
  rcases h with ⟨h0, h1⟩ | ⟨h0, h1⟩
  · have hy : 0 < y := by omega
    rw [Int.fdiv_eq_ediv_of_nonneg _ (Int.le_of_lt hy), Int.fmod_eq_emod_of_nonneg _ (Int.le_of_lt hy)]
    exact (Int.ediv_emod_unique hy).2 ⟨by rw [e, Int.mul_comm]; omega, h0, h1⟩
  · have hy : 0 < -y := by omega
    have hq : x.fdiv y = q := by
      rw [← Int.neg_fdiv_neg, Int.fdiv_eq_ediv_of_nonneg _ (Int.le_of_lt hy)]
      exact ((Int.ediv_emod_unique (a := -x) (r := -r) (q := q) hy).2 ⟨by rw [e, Int.mul_comm q y, Int.neg_mul]; omega, by omega, by omega⟩).1
    refine ⟨hq, ?_⟩
    rw [Int.fmod_def, hq, e, Int.mul_comm]
    omega
theorem abs_div (x y : Int) (hy : y ≠ 0) : (x.natAbs : Int) = (x.natAbs : Int) / (y.natAbs : Int) * (y.natAbs : Int) + (x.natAbs : Int) % (y.natAbs : Int) ∧ 0 ≤ (x.natAbs : Int) % (y.natAbs : Int) ∧ (x.natAbs : Int) % (y.natAbs : Int) < (y.natAbs : Int) := by
  have h : (0 : Int) < (y.natAbs : Int) := by omega
  refine ⟨?_, Int.emod_nonneg _ (by omega), Int.emod_lt_of_pos _ h⟩
  have := Int.emod_add_mul_ediv (x.natAbs : Int) (y.natAbs : Int)
  rw [Int.mul_comm ((x.natAbs : Int) / (y.natAbs : Int))]
  omega
theorem fdiv_same (x y : Int) (hy : y ≠ 0) (hs : decide (x < 0) = decide (y < 0)) : sgn false ((x.natAbs : Int) / (y.natAbs : Int)) = x.fdiv y ∧ sgn (decide (x < 0)) ((x.natAbs : Int) % (y.natAbs : Int)) = x.fmod y := by
  obtain ⟨e, h0, h1⟩ := abs_div x y hy
  generalize (x.natAbs : Int) / (y.natAbs : Int) = q at *
  generalize (x.natAbs : Int) % (y.natAbs : Int) = r at *
  by_cases hx : x < 0
  · have hy2 : y < 0 := by simpa [hx] using hs.symm
    have ea : (x.natAbs : Int) = -x := by omega
    have eb : (y.natAbs : Int) = -y := by omega
    rw [ea, eb] at e
    rw [eb] at h1
    have h := fdiv_uniq (x := x) (y := y) (q := q) (r := -r) (by rw [Int.mul_neg] at e; omega) (Or.inr ⟨by omega, by omega⟩)
    simp only [sgn, hx, decide_true, if_true, h.1, h.2]
    simp
  · have hy2 : ¬ y < 0 := by simpa [hx] using hs.symm
    have ea : (x.natAbs : Int) = x := by omega
    have eb : (y.natAbs : Int) = y := by omega
    rw [ea, eb] at e
    rw [eb] at h1
    have h := fdiv_uniq (x := x) (y := y) (q := q) (r := r) (by omega) (Or.inl ⟨by omega, by omega⟩)
    simp [sgn, hx, h.1, h.2]
theorem fdiv_even (x y : Int) (hy : y ≠ 0) (hs : decide (x < 0) ≠ decide (y < 0)) (hr : (x.natAbs : Int) % (y.natAbs : Int) = 0) : sgn true ((x.natAbs : Int) / (y.natAbs : Int)) = x.fdiv y ∧ sgn (decide (x < 0)) ((x.natAbs : Int) % (y.natAbs : Int)) = x.fmod y := by
  obtain ⟨e, h0, h1⟩ := abs_div x y hy
  rw [hr] at e ⊢
  generalize (x.natAbs : Int) / (y.natAbs : Int) = q at *
  by_cases hx : x < 0
  · have hy2 : ¬ y < 0 := by simpa [hx] using hs
    have ea : (x.natAbs : Int) = -x := by omega
    have eb : (y.natAbs : Int) = y := by omega
    rw [ea, eb] at e
    have h := fdiv_uniq (x := x) (y := y) (q := -q) (r := 0) (by rw [Int.neg_mul]; omega) (Or.inl ⟨by omega, by omega⟩)
    simp [sgn, h.1, h.2]
  · have hy2 : y < 0 := by simpa [hx] using hs
    have ea : (x.natAbs : Int) = x := by omega
    have eb : (y.natAbs : Int) = -y := by omega
    rw [ea, eb] at e
    have h := fdiv_uniq (x := x) (y := y) (q := -q) (r := 0) (by rw [Int.neg_mul]; rw [Int.mul_neg] at e; omega) (Or.inr ⟨by omega, by omega⟩)
    simp [sgn, h.1, h.2]
theorem fdiv_floor (x y : Int) (hy : y ≠ 0) (hs : decide (x < 0) ≠ decide (y < 0)) (hr : (x.natAbs : Int) % (y.natAbs : Int) ≠ 0) :
    sgn true ((x.natAbs : Int) / (y.natAbs : Int) + 1) = x.fdiv y ∧ sgn (decide (y < 0)) ((y.natAbs : Int) - (x.natAbs : Int) % (y.natAbs : Int)) = x.fmod y := by
  obtain ⟨e, h0, h1⟩ := abs_div x y hy
  generalize (x.natAbs : Int) / (y.natAbs : Int) = q at *
  generalize (x.natAbs : Int) % (y.natAbs : Int) = r at *
  by_cases hx : x < 0
  · have hy2 : ¬ y < 0 := by simpa [hx] using hs
    have ea : (x.natAbs : Int) = -x := by omega
    have eb : (y.natAbs : Int) = y := by omega
    rw [ea, eb] at e
    rw [eb] at h1 ⊢
    have h := fdiv_uniq (x := x) (y := y) (q := -(q + 1)) (r := y - r) (by rw [Int.neg_mul, Int.add_mul]; omega) (Or.inl ⟨by omega, by omega⟩)
    simp [sgn, h.1, h.2, hy2]
  · have hy2 : y < 0 := by simpa [hx] using hs
    have ea : (x.natAbs : Int) = x := by omega
    have eb : (y.natAbs : Int) = -y := by omega
    rw [ea, eb] at e
    rw [eb] at h1 ⊢
    have h := fdiv_uniq (x := x) (y := y) (q := -(q + 1)) (r := y + r) (by rw [Int.neg_mul, Int.add_mul]; rw [Int.mul_neg] at e; omega) (Or.inr ⟨by omega, by omega⟩)
    simp [sgn, h.1, h.2, hy2]
    omega
end Go.Proofs.YtbapeilpkhbbeaaGreatDoor
