/- exact.compare. exact.integer: signed, read, value, negated. exact.integer: value, negated, plus; exact.Normal, Neg, Add, Sub. Written by gen_int2.py. exact.Normal, Neg, Add, Sub. Written by gen_int3.py. exact.addProduct: it adds a product to a row. -/
import Derived.Test.YtbapeilpkhbbeaaGreatBn02
import Derived.Test.YtbapeilpkhbbeaaGreatBn03
import Derived.Deep.RegionHeld3
/- exact.compare. -/
namespace Go.Proofs.YtbapeilpkhbbeaaGreat
open Go.RowKit

theorem val_take_drop (B : Int) (l : List Int) (k : Nat) (hk : k ≤ l.length) : val B l = val B (l.take k) + B ^ k * val B (l.drop k) := by
  have h := val_append B (l.take k) (l.drop k)
  rw [List.take_append_drop, List.length_take, Nat.min_eq_left hk] at h
  exact h

/-- The highest digit that differs decides. -/
theorem cmp_top {B : Int} (hB : 0 < B) {l m : List Int} {k : Nat} (hl : Dig B l) (hm : Dig B m) (hkl : k < l.length) (hkm : k < m.length) (he : l.drop (k + 1) = m.drop (k + 1)) (hne : l[k]?.getD 0 ≠ m[k]?.getD 0) :
    cmpI (val B l) (val B m) = cmpI (l[k]?.getD 0) (m[k]?.getD 0) := by
  rw [val_take_drop B l (k + 1) hkl, val_take_drop B m (k + 1) hkm, he, take_succ_getD l k hkl, take_succ_getD m k hkm, val_snoc, val_snoc, List.length_take, List.length_take, Nat.min_eq_left (Nat.le_of_lt hkl), Nat.min_eq_left (Nat.le_of_lt hkm)]
  have h1 := val_lt hB (hl.take k); have h2 := val_lt hB (hm.take k)
  have h3 := val_nonneg hB (hl.take k); have h4 := val_nonneg hB (hm.take k)
  rw [List.length_take, Nat.min_eq_left (Nat.le_of_lt hkl)] at h1
  rw [List.length_take, Nat.min_eq_left (Nat.le_of_lt hkm)] at h2
  have hp : 0 < B ^ k := Int.pow_pos hB
  generalize l[k]?.getD 0 = x at *
  generalize m[k]?.getD 0 = y at *
  generalize B ^ k = p at *
  rcases Int.lt_trichotomy x y with h | h | h
  · have := Int.mul_le_mul_of_nonneg_left (show x + 1 ≤ y by omega) (Int.le_of_lt hp)
    rw [Int.mul_add] at this
    rw [cmpI_lt h, cmpI_lt (by omega)]
  · exact absurd h hne
  · have := Int.mul_le_mul_of_nonneg_left (show y + 1 ≤ x by omega) (Int.le_of_lt hp)
    rw [Int.mul_add] at this
    rw [cmpI_gt h, cmpI_gt (by omega)]

theorem cmp_len {B : Int} (hB : 0 < B) {l m : List Int} (hl : Dig B l) (hm : Dig B m) (nl : Nrm l) (nm : Nrm m) (hne : l.length ≠ m.length) : cmpI (val B l) (val B m) = cmpI l.length m.length := by
  rcases Nat.lt_or_gt_of_ne hne with h | h
  · have h1 := val_lt hB hl
    have h2 := Nrm.low hB hm nm (by omega)
    have h3 := pow_mono hB (show l.length ≤ m.length - 1 by omega)
    rw [cmpI_lt (by omega), cmpI_lt (by omega)]
  · have h1 := val_lt hB hm
    have h2 := Nrm.low hB hl nl (by omega)
    have h3 := pow_mono hB (show m.length ≤ l.length - 1 by omega)
    rw [cmpI_gt (by omega), cmpI_gt (by omega)]

theorem drop_step (l m : List Int) (k : Nat) (hl : k < l.length) (hm : k < m.length) (he : l.drop (k + 1) = m.drop (k + 1)) (h : l[k]?.getD 0 = m[k]?.getD 0) : l.drop k = m.drop k := by
  rw [List.drop_eq_getElem_cons hl, List.drop_eq_getElem_cons hm, he]
  have e1 : l[k]?.getD 0 = l[k] := by simp [hl]
  have e2 : m[k]?.getD 0 = m[k] := by simp [hm]
  rw [← e1, ← e2, h]

set_option maxRecDepth 100000 in
set_option maxHeartbeats 1000000 in
theorem compare_any (va vb : Value) (a b : Int) (Ka Kb : Nat) (w : World) (hA : Nt w va a Ka) (hB : Nt w vb b Kb) :
    Calls Tryz.prog 67 #[va, vb] w fun e w' => ∃ nq, e = .returned (.int .i64 (cmpI a b)) ∧ w' = w.drewN nq := by
  obtain ⟨ao, ca, LA, rfl, hA⟩ := hA
  obtain ⟨bo, cb, LB, rfl, hB⟩ := hB
  obtain ⟨n, hn⟩ : ∃ n, n = LA.length := ⟨_, rfl⟩
  obtain ⟨m, hm⟩ : ∃ m, m = LB.length := ⟨_, rfl⟩
  have hn63 : n ≤ 9223372036854775807 := by have := hA.rd.cap; have := hA.rd.most; omega
  have hm63 : m ≤ 9223372036854775807 := by have := hB.rd.cap; have := hB.rd.most; omega
  have hcmp : n ≠ m → cmpI a b = cmpI n m := fun h => by rw [← hA.eq, ← hB.eq, hn, hm]; exact cmp_len B64_pos hA.dig hB.dig hA.nrm hB.nrm (by omega)
  rw [← hn, ← hm]
  have HA := hid hA; have HB := hid hB; have Hn := hid hn; have Hm := hid hm; have Hcmp := hid hcmp
  clear hA hB hn hm hcmp
  by_cases hne : n = m
  · subst hne
    go_enter Tryz.func67, Tryz.ntmps67
    go_wp2
    go_loopw [5] (fun iv wr => ∃ k : Nat, ∃ nq, k ≤ n ∧ iv = .int .i64 ((k : Int) - 1) ∧ Hid (LA.drop k = LB.drop k) ∧ Hid (wr = w.drewN nq)) (fun iv _ => (intOf iv + 1).toNat)
    case atStart => exact ⟨n, 0, Nat.le_refl _, rfl, hid (by rw [List.drop_of_length_le (by have := Hn.out; omega), List.drop_of_length_le (by have := Hm.out; omega)]), hid rfl⟩
    case round =>
      obtain ⟨k, nq, hk, rfl, HD, HW⟩ := hrel
      cases k with
      | zero =>
        have hab : a = b := by
          have h := HD.out
          simp only [List.drop_zero] at h
          rw [← HA.out.eq, ← HB.out.eq, h]
        have he : cmpI a b = 0 := by rw [hab]; exact cmpI_self b
        have HE := hid he; clear he hab
        go_wp2
        go_ret
        exact ⟨nq, by rw [HE.out]; rfl, HW.out⟩
      | succ k =>
        have hkn : k < n := by omega
        obtain ⟨b1, o1, rfl⟩ := HA.out.rd.adr (by have := Hn.out; omega)
        obtain ⟨b2, o2, rfl⟩ := HB.out.rd.adr (by have := Hm.out; omega)
        have h1 : wr.cell? ⟨b1, o1 + k, none⟩ = some (.int .u64 (LA[k]?.getD 0)) := by rw [HW.out, cell_drewN]; exact HA.out.rd.cell b1 o1 rfl k (by have := Hn.out; omega)
        have h2 : wr.cell? ⟨b2, o2 + k, none⟩ = some (.int .u64 (LB[k]?.getD 0)) := by rw [HW.out, cell_drewN]; exact HB.out.rd.cell b2 o2 rfl k (by have := Hm.out; omega)
        have d1 := HA.out.dig.at B64_pos k
        have d2 := HB.out.dig.at B64_pos k
        obtain ⟨x, hx⟩ : ∃ x, x = LA[k]?.getD 0 := ⟨_, rfl⟩
        obtain ⟨y, hy⟩ : ∃ y, y = LB[k]?.getD 0 := ⟨_, rfl⟩
        rw [← hx] at h1 d1; rw [← hy] at h2 d2
        have hk0 : (0 : Int) ≤ (k : Int) := by omega
        have hk1 : (k : Int) < (n : Int) := by omega
        by_cases hxy : x = y
        · have hd := drop_step LA LB k (by have := Hn.out; omega) (by have := Hm.out; omega) HD.out (by rw [← hx, ← hy, hxy])
          have HD' := hid hd
          subst hxy
          clear hd hx hy HD
          go_wp2
          go_quiet (fail)
          go_wp2
          go_roundw
          case rel => exact ⟨k, _, by omega, by go_num, HD', hid (by rw [HW.out, World.drewN_drewN])⟩
          case measure => simp [intOf]
        · have hc := cmp_top B64_pos HA.out.dig HB.out.dig (show k < LA.length by have := Hn.out; omega) (show k < LB.length by have := Hm.out; omega) HD.out (by rw [← hx, ← hy]; exact hxy)
          rw [HA.out.eq, HB.out.eq, ← hx, ← hy] at hc
          have HC := hid hc
          clear hc hx hy HD
          have hb : ((x : Int) != y) = true := by rw [bne_iff_ne]; exact hxy
          go_wp2
          go_quiet (fail)
          go_wp2
          go_quiet ((go_at_call 106; exact quietMore (cmpU64' _ _ _)))
          go_wp2
          go_ret
          exact ⟨_, by rw [HC.out]; rfl, by rw [HW.out, World.drewN_drewN, World.drewN_drewN]⟩
  · have HC := hid (Hcmp.out hne)
    have hb : ((n : Int) != (m : Int)) = true := by rw [bne_iff_ne]; omega
    go_enter Tryz.func67, Tryz.ntmps67
    go_wp2_with (go_at_call 105; refine (cmpInt _ _ _).mono ?_; rintro e w' ⟨rfl, rfl⟩)
    go_ret
    exact ⟨0, by rw [HC.out]; rfl, rfl⟩

end Go.Proofs.YtbapeilpkhbbeaaGreat

/- exact.integer: signed, read, value, negated. -/
namespace Go.Proofs.YtbapeilpkhbbeaaGreat
open Go.RowKit

/-- The value v reads in w as the integer z. -/
def It (w : World) (v : Value) (z : Int) (K : Nat) : Prop := ∃ s, v = .agg #[.bool (decide (z < 0)), s] ∧ Nt w s (z.natAbs : Int) K
def RetI (w : World) (z : Int) (K : Nat) (e : Ending) (w' : World) : Prop := ∃ v, e = .returned v ∧ It w' v z K ∧ Below w.heap.size w w'
theorem It.below {w w' : World} {v : Value} {n : Int} {K B : Nat} (h : It w v n K) (hb : Below B w w') (hB : w.heap.size ≤ B) : It w' v n K := by
  obtain ⟨s, rfl, h⟩ := h; exact ⟨s, rfl, h.below hb hB⟩
theorem It.mono {w : World} {v : Value} {n : Int} {K K' : Nat} (h : It w v n K) (hk : K ≤ K') : It w v n K' := by
  obtain ⟨s, rfl, h⟩ := h; exact ⟨s, rfl, h.mono hk⟩

theorem Nt.set {w : World} {s : Value} {n : Int} {K : Nat} (h : Nt w s n K) {a : Addr} {u : Value} (hu : w.cell? a = some u) (hn : ∀ x, u ≠ .int .u64 x) (v : Value) : Nt (w.setCell a v) s n K := by
  obtain ⟨ao, c, L, rfl, h⟩ := h; exact ⟨ao, c, L, rfl, h.rd.set hu hn v, h.dig, h.nrm, h.eq, h.le⟩
theorem It.set {w : World} {s : Value} {n : Int} {K : Nat} (h : It w s n K) {a : Addr} {u : Value} (hu : w.cell? a = some u) (hn : ∀ x, u ≠ .int .u64 x) (v : Value) : It (w.setCell a v) s n K := by
  obtain ⟨s, rfl, h⟩ := h; exact ⟨s, rfl, h.set hu hn v⟩

theorem NtL.zero_iff {w : World} {ao : Option Addr} {c : Nat} {L : List Int} {n : Int} {K : Nat} (h : NtL w ao c L n K) : L.length = 0 ↔ n = 0 := by
  constructor
  · intro hl; rw [← h.eq, List.eq_nil_of_length_eq_zero hl]; rfl
  · intro hn; rw [Nrm.eq_nil B64_pos h.dig h.nrm (by rw [h.eq, hn])]; rfl

/-- A number of which a sign and a size are known. -/
def sgn (neg : Bool) (n : Int) : Int := if neg then -n else n
theorem sgn_abs (neg : Bool) {n : Int} (h : 0 ≤ n) : ((sgn neg n).natAbs : Int) = n := by unfold sgn; split <;> omega
theorem sgn_lt (neg : Bool) {n : Int} (h : 0 ≤ n) : decide (sgn neg n < 0) = (neg && decide (0 < n)) := by
  unfold sgn; cases neg <;> simp <;> omega

set_option maxHeartbeats 1000000 in
theorem signed_any (neg : Bool) (s : Value) (n : Int) (K : Nat) (w : World) (h : Nt w s n K) :
    Calls Tryz.prog 82 #[.bool neg, s] w (RetI w (sgn neg n) K) := by
  have h0 := h.nonneg
  have hab := sgn_abs neg h0
  have hlt := sgn_lt neg h0
  obtain ⟨ao, c, L, rfl, h⟩ := h
  obtain ⟨m, hm⟩ : ∃ m, m = L.length := ⟨_, rfl⟩
  have hz := h.zero_iff
  have hd : decide (0 < n) = decide ((0 : Int) < (m : Int)) := by rw [hm]; apply decide_eq_decide.2; constructor <;> intro hh <;> omega
  rw [hd] at hlt
  rw [← hm]
  have H : Hid (∀ w', Below w.heap.size w w' → It w' (.agg #[.bool (neg && decide ((0 : Int) < (m : Int))), .slice ao m c]) (sgn neg n) K) := hid (fun w' hb => ⟨_, by rw [hlt], by rw [hab, hm]; exact ⟨ao, c, L, rfl, h.rd.below hb (Nat.le_refl _), h.dig, h.nrm, h.eq, h.le⟩⟩)
  clear hd hz hlt hab h0 h hm
  cases neg with
  | false =>
    go_enter Tryz.func82, Tryz.ntmps82
    go_wp2
    refine bodyPost_ret (v := .agg #[.bool false, .slice ao m c]) (by simp [results, Tryz.results82, go_sem]) rfl ⟨_, rfl, ?_, (Below.refl _ _).alloc (Nat.le_refl _) _⟩
    exact H.out _ ((Below.refl _ _).alloc (Nat.le_refl _) _)
  | true =>
    go_enter Tryz.func82, Tryz.ntmps82
    go_wp2
    refine bodyPost_ret (v := .agg #[.bool (decide ((0 : Int) < (m : Int))), .slice ao m c]) (by simp [results, Tryz.results82, go_sem]) rfl ⟨_, rfl, ?_, (Below.refl _ _).alloc (Nat.le_refl _) _⟩
    exact H.out _ ((Below.refl _ _).alloc (Nat.le_refl _) _)

/-- The value v (an api.Int) stands in w for the integer z. -/
structure AiL (w : World) (neg : Bool) (ao : Option Addr) (c : Nat) (W : List Int) (z : Int) (K : Nat) : Prop where
  rd : Rd w .u32 ao c W
  dig : Dig B32 W
  le : W.length ≤ K
  eq : z = sgn neg (val B32 W)
def Ai (w : World) (v : Value) (z : Int) (K : Nat) : Prop := ∃ neg ao c W, v = .agg #[.bool neg, .slice ao W.length c] ∧ AiL w neg ao c W z K
theorem Ai.below {w w' : World} {v : Value} {n : Int} {K B : Nat} (h : Ai w v n K) (hb : Below B w w') (hB : w.heap.size ≤ B) : Ai w' v n K := by
  obtain ⟨neg, ao, c, W, rfl, h⟩ := h; exact ⟨neg, ao, c, W, rfl, h.rd.below hb hB, h.dig, h.le, h.eq⟩

set_option maxRecDepth 100000 in
set_option maxHeartbeats 2000000 in
theorem read_any (v : Value) (z : Int) (K : Nat) (w : World) (h : Ai w v z K) (hK : K ≤ 1073741824) :
    Calls Tryz.prog 79 #[v] w (RetI w z ((K + 1) / 2)) := by
  obtain ⟨neg, ao, c, W, rfl, h⟩ := h
  obtain ⟨n, hn⟩ : ∃ n, n = W.length := ⟨_, rfl⟩
  have hf := fun (w' : World) (hb : Below w.heap.size w w') => fromWords_any ao c W w' (h.rd.below hb (Nat.le_refl _)) h.dig (by have := h.le; omega)
  rw [← hn] at hf ⊢
  have HF := hid hf; have H := hid h; have Hn := hid hn
  clear hf h hn
  go_enter Tryz.func79, Tryz.ntmps79
  go_wp2
  obtain ⟨W0, hW0⟩ : ∃ W0, W0 = ((w.alloc (.cells #[.bool neg, .slice ao n c] 24)).alloc (.cells #[.bool false, .slice none 0 0] 78)) := ⟨_, rfl⟩
  have hB0 : Below w.heap.size w W0 := by rw [hW0]; exact ((Below.refl _ _).alloc (Nat.le_refl _) _).alloc (by simp) _
  have hz0 : W0.heap.size = w.heap.size + 2 := by rw [hW0]; simp
  have HS : Hid (∀ w', Below (w.heap.size + 1) W0 w' → w'.cell? ⟨w.heap.size, 0, none⟩ = some (.bool neg) ∧ w'.cell? ⟨w.heap.size, 1, none⟩ = some (.slice ao n c)) := hid (fun w' hb => by
    constructor
    · rw [hb.cell (by simp), hW0]; simp [go_sem, World.cell?_alloc_past]
    · rw [hb.cell (by simp), hW0]; simp [go_sem, World.cell?_alloc_past])
  have HT : Hid (∀ w', Below (w.heap.size + 2) W0 w' → w'.cell? ⟨w.heap.size + 1, 0, none⟩ = some (.bool false) ∧ w'.cell? ⟨w.heap.size + 1, 1, none⟩ = some (.slice none 0 0) ∧ w'.frozen? ⟨w.heap.size + 1, 0, none⟩ = false ∧ w'.frozen? ⟨w.heap.size + 1, 1, none⟩ = false) := hid (fun w' hb => by
    refine ⟨?_, ?_, ?_, ?_⟩
    · rw [hb.cell (by simp), hW0]; simp [go_sem]
    · rw [hb.cell (by simp), hW0]; simp [go_sem]
    · rw [hb.frozen (by simp), hW0]; simp [go_sem]
    · rw [hb.frozen (by simp), hW0]; simp [go_sem])
  rw [← hW0]
  clear hW0
  go_region_held3 (fun w' => w'.cell? ⟨w.heap.size, 0, none⟩ = some (.bool neg) ∧ w'.cell? ⟨w.heap.size, 1, none⟩ = some (.slice ao n c)) ((refine HS.out _ ?_; first | assumption | exact Below.refl _ _ | exact (Below.refl _ _).drew | exact ((hB2.mono (Nat.le_succ _)).setCell (Nat.le_refl _) _).setCell (Nat.le_refl _) _)) (first
    | (go_at_call 114; refine (HF.out _ hB0.drew).mono ?_; rintro e w1 ⟨s, rfl, hs, hb1⟩; have hB1 : Below (w.heap.size + 2) W0 w1 := ((Below.refl _ _).drew).trans (hb1.mono (by simp; omega)); have hB1s := hB1.mono (Nat.le_succ _))
    | (go_at_call 82; refine (signed_any neg s _ _ _ hs).mono ?_; rintro e w2 ⟨_, rfl, ⟨_, rfl, qo, qc, QL, rfl, hq⟩, hb2⟩; have hB2 : Below (w.heap.size + 2) W0 w2 := hB1.trans (hb2.mono (by have := hB1.size; omega)); have hB2s := hB2.mono (Nat.le_succ _); obtain ⟨hr0, hr1, hr2, hr3⟩ := HT.out _ hB2))
  go_wp2
  have hbel : Below w.heap.size w w2 := hB0.trans (hB2.mono (by omega))
  refine bodyPost_ret (v := .agg #[.bool (decide (sgn neg (val B32 W) < 0)), .slice qo QL.length qc]) (by simp [results, Tryz.results79, go_sem, hr0, hr1]) rfl ⟨_, rfl, ?_, (hbel.setCell (by simp) _).setCell (by simp) _⟩
  have hfin : It w2 (.agg #[.bool (decide (sgn neg (val B32 W) < 0)), .slice qo QL.length qc]) z ((K + 1) / 2) := by
    rw [H.out.eq]
    exact ⟨_, rfl, qo, qc, QL, rfl, hq.rd, hq.dig, hq.nrm, hq.eq, by have := hq.le; have := Hn.out; have := H.out.le; omega⟩
  exact (hfin.set hr0 (fun x h => (by cases h)) _).set (u := .slice none 0 0) (by simp [go_sem, hr1]) (fun x h => (by cases h)) _

/-! Arguments, opened for a walk. -/
theorem It.opened {w : World} {v : Value} {z : Int} {K : Nat} (h : It w v z K) : ∃ b ao m c, v = .agg #[.bool b, .slice ao m c] ∧ Hid (∀ w', Below w.heap.size w w' → It w' (.agg #[.bool b, .slice ao m c]) z K) ∧ Hid (∀ w', Below w.heap.size w w' → Nt w' (.slice ao m c) (z.natAbs : Int) K) ∧ Hid (b = decide (z < 0)) := by
  obtain ⟨s, rfl, ao, c, L, rfl, h⟩ := h
  have hN : ∀ w', Below w.heap.size w w' → Nt w' (.slice ao L.length c) (z.natAbs : Int) K := fun w' hb => ⟨ao, c, L, rfl, h.rd.below hb (Nat.le_refl _), h.dig, h.nrm, h.eq, h.le⟩
  exact ⟨_, ao, L.length, c, rfl, hid (fun w' hb => ⟨_, rfl, hN w' hb⟩), hid hN, hid rfl⟩
theorem Ai.opened {w : World} {v : Value} {z : Int} {K : Nat} (h : Ai w v z K) : ∃ b ao m c, v = .agg #[.bool b, .slice ao m c] ∧ Hid (∀ w', Below w.heap.size w w' → Ai w' (.agg #[.bool b, .slice ao m c]) z K) := by
  obtain ⟨neg, ao, c, W, rfl, h⟩ := h
  exact ⟨neg, ao, W.length, c, rfl, hid (fun w' hb => ⟨neg, ao, c, W, rfl, h.rd.below hb (Nat.le_refl _), h.dig, h.le, h.eq⟩)⟩
theorem Nt.opened {w : World} {v : Value} {n : Int} {K : Nat} (h : Nt w v n K) : ∃ ao m c, v = .slice ao m c ∧ Hid (∀ w', Below w.heap.size w w' → Nt w' (.slice ao m c) n K) := by
  obtain ⟨ao, c, L, rfl, h⟩ := h
  exact ⟨ao, L.length, c, rfl, hid (fun w' hb => ⟨ao, c, L, rfl, h.rd.below hb (Nat.le_refl _), h.dig, h.nrm, h.eq, h.le⟩)⟩

/-! Results in new memory. -/
theorem owns_base {w : World} {B B' : Nat} {e : TypeId} {size n : Nat} {v : Value} {xs : List Value} (h : w.ownsRow B e size v n xs) (hb : B' ≤ B) : w.ownsRow B' e size v n xs := by
  refine ⟨h.1, ?_⟩
  rcases h.2 with h2 | ⟨g, cap, cur, hv, hg, r⟩
  · exact .inl h2
  · exact .inr ⟨g, cap, cur, hv, Nat.le_trans hb hg, r⟩
theorem FrW.base {w0 w1 w : World} {v : Value} {n : Int} {K : Nat} (h : FrW w1 w v n K) (hb : w0.heap.size ≤ w1.heap.size) : FrW w0 w v n K := by
  obtain ⟨L, h, r⟩ := h; exact ⟨L, owns_base h hb, r⟩
theorem FrW.set {w1 w : World} {v : Value} {n : Int} {K : Nat} (h : FrW w1 w v n K) {a : Addr} (ha : a.block < w1.heap.size) (u : Value) : FrW w1 (w.setCell a u) v n K := by
  obtain ⟨L, h, r⟩ := h; exact ⟨L, ownsRow_setCell_below h ha u, r⟩
theorem FrW.opened {w1 w : World} {v : Value} {n : Int} {K : Nat} (h : FrW w1 w v n K) : ∃ ao m c, v = .slice ao m c ∧ Hid (FrW w1 w (.slice ao m c) n K) := by
  obtain ⟨L, h, r⟩ := h
  rcases h.2 with ⟨rfl, _⟩ | ⟨g, cap, cur, rfl, _⟩
  · exact ⟨_, _, _, rfl, hid ⟨L, h, r⟩⟩
  · exact ⟨_, _, _, rfl, hid ⟨L, h, r⟩⟩
/-- A value of api.Int that the call has made, in normal form, which is z. -/
def FrA (w0 w : World) (v : Value) (z : Int) (K : Nat) : Prop := ∃ s, v = .agg #[.bool (decide (z < 0)), s] ∧ FrW w0 w s (z.natAbs : Int) K
def RetA (w : World) (z : Int) (K : Nat) (e : Ending) (w' : World) : Prop := ∃ v, e = .returned v ∧ FrA w w' v z K ∧ Below w.heap.size w w'

end Go.Proofs.YtbapeilpkhbbeaaGreat

/- exact.integer: value, negated, plus; exact.Normal, Neg, Add, Sub. Written by gen_int2.py. -/
namespace Go.Proofs.YtbapeilpkhbbeaaGreat
open Go.RowKit

set_option maxRecDepth 100000 in
set_option maxHeartbeats 4000000 in
theorem value_any (v : Value) (z : Int) (K : Nat) (w : World) (h : It w v z K) (hK : K ≤ 1073741824) :
    Calls Tryz.prog 76 #[v] w (RetA w z (2 * K)) := by
  obtain ⟨xb, xo, xm, xc, rfl, Hx, Hxs, Hxb⟩ := It.opened h
  go_enter Tryz.func76, Tryz.ntmps76
  go_wp2
  obtain ⟨W0, hW0⟩ : ∃ W0, W0 = ((w.alloc (.cells #[.bool xb, .slice xo xm xc] 78)).alloc (.cells #[.bool false, .slice none 0 0] 24)) := ⟨_, rfl⟩
  have hB0 : Below w.heap.size w W0 := by rw [hW0]; exact ((Below.refl _ _).alloc (by simp <;> omega) _).alloc (by simp <;> omega) _
  have hz0 : W0.heap.size = w.heap.size + 2 := by rw [hW0]; simp
  have HS : Hid (∀ w', Below (w.heap.size + 1) W0 w' → w'.cell? ⟨w.heap.size, 0, none⟩ = some (.bool xb) ∧ w'.cell? ⟨w.heap.size, 1, none⟩ = some (.slice xo xm xc)) := hid (fun w' hb => by
    refine ⟨?_, ?_⟩ <;> (first | (rw [hb.cell (by simp <;> omega), hW0]; simp [go_sem]; done) | (rw [hb.frozen (by simp <;> omega), hW0]; simp [go_sem]; done)))
  have HT : Hid (∀ w', Below (w.heap.size + 2) W0 w' → w'.cell? ⟨w.heap.size + 1, 0, none⟩ = some (.bool false) ∧ w'.cell? ⟨w.heap.size + 1, 1, none⟩ = some (.slice none 0 0) ∧ w'.frozen? ⟨w.heap.size + 1, 0, none⟩ = false ∧ w'.frozen? ⟨w.heap.size + 1, 1, none⟩ = false) := hid (fun w' hb => by
    refine ⟨?_, ?_, ?_, ?_⟩ <;> (first | (rw [hb.cell (by simp <;> omega), hW0]; simp [go_sem]; done) | (rw [hb.frozen (by simp <;> omega), hW0]; simp [go_sem]; done)))
  rw [← hW0]
  clear hW0
  go_region_held3 (fun w' => w'.cell? ⟨w.heap.size, 0, none⟩ = some (.bool xb) ∧ w'.cell? ⟨w.heap.size, 1, none⟩ = some (.slice xo xm xc)) ((refine HS.out _ ?_; first | assumption | exact Below.refl _ _ | exact (Below.refl _ _).drew | exact ((hB1.mono (Nat.le_succ _)).setCell (Nat.le_refl _) _).setCell (Nat.le_refl _) _)) (first
    | (go_at_call 112; refine (words_any _ _ _ _ (Hxs.out _ hB0.drew) hK).mono ?_; rintro e w1 ⟨v1, rfl, hv1, hb1⟩; obtain ⟨o1, m1, c1, rfl, HV⟩ := FrW.opened hv1; have hB1 : Below (w.heap.size + 2) W0 w1 := ((Below.refl _ _).drew).trans (hb1.mono (by simp; omega)); have hB1s := hB1.mono (Nat.le_succ _); obtain ⟨hr0, hr1, hr2, hr3⟩ := HT.out _ hB1))
  go_wp2
  have hbel : Below w.heap.size w w1 := hB0.trans (hB1.mono (by omega))
  refine bodyPost_ret (v := .agg #[.bool xb, .slice o1 m1 c1]) (by simp [results, Tryz.results76, go_sem, hr0, hr1]) rfl ⟨_, rfl, ?_, (hbel.setCell (by simp <;> omega) _).setCell (by simp <;> omega) _⟩
  rw [Hxb.out]
  exact ⟨_, rfl, ((HV.out.set (by simp; omega) _).set (by simp; omega) _).base (by simp; omega)⟩

set_option maxRecDepth 100000 in
set_option maxHeartbeats 4000000 in
theorem negated_any (v : Value) (z : Int) (K : Nat) (w : World) (h : It w v z K) :
    Calls Tryz.prog 100 #[v] w (RetI w (-z) K) := by
  obtain ⟨xb, xo, xm, xc, rfl, Hx, Hxs, Hxb⟩ := It.opened h
  go_enter Tryz.func100, Tryz.ntmps100
  go_wp2_with fail
  obtain ⟨W0, hW0⟩ : ∃ W0, W0 = ((w.alloc (.cells #[.bool xb, .slice xo xm xc] 78)).alloc (.cells #[.bool false, .slice none 0 0] 78)) := ⟨_, rfl⟩
  have hB0 : Below w.heap.size w W0 := by rw [hW0]; exact ((Below.refl _ _).alloc (by simp <;> omega) _).alloc (by simp <;> omega) _
  have hz0 : W0.heap.size = w.heap.size + 2 := by rw [hW0]; simp
  have _HS : Hid (∀ w', Below (w.heap.size + 1) W0 w' → w'.cell? ⟨w.heap.size, 0, none⟩ = some (.bool xb) ∧ w'.cell? ⟨w.heap.size, 1, none⟩ = some (.slice xo xm xc)) := hid (fun w' hb => by
    refine ⟨?_, ?_⟩ <;> (first | (rw [hb.cell (by simp <;> omega), hW0]; simp [go_sem]; done) | (rw [hb.frozen (by simp <;> omega), hW0]; simp [go_sem]; done)))
  have HT : Hid (∀ w', Below (w.heap.size + 2) W0 w' → w'.cell? ⟨w.heap.size + 1, 0, none⟩ = some (.bool false) ∧ w'.cell? ⟨w.heap.size + 1, 1, none⟩ = some (.slice none 0 0) ∧ w'.frozen? ⟨w.heap.size + 1, 0, none⟩ = false ∧ w'.frozen? ⟨w.heap.size + 1, 1, none⟩ = false) := hid (fun w' hb => by
    refine ⟨?_, ?_, ?_, ?_⟩ <;> (first | (rw [hb.cell (by simp <;> omega), hW0]; simp [go_sem]; done) | (rw [hb.frozen (by simp <;> omega), hW0]; simp [go_sem]; done)))
  rw [← hW0]
  clear hW0
  refine (signed_any (!xb) _ _ _ _ (Hxs.out _ hB0)).mono ?_
  rintro e w1 ⟨_, rfl, ⟨_, rfl, qo, qc, QL, rfl, hq⟩, hb1⟩
  have hB1 : Below (w.heap.size + 2) W0 w1 := hb1.mono (by omega)
  obtain ⟨hr0, hr1, hr2, hr3⟩ := HT.out _ hB1
  go_wp2
  have hbel : Below w.heap.size w w1 := hB0.trans (hB1.mono (by omega))
  refine bodyPost_ret (v := .agg #[.bool (decide (sgn (!xb) (z.natAbs : Int) < 0)), .slice qo QL.length qc]) (by simp [results, Tryz.results100, go_sem, hr0, hr1]) rfl ⟨_, rfl, ?_, (hbel.setCell (by simp <;> omega) _).setCell (by simp <;> omega) _⟩
  have e : sgn (!xb) (z.natAbs : Int) = -z := by rw [Hxb.out]; unfold sgn; by_cases hz : z < 0 <;> simp [hz] <;> omega
  have hfin : It w1 (.agg #[.bool (decide (sgn (!xb) (z.natAbs : Int) < 0)), .slice qo QL.length qc]) (-z) K := by
    rw [← e]; exact ⟨_, rfl, qo, qc, QL, rfl, hq⟩
  exact (hfin.set hr0 (fun x h => (by cases h)) _).set (u := .slice none 0 0) (by simp [go_sem, hr1]) (fun x h => (by cases h)) _

end Go.Proofs.YtbapeilpkhbbeaaGreat

/- exact.Normal, Neg, Add, Sub. Written by gen_int3.py. -/
namespace Go.Proofs.YtbapeilpkhbbeaaGreat
open Go.RowKit

theorem FrA.set {w1 w : World} {v : Value} {z : Int} {K : Nat} (h : FrA w1 w v z K) {a : Addr} (ha : a.block < w1.heap.size) (u : Value) : FrA w1 (w.setCell a u) v z K := by
  obtain ⟨s, rfl, h⟩ := h; exact ⟨s, rfl, h.set ha u⟩

end Go.Proofs.YtbapeilpkhbbeaaGreat

/- exact.addProduct: it adds a product to a row. -/
namespace Go.Proofs.YtbapeilpkhbbeaaGreat
open Go.RowKit

theorem mul_le (x y : Int) (h0 : 0 ≤ x) (h1 : x < B64) (k0 : 0 ≤ y) (k1 : y < B64) : 0 ≤ x * y ∧ x * y ≤ 340282366920938463426481119284349108225 := by
  refine ⟨Int.mul_nonneg h0 k0, ?_⟩
  have a : x * y ≤ 18446744073709551615 * y := Int.mul_le_mul_of_nonneg_right (by unfold B64 at h1; omega) k0
  unfold B64 at k1; omega

/-- bits.Mul64, its two results under names. -/
theorem mul64_ex (x y : Int) (hx : 0 ≤ x) (hx' : x < B64) (hy : 0 ≤ y) (hy' : y < B64) (w : World) :
    Calls Tryz.prog 147 #[.int .u64 x, .int .u64 y] w fun e w' => ∃ hi lo, e = .returned (.tuple #[.int .u64 hi, .int .u64 lo]) ∧ (0 ≤ hi ∧ 0 ≤ lo ∧ lo < B64 ∧ hi ≤ 18446744073709551614 ∧ Hid (lo + B64 * hi = x * y)) ∧ w = w' := by
  refine (mul64 x y hx hx' hy hy' w).mono ?_
  rintro e w' ⟨rfl, rfl⟩
  have h := mul_le x y hx hx' hy hy'
  refine ⟨_, _, rfl, ⟨Int.ediv_nonneg h.1 (by decide), Int.emod_nonneg _ (by decide), Int.emod_lt_of_pos _ B64_pos, ?_, hid (Int.emod_add_mul_ediv _ _)⟩, rfl⟩
  have h2 := h.2
  unfold B64; omega

theorem add64_ex (x y c : Int) (hx : 0 ≤ x) (hx' : x < B64) (hy : 0 ≤ y) (hy' : y < B64) (hc0 : 0 ≤ c) (hc : c ≤ 1) :
    ∃ s d, (∀ w, (callFunc 148 #[.int .u64 x, .int .u64 y, .int .u64 c]).run Tryz.prog w = .ok (.value (.tuple #[.int .u64 s, .int .u64 d])) w) ∧ (0 ≤ s ∧ s < B64 ∧ 0 ≤ d ∧ d ≤ 1) ∧ s + B64 * d = x + y + c := by
  refine ⟨_, _, fun w => add64 x y c hx hy hc0 hc w, ⟨Int.emod_nonneg _ (by decide), Int.emod_lt_of_pos _ B64_pos, ?_, ?_⟩, Int.emod_add_mul_ediv _ _⟩
  · exact Int.ediv_nonneg (by omega) (by decide)
  · unfold B64 at *; omega

theorem mul_step {s x y cc hi lo l1 c1 o c2 : Int} (hs : 0 ≤ s ∧ s < B64) (hx : 0 ≤ x ∧ x < B64) (hy : 0 ≤ y ∧ y < B64) (hc : 0 ≤ cc ∧ cc < B64) (h1 : lo + B64 * hi = x * y) (h2 : l1 + B64 * c1 = lo + cc) (h3 : o + B64 * c2 = s + l1) (ho : 0 ≤ o) :
    hi + c1 + c2 ≤ 18446744073709551615 ∧ o + B64 * (hi + c1 + c2) = s + x * y + cc := by
  have h := (mul_le x y hx.1 hx.2 hy.1 hy.2).2
  generalize x * y = p at *
  unfold B64 at *
  constructor <;> omega

/-- What holds after k limbs. -/
structure MulI (w wr : World) (g : Nat) (P A S : List Int) (k : Nat) (m : Int) (A1 : List Int) (cc : Int) : Prop where
  len : A1.length = A.length
  dig : Dig B64 A1
  c0 : 0 ≤ cc
  c1 : cc < B64
  row : Row .u64 106 wr g (P ++ A1 ++ S)
  gr : w.grownBy wr (some g)
  eq : val B64 A1 + B64 ^ k * cc = val B64 A + m

theorem MulI.step {w wr : World} {g : Nat} {P A S : List Int} {k : Nat} {m : Int} {A1 : List Int} {cc : Int} (h : MulI w wr g P A S k m A1 cc) (p o d : Int) (h0 : 0 ≤ o) (h1 : o < B64) (d0 : 0 ≤ d) (d1 : d < B64) (he : o + B64 * d = A1[k]?.getD 0 + p + cc) (hk : k < A.length) :
    MulI w (wr.setCell ⟨g, P.length + k, none⟩ (.int .u64 o)) g P A S (k + 1) (m + B64 ^ k * p) (A1.set k o) d := by
  have hl : k < A1.length := by rw [h.len]; exact hk
  have hr := h.row.set (P.length + k) o
  rw [mid_set P A1 S k _ hl] at hr
  refine ⟨by simpa using h.len, h.dig.set k h0 h1, d0, d1, hr, grown_trans h.gr (grown_set _ _ _ _), ?_⟩
  rw [val_set _ _ _ _ hl, Int.pow_succ]
  have e := h.eq
  grind

set_option maxRecDepth 100000 in
set_option maxHeartbeats 2000000 in
theorem addProduct_any (g : Nat) (P A S M : List Int) (c bc : Nat) (bo : Option Addr) (x : Int) (w : World) (hrow : Row .u64 106 w g (P ++ A ++ S)) (hdA : Dig B64 A) (hdM : Dig B64 M) (hx0 : 0 ≤ x) (hx1 : x < B64)
    (hcA : A.length ≤ c) (_hcm : c ≤ 9223372036854775807) (hM : Rd w .u64 bo bc M) (hMA : M.length = A.length) (hne : 0 < M.length → ∀ b off, bo = some ⟨b, off, none⟩ → b ≠ g) :
    Calls Tryz.prog 136 #[.slice (some ⟨g, P.length, none⟩) A.length c, .slice bo M.length bc, .int .u64 x] w fun e w' => ∃ A1 cc, e = .returned (.int .u64 cc) ∧ MulI w w' g P A S A.length (val B64 M * x) A1 cc := by
  obtain ⟨off, hoff⟩ : ∃ off, off = P.length := ⟨_, rfl⟩
  obtain ⟨n, hn⟩ : ∃ n, n = A.length := ⟨_, rfl⟩
  have hnM : M.length = n := by omega
  have hmc := hM.cap; have hmm := hM.most
  rw [← hn] at hcA
  rw [hnM] at hmc
  have H0 : MulI w w g P A S 0 (val B64 (M.take 0) * x) A 0 := ⟨rfl, hdA, Int.le_refl 0, by decide, hrow, grown_refl _ _, by simp [val]⟩
  rw [hnM, ← hn, ← hoff]
  have Hoff := hid hoff; have Hn := hid hn; have Hm := hid hnM; have HdM := hid hdM; have Hne := hid hne; have HM := hid hM
  have Hx := hid (show 0 ≤ x ∧ x < B64 from ⟨hx0, hx1⟩)
  clear hoff hn hnM hdA hdM hne hrow hM hMA hx1
  go_enter Tryz.func136, Tryz.ntmps136
  go_wp2
  go_loopw [6, 18] (fun cv iv wr => ∃ k : Nat, ∃ A1 cc, k ≤ n ∧ iv = .int .i64 k ∧ cv = .int .u64 cc ∧ MulI w wr g P A S k (val B64 (M.take k) * x) A1 cc) (fun _ iv _ => n - (intOf iv).toNat)
  case atStart => exact ⟨0, A, 0, Nat.zero_le _, rfl, rfl, H0⟩
  case round =>
    obtain ⟨k, A1, cc, hk, rfl, rfl, H⟩ := hrel
    by_cases hlt : k < n
    · have hAk := H.row.cell (off + k) (by have := Hoff.out; have := Hn.out; have := H.len; simp; omega)
      have hfr := H.row.frozen (off + k)
      rw [Hoff.out, mid_get P A1 S k (by have := Hn.out; have := H.len; omega), ← Hoff.out] at hAk
      obtain ⟨b, o, rfl⟩ := HM.out.adr (by have := Hm.out; omega)
      have hMk := (HM.out.keptNew H.gr Hne.out).cell b o rfl k (by have := Hm.out; omega)
      have h0 := HdM.out.at B64_pos k
      have h1 := H.dig.at B64_pos k
      have c0 := H.c0; have c1 := H.c1
      have hv := val_take_succ B64 M k (by have := Hm.out; omega)
      have HST := hid (fun (o d : Int) => H.step (x * M[k]?.getD 0) o d)
      obtain ⟨s, hs⟩ : ∃ s, s = A1[k]?.getD 0 := ⟨_, rfl⟩
      obtain ⟨y, hy⟩ : ∃ y, y = M[k]?.getD 0 := ⟨_, rfl⟩
      rw [← hs] at hAk h1 HST; rw [← hy] at hMk h0 HST hv
      have Hs := hid hs; have Hy := hid hy; have Hh1 := hid h1; have Hh0 := hid h0; have Hc := hid (show 0 ≤ cc ∧ cc < B64 from ⟨c0, c1⟩); have Hv := hid hv
      clear H hs hy H0 h0 h1 c1 hv
      go_wp2_with fail
      refine (mul64_ex x y Hx.out.1 Hx.out.2 Hh0.out.1 Hh0.out.2 _).mono ?_
      rintro e w' ⟨hi, lo, rfl, ⟨hi0, lo0, lo1, hi1, HP⟩, rfl⟩
      obtain ⟨l1, d1, ha1, ⟨l10, l11, d10, d11⟩, hl1⟩ := add64_ex lo cc 0 lo0 lo1 Hc.out.1 Hc.out.2 (Int.le_refl 0) (by decide)
      obtain ⟨o2, d2, ha2, ⟨o20, o21, d20, d21⟩, ho2⟩ := add64_ex s l1 0 Hh1.out.1 Hh1.out.2 l10 l11 (Int.le_refl 0) (by decide)
      have hms := mul_step Hh1.out Hx.out Hh0.out Hc.out HP.out (by simpa using hl1) (by simpa using ho2) o20
      have hle := hms.1
      have HS := HST.out o2 (hi + d1 + d2) o20 o21 (by omega) (by unfold B64; omega) hms.2 (by have := Hn.out; omega)
      have hval : val B64 (M.take k) * x + B64 ^ k * (x * y) = val B64 (M.take (k + 1)) * x := by rw [Hv.out]; grind
      rw [hval, ← Hoff.out] at HS
      have HS' := hid HS
      clear HS hval hms hl1 ho2 HST lo1 l11 o21
      go_wp2
      go_roundw
      case rel => exact ⟨k + 1, _, _, by omega, by go_num, rfl, HS'.out⟩
      case measure => simp [intOf]; omega
    · obtain rfl : k = n := by omega
      have HT : MulI w wr g P A S k (val B64 M * x) A1 cc := by have := H; rwa [← Hm.out, List.take_length, Hm.out] at this
      clear H H0
      go_wp2
      go_ret
      exact ⟨A1, cc, rfl, HT⟩

end Go.Proofs.YtbapeilpkhbbeaaGreat
