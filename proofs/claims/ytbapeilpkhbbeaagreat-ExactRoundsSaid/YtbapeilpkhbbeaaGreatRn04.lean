/- exact.compare. exact.integer: signed, read, value, negated. -/
import Derived.Test.YtbapeilpkhbbeaaGreatRn02
import Derived.Test.YtbapeilpkhbbeaaGreatRn03
import Derived.Deep.RegionHeld3
/- exact.compare. -/
namespace Go.Proofs.YtbapeilpkhbbeaaGreat
open Go.RowKit

theorem val_take_drop (B : Int) (l : List Int) (k : Nat) (hk : k ≤ l.length) : val B l = val B (l.take k) + B ^ k * val B (l.drop k) := by
  have h := val_append B (l.take k) (l.drop k)
  rw [List.take_append_drop, List.length_take, Nat.min_eq_left hk] at h
  exact h

/-- The highest digit that differs decides. -/
theorem cmp_top {B : Int} (hB : 0 < B) {l m : List Int} {k : Nat} (hl : Dig B l) (hm : Dig B m) (hkl : k < l.length) (hkm : k < m.length) (he : l.drop (k + 1) = m.drop (k + 1)) (hne : l[k]?.getD 0 ≠ m[k]?.getD 0) :
    cmpI (val B l) (val B m) = cmpI (l[k]?.getD 0) (m[k]?.getD 0) := by
  rw [val_take_drop B l (k + 1) hkl, val_take_drop B m (k + 1) hkm, he, take_succ_getD l k hkl, take_succ_getD m k hkm, val_snoc, val_snoc, List.length_take, List.length_take, Nat.min_eq_left (Nat.le_of_lt hkl), Nat.min_eq_left (Nat.le_of_lt hkm)]
  have h1 := val_lt hB (hl.take k); have h2 := val_lt hB (hm.take k)
  have h3 := val_nonneg hB (hl.take k); have h4 := val_nonneg hB (hm.take k)
  rw [List.length_take, Nat.min_eq_left (Nat.le_of_lt hkl)] at h1
  rw [List.length_take, Nat.min_eq_left (Nat.le_of_lt hkm)] at h2
  have hp : 0 < B ^ k := Int.pow_pos hB
  generalize l[k]?.getD 0 = x at *
  generalize m[k]?.getD 0 = y at *
  generalize B ^ k = p at *
  rcases Int.lt_trichotomy x y with h | h | h
  · have := Int.mul_le_mul_of_nonneg_left (show x + 1 ≤ y by omega) (Int.le_of_lt hp)
    rw [Int.mul_add] at this
    rw [cmpI_lt h, cmpI_lt (by omega)]
  · exact absurd h hne
  · have := Int.mul_le_mul_of_nonneg_left (show y + 1 ≤ x by omega) (Int.le_of_lt hp)
    rw [Int.mul_add] at this
    rw [cmpI_gt h, cmpI_gt (by omega)]

theorem cmp_len {B : Int} (hB : 0 < B) {l m : List Int} (hl : Dig B l) (hm : Dig B m) (nl : Nrm l) (nm : Nrm m) (hne : l.length ≠ m.length) : cmpI (val B l) (val B m) = cmpI l.length m.length := by
  rcases Nat.lt_or_gt_of_ne hne with h | h
  · have h1 := val_lt hB hl
    have h2 := Nrm.low hB hm nm (by omega)
    have h3 := pow_mono hB (show l.length ≤ m.length - 1 by omega)
    rw [cmpI_lt (by omega), cmpI_lt (by omega)]
  · have h1 := val_lt hB hm
    have h2 := Nrm.low hB hl nl (by omega)
    have h3 := pow_mono hB (show m.length ≤ l.length - 1 by omega)
    rw [cmpI_gt (by omega), cmpI_gt (by omega)]

theorem drop_step (l m : List Int) (k : Nat) (hl : k < l.length) (hm : k < m.length) (he : l.drop (k + 1) = m.drop (k + 1)) (h : l[k]?.getD 0 = m[k]?.getD 0) : l.drop k = m.drop k := by
  rw [List.drop_eq_getElem_cons hl, List.drop_eq_getElem_cons hm, he]
  have e1 : l[k]?.getD 0 = l[k] := by simp [hl]
  have e2 : m[k]?.getD 0 = m[k] := by simp [hm]
  rw [← e1, ← e2, h]

set_option maxRecDepth 100000 in
set_option maxHeartbeats 1000000 in
theorem compare_any (va vb : Value) (a b : Int) (Ka Kb : Nat) (w : World) (hA : Nt w va a Ka) (hB : Nt w vb b Kb) :
    Calls Tryz.prog 67 #[va, vb] w fun e w' => ∃ nq, e = .returned (.int .i64 (cmpI a b)) ∧ w' = w.drewN nq := by
  obtain ⟨ao, ca, LA, rfl, hA⟩ := hA
  obtain ⟨bo, cb, LB, rfl, hB⟩ := hB
  obtain ⟨n, hn⟩ : ∃ n, n = LA.length := ⟨_, rfl⟩
  obtain ⟨m, hm⟩ : ∃ m, m = LB.length := ⟨_, rfl⟩
  have hn63 : n ≤ 9223372036854775807 := by have := hA.rd.cap; have := hA.rd.most; omega
  have hm63 : m ≤ 9223372036854775807 := by have := hB.rd.cap; have := hB.rd.most; omega
  have hcmp : n ≠ m → cmpI a b = cmpI n m := fun h => by rw [← hA.eq, ← hB.eq, hn, hm]; exact cmp_len B64_pos hA.dig hB.dig hA.nrm hB.nrm (by omega)
  rw [← hn, ← hm]
  have HA := hid hA; have HB := hid hB; have Hn := hid hn; have Hm := hid hm; have Hcmp := hid hcmp
  clear hA hB hn hm hcmp
  by_cases hne : n = m
  · subst hne
    go_enter Tryz.func67, Tryz.ntmps67
    go_wp2
    go_loopw [5] (fun iv wr => ∃ k : Nat, ∃ nq, k ≤ n ∧ iv = .int .i64 ((k : Int) - 1) ∧ Hid (LA.drop k = LB.drop k) ∧ Hid (wr = w.drewN nq)) (fun iv _ => (intOf iv + 1).toNat)
    case atStart => exact ⟨n, 0, Nat.le_refl _, rfl, hid (by rw [List.drop_of_length_le (by have := Hn.out; omega), List.drop_of_length_le (by have := Hm.out; omega)]), hid rfl⟩
    case round =>
      obtain ⟨k, nq, hk, rfl, HD, HW⟩ := hrel
      cases k with
      | zero =>
        have hab : a = b := by
          have h := HD.out
          simp only [List.drop_zero] at h
          rw [← HA.out.eq, ← HB.out.eq, h]
        have he : cmpI a b = 0 := by rw [hab]; exact cmpI_self b
        have HE := hid he; clear he hab
        go_wp2
        go_ret
        exact ⟨nq, by rw [HE.out]; rfl, HW.out⟩
      | succ k =>
        have hkn : k < n := by omega
        obtain ⟨b1, o1, rfl⟩ := HA.out.rd.adr (by have := Hn.out; omega)
        obtain ⟨b2, o2, rfl⟩ := HB.out.rd.adr (by have := Hm.out; omega)
        have h1 : wr.cell? ⟨b1, o1 + k, none⟩ = some (.int .u64 (LA[k]?.getD 0)) := by rw [HW.out, cell_drewN]; exact HA.out.rd.cell b1 o1 rfl k (by have := Hn.out; omega)
        have h2 : wr.cell? ⟨b2, o2 + k, none⟩ = some (.int .u64 (LB[k]?.getD 0)) := by rw [HW.out, cell_drewN]; exact HB.out.rd.cell b2 o2 rfl k (by have := Hm.out; omega)
        have d1 := HA.out.dig.at B64_pos k
        have d2 := HB.out.dig.at B64_pos k
        obtain ⟨x, hx⟩ : ∃ x, x = LA[k]?.getD 0 := ⟨_, rfl⟩
        obtain ⟨y, hy⟩ : ∃ y, y = LB[k]?.getD 0 := ⟨_, rfl⟩
        rw [← hx] at h1 d1; rw [← hy] at h2 d2
        have hk0 : (0 : Int) ≤ (k : Int) := by omega
        have hk1 : (k : Int) < (n : Int) := by omega
        by_cases hxy : x = y
        · have hd := drop_step LA LB k (by have := Hn.out; omega) (by have := Hm.out; omega) HD.out (by rw [← hx, ← hy, hxy])
          have HD' := hid hd
          subst hxy
          clear hd hx hy HD
          go_wp2
          go_quiet (fail)
          go_wp2
          go_roundw
          case rel => exact ⟨k, _, by omega, by go_num, HD', hid (by rw [HW.out, World.drewN_drewN])⟩
          case measure => simp [intOf]
        · have hc := cmp_top B64_pos HA.out.dig HB.out.dig (show k < LA.length by have := Hn.out; omega) (show k < LB.length by have := Hm.out; omega) HD.out (by rw [← hx, ← hy]; exact hxy)
          rw [HA.out.eq, HB.out.eq, ← hx, ← hy] at hc
          have HC := hid hc
          clear hc hx hy HD
          have hb : ((x : Int) != y) = true := by rw [bne_iff_ne]; exact hxy
          go_wp2
          go_quiet (fail)
          go_wp2
          go_quiet ((go_at_call 106; exact quietMore (cmpU64' _ _ _)))
          go_wp2
          go_ret
          exact ⟨_, by rw [HC.out]; rfl, by rw [HW.out, World.drewN_drewN, World.drewN_drewN]⟩
  · have HC := hid (Hcmp.out hne)
    have hb : ((n : Int) != (m : Int)) = true := by rw [bne_iff_ne]; omega
    go_enter Tryz.func67, Tryz.ntmps67
    go_wp2_with (go_at_call 105; refine (cmpInt _ _ _).mono ?_; rintro e w' ⟨rfl, rfl⟩)
    go_ret
    exact ⟨0, by rw [HC.out]; rfl, rfl⟩

end Go.Proofs.YtbapeilpkhbbeaaGreat

/- exact.integer: signed, read, value, negated. -/
namespace Go.Proofs.YtbapeilpkhbbeaaGreat
open Go.RowKit

/-- The value v reads in w as the integer z. -/
def It (w : World) (v : Value) (z : Int) (K : Nat) : Prop := ∃ s, v = .agg #[.bool (decide (z < 0)), s] ∧ Nt w s (z.natAbs : Int) K
def RetI (w : World) (z : Int) (K : Nat) (e : Ending) (w' : World) : Prop := ∃ v, e = .returned v ∧ It w' v z K ∧ Below w.heap.size w w'
theorem It.below {w w' : World} {v : Value} {n : Int} {K B : Nat} (h : It w v n K) (hb : Below B w w') (hB : w.heap.size ≤ B) : It w' v n K := by
  obtain ⟨s, rfl, h⟩ := h; exact ⟨s, rfl, h.below hb hB⟩
theorem It.mono {w : World} {v : Value} {n : Int} {K K' : Nat} (h : It w v n K) (hk : K ≤ K') : It w v n K' := by
  obtain ⟨s, rfl, h⟩ := h; exact ⟨s, rfl, h.mono hk⟩

theorem Nt.set {w : World} {s : Value} {n : Int} {K : Nat} (h : Nt w s n K) {a : Addr} {u : Value} (hu : w.cell? a = some u) (hn : ∀ x, u ≠ .int .u64 x) (v : Value) : Nt (w.setCell a v) s n K := by
  obtain ⟨ao, c, L, rfl, h⟩ := h; exact ⟨ao, c, L, rfl, h.rd.set hu hn v, h.dig, h.nrm, h.eq, h.le⟩
theorem It.set {w : World} {s : Value} {n : Int} {K : Nat} (h : It w s n K) {a : Addr} {u : Value} (hu : w.cell? a = some u) (hn : ∀ x, u ≠ .int .u64 x) (v : Value) : It (w.setCell a v) s n K := by
  obtain ⟨s, rfl, h⟩ := h; exact ⟨s, rfl, h.set hu hn v⟩

theorem NtL.zero_iff {w : World} {ao : Option Addr} {c : Nat} {L : List Int} {n : Int} {K : Nat} (h : NtL w ao c L n K) : L.length = 0 ↔ n = 0 := by
  constructor
  · intro hl; rw [← h.eq, List.eq_nil_of_length_eq_zero hl]; rfl
  · intro hn; rw [Nrm.eq_nil B64_pos h.dig h.nrm (by rw [h.eq, hn])]; rfl

/-- A number of which a sign and a size are known. -/
def sgn (neg : Bool) (n : Int) : Int := if neg then -n else n
theorem sgn_abs (neg : Bool) {n : Int} (h : 0 ≤ n) : ((sgn neg n).natAbs : Int) = n := by unfold sgn; split <;> omega
theorem sgn_lt (neg : Bool) {n : Int} (h : 0 ≤ n) : decide (sgn neg n < 0) = (neg && decide (0 < n)) := by
  unfold sgn; cases neg <;> simp <;> omega

set_option maxHeartbeats 1000000 in
theorem signed_any (neg : Bool) (s : Value) (n : Int) (K : Nat) (w : World) (h : Nt w s n K) :
    Calls Tryz.prog 82 #[.bool neg, s] w (RetI w (sgn neg n) K) := by
  have h0 := h.nonneg
  have hab := sgn_abs neg h0
  have hlt := sgn_lt neg h0
  obtain ⟨ao, c, L, rfl, h⟩ := h
  obtain ⟨m, hm⟩ : ∃ m, m = L.length := ⟨_, rfl⟩
  have hz := h.zero_iff
  have hd : decide (0 < n) = decide ((0 : Int) < (m : Int)) := by rw [hm]; apply decide_eq_decide.2; constructor <;> intro hh <;> omega
  rw [hd] at hlt
  rw [← hm]
  have H : Hid (∀ w', Below w.heap.size w w' → It w' (.agg #[.bool (neg && decide ((0 : Int) < (m : Int))), .slice ao m c]) (sgn neg n) K) := hid (fun w' hb => ⟨_, by rw [hlt], by rw [hab, hm]; exact ⟨ao, c, L, rfl, h.rd.below hb (Nat.le_refl _), h.dig, h.nrm, h.eq, h.le⟩⟩)
  clear hd hz hlt hab h0 h hm
  cases neg with
  | false =>
    go_enter Tryz.func82, Tryz.ntmps82
    go_wp2
    refine bodyPost_ret (v := .agg #[.bool false, .slice ao m c]) (by simp [results, Tryz.results82, go_sem]) rfl ⟨_, rfl, ?_, (Below.refl _ _).alloc (Nat.le_refl _) _⟩
    exact H.out _ ((Below.refl _ _).alloc (Nat.le_refl _) _)
  | true =>
    go_enter Tryz.func82, Tryz.ntmps82
    go_wp2
    refine bodyPost_ret (v := .agg #[.bool (decide ((0 : Int) < (m : Int))), .slice ao m c]) (by simp [results, Tryz.results82, go_sem]) rfl ⟨_, rfl, ?_, (Below.refl _ _).alloc (Nat.le_refl _) _⟩
    exact H.out _ ((Below.refl _ _).alloc (Nat.le_refl _) _)

/-- The value v (an api.Int) stands in w for the integer z. -/
structure AiL (w : World) (neg : Bool) (ao : Option Addr) (c : Nat) (W : List Int) (z : Int) (K : Nat) : Prop where
  rd : Rd w .u32 ao c W
  dig : Dig B32 W
  le : W.length ≤ K
  eq : z = sgn neg (val B32 W)
def Ai (w : World) (v : Value) (z : Int) (K : Nat) : Prop := ∃ neg ao c W, v = .agg #[.bool neg, .slice ao W.length c] ∧ AiL w neg ao c W z K
theorem Ai.below {w w' : World} {v : Value} {n : Int} {K B : Nat} (h : Ai w v n K) (hb : Below B w w') (hB : w.heap.size ≤ B) : Ai w' v n K := by
  obtain ⟨neg, ao, c, W, rfl, h⟩ := h; exact ⟨neg, ao, c, W, rfl, h.rd.below hb hB, h.dig, h.le, h.eq⟩

set_option maxRecDepth 100000 in
set_option maxHeartbeats 2000000 in
theorem read_any (v : Value) (z : Int) (K : Nat) (w : World) (h : Ai w v z K) (hK : K ≤ 1073741824) :
    Calls Tryz.prog 79 #[v] w (RetI w z ((K + 1) / 2)) := by
  obtain ⟨neg, ao, c, W, rfl, h⟩ := h
  obtain ⟨n, hn⟩ : ∃ n, n = W.length := ⟨_, rfl⟩
  have hf := fun (w' : World) (hb : Below w.heap.size w w') => fromWords_any ao c W w' (h.rd.below hb (Nat.le_refl _)) h.dig (by have := h.le; omega)
  rw [← hn] at hf ⊢
  have HF := hid hf; have H := hid h; have Hn := hid hn
  clear hf h hn
  go_enter Tryz.func79, Tryz.ntmps79
  go_wp2
  obtain ⟨W0, hW0⟩ : ∃ W0, W0 = ((w.alloc (.cells #[.bool neg, .slice ao n c] 24)).alloc (.cells #[.bool false, .slice none 0 0] 78)) := ⟨_, rfl⟩
  have hB0 : Below w.heap.size w W0 := by rw [hW0]; exact ((Below.refl _ _).alloc (Nat.le_refl _) _).alloc (by simp) _
  have hz0 : W0.heap.size = w.heap.size + 2 := by rw [hW0]; simp
  have HS : Hid (∀ w', Below (w.heap.size + 1) W0 w' → w'.cell? ⟨w.heap.size, 0, none⟩ = some (.bool neg) ∧ w'.cell? ⟨w.heap.size, 1, none⟩ = some (.slice ao n c)) := hid (fun w' hb => by
    constructor
    · rw [hb.cell (by simp), hW0]; simp [go_sem, World.cell?_alloc_past]
    · rw [hb.cell (by simp), hW0]; simp [go_sem, World.cell?_alloc_past])
  have HT : Hid (∀ w', Below (w.heap.size + 2) W0 w' → w'.cell? ⟨w.heap.size + 1, 0, none⟩ = some (.bool false) ∧ w'.cell? ⟨w.heap.size + 1, 1, none⟩ = some (.slice none 0 0) ∧ w'.frozen? ⟨w.heap.size + 1, 0, none⟩ = false ∧ w'.frozen? ⟨w.heap.size + 1, 1, none⟩ = false) := hid (fun w' hb => by
    refine ⟨?_, ?_, ?_, ?_⟩
    · rw [hb.cell (by simp), hW0]; simp [go_sem]
    · rw [hb.cell (by simp), hW0]; simp [go_sem]
    · rw [hb.frozen (by simp), hW0]; simp [go_sem]
    · rw [hb.frozen (by simp), hW0]; simp [go_sem])
  rw [← hW0]
  clear hW0
  go_region_held3 (fun w' => w'.cell? ⟨w.heap.size, 0, none⟩ = some (.bool neg) ∧ w'.cell? ⟨w.heap.size, 1, none⟩ = some (.slice ao n c)) ((refine HS.out _ ?_; first | assumption | exact Below.refl _ _ | exact (Below.refl _ _).drew | exact ((hB2.mono (Nat.le_succ _)).setCell (Nat.le_refl _) _).setCell (Nat.le_refl _) _)) (first
    | (go_at_call 114; refine (HF.out _ hB0.drew).mono ?_; rintro e w1 ⟨s, rfl, hs, hb1⟩; have hB1 : Below (w.heap.size + 2) W0 w1 := ((Below.refl _ _).drew).trans (hb1.mono (by simp; omega)); have hB1s := hB1.mono (Nat.le_succ _))
    | (go_at_call 82; refine (signed_any neg s _ _ _ hs).mono ?_; rintro e w2 ⟨_, rfl, ⟨_, rfl, qo, qc, QL, rfl, hq⟩, hb2⟩; have hB2 : Below (w.heap.size + 2) W0 w2 := hB1.trans (hb2.mono (by have := hB1.size; omega)); have hB2s := hB2.mono (Nat.le_succ _); obtain ⟨hr0, hr1, hr2, hr3⟩ := HT.out _ hB2))
  go_wp2
  have hbel : Below w.heap.size w w2 := hB0.trans (hB2.mono (by omega))
  refine bodyPost_ret (v := .agg #[.bool (decide (sgn neg (val B32 W) < 0)), .slice qo QL.length qc]) (by simp [results, Tryz.results79, go_sem, hr0, hr1]) rfl ⟨_, rfl, ?_, (hbel.setCell (by simp) _).setCell (by simp) _⟩
  have hfin : It w2 (.agg #[.bool (decide (sgn neg (val B32 W) < 0)), .slice qo QL.length qc]) z ((K + 1) / 2) := by
    rw [H.out.eq]
    exact ⟨_, rfl, qo, qc, QL, rfl, hq.rd, hq.dig, hq.nrm, hq.eq, by have := hq.le; have := Hn.out; have := H.out.le; omega⟩
  exact (hfin.set hr0 (fun x h => (by cases h)) _).set (u := .slice none 0 0) (by simp [go_sem, hr1]) (fun x h => (by cases h)) _

/-! Arguments, opened for a walk. -/
theorem It.opened {w : World} {v : Value} {z : Int} {K : Nat} (h : It w v z K) : ∃ b ao m c, v = .agg #[.bool b, .slice ao m c] ∧ Hid (∀ w', Below w.heap.size w w' → It w' (.agg #[.bool b, .slice ao m c]) z K) ∧ Hid (∀ w', Below w.heap.size w w' → Nt w' (.slice ao m c) (z.natAbs : Int) K) ∧ Hid (b = decide (z < 0)) := by
  obtain ⟨s, rfl, ao, c, L, rfl, h⟩ := h
  have hN : ∀ w', Below w.heap.size w w' → Nt w' (.slice ao L.length c) (z.natAbs : Int) K := fun w' hb => ⟨ao, c, L, rfl, h.rd.below hb (Nat.le_refl _), h.dig, h.nrm, h.eq, h.le⟩
  exact ⟨_, ao, L.length, c, rfl, hid (fun w' hb => ⟨_, rfl, hN w' hb⟩), hid hN, hid rfl⟩
theorem Ai.opened {w : World} {v : Value} {z : Int} {K : Nat} (h : Ai w v z K) : ∃ b ao m c, v = .agg #[.bool b, .slice ao m c] ∧ Hid (∀ w', Below w.heap.size w w' → Ai w' (.agg #[.bool b, .slice ao m c]) z K) := by
  obtain ⟨neg, ao, c, W, rfl, h⟩ := h
  exact ⟨neg, ao, W.length, c, rfl, hid (fun w' hb => ⟨neg, ao, c, W, rfl, h.rd.below hb (Nat.le_refl _), h.dig, h.le, h.eq⟩)⟩
theorem Nt.opened {w : World} {v : Value} {n : Int} {K : Nat} (h : Nt w v n K) : ∃ ao m c, v = .slice ao m c ∧ Hid (∀ w', Below w.heap.size w w' → Nt w' (.slice ao m c) n K) := by
  obtain ⟨ao, c, L, rfl, h⟩ := h
  exact ⟨ao, L.length, c, rfl, hid (fun w' hb => ⟨ao, c, L, rfl, h.rd.below hb (Nat.le_refl _), h.dig, h.nrm, h.eq, h.le⟩)⟩

/-! Results in new memory. -/
theorem owns_base {w : World} {B B' : Nat} {e : TypeId} {size n : Nat} {v : Value} {xs : List Value} (h : w.ownsRow B e size v n xs) (hb : B' ≤ B) : w.ownsRow B' e size v n xs := by
  refine ⟨h.1, ?_⟩
  rcases h.2 with h2 | ⟨g, cap, cur, hv, hg, r⟩
  · exact .inl h2
  · exact .inr ⟨g, cap, cur, hv, Nat.le_trans hb hg, r⟩
theorem FrW.base {w0 w1 w : World} {v : Value} {n : Int} {K : Nat} (h : FrW w1 w v n K) (hb : w0.heap.size ≤ w1.heap.size) : FrW w0 w v n K := by
  obtain ⟨L, h, r⟩ := h; exact ⟨L, owns_base h hb, r⟩
theorem FrW.set {w1 w : World} {v : Value} {n : Int} {K : Nat} (h : FrW w1 w v n K) {a : Addr} (ha : a.block < w1.heap.size) (u : Value) : FrW w1 (w.setCell a u) v n K := by
  obtain ⟨L, h, r⟩ := h; exact ⟨L, ownsRow_setCell_below h ha u, r⟩
theorem FrW.opened {w1 w : World} {v : Value} {n : Int} {K : Nat} (h : FrW w1 w v n K) : ∃ ao m c, v = .slice ao m c ∧ Hid (FrW w1 w (.slice ao m c) n K) := by
  obtain ⟨L, h, r⟩ := h
  rcases h.2 with ⟨rfl, _⟩ | ⟨g, cap, cur, rfl, _⟩
  · exact ⟨_, _, _, rfl, hid ⟨L, h, r⟩⟩
  · exact ⟨_, _, _, rfl, hid ⟨L, h, r⟩⟩
/-- A value of api.Int that the call has made, in normal form, which is z. -/
def FrA (w0 w : World) (v : Value) (z : Int) (K : Nat) : Prop := ∃ s, v = .agg #[.bool (decide (z < 0)), s] ∧ FrW w0 w s (z.natAbs : Int) K
def RetA (w : World) (z : Int) (K : Nat) (e : Ending) (w' : World) : Prop := ∃ v, e = .returned v ∧ FrA w w' v z K ∧ Below w.heap.size w w'

end Go.Proofs.YtbapeilpkhbbeaaGreat
