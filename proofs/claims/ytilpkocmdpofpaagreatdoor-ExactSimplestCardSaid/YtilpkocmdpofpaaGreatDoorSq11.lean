/- exact.root: its walk. exact.integer: value, negated, plus; exact.Normal, Neg, Add, Sub. Written by gen_int2.py. exact.Normal, Neg, Add, Sub. Written by gen_int3.py. -/
import Derived.Test.YtilpkocmdpofpaaGreatDoorSq10
import Derived.Test.YtilpkocmdpofpaaGreatDoorSq05
/- exact.root: its walk. -/
namespace Go.Proofs.YtilpkocmdpofpaaGreatDoor
open Go.RowKit

theorem Rd.unique {w : World} {k : IntKind} {ao : Option Addr} {c c' : Nat} {L L' : List Int} (h : Rd w k ao c L) (h' : Rd w k ao c' L') (hl : L.length = L'.length) : L = L' := by
  by_cases h0 : L.length = 0
  · rw [List.eq_nil_of_length_eq_zero h0, List.eq_nil_of_length_eq_zero (l := L') (by omega)]
  · obtain ⟨b, o, rfl⟩ := h.adr (by omega)
    refine List.ext_getElem hl fun i h1 h2 => ?_
    have a := h.cell b o rfl i h1
    rw [h'.cell b o rfl i h2] at a
    have e := Value.int.inj (Option.some.inj a)
    simpa [h1, h2] using e.2.symm
theorem Nt.unique {w : World} {v : Value} {n n' : Int} {K K' : Nat} (h : Nt w v n K) (h' : Nt w v n' K') : n = n' := by
  obtain ⟨ao, c, L, rfl, h⟩ := h
  obtain ⟨ao', c', L', e, h'⟩ := h'
  obtain ⟨e1, e2, _⟩ := Value.slice.inj e
  subst e1
  rw [← h.eq, ← h'.eq, h.rd.unique h'.rd e2]

open Classical in
/-- The number that a value stands for, 0 if none. -/
noncomputable def natOf (w : World) (v : Value) : Nat := if h : ∃ n : Int, ∃ K, Nt w v n K then (Classical.choose h).toNat else 0
theorem natOf_eq {w : World} {v : Value} {n : Int} {K : Nat} (h : Nt w v n K) : natOf w v = n.toNat := by
  have hx : ∃ n : Int, ∃ K, Nt w v n K := ⟨n, K, h⟩
  unfold natOf
  rw [dif_pos hx]
  obtain ⟨K', h'⟩ := Classical.choose_spec hx
  rw [h'.unique h]

theorem one_row (w : World) : Nt (w.alloc (Obj.cells #[Value.int IntKind.u64 1] 91)) (.slice (some ⟨w.heap.size, 0, none⟩) 1 1) 1 1 := by
  have hrow : Row .u64 91 (w.alloc (Obj.cells #[Value.int IntKind.u64 1] 91)) w.heap.size [1] := by unfold Row World.alloc; simp
  have h := nt_row (c := 1) (K := 1) hrow (Dig.cons (by decide) (by decide) (Dig.nil _)) (n := 1) (by simp [val]) (by simp) (by decide) (by simp)
  simpa [trimL] using h

structure RootI (w wr : World) (a : Int) (Kg : Nat) (gv : Value) (g : Int) : Prop where
  nt : Nt wr gv g Kg
  pos : 0 < g
  up : a < (g + 1) * (g + 1)
  low : Below w.heap.size w wr

def RetRoot (w : World) (a : Int) (K : Nat) (e : Ending) (w' : World) : Prop := ∃ r : Int, 0 ≤ r ∧ r * r ≤ a ∧ a < (r + 1) * (r + 1) ∧ RetN w r K e w'

set_option maxRecDepth 100000 in
set_option maxHeartbeats 4000000 in
theorem root_any (va : Value) (a : Int) (K : Nat) (w : World) (hA : Nt w va a K) (hK : K ≤ 10000000) :
    Calls Tryz.prog 90 #[va] w (RetRoot w a (K + 3)) := by
  by_cases ha0 : a = 0
  · subst ha0
    obtain ⟨ao, c, LA, rfl, hA⟩ := hA
    have hl : LA = [] := hA.nrm.eq_nil B64_pos hA.dig hA.eq
    subst hl
    clear hA
    go_enter Tryz.func90, Tryz.ntmps90
    go_wp2
    go_ret
    exact ⟨0, Int.le_refl 0, by decide, by decide, _, rfl, (Nt.nil _).mono (Nat.zero_le _), Below.refl _ _⟩
  · have ha : 0 < a := by have := hA.nonneg; omega
    obtain ⟨ao, c, LA, rfl, hA'⟩ := hA
    have hl0 : LA.length ≠ 0 := by
      intro h
      have e := hA'.eq
      rw [List.eq_nil_of_length_eq_zero h] at e
      exact ha0 e.symm
    obtain ⟨n, hn⟩ : ∃ n, n = LA.length := ⟨_, rfl⟩
    have hNa : Nt w (.slice ao n c) a K := ⟨ao, c, LA, by rw [hn], hA'⟩
    rw [← hn] at hl0 ⊢
    have hn0 : ¬ (n : Int) = 0 := by omega
    have hb0 : Below w.heap.size w (w.alloc (Obj.cells #[Value.int IntKind.u64 1] 91)) := (Below.refl _ _).alloc (Nat.le_refl _) _
    have hbl := bitLength_any _ a K _ (hNa.below hb0 (Nat.le_refl _)) (by omega)
    have HBl := hid hbl; have HNa := hid hNa; have HB0 := hid hb0; have Ha := hid ha
    have HOne := hid (one_row w)
    clear hbl hNa hb0 hA' hn ha ha0
    go_enter Tryz.func90, Tryz.ntmps90
    go_wp2_with fail
    refine HBl.out.mono ?_
    rintro e w' ⟨l, rfl, hl, hbits, rfl⟩
    obtain ⟨s, hs⟩ : ∃ s, s = (l + 1) / 2 := ⟨_, rfl⟩
    have e1 : ((l : Int) + 1) / 2 = (s : Int) := by omega
    have e2 : ((l : Int) + 1).tdiv 2 = (s : Int) := by rw [Int.tdiv_eq_ediv_of_nonneg (by omega)]; exact e1
    have hnb := newton_begin hbits Ha.out
    rw [← hs] at hnb
    have hsh := shiftLeft_any _ 1 s 1 _ HOne.out (by decide) (by omega)
    have hs2 : s ≤ 32 * K + 1 := by omega
    have HSh := hid hsh; have HNb := hid hnb
    clear hsh hnb hbits hs
    go_wp2_with fail
    refine HSh.out.mono ?_
    rintro e w1 ⟨gv, rfl, hg, hb1⟩
    rw [Int.one_mul] at hg
    obtain ⟨Kg, hKg⟩ : ∃ Kg, Kg = 1 + s / 64 + 1 := ⟨_, rfl⟩
    rw [← hKg] at hg
    have hKg2 : Kg ≤ K + 3 := by omega
    have HI0 := hid (show RootI w w1 a Kg gv (2 ^ s) from ⟨hg, Int.pow_pos (by decide), HNb.out, HB0.out.trans (hb1.mono HB0.out.size)⟩)
    clear hg hb1 hKg HSh HNb HOne
    go_wp2
    go_loopw [3] (fun gv wr => ∃ g, RootI w wr a Kg gv g) (fun gv wr => natOf wr gv)
    case atStart => exact ⟨_, HI0.out⟩
    case round =>
      obtain ⟨g, H⟩ := hrel
      have hna := HNa.out.below H.low (Nat.le_refl _)
      have hdv := divide_any _ _ a g K Kg wr hna H.nt H.pos (by omega)
      have hup := newton_up (Int.le_of_lt Ha.out) H.pos
      have hstop := newton_stop (a := a) H.pos
      have q0 : 0 ≤ a / g := Int.ediv_nonneg (Int.le_of_lt Ha.out) (Int.le_of_lt H.pos)
      have hn0' : 0 ≤ (g + a / g) / 2 := by have := H.pos; omega
      have hnp := newton_pos Ha.out hup hn0'
      obtain ⟨nx, hnx⟩ : ∃ nx, nx = (g + a / g) / 2 := ⟨_, rfl⟩
      rw [← hnx] at hup hstop hnp hn0'
      have Hnx := hid hnx; have Hup := hid hup; have Hnp := hid hnp; have Hstop := hid hstop
      have HDv := hid hdv; have HH := hid H
      clear hdv hna H HI0 hup hstop q0 hn0' hnp hnx
      go_wp2_with fail
      refine HDv.out.mono ?_
      rintro e w2 ⟨v1, v2, rfl, hv1, _, hb2⟩
      have hlow2 := HH.out.low.trans (hb2.mono HH.out.low.size)
      have had := add_any _ v1 g (a / g) Kg K (K + Kg + 1) w2 (HH.out.nt.below hb2 (Nat.le_refl _)) hv1 (by omega) (by omega) (by omega) (by omega)
      have HAd := hid had; have Hlow2 := hid hlow2; have Hb2 := hid hb2
      clear had hlow2 hb2 hv1
      go_wp2_with fail
      refine HAd.out.mono ?_
      rintro e w3 ⟨vs, rfl, hvs, hb3⟩
      have hsr := shiftRight_any vs (g + a / g) 1 (K + Kg + 1) w3 hvs (by omega) (by decide)
      rw [Int.pow_succ, Int.pow_zero, Int.one_mul, ← Hnx.out] at hsr
      have HSr := hid hsr; have Hlow3 := hid (Hlow2.out.trans (hb3.mono Hlow2.out.size)); have Hb3 := hid (Hb2.out.trans (hb3.mono Hb2.out.size))
      clear hsr hvs hb3
      go_wp2_with fail
      refine HSr.out.mono ?_
      rintro e w4 ⟨vn, rfl, hvn, hb4⟩
      have Hlow4 := hid (Hlow3.out.trans (hb4.mono Hlow3.out.size)); have Hb4 := hid (Hb3.out.trans (hb4.mono Hb3.out.size))
      have hg4 := HH.out.nt.below Hb4.out (Nat.le_refl _)
      have hcp := compare_any vn _ nx g (K + Kg + 1) Kg w4 hvn hg4
      by_cases hge : g ≤ nx
      · have hcv : 0 ≤ cmpI nx g := by unfold cmpI; rw [if_neg (by omega)]; split <;> omega
        obtain ⟨cv, hcve⟩ : ∃ cv, cv = cmpI nx g := ⟨_, rfl⟩
        rw [← hcve] at hcp hcv
        have HCp := hid hcp; have HG4 := hid hg4; have HSt := hid (Hstop.out hge)
        clear hcp hcve hg4 hvn hb4 hge
        go_wp2_with fail
        refine HCp.out.mono ?_
        rintro e w5 ⟨nq, rfl, rfl⟩
        go_wp2
        go_ret
        have hb := below_drewN (Below.refl w4.heap.size w4) nq
        exact ⟨g, Int.le_of_lt HH.out.pos, HSt.out, HH.out.up, _, rfl, (HG4.out.below hb (Nat.le_refl _)).mono (by omega), below_drewN Hlow4.out nq⟩
      · have hlt : nx < g := by omega
        rw [cmpI_lt hlt] at hcp
        have hn5 := hvn.tight (Int.lt_trans hlt HH.out.nt.lt)
        have HCp := hid hcp; have HN5 := hid hn5
        clear hcp hn5 hg4 hvn hb4
        go_wp2_with fail
        refine HCp.out.mono ?_
        rintro e w5 ⟨nq, rfl, rfl⟩
        go_wp2
        have hb := below_drewN (Below.refl w4.heap.size w4) nq
        go_roundw
        case rel => exact ⟨nx, HN5.out.below hb (Nat.le_refl _), Hnp.out, Hup.out, below_drewN Hlow4.out nq⟩
        case measure => rw [natOf_eq (HN5.out.below hb (Nat.le_refl _)), natOf_eq HH.out.nt]; have := Hnp.out; omega

end Go.Proofs.YtilpkocmdpofpaaGreatDoor

/- exact.integer: value, negated, plus; exact.Normal, Neg, Add, Sub. Written by gen_int2.py. -/
namespace Go.Proofs.YtilpkocmdpofpaaGreatDoor
open Go.RowKit

theorem sgn_diff (x y : Int) (hs : decide (x < 0) ≠ decide (y < 0)) : sgn (decide (x < 0)) ((x.natAbs : Int) - (y.natAbs : Int)) = x + y := by
  by_cases h1 : x < 0
  · by_cases h2 : y < 0
    · simp [h1, h2] at hs
    · rw [decide_eq_true h1]; show -((x.natAbs : Int) - (y.natAbs : Int)) = x + y; omega
  · by_cases h2 : y < 0
    · rw [decide_eq_false h1]; show (x.natAbs : Int) - (y.natAbs : Int) = x + y; omega
    · simp [h1, h2] at hs

set_option maxRecDepth 100000 in
set_option maxHeartbeats 4000000 in
theorem value_any (v : Value) (z : Int) (K : Nat) (w : World) (h : It w v z K) (hK : K ≤ 1073741824) :
    Calls Tryz.prog 81 #[v] w (RetA w z (2 * K)) := by
  obtain ⟨xb, xo, xm, xc, rfl, Hx, Hxs, Hxb⟩ := It.opened h
  go_enter Tryz.func81, Tryz.ntmps81
  go_wp2
  obtain ⟨W0, hW0⟩ : ∃ W0, W0 = ((w.alloc (.cells #[.bool xb, .slice xo xm xc] 84)).alloc (.cells #[.bool false, .slice none 0 0] 24)) := ⟨_, rfl⟩
  have hB0 : Below w.heap.size w W0 := by rw [hW0]; exact ((Below.refl _ _).alloc (by simp <;> omega) _).alloc (by simp <;> omega) _
  have hz0 : W0.heap.size = w.heap.size + 2 := by rw [hW0]; simp
  have HS : Hid (∀ w', Below (w.heap.size + 1) W0 w' → w'.cell? ⟨w.heap.size, 0, none⟩ = some (.bool xb) ∧ w'.cell? ⟨w.heap.size, 1, none⟩ = some (.slice xo xm xc)) := hid (fun w' hb => by
    refine ⟨?_, ?_⟩ <;> (first | (rw [hb.cell (by simp <;> omega), hW0]; simp [go_sem]; done) | (rw [hb.frozen (by simp <;> omega), hW0]; simp [go_sem]; done)))
  have HT : Hid (∀ w', Below (w.heap.size + 2) W0 w' → w'.cell? ⟨w.heap.size + 1, 0, none⟩ = some (.bool false) ∧ w'.cell? ⟨w.heap.size + 1, 1, none⟩ = some (.slice none 0 0) ∧ w'.frozen? ⟨w.heap.size + 1, 0, none⟩ = false ∧ w'.frozen? ⟨w.heap.size + 1, 1, none⟩ = false) := hid (fun w' hb => by
    refine ⟨?_, ?_, ?_, ?_⟩ <;> (first | (rw [hb.cell (by simp <;> omega), hW0]; simp [go_sem]; done) | (rw [hb.frozen (by simp <;> omega), hW0]; simp [go_sem]; done)))
  rw [← hW0]
  clear hW0
  go_region_held3 (fun w' => w'.cell? ⟨w.heap.size, 0, none⟩ = some (.bool xb) ∧ w'.cell? ⟨w.heap.size, 1, none⟩ = some (.slice xo xm xc)) ((refine HS.out _ ?_; first | assumption | exact Below.refl _ _ | exact (Below.refl _ _).drew | exact ((hB1.mono (Nat.le_succ _)).setCell (Nat.le_refl _) _).setCell (Nat.le_refl _) _)) (first
    | (go_at_call 135; refine (words_any _ _ _ _ (Hxs.out _ hB0.drew) hK).mono ?_; rintro e w1 ⟨v1, rfl, hv1, hb1⟩; obtain ⟨o1, m1, c1, rfl, HV⟩ := FrW.opened hv1; have hB1 : Below (w.heap.size + 2) W0 w1 := ((Below.refl _ _).drew).trans (hb1.mono (by simp; omega)); have hB1s := hB1.mono (Nat.le_succ _); obtain ⟨hr0, hr1, hr2, hr3⟩ := HT.out _ hB1))
  go_wp2
  have hbel : Below w.heap.size w w1 := hB0.trans (hB1.mono (by omega))
  refine bodyPost_ret (v := .agg #[.bool xb, .slice o1 m1 c1]) (by simp [results, Tryz.results81, go_sem, hr0, hr1]) rfl ⟨_, rfl, ?_, (hbel.setCell (by simp <;> omega) _).setCell (by simp <;> omega) _⟩
  rw [Hxb.out]
  exact ⟨_, rfl, ((HV.out.set (by simp; omega) _).set (by simp; omega) _).base (by simp; omega)⟩

set_option maxRecDepth 100000 in
set_option maxHeartbeats 4000000 in
theorem negated_any (v : Value) (z : Int) (K : Nat) (w : World) (h : It w v z K) :
    Calls Tryz.prog 138 #[v] w (RetI w (-z) K) := by
  obtain ⟨xb, xo, xm, xc, rfl, Hx, Hxs, Hxb⟩ := It.opened h
  go_enter Tryz.func138, Tryz.ntmps138
  go_wp2_with fail
  obtain ⟨W0, hW0⟩ : ∃ W0, W0 = ((w.alloc (.cells #[.bool xb, .slice xo xm xc] 84)).alloc (.cells #[.bool false, .slice none 0 0] 84)) := ⟨_, rfl⟩
  have hB0 : Below w.heap.size w W0 := by rw [hW0]; exact ((Below.refl _ _).alloc (by simp <;> omega) _).alloc (by simp <;> omega) _
  have hz0 : W0.heap.size = w.heap.size + 2 := by rw [hW0]; simp
  have _HS : Hid (∀ w', Below (w.heap.size + 1) W0 w' → w'.cell? ⟨w.heap.size, 0, none⟩ = some (.bool xb) ∧ w'.cell? ⟨w.heap.size, 1, none⟩ = some (.slice xo xm xc)) := hid (fun w' hb => by
    refine ⟨?_, ?_⟩ <;> (first | (rw [hb.cell (by simp <;> omega), hW0]; simp [go_sem]; done) | (rw [hb.frozen (by simp <;> omega), hW0]; simp [go_sem]; done)))
  have HT : Hid (∀ w', Below (w.heap.size + 2) W0 w' → w'.cell? ⟨w.heap.size + 1, 0, none⟩ = some (.bool false) ∧ w'.cell? ⟨w.heap.size + 1, 1, none⟩ = some (.slice none 0 0) ∧ w'.frozen? ⟨w.heap.size + 1, 0, none⟩ = false ∧ w'.frozen? ⟨w.heap.size + 1, 1, none⟩ = false) := hid (fun w' hb => by
    refine ⟨?_, ?_, ?_, ?_⟩ <;> (first | (rw [hb.cell (by simp <;> omega), hW0]; simp [go_sem]; done) | (rw [hb.frozen (by simp <;> omega), hW0]; simp [go_sem]; done)))
  rw [← hW0]
  clear hW0
  refine (signed_any (!xb) _ _ _ _ (Hxs.out _ hB0)).mono ?_
  rintro e w1 ⟨_, rfl, ⟨_, rfl, qo, qc, QL, rfl, hq⟩, hb1⟩
  have hB1 : Below (w.heap.size + 2) W0 w1 := hb1.mono (by omega)
  obtain ⟨hr0, hr1, hr2, hr3⟩ := HT.out _ hB1
  go_wp2
  have hbel : Below w.heap.size w w1 := hB0.trans (hB1.mono (by omega))
  refine bodyPost_ret (v := .agg #[.bool (decide (sgn (!xb) (z.natAbs : Int) < 0)), .slice qo QL.length qc]) (by simp [results, Tryz.results138, go_sem, hr0, hr1]) rfl ⟨_, rfl, ?_, (hbel.setCell (by simp <;> omega) _).setCell (by simp <;> omega) _⟩
  have e : sgn (!xb) (z.natAbs : Int) = -z := by rw [Hxb.out]; unfold sgn; by_cases hz : z < 0 <;> simp [hz] <;> omega
  have hfin : It w1 (.agg #[.bool (decide (sgn (!xb) (z.natAbs : Int) < 0)), .slice qo QL.length qc]) (-z) K := by
    rw [← e]; exact ⟨_, rfl, qo, qc, QL, rfl, hq⟩
  exact (hfin.set hr0 (fun x h => (by cases h)) _).set (u := .slice none 0 0) (by simp [go_sem, hr1]) (fun x h => (by cases h)) _

set_option maxRecDepth 100000 in
set_option maxHeartbeats 4000000 in
theorem plus_same (u v : Value) (x y : Int) (Kx Ky K : Nat) (w : World) (hu : It w u x Kx) (hv : It w v y Ky) (hKx : Kx ≤ 1073741824) (hKy : Ky ≤ 1073741824) (h1 : Kx < K) (h2 : Ky < K) (hs : decide (x < 0) = decide (y < 0)) :
    Calls Tryz.prog 107 #[u, v] w (RetI w (x + y) K) := by
  obtain ⟨xb, xo, xm, xc, rfl, Hx, Hxs, Hxb⟩ := It.opened hu
  obtain ⟨yb, yo, ym, yc, rfl, Hy, Hys, Hyb⟩ := It.opened hv
  have hb : yb = xb := by rw [Hxb.out, Hyb.out, hs]
  subst hb
  have Hs := hid hs
  clear hs hu hv
  go_enter Tryz.func107, Tryz.ntmps107
  go_wp2
  obtain ⟨W0, hW0⟩ : ∃ W0, W0 = (((w.alloc (.cells #[.bool yb, .slice xo xm xc] 84)).alloc (.cells #[.bool yb, .slice yo ym yc] 84)).alloc (.cells #[.bool false, .slice none 0 0] 84)) := ⟨_, rfl⟩
  have hB0 : Below w.heap.size w W0 := by rw [hW0]; exact (((Below.refl _ _).alloc (by simp <;> omega) _).alloc (by simp <;> omega) _).alloc (by simp <;> omega) _
  have hz0 : W0.heap.size = w.heap.size + 3 := by rw [hW0]; simp
  have HS : Hid (∀ w', Below (w.heap.size + 2) W0 w' → w'.cell? ⟨w.heap.size, 0, none⟩ = some (.bool yb) ∧ w'.cell? ⟨w.heap.size, 1, none⟩ = some (.slice xo xm xc) ∧ w'.cell? ⟨w.heap.size + 1, 0, none⟩ = some (.bool yb) ∧ w'.cell? ⟨w.heap.size + 1, 1, none⟩ = some (.slice yo ym yc)) := hid (fun w' hb => by
    refine ⟨?_, ?_, ?_, ?_⟩ <;> (first | (rw [hb.cell (by simp <;> omega), hW0]; simp [go_sem]; done) | (rw [hb.frozen (by simp <;> omega), hW0]; simp [go_sem]; done)))
  have HT : Hid (∀ w', Below (w.heap.size + 3) W0 w' → w'.cell? ⟨w.heap.size + 2, 0, none⟩ = some (.bool false) ∧ w'.cell? ⟨w.heap.size + 2, 1, none⟩ = some (.slice none 0 0) ∧ w'.frozen? ⟨w.heap.size + 2, 0, none⟩ = false ∧ w'.frozen? ⟨w.heap.size + 2, 1, none⟩ = false) := hid (fun w' hb => by
    refine ⟨?_, ?_, ?_, ?_⟩ <;> (first | (rw [hb.cell (by simp <;> omega), hW0]; simp [go_sem]; done) | (rw [hb.frozen (by simp <;> omega), hW0]; simp [go_sem]; done)))
  rw [← hW0]
  clear hW0
  go_region_held3 (fun w' => w'.cell? ⟨w.heap.size, 0, none⟩ = some (.bool yb) ∧ w'.cell? ⟨w.heap.size, 1, none⟩ = some (.slice xo xm xc) ∧ w'.cell? ⟨w.heap.size + 1, 0, none⟩ = some (.bool yb) ∧ w'.cell? ⟨w.heap.size + 1, 1, none⟩ = some (.slice yo ym yc)) ((refine HS.out _ ?_; first | assumption | exact Below.refl _ _ | exact (Below.refl _ _).drew | exact ((hB2.mono (Nat.le_succ _)).setCell (Nat.le_refl _) _).setCell (Nat.le_refl _) _)) (first
    | (go_at_call 133; refine (add_any _ _ _ _ _ _ K _ (Hxs.out _ hB0.drew) (Hys.out _ hB0.drew) hKx hKy h1 h2).mono ?_; rintro e w1 ⟨v1, rfl, hv1, hb1⟩; have hB1 : Below (w.heap.size + 3) W0 w1 := ((Below.refl _ _).drew).trans (hb1.mono (by simp; omega)); have hB1s := hB1.mono (Nat.le_succ _))
    | (go_at_call 55; refine (signed_any yb v1 _ _ _ hv1).mono ?_; rintro e w2 ⟨_, rfl, ⟨_, rfl, qo, qc, QL, rfl, hq⟩, hb2⟩; have hB2 : Below (w.heap.size + 3) W0 w2 := hB1.trans (hb2.mono (by have := hB1.size; omega)); have hB2s := hB2.mono (Nat.le_succ _); obtain ⟨hr0, hr1, hr2, hr3⟩ := HT.out _ hB2))
  go_wp2
  have hbel : Below w.heap.size w w2 := hB0.trans (hB2.mono (by omega))
  refine bodyPost_ret (v := .agg #[.bool (decide (sgn yb ((x.natAbs : Int) + (y.natAbs : Int)) < 0)), .slice qo QL.length qc]) (by simp [results, Tryz.results107, go_sem, hr0, hr1]) rfl ⟨_, rfl, ?_, (hbel.setCell (by simp <;> omega) _).setCell (by simp <;> omega) _⟩
  have e : sgn yb ((x.natAbs : Int) + (y.natAbs : Int)) = (x + y) := by rw [Hyb.out]; have := Hs.out; unfold sgn; by_cases h : y < 0 <;> simp [h] at this ⊢ <;> omega
  have hfin : It w2 (.agg #[.bool (decide (sgn yb ((x.natAbs : Int) + (y.natAbs : Int)) < 0)), .slice qo QL.length qc]) (x + y) K := by
    rw [← e]; exact ⟨_, rfl, qo, qc, QL, rfl, hq.rd, hq.dig, hq.nrm, hq.eq, Nat.le_trans hq.le (by omega)⟩
  exact (hfin.set hr0 (fun x h => (by cases h)) _).set (u := .slice none 0 0) (by simp [go_sem, hr1]) (fun x h => (by cases h)) _

set_option maxRecDepth 100000 in
set_option maxHeartbeats 4000000 in
theorem plus_keep (u v : Value) (x y : Int) (Kx Ky K : Nat) (w : World) (hu : It w u x Kx) (hv : It w v y Ky) (hKx : Kx ≤ 1073741824) (_hKy : Ky ≤ 1073741824) (h1 : Kx < K) (_h2 : Ky < K) (hs : decide (x < 0) ≠ decide (y < 0)) (hc : y.natAbs ≤ x.natAbs) :
    Calls Tryz.prog 107 #[u, v] w (RetI w (x + y) K) := by
  obtain ⟨xb, xo, xm, xc, rfl, Hx, Hxs, Hxb⟩ := It.opened hu
  obtain ⟨yb, yo, ym, yc, rfl, Hy, Hys, Hyb⟩ := It.opened hv
  have hb : xb ≠ yb := by rw [Hxb.out, Hyb.out]; exact hs
  have hb1 : (xb == yb) = false := by simpa using hb
  have hcm : 0 ≤ cmpI (x.natAbs : Int) (y.natAbs : Int) := (by unfold cmpI; split <;> (try split) <;> omega)
  obtain ⟨cm, hcm'⟩ : ∃ cm, cm = cmpI (x.natAbs : Int) (y.natAbs : Int) := ⟨_, rfl⟩
  rw [← hcm'] at hcm
  have Hcm := hid hcm'
  have Hs := hid hs; have Hc := hid hc
  clear hs hu hv hc hcm'
  go_enter Tryz.func107, Tryz.ntmps107
  go_wp2_with fail
  refine (compare_any _ _ _ _ Kx Ky _ (Hxs.out _ (by repeat (first | exact Below.refl _ _ | refine Below.alloc ?_ (by simp <;> omega) _))) (Hys.out _ (by repeat (first | exact Below.refl _ _ | refine Below.alloc ?_ (by simp <;> omega) _)))).mono ?_
  rintro e w' ⟨nq, rfl, rfl⟩
  rw [← Hcm.out]
  go_wp2
  obtain ⟨W0, hW0⟩ : ∃ W0, W0 = (((w.alloc (.cells #[.bool xb, .slice xo xm xc] 84)).alloc (.cells #[.bool yb, .slice yo ym yc] 84)).alloc (.cells #[.bool false, .slice none 0 0] 84)).drewN nq := ⟨_, rfl⟩
  have hB0 : Below w.heap.size w W0 := by rw [hW0]; exact below_drewN ((((Below.refl _ _).alloc (by simp <;> omega) _).alloc (by simp <;> omega) _).alloc (by simp <;> omega) _) nq
  have hz0 : W0.heap.size = w.heap.size + 3 := by rw [hW0]; simp
  have HS : Hid (∀ w', Below (w.heap.size + 2) W0 w' → w'.cell? ⟨w.heap.size, 0, none⟩ = some (.bool xb) ∧ w'.cell? ⟨w.heap.size, 1, none⟩ = some (.slice xo xm xc) ∧ w'.cell? ⟨w.heap.size + 1, 0, none⟩ = some (.bool yb) ∧ w'.cell? ⟨w.heap.size + 1, 1, none⟩ = some (.slice yo ym yc)) := hid (fun w' hb => by
    refine ⟨?_, ?_, ?_, ?_⟩ <;> (first | (rw [hb.cell (by simp <;> omega), hW0]; simp [go_sem]; done) | (rw [hb.frozen (by simp <;> omega), hW0]; simp [go_sem]; done)))
  have HT : Hid (∀ w', Below (w.heap.size + 3) W0 w' → w'.cell? ⟨w.heap.size + 2, 0, none⟩ = some (.bool false) ∧ w'.cell? ⟨w.heap.size + 2, 1, none⟩ = some (.slice none 0 0) ∧ w'.frozen? ⟨w.heap.size + 2, 0, none⟩ = false ∧ w'.frozen? ⟨w.heap.size + 2, 1, none⟩ = false) := hid (fun w' hb => by
    refine ⟨?_, ?_, ?_, ?_⟩ <;> (first | (rw [hb.cell (by simp <;> omega), hW0]; simp [go_sem]; done) | (rw [hb.frozen (by simp <;> omega), hW0]; simp [go_sem]; done)))
  rw [← hW0]
  clear hW0
  go_region_held3 (fun w' => w'.cell? ⟨w.heap.size, 0, none⟩ = some (.bool xb) ∧ w'.cell? ⟨w.heap.size, 1, none⟩ = some (.slice xo xm xc) ∧ w'.cell? ⟨w.heap.size + 1, 0, none⟩ = some (.bool yb) ∧ w'.cell? ⟨w.heap.size + 1, 1, none⟩ = some (.slice yo ym yc)) ((refine HS.out _ ?_; first | assumption | exact Below.refl _ _ | exact (Below.refl _ _).drew | exact ((hB2.mono (Nat.le_succ _)).setCell (Nat.le_refl _) _).setCell (Nat.le_refl _) _)) (first
    | (go_at_call 134; refine (subtract_any _ _ _ _ Kx Ky _ (Hxs.out _ hB0.drew) (Hys.out _ hB0.drew) hKx (by have := Hc.out; omega)).mono ?_; rintro e w1 ⟨v1, rfl, hv1, hb1⟩; have hB1 : Below (w.heap.size + 3) W0 w1 := ((Below.refl _ _).drew).trans (hb1.mono (by simp; omega)); have hB1s := hB1.mono (Nat.le_succ _))
    | (go_at_call 55; refine (signed_any xb v1 _ _ _ hv1).mono ?_; rintro e w2 ⟨_, rfl, ⟨_, rfl, qo, qc, QL, rfl, hq⟩, hb2⟩; have hB2 : Below (w.heap.size + 3) W0 w2 := hB1.trans (hb2.mono (by have := hB1.size; omega)); have hB2s := hB2.mono (Nat.le_succ _); obtain ⟨hr0, hr1, hr2, hr3⟩ := HT.out _ hB2))
  go_wp2
  have hbel : Below w.heap.size w w2 := hB0.trans (hB2.mono (by omega))
  refine bodyPost_ret (v := .agg #[.bool (decide (sgn xb ((x.natAbs : Int) - (y.natAbs : Int)) < 0)), .slice qo QL.length qc]) (by simp [results, Tryz.results107, go_sem, hr0, hr1]) rfl ⟨_, rfl, ?_, (hbel.setCell (by simp <;> omega) _).setCell (by simp <;> omega) _⟩
  have e : sgn xb ((x.natAbs : Int) - (y.natAbs : Int)) = (x + y) := by rw [Hxb.out]; exact sgn_diff x y Hs.out
  have hfin : It w2 (.agg #[.bool (decide (sgn xb ((x.natAbs : Int) - (y.natAbs : Int)) < 0)), .slice qo QL.length qc]) (x + y) K := by
    rw [← e]; exact ⟨_, rfl, qo, qc, QL, rfl, hq.rd, hq.dig, hq.nrm, hq.eq, Nat.le_trans hq.le (by omega)⟩
  exact (hfin.set hr0 (fun x h => (by cases h)) _).set (u := .slice none 0 0) (by simp [go_sem, hr1]) (fun x h => (by cases h)) _

set_option maxRecDepth 100000 in
set_option maxHeartbeats 4000000 in
theorem plus_swap (u v : Value) (x y : Int) (Kx Ky K : Nat) (w : World) (hu : It w u x Kx) (hv : It w v y Ky) (_hKx : Kx ≤ 1073741824) (hKy : Ky ≤ 1073741824) (_h1 : Kx < K) (h2 : Ky < K) (hs : decide (x < 0) ≠ decide (y < 0)) (hc : x.natAbs < y.natAbs) :
    Calls Tryz.prog 107 #[u, v] w (RetI w (x + y) K) := by
  obtain ⟨xb, xo, xm, xc, rfl, Hx, Hxs, Hxb⟩ := It.opened hu
  obtain ⟨yb, yo, ym, yc, rfl, Hy, Hys, Hyb⟩ := It.opened hv
  have hb : xb ≠ yb := by rw [Hxb.out, Hyb.out]; exact hs
  have hb1 : (xb == yb) = false := by simpa using hb
  have hcm : cmpI (x.natAbs : Int) (y.natAbs : Int) < 0 := (by rw [cmpI_lt (by omega)]; decide)
  obtain ⟨cm, hcm'⟩ : ∃ cm, cm = cmpI (x.natAbs : Int) (y.natAbs : Int) := ⟨_, rfl⟩
  rw [← hcm'] at hcm
  have Hcm := hid hcm'
  have Hs := hid hs; have Hc := hid hc
  clear hs hu hv hc hcm'
  go_enter Tryz.func107, Tryz.ntmps107
  go_wp2_with fail
  refine (compare_any _ _ _ _ Kx Ky _ (Hxs.out _ (by repeat (first | exact Below.refl _ _ | refine Below.alloc ?_ (by simp <;> omega) _))) (Hys.out _ (by repeat (first | exact Below.refl _ _ | refine Below.alloc ?_ (by simp <;> omega) _)))).mono ?_
  rintro e w' ⟨nq, rfl, rfl⟩
  rw [← Hcm.out]
  obtain ⟨W0, hW0⟩ : ∃ W0, W0 = (((w.alloc (.cells #[.bool xb, .slice xo xm xc] 84)).alloc (.cells #[.bool yb, .slice yo ym yc] 84)).alloc (.cells #[.bool false, .slice none 0 0] 84)).drewN nq := ⟨_, rfl⟩
  rw [← hW0]
  obtain ⟨k0, k1, k2, k3, k4, k5, f0, f1, f2, f3, f4, f5⟩ : W0.cell? ⟨w.heap.size, 0, none⟩ = some (.bool xb) ∧ W0.cell? ⟨w.heap.size, 1, none⟩ = some (.slice xo xm xc) ∧ W0.cell? ⟨w.heap.size + 1, 0, none⟩ = some (.bool yb) ∧ W0.cell? ⟨w.heap.size + 1, 1, none⟩ = some (.slice yo ym yc) ∧ W0.cell? ⟨w.heap.size + 2, 0, none⟩ = some (.bool false) ∧ W0.cell? ⟨w.heap.size + 2, 1, none⟩ = some (.slice none 0 0) ∧ W0.frozen? ⟨w.heap.size, 0, none⟩ = false ∧ W0.frozen? ⟨w.heap.size, 1, none⟩ = false ∧ W0.frozen? ⟨w.heap.size + 1, 0, none⟩ = false ∧ W0.frozen? ⟨w.heap.size + 1, 1, none⟩ = false ∧ W0.frozen? ⟨w.heap.size + 2, 0, none⟩ = false ∧ W0.frozen? ⟨w.heap.size + 2, 1, none⟩ = false := by
    rw [hW0]; refine ⟨?_, ?_, ?_, ?_, ?_, ?_, ?_, ?_, ?_, ?_, ?_, ?_⟩ <;> first | (rw [cell_drewN]; simp [go_sem]; done) | (simp [go_sem]; done)
  have hb00 : Below w.heap.size w W0 := by rw [hW0]; exact below_drewN ((((Below.refl _ _).alloc (by simp <;> omega) _).alloc (by simp <;> omega) _).alloc (by simp <;> omega) _) nq
  have hz00 : W0.heap.size = w.heap.size + 3 := by rw [hW0]; simp
  clear hW0
  go_wp2
  obtain ⟨W1, hW1⟩ : ∃ W1, W1 = ((((W0.setCell ⟨w.heap.size, 0, none⟩ (.bool yb)).setCell ⟨w.heap.size, 1, none⟩ (.slice yo ym yc)).setCell ⟨w.heap.size + 1, 0, none⟩ (.bool xb)).setCell ⟨w.heap.size + 1, 1, none⟩ (.slice xo xm xc)) := ⟨_, rfl⟩
  have hB0 : Below w.heap.size w W1 := by rw [hW1]; exact (((hb00.setCell (by simp <;> omega) _).setCell (by simp <;> omega) _).setCell (by simp <;> omega) _).setCell (by simp <;> omega) _
  have hz0 : W1.heap.size = w.heap.size + 3 := by rw [hW1]; simp [hz00]
  have HS : Hid (∀ w', Below (w.heap.size + 2) W1 w' → w'.cell? ⟨w.heap.size, 0, none⟩ = some (.bool yb) ∧ w'.cell? ⟨w.heap.size, 1, none⟩ = some (.slice yo ym yc) ∧ w'.cell? ⟨w.heap.size + 1, 0, none⟩ = some (.bool xb) ∧ w'.cell? ⟨w.heap.size + 1, 1, none⟩ = some (.slice xo xm xc)) := hid (fun w' hb => by
    refine ⟨?_, ?_, ?_, ?_⟩ <;> (first | (rw [hb.cell (by simp <;> omega), hW1]; simp [go_sem, *]; done) | (rw [hb.frozen (by simp <;> omega), hW1]; simp [go_sem, *]; done)))
  have HT : Hid (∀ w', Below (w.heap.size + 3) W1 w' → w'.cell? ⟨w.heap.size + 2, 0, none⟩ = some (.bool false) ∧ w'.cell? ⟨w.heap.size + 2, 1, none⟩ = some (.slice none 0 0) ∧ w'.frozen? ⟨w.heap.size + 2, 0, none⟩ = false ∧ w'.frozen? ⟨w.heap.size + 2, 1, none⟩ = false) := hid (fun w' hb => by
    refine ⟨?_, ?_, ?_, ?_⟩ <;> (first | (rw [hb.cell (by simp <;> omega), hW1]; simp [go_sem, *]; done) | (rw [hb.frozen (by simp <;> omega), hW1]; simp [go_sem, *]; done)))
  rw [← hW1]
  clear hW1 k0 k1 k2 k3 k4 k5 f0 f1 f2 f3 f4 f5
  go_region_held3 (fun w' => w'.cell? ⟨w.heap.size, 0, none⟩ = some (.bool yb) ∧ w'.cell? ⟨w.heap.size, 1, none⟩ = some (.slice yo ym yc) ∧ w'.cell? ⟨w.heap.size + 1, 0, none⟩ = some (.bool xb) ∧ w'.cell? ⟨w.heap.size + 1, 1, none⟩ = some (.slice xo xm xc)) ((refine HS.out _ ?_; first | assumption | exact Below.refl _ _ | exact (Below.refl _ _).drew | exact ((hB2.mono (Nat.le_succ _)).setCell (Nat.le_refl _) _).setCell (Nat.le_refl _) _)) (first
    | (go_at_call 134; refine (subtract_any _ _ _ _ Ky Kx _ (Hys.out _ hB0.drew) (Hxs.out _ hB0.drew) hKy (by have := Hc.out; omega)).mono ?_; rintro e w1 ⟨v1, rfl, hv1, hb1⟩; have hB1 : Below (w.heap.size + 3) W1 w1 := ((Below.refl _ _).drew).trans (hb1.mono (by simp; omega)); have hB1s := hB1.mono (Nat.le_succ _))
    | (go_at_call 55; refine (signed_any yb v1 _ _ _ hv1).mono ?_; rintro e w2 ⟨_, rfl, ⟨_, rfl, qo, qc, QL, rfl, hq⟩, hb2⟩; have hB2 : Below (w.heap.size + 3) W1 w2 := hB1.trans (hb2.mono (by have := hB1.size; omega)); have hB2s := hB2.mono (Nat.le_succ _); obtain ⟨hr0, hr1, hr2, hr3⟩ := HT.out _ hB2))
  go_wp2
  have hbel : Below w.heap.size w w2 := hB0.trans (hB2.mono (by omega))
  refine bodyPost_ret (v := .agg #[.bool (decide (sgn yb ((y.natAbs : Int) - (x.natAbs : Int)) < 0)), .slice qo QL.length qc]) (by simp [results, Tryz.results107, go_sem, hr0, hr1]) rfl ⟨_, rfl, ?_, (hbel.setCell (by simp <;> omega) _).setCell (by simp <;> omega) _⟩
  have e : sgn yb ((y.natAbs : Int) - (x.natAbs : Int)) = (x + y) := by rw [Hyb.out]; rw [Int.add_comm]; exact sgn_diff y x (Ne.symm Hs.out)
  have hfin : It w2 (.agg #[.bool (decide (sgn yb ((y.natAbs : Int) - (x.natAbs : Int)) < 0)), .slice qo QL.length qc]) (x + y) K := by
    rw [← e]; exact ⟨_, rfl, qo, qc, QL, rfl, hq.rd, hq.dig, hq.nrm, hq.eq, Nat.le_trans hq.le (by omega)⟩
  exact (hfin.set hr0 (fun x h => (by cases h)) _).set (u := .slice none 0 0) (by simp [go_sem, hr1]) (fun x h => (by cases h)) _

theorem plus_any (u v : Value) (x y : Int) (Kx Ky K : Nat) (w : World) (hu : It w u x Kx) (hv : It w v y Ky) (hKx : Kx ≤ 1073741824) (hKy : Ky ≤ 1073741824) (h1 : Kx < K) (h2 : Ky < K) :
    Calls Tryz.prog 107 #[u, v] w (RetI w (x + y) K) := by
  by_cases hs : decide (x < 0) = decide (y < 0)
  · exact plus_same u v x y Kx Ky K w hu hv hKx hKy h1 h2 hs
  · by_cases hc : y.natAbs ≤ x.natAbs
    · exact plus_keep u v x y Kx Ky K w hu hv hKx hKy h1 h2 hs hc
    · exact plus_swap u v x y Kx Ky K w hu hv hKx hKy h1 h2 hs (by omega)

end Go.Proofs.YtilpkocmdpofpaaGreatDoor

/- exact.Normal, Neg, Add, Sub. Written by gen_int3.py. -/
namespace Go.Proofs.YtilpkocmdpofpaaGreatDoor
open Go.RowKit

theorem FrA.set {w1 w : World} {v : Value} {z : Int} {K : Nat} (h : FrA w1 w v z K) {a : Addr} (ha : a.block < w1.heap.size) (u : Value) : FrA w1 (w.setCell a u) v z K := by
  obtain ⟨s, rfl, h⟩ := h; exact ⟨s, rfl, h.set ha u⟩

end Go.Proofs.YtilpkocmdpofpaaGreatDoor
