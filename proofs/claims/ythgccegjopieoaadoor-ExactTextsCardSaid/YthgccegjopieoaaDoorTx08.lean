/- The document's own integers: Sign, Neg, Add, Sub, Cmp. Written by gen_ref8.py. hodoscoperef01.long: the quotient and the rest of two naturals, bit by bit. hodoscoperef01.long: its walk: the quotient and the rest of two naturals. hodoscoperef01.Of: the integer of a number of 64 bits. The document's own integers: Div (the quotient rounded down, and its rest). Written by gen_rdiv.py. The document's own integers: From. -/
import Derived.Test.YthgccegjopieoaaDoorTx07
import Derived.Test.YthgccegjopieoaaDoorTx05
import Derived.Deep.DeepCutAuto
import Derived.Deep.AppendLies
import Derived.Deep.CutBlock
import Derived.IntWalk
/- The document's own integers: Sign, Neg, Add, Sub, Cmp. Written by gen_ref8.py. -/
namespace Go.Proofs.YthgccegjopieoaaDoor
open Go.RowKit

theorem RetO.dg {w : World} {n : Int} {K K' : Nat} {e : Ending} {w' : World} (h : RetO w n K e w') (hK : K ≤ K') : ∃ v, e = .returned v ∧ Dg w' v n K' ∧ Below w.heap.size w w' := by
  obtain ⟨v, Q, rfl, ho, hl, hd, hv, hb⟩ := h
  refine ⟨v, rfl, ?_, hb⟩
  rcases ho.2 with ⟨rfl, h0⟩ | ⟨g, cap, cur, rfl, hg, hh, hn, hcm, hs, ht⟩
  · subst h0
    obtain rfl : Q = [] := List.eq_nil_of_length_eq_zero hl
    exact ⟨none, 0, [], rfl, Rd.nil _ _, hd, hv, by simp⟩
  · subst hl
    exact ⟨_, cap, Q, rfl, owns_rd ho hcm, hd, hv, hK⟩
theorem le_of_either {a b : Int} (h : a ≤ b ∨ a < b) : a ≤ b := by omega
theorem sum_md (va vb : Value) (a b : Int) (K : Nat) (w : World) (hA : Md w va a K) (hB : Md w vb b K) (hK : K ≤ 1073741824) :
    Calls Tryd.prog 39 #[va, vb] w fun e w' => ∃ v, e = .returned v ∧ Dg w' v (a + b) (K + 1) ∧ Below w.heap.size w w' := by
  obtain ⟨ao, ca, L, rfl, hA⟩ := hA
  obtain ⟨bo, cb, M, rfl, hB⟩ := hB
  have h1 := hA.le; have h2 := hB.le
  refine (sum_any ao bo ca cb (max L.length M.length) L M w hA.rd hB.rd hA.dig hB.dig rfl (by omega)).mono ?_
  intro e w' h
  rw [hA.eq, hB.eq] at h
  exact h.dg (by omega)
theorem order_md (va vb : Value) (a b : Int) (Ka Kb : Nat) (w : World) (hA : Md w va a Ka) (hB : Md w vb b Kb) :
    Calls Tryd.prog 40 #[va, vb] w fun e w' => e = .returned (.int .i64 (cmpI a b)) ∧ w' = w := by
  obtain ⟨ao, ca, L, rfl, hA⟩ := hA
  obtain ⟨bo, cb, M, rfl, hB⟩ := hB
  have h := order_any ao bo ca cb L M w hA.rd hB.rd hA.dig hB.dig
  rw [hA.eq, hB.eq] at h
  exact h

set_option maxRecDepth 100000 in
set_option maxHeartbeats 4000000 in
theorem radd_same (u v : Value) (x y : Int) (K : Nat) (w : World) (hu : Zt w u x K) (hv : Zt w v y K) (hK : K ≤ 1073741823) (hs : decide (x < 0) = decide (y < 0)) :
    Calls Tryd.prog 25 #[u, v] w (RetZ w (x + y) (K + 1)) := by
  obtain ⟨xb, xo, xm, xc, rfl, Hx, Hxs, Hxb⟩ := Zt.opened hu
  obtain ⟨yb, yo, ym, yc, rfl, Hy, Hys, Hyb⟩ := Zt.opened hv
  have hb : yb = xb := by rw [Hxb.out, Hyb.out, hs]
  subst hb
  have Hs := hid hs
  clear hs hu hv
  go_enter Tryd.func25, Tryd.ntmps25
  go_wp2
  obtain ⟨W0, hW0⟩ : ∃ W0, W0 = (((w.alloc (.cells #[.bool yb, .slice xo xm xc] 30)).alloc (.cells #[.bool yb, .slice yo ym yc] 30)).alloc (.cells #[.bool false, .slice none 0 0] 30)) := ⟨_, rfl⟩
  have hB0 : Below w.heap.size w W0 := by rw [hW0]; exact (((Below.refl _ _).alloc (by simp <;> omega) _).alloc (by simp <;> omega) _).alloc (by simp <;> omega) _
  have hz0 : W0.heap.size = w.heap.size + 3 := by rw [hW0]; simp
  have HS : Hid (∀ w', Below (w.heap.size + 2) W0 w' → w'.cell? ⟨w.heap.size, 0, none⟩ = some (.bool yb) ∧ w'.cell? ⟨w.heap.size, 1, none⟩ = some (.slice xo xm xc) ∧ w'.cell? ⟨w.heap.size + 1, 0, none⟩ = some (.bool yb) ∧ w'.cell? ⟨w.heap.size + 1, 1, none⟩ = some (.slice yo ym yc)) := hid (fun w' hb => by
    refine ⟨?_, ?_, ?_, ?_⟩ <;> (first | (rw [hb.cell (by simp <;> omega), hW0]; simp [go_sem]; done) | (rw [hb.frozen (by simp <;> omega), hW0]; simp [go_sem]; done)))
  have HT : Hid (∀ w', Below (w.heap.size + 3) W0 w' → w'.cell? ⟨w.heap.size + 2, 0, none⟩ = some (.bool false) ∧ w'.cell? ⟨w.heap.size + 2, 1, none⟩ = some (.slice none 0 0) ∧ w'.frozen? ⟨w.heap.size + 2, 0, none⟩ = false ∧ w'.frozen? ⟨w.heap.size + 2, 1, none⟩ = false) := hid (fun w' hb => by
    refine ⟨?_, ?_, ?_, ?_⟩ <;> (first | (rw [hb.cell (by simp <;> omega), hW0]; simp [go_sem]; done) | (rw [hb.frozen (by simp <;> omega), hW0]; simp [go_sem]; done)))
  rw [← hW0]
  clear hW0
  go_region_held3 (fun w' => w'.cell? ⟨w.heap.size, 0, none⟩ = some (.bool yb) ∧ w'.cell? ⟨w.heap.size, 1, none⟩ = some (.slice xo xm xc) ∧ w'.cell? ⟨w.heap.size + 1, 0, none⟩ = some (.bool yb) ∧ w'.cell? ⟨w.heap.size + 1, 1, none⟩ = some (.slice yo ym yc)) ((refine HS.out _ ?_; first | assumption | exact Below.refl _ _ | exact (Below.refl _ _).drew | exact ((hB2.mono (Nat.le_succ _)).setCell (Nat.le_refl _) _).setCell (Nat.le_refl _) _)) (first
    | (go_at_call 39; refine (sum_md _ _ _ _ K _ (Hxs.out _ hB0.drew) (Hys.out _ hB0.drew) (by omega)).mono ?_; rintro e w1 ⟨_, rfl, hv1, hb1⟩; obtain ⟨o1, m1, c1, rfl, H1⟩ := Dg.opened hv1; have hB1 : Below (w.heap.size + 3) W0 w1 := ((Below.refl _ _).drew).trans (hb1.mono (by simp; omega)); have hB1s := hB1.mono (Nat.le_succ _))
    | (go_at_call 17; refine (made_any yb _ _ _ _ (H1.out _ (Below.refl _ _))).mono ?_; rintro e w2 ⟨_, rfl, hv2, hb2⟩; obtain ⟨b2, o2, m2, c2, rfl, H2, H2s, H2b⟩ := Zt.opened hv2; have hB2 : Below (w.heap.size + 3) W0 w2 := hB1.trans (hb2.mono (by have := hB1.size; omega)); have hB2s := hB2.mono (Nat.le_succ _); obtain ⟨hr0, hr1, hr2, hr3⟩ := HT.out _ hB2))
  go_wp2
  have hbel : Below w.heap.size w w2 := hB0.trans (hB2.mono (by omega))
  refine bodyPost_ret (v := .agg #[.bool b2, .slice o2 m2 c2]) (by simp [results, Tryd.results25, go_sem, hr0, hr1]) rfl ⟨_, rfl, ?_, (hbel.setCell (by simp <;> omega) _).setCell (by simp <;> omega) _⟩
  have e : sgn yb ((x.natAbs : Int) + (y.natAbs : Int)) = x + y := by rw [Hyb.out]; have := Hs.out; unfold sgn; by_cases h : y < 0 <;> simp [h] at this ⊢ <;> omega
  rw [← e]
  exact ((H2.out _ (Below.refl _ _)).set hr0 (fun x h => (by cases h)) _).set (u := .slice none 0 0) (by simp [go_sem, hr1]) (fun x h => (by cases h)) _

set_option maxRecDepth 100000 in
set_option maxHeartbeats 4000000 in
theorem radd_ge (u v : Value) (x y : Int) (K : Nat) (w : World) (hu : Zt w u x K) (hv : Zt w v y K) (hK : K ≤ 1073741823) (hs : decide (x < 0) ≠ decide (y < 0)) (hab : (y.natAbs : Int) ≤ (x.natAbs : Int)) :
    Calls Tryd.prog 25 #[u, v] w (RetZ w (x + y) (K + 1)) := by
  obtain ⟨xb, xo, xm, xc, rfl, Hx, Hxs, Hxb⟩ := Zt.opened hu
  obtain ⟨yb, yo, ym, yc, rfl, Hy, Hys, Hyb⟩ := Zt.opened hv
  have hb : (xb == yb) = false := by rw [beq_eq_false_iff_ne, Hxb.out, Hyb.out]; exact hs
  have hb' : ¬ xb = yb := by simpa using hb
  have Hs := hid hs; have Hab := hid (show (y.natAbs : Int) ≤ (x.natAbs : Int) ∨ (y.natAbs : Int) < (x.natAbs : Int) from by first | exact Or.inl hab | exact Or.inr hab)
  have hcv : 0 ≤ cmpI (x.natAbs : Int) (y.natAbs : Int) := by unfold cmpI; (repeat split) <;> omega
  obtain ⟨cv, hcve⟩ : ∃ cv, cmpI (x.natAbs : Int) (y.natAbs : Int) = cv := ⟨_, rfl⟩
  rw [hcve] at hcv
  have Hcv := hid hcve
  clear hs hab hu hv hcve
  go_enter Tryd.func25, Tryd.ntmps25
  go_wp2_with fail
  obtain ⟨W0, hW0⟩ : ∃ W0, W0 = (((w.alloc (.cells #[.bool xb, .slice xo xm xc] 30)).alloc (.cells #[.bool yb, .slice yo ym yc] 30)).alloc (.cells #[.bool false, .slice none 0 0] 30)) := ⟨_, rfl⟩
  have hB0 : Below w.heap.size w W0 := by rw [hW0]; exact (((Below.refl _ _).alloc (by simp <;> omega) _).alloc (by simp <;> omega) _).alloc (by simp <;> omega) _
  have hz0 : W0.heap.size = w.heap.size + 3 := by rw [hW0]; simp
  have HS : Hid (∀ w', Below (w.heap.size + 2) W0 w' → w'.cell? ⟨w.heap.size, 0, none⟩ = some (.bool xb) ∧ w'.cell? ⟨w.heap.size, 1, none⟩ = some (.slice xo xm xc) ∧ w'.cell? ⟨w.heap.size + 1, 0, none⟩ = some (.bool yb) ∧ w'.cell? ⟨w.heap.size + 1, 1, none⟩ = some (.slice yo ym yc)) := hid (fun w' hb => by
    refine ⟨?_, ?_, ?_, ?_⟩ <;> (first | (rw [hb.cell (by simp <;> omega), hW0]; simp [go_sem]; done) | (rw [hb.frozen (by simp <;> omega), hW0]; simp [go_sem]; done)))
  have HT : Hid (∀ w', Below (w.heap.size + 3) W0 w' → w'.cell? ⟨w.heap.size + 2, 0, none⟩ = some (.bool false) ∧ w'.cell? ⟨w.heap.size + 2, 1, none⟩ = some (.slice none 0 0) ∧ w'.frozen? ⟨w.heap.size + 2, 0, none⟩ = false ∧ w'.frozen? ⟨w.heap.size + 2, 1, none⟩ = false) := hid (fun w' hb => by
    refine ⟨?_, ?_, ?_, ?_⟩ <;> (first | (rw [hb.cell (by simp <;> omega), hW0]; simp [go_sem]; done) | (rw [hb.frozen (by simp <;> omega), hW0]; simp [go_sem]; done)))
  rw [← hW0]
  clear hW0
  refine (order_md _ _ _ _ K K _ (Hxs.out _ hB0) (Hys.out _ hB0)).mono ?_
  rintro e w0 ⟨rfl, hw0⟩
  obtain rfl : W0 = w0 := hw0.symm
  rw [Hcv.out]
  have hB0w := hB0
  go_wp2
  go_region_held3 (fun w' => w'.cell? ⟨w.heap.size, 0, none⟩ = some (.bool xb) ∧ w'.cell? ⟨w.heap.size, 1, none⟩ = some (.slice xo xm xc) ∧ w'.cell? ⟨w.heap.size + 1, 0, none⟩ = some (.bool yb) ∧ w'.cell? ⟨w.heap.size + 1, 1, none⟩ = some (.slice yo ym yc)) ((refine HS.out _ ?_; first | assumption | exact Below.refl _ _ | exact (Below.refl _ _).drew | exact ((hB2.mono (Nat.le_succ _)).setCell (Nat.le_refl _) _).setCell (Nat.le_refl _) _)) (first
    | (go_at_call 41; refine (less_any _ _ _ _ K K _ (Hxs.out _ hB0.drew) (Hys.out _ hB0.drew) (le_of_either Hab.out) (Nat.le_succ_of_le hK)).mono ?_; rintro e w1 ⟨_, rfl, hv1, hb1⟩; obtain ⟨o1, m1, c1, rfl, H1⟩ := Md.opened hv1; have hB1 : Below (w.heap.size + 3) W0 w1 := ((Below.refl _ _).drew).trans (hb1.mono (by simp; omega)); have hB1s := hB1.mono (Nat.le_succ _))
    | (go_at_call 17; refine (made_any xb _ _ _ _ (H1.out _ (Below.refl _ _)).dg).mono ?_; rintro e w2 ⟨_, rfl, hv2, hb2⟩; obtain ⟨b2, o2, m2, c2, rfl, H2, H2s, H2b⟩ := Zt.opened hv2; have hB2 : Below (w.heap.size + 3) W0 w2 := hB1.trans (hb2.mono (by have := hB1.size; omega)); have hB2s := hB2.mono (Nat.le_succ _); obtain ⟨hr0, hr1, hr2, hr3⟩ := HT.out _ hB2))
  go_wp2
  have hbel : Below w.heap.size w w2 := hB0.trans (hB2.mono (by omega))
  refine bodyPost_ret (v := .agg #[.bool b2, .slice o2 m2 c2]) (by simp [results, Tryd.results25, go_sem, hr0, hr1]) rfl ⟨_, rfl, ?_, (hbel.setCell (by simp <;> omega) _).setCell (by simp <;> omega) _⟩
  have e : sgn xb ((x.natAbs : Int) - (y.natAbs : Int)) = x + y := by rw [Hxb.out]; have := Hs.out; unfold sgn; by_cases h : x < 0 <;> by_cases h2 : y < 0 <;> simp [h, h2] at this ⊢ <;> omega
  rw [← e]
  exact Zt.mono (((H2.out _ (Below.refl _ _)).set hr0 (fun x h => (by cases h)) _).set (u := .slice none 0 0) (by simp [go_sem, hr1]) (fun x h => (by cases h)) _) (Nat.le_succ _)

set_option maxRecDepth 100000 in
set_option maxHeartbeats 4000000 in
theorem radd_lt (u v : Value) (x y : Int) (K : Nat) (w : World) (hu : Zt w u x K) (hv : Zt w v y K) (hK : K ≤ 1073741823) (hs : decide (x < 0) ≠ decide (y < 0)) (hab : (x.natAbs : Int) < (y.natAbs : Int)) :
    Calls Tryd.prog 25 #[u, v] w (RetZ w (x + y) (K + 1)) := by
  obtain ⟨xb, xo, xm, xc, rfl, Hx, Hxs, Hxb⟩ := Zt.opened hu
  obtain ⟨yb, yo, ym, yc, rfl, Hy, Hys, Hyb⟩ := Zt.opened hv
  have hb : (xb == yb) = false := by rw [beq_eq_false_iff_ne, Hxb.out, Hyb.out]; exact hs
  have hb' : ¬ xb = yb := by simpa using hb
  have Hs := hid hs; have Hab := hid (show (x.natAbs : Int) ≤ (y.natAbs : Int) ∨ (x.natAbs : Int) < (y.natAbs : Int) from by first | exact Or.inl hab | exact Or.inr hab)
  have hcv : ¬ 0 ≤ cmpI (x.natAbs : Int) (y.natAbs : Int) := by unfold cmpI; (repeat split) <;> omega
  obtain ⟨cv, hcve⟩ : ∃ cv, cmpI (x.natAbs : Int) (y.natAbs : Int) = cv := ⟨_, rfl⟩
  rw [hcve] at hcv
  have Hcv := hid hcve
  clear hs hab hu hv hcve
  go_enter Tryd.func25, Tryd.ntmps25
  go_wp2_with fail
  obtain ⟨W0, hW0⟩ : ∃ W0, W0 = (((w.alloc (.cells #[.bool xb, .slice xo xm xc] 30)).alloc (.cells #[.bool yb, .slice yo ym yc] 30)).alloc (.cells #[.bool false, .slice none 0 0] 30)) := ⟨_, rfl⟩
  have hB0 : Below w.heap.size w W0 := by rw [hW0]; exact (((Below.refl _ _).alloc (by simp <;> omega) _).alloc (by simp <;> omega) _).alloc (by simp <;> omega) _
  have hz0 : W0.heap.size = w.heap.size + 3 := by rw [hW0]; simp
  have HS : Hid (∀ w', Below (w.heap.size + 2) W0 w' → w'.cell? ⟨w.heap.size, 0, none⟩ = some (.bool xb) ∧ w'.cell? ⟨w.heap.size, 1, none⟩ = some (.slice xo xm xc) ∧ w'.cell? ⟨w.heap.size + 1, 0, none⟩ = some (.bool yb) ∧ w'.cell? ⟨w.heap.size + 1, 1, none⟩ = some (.slice yo ym yc)) := hid (fun w' hb => by
    refine ⟨?_, ?_, ?_, ?_⟩ <;> (first | (rw [hb.cell (by simp <;> omega), hW0]; simp [go_sem]; done) | (rw [hb.frozen (by simp <;> omega), hW0]; simp [go_sem]; done)))
  have HT : Hid (∀ w', Below (w.heap.size + 3) W0 w' → w'.cell? ⟨w.heap.size + 2, 0, none⟩ = some (.bool false) ∧ w'.cell? ⟨w.heap.size + 2, 1, none⟩ = some (.slice none 0 0) ∧ w'.frozen? ⟨w.heap.size + 2, 0, none⟩ = false ∧ w'.frozen? ⟨w.heap.size + 2, 1, none⟩ = false) := hid (fun w' hb => by
    refine ⟨?_, ?_, ?_, ?_⟩ <;> (first | (rw [hb.cell (by simp <;> omega), hW0]; simp [go_sem]; done) | (rw [hb.frozen (by simp <;> omega), hW0]; simp [go_sem]; done)))
  rw [← hW0]
  clear hW0
  refine (order_md _ _ _ _ K K _ (Hxs.out _ hB0) (Hys.out _ hB0)).mono ?_
  rintro e w0 ⟨rfl, hw0⟩
  obtain rfl : W0 = w0 := hw0.symm
  rw [Hcv.out]
  have hB0w := hB0
  go_wp2
  go_region_held3 (fun w' => w'.cell? ⟨w.heap.size, 0, none⟩ = some (.bool xb) ∧ w'.cell? ⟨w.heap.size, 1, none⟩ = some (.slice xo xm xc) ∧ w'.cell? ⟨w.heap.size + 1, 0, none⟩ = some (.bool yb) ∧ w'.cell? ⟨w.heap.size + 1, 1, none⟩ = some (.slice yo ym yc)) ((refine HS.out _ ?_; first | assumption | exact Below.refl _ _ | exact (Below.refl _ _).drew | exact ((hB2.mono (Nat.le_succ _)).setCell (Nat.le_refl _) _).setCell (Nat.le_refl _) _)) (first
    | (go_at_call 41; refine (less_any _ _ _ _ K K _ (Hys.out _ hB0.drew) (Hxs.out _ hB0.drew) (le_of_either Hab.out) (Nat.le_succ_of_le hK)).mono ?_; rintro e w1 ⟨_, rfl, hv1, hb1⟩; obtain ⟨o1, m1, c1, rfl, H1⟩ := Md.opened hv1; have hB1 : Below (w.heap.size + 3) W0 w1 := ((Below.refl _ _).drew).trans (hb1.mono (by simp; omega)); have hB1s := hB1.mono (Nat.le_succ _))
    | (go_at_call 17; refine (made_any yb _ _ _ _ (H1.out _ (Below.refl _ _)).dg).mono ?_; rintro e w2 ⟨_, rfl, hv2, hb2⟩; obtain ⟨b2, o2, m2, c2, rfl, H2, H2s, H2b⟩ := Zt.opened hv2; have hB2 : Below (w.heap.size + 3) W0 w2 := hB1.trans (hb2.mono (by have := hB1.size; omega)); have hB2s := hB2.mono (Nat.le_succ _); obtain ⟨hr0, hr1, hr2, hr3⟩ := HT.out _ hB2))
  go_wp2
  have hbel : Below w.heap.size w w2 := hB0.trans (hB2.mono (by omega))
  refine bodyPost_ret (v := .agg #[.bool b2, .slice o2 m2 c2]) (by simp [results, Tryd.results25, go_sem, hr0, hr1]) rfl ⟨_, rfl, ?_, (hbel.setCell (by simp <;> omega) _).setCell (by simp <;> omega) _⟩
  have e : sgn yb ((y.natAbs : Int) - (x.natAbs : Int)) = x + y := by rw [Hyb.out]; have := Hs.out; unfold sgn; by_cases h : y < 0 <;> by_cases h2 : x < 0 <;> simp [h, h2] at this ⊢ <;> omega
  rw [← e]
  exact Zt.mono (((H2.out _ (Below.refl _ _)).set hr0 (fun x h => (by cases h)) _).set (u := .slice none 0 0) (by simp [go_sem, hr1]) (fun x h => (by cases h)) _) (Nat.le_succ _)

theorem radd_any (u v : Value) (x y : Int) (K : Nat) (w : World) (hu : Zt w u x K) (hv : Zt w v y K) (hK : K ≤ 1073741823) :
    Calls Tryd.prog 25 #[u, v] w (RetZ w (x + y) (K + 1)) := by
  by_cases hs : decide (x < 0) = decide (y < 0)
  · exact radd_same u v x y K w hu hv hK hs
  · by_cases hab : (y.natAbs : Int) ≤ (x.natAbs : Int)
    · exact radd_ge u v x y K w hu hv hK hs hab
    · exact radd_lt u v x y K w hu hv hK hs (by omega)

end Go.Proofs.YthgccegjopieoaaDoor

/- hodoscoperef01.long: the quotient and the rest of two naturals, bit by bit. -/
namespace Go.Proofs.YthgccegjopieoaaDoor
open Go.RowKit

theorem Fr.mono {B B' : Nat} {v : Value} (h : Fr B v) (hB : B' ≤ B) : Fr B' v := fun b off l c e => Nat.le_trans hB (h b off l c e)
theorem Md.kept {w : World} {v : Value} {n : Int} {K g : Nat} (h : Md w v n K) (hf : Fr (g + 1) v) (i : Nat) (u : Value) : Md (w.setCell ⟨g, i, none⟩ u) v n K := by
  obtain ⟨ao, c, L, rfl, h⟩ := h
  refine ⟨ao, c, L, rfl, h.rd.keptNew (grown_set _ _ _ _) (fun _ b off e hb => ?_), h.dig, h.nrm, h.eq, h.le⟩
  subst e
  have := hf b off _ _ rfl
  omega

/-- One digit x of the dividend, whose higher digits T are H * b + ..: its bits above M are done. -/
structure LnP (T H x b M P c r : Int) : Prop where
  p0 : 0 < P
  m0 : 0 < M
  mp : P * M = 65536
  c0 : 0 ≤ c
  r0 : 0 ≤ r
  r1 : r < b
  eq : T * P + x / M = (H * P + c) * b + r

theorem LnP.start {T H x b r : Int} (x0 : 0 ≤ x) (x1 : x < 65536) (r0 : 0 ≤ r) (r1 : r < b) (e : T = H * b + r) : LnP T H x b 65536 1 0 r :=
  ⟨by decide, by decide, by decide, Int.le_refl 0, r0, r1, by rw [Int.ediv_eq_zero_of_lt x0 x1, e]; simp⟩
theorem half_bits {x M : Int} (m0 : 0 < M) : x / M = 2 * (x / (2 * M)) + x / M % 2 := by
  have h : x / (2 * M) = x / M / 2 := by rw [Int.mul_comm]; exact (Int.ediv_ediv_of_nonneg (by omega)).symm
  rw [h]
  omega
theorem LnP.low {T H x b M P c r : Int} (h : LnP T H x b (2 * M) P c r) (hM : 0 < M) (hlt : 2 * r + x / M % 2 < b) : LnP T H x b M (2 * P) (2 * c) (2 * r + x / M % 2) := by
  have p0 := h.p0; have c0 := h.c0; have r0 := h.r0; have e := h.eq; have mp := h.mp
  have hb := half_bits (x := x) hM
  refine ⟨by omega, hM, ?_, by omega, by omega, hlt, ?_⟩
  · rw [← mp, Int.mul_assoc 2 P M, Int.mul_left_comm P 2 M]
  · generalize x / M % 2 = d at *
    generalize x / M = y at *
    generalize x / (2 * M) = z at *
    subst hb
    grind
end Go.Proofs.YthgccegjopieoaaDoor

/- hodoscoperef01.long: its walk: the quotient and the rest of two naturals. -/
namespace Go.Proofs.YthgccegjopieoaaDoor
open Go.RowKit

end Go.Proofs.YthgccegjopieoaaDoor

/- hodoscoperef01.Of: the integer of a number of 64 bits. -/
namespace Go.Proofs.YthgccegjopieoaaDoor
open Go.RowKit

set_option maxRecDepth 100000 in
set_option maxHeartbeats 4000000 in
theorem rof_any (n : Int) (w : World) (n0 : -9223372036854775808 ≤ n) (n1 : n < 9223372036854775808) :
    Calls Tryd.prog 24 #[.int .i64 n] w (RetZ w n 4) := by
  obtain ⟨W0, hW0⟩ : ∃ W0, W0 = (w.alloc (.cells #[.bool false, .slice none 0 0] 30)) := ⟨_, rfl⟩
  have hB0 : Below w.heap.size w W0 := by rw [hW0]; exact (Below.refl _ _).alloc (Nat.le_refl _) _
  have hw0 : W0.heap.size = w.heap.size + 1 := by rw [hW0]; simp
  have HT : Hid (∀ w', Below W0.heap.size W0 w' → w'.cell? ⟨w.heap.size, 0, none⟩ = some (.bool false) ∧ w'.cell? ⟨w.heap.size, 1, none⟩ = some (.slice none 0 0) ∧ w'.frozen? ⟨w.heap.size, 0, none⟩ = false ∧ w'.frozen? ⟨w.heap.size, 1, none⟩ = false) := hid (fun w' hb => by
    refine ⟨?_, ?_, ?_, ?_⟩ <;> (first | (rw [hb.cell (by rw [hw0]; simp), hW0]; simp [go_sem]; done) | (rw [hb.frozen (by rw [hw0]; simp), hW0]; simp [go_sem]; done)))
  obtain ⟨a, ha⟩ : ∃ a, a = (n.natAbs : Int) := ⟨_, rfl⟩
  have a0 : 0 ≤ a := by omega
  have a1 : a < 18446744073709551616 := by omega
  have HI0 := hid (show SpI W0 W0 a 0 (.slice none 0 0) [] a from ⟨GrI.start W0, a0, Int.le_refl _, by simp [val], .inl rfl⟩)
  have HN := hid a1
  have HA := hid ha
  have HB0 := hid hB0; have Hw0 := hid hw0; have HW := hid hW0
  obtain ⟨i0, hi, hz0, hz1, hz2⟩ := info_parts Tryd.info3
  have e1 : n < 0 → IntKind.u64.wrap n = n + 18446744073709551616 := fun h => by rw [IntKind.wrap_u64]; omega
  have e2 : n < 0 → IntKind.u64.wrap (-(n + 18446744073709551616)) = a := fun h => by rw [IntKind.wrap_u64]; omega
  have e3 : ¬ n < 0 → IntKind.u64.wrap n = a := fun h => by rw [IntKind.wrap_u64]; omega
  clear hB0 hw0 hW0 ha a0 a1
  by_cases hs : n < 0
  · replace e1 := e1 hs; replace e2 := e2 hs
    clear e3
    have HS : Hid (sgn true a = n) := hid (by have := HA.out; unfold sgn; simp; omega)
    go_enter Tryd.func24, Tryd.ntmps24
    go_wp2
    rw [← HW.out]
    go_loopw [3, 4] (fun mv ov wr => ∃ k : Nat, ∃ Q m, mv = .int .u64 m ∧ SpI W0 wr a k ov Q m) (fun mv _ _ => (intOf mv).toNat)
    case atStart => exact ⟨0, [], a, rfl, HI0.out⟩
    case round =>
      obtain ⟨k, Q, m, rfl, H⟩ := hrel
      have m0 := H.m0
      have hk := H.few HN.out
      have m1 : m < 18446744073709551616 := Int.lt_of_le_of_lt H.m1 HN.out
      by_cases hm : 0 < m
      · have HH := hid H
        have HNx := hid (fun wx ov' hg => H.next (wx := wx) (ov' := ov') hm hg)
        have htm : m.tmod 65536 = m % 65536 := Int.tmod_eq_emod_of_nonneg m0
        clear H HI0
        go_wp2_with (at_builtin; refine wpList_append_own _ rfl _ _ 28 rfl W0.heap.size 3 i0 (.int .i64 0) 1 8 Tryd.underlying28 hi hz0 hz1 hz2 rfl (by decide) _ k (Q.map (Value.int .i64)) rfl (HH.out.g.own.alloc _) ⟨wr.heap.size, 0, none⟩ 1 1 [.int .i64 (m % 65536)] rfl rfl ?c1 ?c2 ?c3 ?c4 ?c5 ?_)
        case c1 => exact fun j u hj => new_one0 j u hj
        case c2 => intro u hu; simp at hu; subst hu; rfl
        case c3 => unfold maxLen; omega
        case c4 => omega
        case c5 => have := HH.out.g.low.size; simp; omega
        intro ov' w3 hown hg _
        have HI := hid (HNx.out _ _ (HH.out.g.next _ (Int.emod_nonneg _ (by decide)) (Int.emod_lt_of_pos _ (by decide)) _ hown hg))
        clear hown hg
        go_wp2
        go_roundw
        case rel => exact ⟨k + 1, _, _, rfl, HI.out⟩
        case measure => simp [intOf]; omega
      · obtain rfl : m = 0 := by omega
        have hd := H.done HN.out
        have hlow := H.g.low
        have hbw := HB0.out.trans (hlow.mono (by have := Hw0.out; omega))
        clear H HI0 hm
        go_wp2_with fail
        refine (made_any true _ _ 4 _ hd.dg).mono ?_
        rintro e w1 ⟨_, rfl, hv1, hb1⟩
        obtain ⟨b1, o1, m1, c1, rfl, H1, _, _⟩ := Zt.opened hv1
        obtain ⟨hr0, hr1, hr2, hr3⟩ := HT.out _ (hlow.trans (hb1.mono hlow.size))
        have HBW := hid (hbw.trans (hb1.mono hbw.size))
        clear hd hlow hbw hb1 hv1
        go_wp2
        refine bodyPost_ret (v := .agg #[.bool b1, .slice o1 m1 c1]) (by simp [results, Tryd.results24, go_sem, hr0, hr1]) rfl ⟨_, rfl, ?_, (HBW.out.setCell (Nat.le_refl _) _).setCell (Nat.le_refl _) _⟩
        rw [HS.out] at H1
        exact ((H1.out _ (Below.refl _ _)).set hr0 (fun x h => (by cases h)) _).set (u := .slice none 0 0) (by simp [go_sem, hr1]) (fun x h => (by cases h)) _
  · replace e3 := e3 hs
    clear e1 e2
    have HS : Hid (sgn (decide (n < 0)) a = n) := hid (by have := HA.out; rw [decide_eq_false hs]; unfold sgn; simp; omega)
    go_enter Tryd.func24, Tryd.ntmps24
    go_wp2
    rw [← HW.out]
    go_loopw [3, 4] (fun mv ov wr => ∃ k : Nat, ∃ Q m, mv = .int .u64 m ∧ SpI W0 wr a k ov Q m) (fun mv _ _ => (intOf mv).toNat)
    case atStart => exact ⟨0, [], a, rfl, HI0.out⟩
    case round =>
      obtain ⟨k, Q, m, rfl, H⟩ := hrel
      have m0 := H.m0
      have hk := H.few HN.out
      have m1 : m < 18446744073709551616 := Int.lt_of_le_of_lt H.m1 HN.out
      by_cases hm : 0 < m
      · have HH := hid H
        have HNx := hid (fun wx ov' hg => H.next (wx := wx) (ov' := ov') hm hg)
        have htm : m.tmod 65536 = m % 65536 := Int.tmod_eq_emod_of_nonneg m0
        clear H HI0
        go_wp2_with (at_builtin; refine wpList_append_own _ rfl _ _ 28 rfl W0.heap.size 3 i0 (.int .i64 0) 1 8 Tryd.underlying28 hi hz0 hz1 hz2 rfl (by decide) _ k (Q.map (Value.int .i64)) rfl (HH.out.g.own.alloc _) ⟨wr.heap.size, 0, none⟩ 1 1 [.int .i64 (m % 65536)] rfl rfl ?c1 ?c2 ?c3 ?c4 ?c5 ?_)
        case c1 => exact fun j u hj => new_one0 j u hj
        case c2 => intro u hu; simp at hu; subst hu; rfl
        case c3 => unfold maxLen; omega
        case c4 => omega
        case c5 => have := HH.out.g.low.size; simp; omega
        intro ov' w3 hown hg _
        have HI := hid (HNx.out _ _ (HH.out.g.next _ (Int.emod_nonneg _ (by decide)) (Int.emod_lt_of_pos _ (by decide)) _ hown hg))
        clear hown hg
        go_wp2
        go_roundw
        case rel => exact ⟨k + 1, _, _, rfl, HI.out⟩
        case measure => simp [intOf]; omega
      · obtain rfl : m = 0 := by omega
        have hd := H.done HN.out
        have hlow := H.g.low
        have hbw := HB0.out.trans (hlow.mono (by have := Hw0.out; omega))
        clear H HI0 hm
        go_wp2_with fail
        refine (made_any (decide (n < 0)) _ _ 4 _ hd.dg).mono ?_
        rintro e w1 ⟨_, rfl, hv1, hb1⟩
        obtain ⟨b1, o1, m1, c1, rfl, H1, _, _⟩ := Zt.opened hv1
        obtain ⟨hr0, hr1, hr2, hr3⟩ := HT.out _ (hlow.trans (hb1.mono hlow.size))
        have HBW := hid (hbw.trans (hb1.mono hbw.size))
        clear hd hlow hbw hb1 hv1
        go_wp2
        refine bodyPost_ret (v := .agg #[.bool b1, .slice o1 m1 c1]) (by simp [results, Tryd.results24, go_sem, hr0, hr1]) rfl ⟨_, rfl, ?_, (HBW.out.setCell (Nat.le_refl _) _).setCell (Nat.le_refl _) _⟩
        rw [HS.out] at H1
        exact ((H1.out _ (Below.refl _ _)).set hr0 (fun x h => (by cases h)) _).set (u := .slice none 0 0) (by simp [go_sem, hr1]) (fun x h => (by cases h)) _
end Go.Proofs.YthgccegjopieoaaDoor

/- The document's own integers: Div (the quotient rounded down, and its rest). Written by gen_rdiv.py. -/
namespace Go.Proofs.YthgccegjopieoaaDoor
open Go.RowKit

end Go.Proofs.YthgccegjopieoaaDoor

/- The document's own integers: From. -/
namespace Go.Proofs.YthgccegjopieoaaDoor
open Go.RowKit

def un16 : List Int → List Int
  | [] => []
  | x :: l => x % 65536 :: x / 65536 :: un16 l
theorem un16_val : ∀ l : List Int, val R16 (un16 l) = val B32 l
  | [] => rfl
  | x :: l => by
    have h := un16_val l
    have e : B32 = R16 * R16 := by decide
    have d := Int.emod_add_mul_ediv x R16
    simp only [un16, val, h, e]
    unfold R16 at *; grind
theorem un16_len : ∀ l : List Int, (un16 l).length = 2 * l.length
  | [] => rfl
  | x :: l => by simp only [un16, List.length_cons, un16_len l]; omega
theorem un16_dig : ∀ {l : List Int}, Dig B32 l → Dig R16 (un16 l)
  | [], _ => Dig.nil _
  | x :: l, h => by
    have h1 := h.head
    have e : B32 = 4294967296 := rfl
    rw [e] at h1
    refine Dig.cons (by omega) (by unfold R16; omega) (Dig.cons (by omega) (by unfold R16; omega) (un16_dig h.tail))
theorem un16_snoc : ∀ (l : List Int) (x : Int), un16 (l ++ [x]) = un16 l ++ [x % 65536, x / 65536]
  | [], x => rfl
  | y :: l, x => by simp [un16, un16_snoc l x]

structure FrI (W0 wr : World) (W : List Int) (k : Nat) (ov : Value) : Prop where
  own : wr.ownsRow W0.heap.size 3 1 ov (2 * k) ((un16 (W.take k)).map (Value.int .i64))
  low : Below W0.heap.size W0 wr

set_option maxRecDepth 100000 in
set_option maxHeartbeats 4000000 in
theorem rfrom_any (v : Value) (z : Int) (K : Nat) (w : World) (h : Ai w v z K) (hK : K ≤ 268435456) :
    Calls Tryd.prog 8 #[v] w (RetZ w z (2 * K)) := by
  obtain ⟨neg, ao, c, W, rfl, h⟩ := h
  obtain ⟨n, hn⟩ : ∃ n, n = W.length := ⟨_, rfl⟩
  have hnK := h.le
  rw [← hn] at hnK ⊢
  have H := hid h; have Hn := hid hn
  clear h hn
  obtain ⟨i0, hi, hz0, hz1, hz2⟩ := info_parts Tryd.info3
  go_enter Tryd.func8, Tryd.ntmps8
  go_upto_region 1 with (fail)
  obtain ⟨W0, hW0⟩ : ∃ W0, W0 = ((w.alloc (.cells #[.bool neg, .slice ao n c] 24)).alloc (.cells #[.bool false, .slice none 0 0] 30)) := ⟨_, rfl⟩
  have hB0 : Below w.heap.size w W0 := by rw [hW0]; exact ((Below.refl _ _).alloc (Nat.le_refl _) _).alloc (by simp) _
  have hw0 : W0.heap.size = w.heap.size + 2 := by rw [hW0]; simp
  have HS : Hid (∀ w', Below W0.heap.size W0 w' → w'.cell? ⟨w.heap.size, 0, none⟩ = some (.bool neg) ∧ w'.cell? ⟨w.heap.size, 1, none⟩ = some (.slice ao n c)) := hid (fun w' hb => by
    refine ⟨?_, ?_⟩ <;> (rw [hb.cell (by rw [hw0]; simp <;> omega), hW0]; simp [go_sem]))
  have HT : Hid (∀ w', Below W0.heap.size W0 w' → w'.cell? ⟨w.heap.size + 1, 0, none⟩ = some (.bool false) ∧ w'.cell? ⟨w.heap.size + 1, 1, none⟩ = some (.slice none 0 0) ∧ w'.frozen? ⟨w.heap.size + 1, 0, none⟩ = false ∧ w'.frozen? ⟨w.heap.size + 1, 1, none⟩ = false) := hid (fun w' hb => by
    refine ⟨?_, ?_, ?_, ?_⟩ <;> (first | (rw [hb.cell (by rw [hw0]; simp <;> omega), hW0]; simp [go_sem]; done) | (rw [hb.frozen (by rw [hw0]; simp <;> omega), hW0]; simp [go_sem]; done)))
  rw [← hW0]
  clear hW0
  have HI0 := hid (show FrI W0 W0 W 0 (.slice none 0 0) from ⟨⟨by simp [un16], .inl ⟨rfl, rfl⟩⟩, Below.refl _ _⟩)
  have HB0 := hid hB0; have Hw0 := hid hw0
  clear hB0 hw0
  go_wp2
  go_loopw [3, 4] (fun ov iv wr => ∃ k : Nat, k ≤ n ∧ iv = .int .i64 k ∧ FrI W0 wr W k ov) (fun _ iv _ => n - (intOf iv).toNat)
  case atStart => exact ⟨0, Nat.zero_le _, rfl, HI0.out⟩
  case round =>
    obtain ⟨k, hk, rfl, HI⟩ := hrel
    obtain ⟨hs0, hs1⟩ := HS.out _ HI.low
    by_cases hlt : k < n
    · obtain ⟨b, o, rfl⟩ := H.out.rd.adr (by have := Hn.out; omega)
      have hc : ∀ w', Below W0.heap.size W0 w' → w'.cell? ⟨b, o + k, none⟩ = some (.int .u32 (W[k]?.getD 0)) := fun w' hb => (H.out.rd.below (HB0.out.trans (hb.mono (by have := Hw0.out; omega))) (Nat.le_refl _)).cell b o rfl k (by have := Hn.out; omega)
      have hd := H.out.dig.at B32_pos k
      have hts := take_succ_getD W k (by have := Hn.out; omega)
      have hus := un16_snoc (W.take k) (W[k]?.getD 0)
      rw [← hts] at hus
      obtain ⟨x, hxe⟩ : ∃ x, x = W[k]?.getD 0 := ⟨_, rfl⟩
      rw [← hxe] at hc hd hus
      have HU := hid hus
      have d0 := hd.1; have d1 : x < 4294967296 := hd.2
      have HC2 := hid (fun w' (hb : Below W0.heap.size W0 w') => And.intro (HS.out w' hb).2 (hc w' hb))
      have HHI := hid HI
      have u1 : IntKind.i64.wrap (x % 65536) = x % 65536 := IntWalk.i64_in _ (by omega)
      have u2 : IntKind.i64.wrap (x / 65536) = x / 65536 := IntWalk.i64_in _ (by omega)
      have u3 : IntKind.u32.wrap (x % 65536) = x % 65536 := by rw [IntKind.wrap_u32]; omega
      have u4 : IntKind.u32.wrap (x / 65536) = x / 65536 := by rw [IntKind.wrap_u32]; omega
      have u5 : x.tmod 65536 = x % 65536 := Int.tmod_eq_emod_of_nonneg d0
      have u6 : x.tdiv 65536 = x / 65536 := Int.tdiv_eq_ediv_of_nonneg d0
      have hk0 : (0 : Int) ≤ (k : Int) := by omega
      have hkn : (k : Int) < (n : Int) := by omega
      have hbel := HI.low
      clear hts hus hxe HI0 HI hs0 hd hc
      go_wp2
      go_region_held3 (fun w' => w'.cell? ⟨w.heap.size, 1, none⟩ = some (.slice (some ⟨b, o, none⟩) n c) ∧ w'.cell? ⟨b, o + k, none⟩ = some (.int .u32 x)) ((refine HC2.out _ ?_; first | assumption | exact HHI.out.low.drew | exact HHI.out.low.alloc HHI.out.low.size _ | exact (HHI.out.low.alloc HHI.out.low.size _).drew | exact (HHI.out.low.drew.alloc HHI.out.low.size _)))
        ((refine step_append_lies _ (by rfl) _ _ _ (by rfl) W0.heap.size 3 i0 _ 1 8 Tryd.underlying28 hi hz0 hz1 hz2 rfl (by omega) _ (2 * k) _ (by rfl) ((HHI.out.own.alloc _).drew) ⟨wr.heap.size, 0, none⟩ 2 2 [.int .i64 (x % 65536), .int .i64 (x / 65536)] (by rfl) (by rfl) (World.news_of_block (cs := #[.int .i64 (x % 65536), .int .i64 (x / 65536)]) (t := 3) (fr := (0, 0)) (heap_alloc_new wr _)) (by simp [Value.oneCell']) (by omega) (by unfold maxLen; omega) (by omega) (by have := HHI.out.low.size; simp; omega) (wr.heap.size + 1) (by simp) ?_; intro gg cap w1 hown1 hgrow hat hlt1; have hB1 : Below W0.heap.size W0 w1 := ((HHI.out.low.alloc HHI.out.low.size _).drew).grown hgrow (by have := HHI.out.low.size; simp; omega) (fun i e => owns_block HHI.out.own i e)))
      have HN := hid (show FrI W0 w1 W (k + 1) (.slice (some ⟨gg, 0, none⟩) (2 * k + 2) cap) from ⟨by rw [HU.out, List.map_append]; exact hown1, hB1⟩)
      clear hB1 hown1 hgrow hat hlt1
      go_wp2
      go_roundw
      case rel => exact ⟨k + 1, by omega, by go_num, HN.out⟩
      case measure => simp [intOf]; omega
    · obtain rfl : k = n := by omega
      have hdg : Dg wr u3 (val B32 W) (2 * K) := by
        have ho := HI.own
        rw [Hn.out, List.take_length] at ho
        have hl : (un16 W).length = 2 * W.length := un16_len W
        rcases ho.2 with ⟨rfl, h0⟩ | ⟨g, cap, cur, rfl, hg, hh, hn, hcm, hs, ht⟩
        · have hW : W = [] := List.eq_nil_of_length_eq_zero (by omega)
          subst hW
          exact ⟨none, 0, [], rfl, Rd.nil _ _, Dig.nil _, rfl, by simp⟩
        · rw [← hl] at ho ⊢
          exact ⟨_, cap, un16 W, rfl, owns_rd ho hcm, un16_dig H.out.dig, un16_val W, by have := H.out.le; omega⟩
      have hm := made_any neg u3 _ _ wr hdg
      rw [← H.out.eq] at hm
      have HM := hid hm; have HL := hid HI.low
      clear hm hdg HI HI0 hk hnK
      go_wp2_with fail
      refine HM.out.mono ?_
      rintro e w1 ⟨_, rfl, hv1, hb1⟩
      obtain ⟨b1, o1, m1, c1, rfl, H1, H1s, H1b⟩ := Zt.opened hv1
      have hB1 : Below W0.heap.size W0 w1 := HL.out.trans (hb1.mono HL.out.size)
      obtain ⟨hr0, hr1, hr2, hr3⟩ := HT.out _ hB1
      go_wp2
      have hbel : Below w.heap.size w w1 := HB0.out.trans (hB1.mono (by have := Hw0.out; omega))
      refine bodyPost_ret (v := .agg #[.bool b1, .slice o1 m1 c1]) (by simp [results, Tryd.results8, go_sem, hr0, hr1]) rfl ⟨_, rfl, ?_, (hbel.setCell (by simp <;> omega) _).setCell (by simp <;> omega) _⟩
      exact ((H1.out _ (Below.refl _ _)).set hr0 (fun x h => (by cases h)) _).set (u := .slice none 0 0) (by simp [go_sem, hr1]) (fun x h => (by cases h)) _

end Go.Proofs.YthgccegjopieoaaDoor
