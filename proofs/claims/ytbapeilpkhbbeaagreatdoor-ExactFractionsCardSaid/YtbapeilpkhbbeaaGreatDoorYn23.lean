/- The document's own integers: Sign, Neg, Add, Sub, Cmp. Written by gen_ref8.py. The document's own integers: From. -/
import Derived.Test.YtbapeilpkhbbeaaGreatDoorYn22
import Derived.Deep.AppendLies
import Derived.Deep.DeepCutAuto
import Derived.Deep.CutBlock
import Derived.IntWalk
/- The document's own integers: Sign, Neg, Add, Sub, Cmp. Written by gen_ref8.py. -/
namespace Go.Proofs.YtbapeilpkhbbeaaGreatDoor
open Go.RowKit

theorem RetO.dg {w : World} {n : Int} {K K' : Nat} {e : Ending} {w' : World} (h : RetO w n K e w') (hK : K ≤ K') : ∃ v, e = .returned v ∧ Dg w' v n K' ∧ Below w.heap.size w w' := by
  obtain ⟨v, Q, rfl, ho, hl, hd, hv, hb⟩ := h
  refine ⟨v, rfl, ?_, hb⟩
  rcases ho.2 with ⟨rfl, h0⟩ | ⟨g, cap, cur, rfl, hg, hh, hn, hcm, hs, ht⟩
  · subst h0
    obtain rfl : Q = [] := List.eq_nil_of_length_eq_zero hl
    exact ⟨none, 0, [], rfl, Rd.nil _ _, hd, hv, by simp⟩
  · subst hl
    exact ⟨_, cap, Q, rfl, owns_rd ho hcm, hd, hv, hK⟩
theorem le_of_either {a b : Int} (h : a ≤ b ∨ a < b) : a ≤ b := by omega
theorem sum_md (va vb : Value) (a b : Int) (K : Nat) (w : World) (hA : Md w va a K) (hB : Md w vb b K) (hK : K ≤ 1073741824) :
    Calls Tryz.prog 91 #[va, vb] w fun e w' => ∃ v, e = .returned v ∧ Dg w' v (a + b) (K + 1) ∧ Below w.heap.size w w' := by
  obtain ⟨ao, ca, L, rfl, hA⟩ := hA
  obtain ⟨bo, cb, M, rfl, hB⟩ := hB
  have h1 := hA.le; have h2 := hB.le
  refine (sum_any ao bo ca cb (max L.length M.length) L M w hA.rd hB.rd hA.dig hB.dig rfl (by omega)).mono ?_
  intro e w' h
  rw [hA.eq, hB.eq] at h
  exact h.dg (by omega)
theorem order_md (va vb : Value) (a b : Int) (Ka Kb : Nat) (w : World) (hA : Md w va a Ka) (hB : Md w vb b Kb) :
    Calls Tryz.prog 89 #[va, vb] w fun e w' => e = .returned (.int .i64 (cmpI a b)) ∧ w' = w := by
  obtain ⟨ao, ca, L, rfl, hA⟩ := hA
  obtain ⟨bo, cb, M, rfl, hB⟩ := hB
  have h := order_any ao bo ca cb L M w hA.rd hB.rd hA.dig hB.dig
  rw [hA.eq, hB.eq] at h
  exact h

set_option maxRecDepth 100000 in
set_option maxHeartbeats 2000000 in
theorem rsign_any (v : Value) (z : Int) (K : Nat) (w : World) (h : Zt w v z K) :
    Calls Tryz.prog 37 #[v] w fun e w' => e = .returned (.int .i64 (cmpI z 0)) ∧ Below w.heap.size w w' := by
  obtain ⟨s, rfl, ao, c, L, rfl, h⟩ := h
  have hz := h.zero_iff
  have hb0 : Below w.heap.size w (w.alloc (.cells #[.bool (decide (z < 0)), .slice ao L.length c] 31)) := (Below.refl _ _).alloc (Nat.le_refl _) _
  obtain ⟨m, hm⟩ : ∃ m, m = L.length := ⟨_, rfl⟩
  rw [← hm] at hz hb0 ⊢
  have HB := hid hb0
  clear h hb0 hm
  rcases Int.lt_trichotomy z 0 with hlt | heq | hgt
  · rw [cmpI_lt hlt]
    rw [decide_eq_true hlt] at HB ⊢
    clear hz hlt
    go_enter Tryz.func37, Tryz.ntmps37
    go_wp2
    go_ret
    exact ⟨rfl, HB.out⟩
  · subst heq
    obtain rfl : m = 0 := hz.2 (by simp)
    rw [cmpI_self]
    rw [decide_eq_false (by omega)] at HB ⊢
    clear hz
    go_enter Tryz.func37, Tryz.ntmps37
    go_wp2
    go_ret
    exact ⟨rfl, HB.out⟩
  · have hm1 : 0 < m := by
      rcases Nat.eq_zero_or_pos m with h | h
      · have := hz.1 h; omega
      · exact h
    rw [cmpI_gt hgt]
    rw [decide_eq_false (by omega)] at HB ⊢
    clear hz hgt
    by_cases h1 : m = 1
    · subst h1
      go_enter Tryz.func37, Tryz.ntmps37
      go_wp2
      go_ret
      exact ⟨rfl, HB.out⟩
    · have h2 : (1 : Int) < (m : Int) := by omega
      have h3 : min (m : Int) 1 = 1 := by omega
      go_enter Tryz.func37, Tryz.ntmps37
      go_wp2
      all_goals (go_ret; exact ⟨by first | rfl | (congr 1; omega), HB.out⟩)

set_option maxRecDepth 100000 in
set_option maxHeartbeats 4000000 in
theorem rneg_any (u : Value) (x : Int) (K : Nat) (w : World) (hu : Zt w u x K) :
    Calls Tryz.prog 48 #[u] w (RetZ w (-x) K) := by
  obtain ⟨xb, xo, xm, xc, rfl, Hx, Hxs, Hxb⟩ := Zt.opened hu
  go_enter Tryz.func48, Tryz.ntmps48
  go_wp2_with fail
  obtain ⟨W0, hW0⟩ : ∃ W0, W0 = ((w.alloc (.cells #[.bool xb, .slice xo xm xc] 31)).alloc (.cells #[.bool false, .slice none 0 0] 31)) := ⟨_, rfl⟩
  have hB0 : Below w.heap.size w W0 := by rw [hW0]; exact ((Below.refl _ _).alloc (by simp <;> omega) _).alloc (by simp <;> omega) _
  have hz0 : W0.heap.size = w.heap.size + 2 := by rw [hW0]; simp
  have _HS : Hid (∀ w', Below (w.heap.size + 1) W0 w' → w'.cell? ⟨w.heap.size, 0, none⟩ = some (.bool xb) ∧ w'.cell? ⟨w.heap.size, 1, none⟩ = some (.slice xo xm xc)) := hid (fun w' hb => by
    refine ⟨?_, ?_⟩ <;> (first | (rw [hb.cell (by simp <;> omega), hW0]; simp [go_sem]; done) | (rw [hb.frozen (by simp <;> omega), hW0]; simp [go_sem]; done)))
  have HT : Hid (∀ w', Below (w.heap.size + 2) W0 w' → w'.cell? ⟨w.heap.size + 1, 0, none⟩ = some (.bool false) ∧ w'.cell? ⟨w.heap.size + 1, 1, none⟩ = some (.slice none 0 0) ∧ w'.frozen? ⟨w.heap.size + 1, 0, none⟩ = false ∧ w'.frozen? ⟨w.heap.size + 1, 1, none⟩ = false) := hid (fun w' hb => by
    refine ⟨?_, ?_, ?_, ?_⟩ <;> (first | (rw [hb.cell (by simp <;> omega), hW0]; simp [go_sem]; done) | (rw [hb.frozen (by simp <;> omega), hW0]; simp [go_sem]; done)))
  rw [← hW0]
  clear hW0
  refine (made_any (!xb) _ _ K _ (Hxs.out _ hB0).dg).mono ?_
  rintro e w1 ⟨_, rfl, hv1, hb1⟩
  obtain ⟨b1, o1, m1, c1, rfl, H1, H1s, H1b⟩ := Zt.opened hv1
  have hB1 : Below (w.heap.size + 2) W0 w1 := hb1.mono (by omega)
  obtain ⟨hr0, hr1, hr2, hr3⟩ := HT.out _ hB1
  go_wp2
  have hbel : Below w.heap.size w w1 := hB0.trans (hB1.mono (by omega))
  refine bodyPost_ret (v := .agg #[.bool b1, .slice o1 m1 c1]) (by simp [results, Tryz.results48, go_sem, hr0, hr1]) rfl ⟨_, rfl, ?_, (hbel.setCell (by simp <;> omega) _).setCell (by simp <;> omega) _⟩
  have e : sgn (!xb) (x.natAbs : Int) = -x := by rw [Hxb.out]; unfold sgn; by_cases hz : x < 0 <;> simp [hz] <;> omega
  rw [← e]
  exact ((H1.out _ (Below.refl _ _)).set hr0 (fun x h => (by cases h)) _).set (u := .slice none 0 0) (by simp [go_sem, hr1]) (fun x h => (by cases h)) _

set_option maxRecDepth 100000 in
set_option maxHeartbeats 4000000 in
theorem radd_same (u v : Value) (x y : Int) (K : Nat) (w : World) (hu : Zt w u x K) (hv : Zt w v y K) (hK : K ≤ 1073741823) (hs : decide (x < 0) = decide (y < 0)) :
    Calls Tryz.prog 77 #[u, v] w (RetZ w (x + y) (K + 1)) := by
  obtain ⟨xb, xo, xm, xc, rfl, Hx, Hxs, Hxb⟩ := Zt.opened hu
  obtain ⟨yb, yo, ym, yc, rfl, Hy, Hys, Hyb⟩ := Zt.opened hv
  have hb : yb = xb := by rw [Hxb.out, Hyb.out, hs]
  subst hb
  have Hs := hid hs
  clear hs hu hv
  go_enter Tryz.func77, Tryz.ntmps77
  go_wp2
  obtain ⟨W0, hW0⟩ : ∃ W0, W0 = (((w.alloc (.cells #[.bool yb, .slice xo xm xc] 31)).alloc (.cells #[.bool yb, .slice yo ym yc] 31)).alloc (.cells #[.bool false, .slice none 0 0] 31)) := ⟨_, rfl⟩
  have hB0 : Below w.heap.size w W0 := by rw [hW0]; exact (((Below.refl _ _).alloc (by simp <;> omega) _).alloc (by simp <;> omega) _).alloc (by simp <;> omega) _
  have hz0 : W0.heap.size = w.heap.size + 3 := by rw [hW0]; simp
  have HS : Hid (∀ w', Below (w.heap.size + 2) W0 w' → w'.cell? ⟨w.heap.size, 0, none⟩ = some (.bool yb) ∧ w'.cell? ⟨w.heap.size, 1, none⟩ = some (.slice xo xm xc) ∧ w'.cell? ⟨w.heap.size + 1, 0, none⟩ = some (.bool yb) ∧ w'.cell? ⟨w.heap.size + 1, 1, none⟩ = some (.slice yo ym yc)) := hid (fun w' hb => by
    refine ⟨?_, ?_, ?_, ?_⟩ <;> (first | (rw [hb.cell (by simp <;> omega), hW0]; simp [go_sem]; done) | (rw [hb.frozen (by simp <;> omega), hW0]; simp [go_sem]; done)))
  have HT : Hid (∀ w', Below (w.heap.size + 3) W0 w' → w'.cell? ⟨w.heap.size + 2, 0, none⟩ = some (.bool false) ∧ w'.cell? ⟨w.heap.size + 2, 1, none⟩ = some (.slice none 0 0) ∧ w'.frozen? ⟨w.heap.size + 2, 0, none⟩ = false ∧ w'.frozen? ⟨w.heap.size + 2, 1, none⟩ = false) := hid (fun w' hb => by
    refine ⟨?_, ?_, ?_, ?_⟩ <;> (first | (rw [hb.cell (by simp <;> omega), hW0]; simp [go_sem]; done) | (rw [hb.frozen (by simp <;> omega), hW0]; simp [go_sem]; done)))
  rw [← hW0]
  clear hW0
  go_region_held3 (fun w' => w'.cell? ⟨w.heap.size, 0, none⟩ = some (.bool yb) ∧ w'.cell? ⟨w.heap.size, 1, none⟩ = some (.slice xo xm xc) ∧ w'.cell? ⟨w.heap.size + 1, 0, none⟩ = some (.bool yb) ∧ w'.cell? ⟨w.heap.size + 1, 1, none⟩ = some (.slice yo ym yc)) ((refine HS.out _ ?_; first | assumption | exact Below.refl _ _ | exact (Below.refl _ _).drew | exact ((hB2.mono (Nat.le_succ _)).setCell (Nat.le_refl _) _).setCell (Nat.le_refl _) _)) (first
    | (go_at_call 91; refine (sum_md _ _ _ _ K _ (Hxs.out _ hB0.drew) (Hys.out _ hB0.drew) (by omega)).mono ?_; rintro e w1 ⟨_, rfl, hv1, hb1⟩; obtain ⟨o1, m1, c1, rfl, H1⟩ := Dg.opened hv1; have hB1 : Below (w.heap.size + 3) W0 w1 := ((Below.refl _ _).drew).trans (hb1.mono (by simp; omega)); have hB1s := hB1.mono (Nat.le_succ _))
    | (go_at_call 46; refine (made_any yb _ _ _ _ (H1.out _ (Below.refl _ _))).mono ?_; rintro e w2 ⟨_, rfl, hv2, hb2⟩; obtain ⟨b2, o2, m2, c2, rfl, H2, H2s, H2b⟩ := Zt.opened hv2; have hB2 : Below (w.heap.size + 3) W0 w2 := hB1.trans (hb2.mono (by have := hB1.size; omega)); have hB2s := hB2.mono (Nat.le_succ _); obtain ⟨hr0, hr1, hr2, hr3⟩ := HT.out _ hB2))
  go_wp2
  have hbel : Below w.heap.size w w2 := hB0.trans (hB2.mono (by omega))
  refine bodyPost_ret (v := .agg #[.bool b2, .slice o2 m2 c2]) (by simp [results, Tryz.results77, go_sem, hr0, hr1]) rfl ⟨_, rfl, ?_, (hbel.setCell (by simp <;> omega) _).setCell (by simp <;> omega) _⟩
  have e : sgn yb ((x.natAbs : Int) + (y.natAbs : Int)) = x + y := by rw [Hyb.out]; have := Hs.out; unfold sgn; by_cases h : y < 0 <;> simp [h] at this ⊢ <;> omega
  rw [← e]
  exact ((H2.out _ (Below.refl _ _)).set hr0 (fun x h => (by cases h)) _).set (u := .slice none 0 0) (by simp [go_sem, hr1]) (fun x h => (by cases h)) _

set_option maxRecDepth 100000 in
set_option maxHeartbeats 4000000 in
theorem radd_ge (u v : Value) (x y : Int) (K : Nat) (w : World) (hu : Zt w u x K) (hv : Zt w v y K) (hK : K ≤ 1073741823) (hs : decide (x < 0) ≠ decide (y < 0)) (hab : (y.natAbs : Int) ≤ (x.natAbs : Int)) :
    Calls Tryz.prog 77 #[u, v] w (RetZ w (x + y) (K + 1)) := by
  obtain ⟨xb, xo, xm, xc, rfl, Hx, Hxs, Hxb⟩ := Zt.opened hu
  obtain ⟨yb, yo, ym, yc, rfl, Hy, Hys, Hyb⟩ := Zt.opened hv
  have hb : (xb == yb) = false := by rw [beq_eq_false_iff_ne, Hxb.out, Hyb.out]; exact hs
  have hb' : ¬ xb = yb := by simpa using hb
  have Hs := hid hs; have Hab := hid (show (y.natAbs : Int) ≤ (x.natAbs : Int) ∨ (y.natAbs : Int) < (x.natAbs : Int) from by first | exact Or.inl hab | exact Or.inr hab)
  have hcv : 0 ≤ cmpI (x.natAbs : Int) (y.natAbs : Int) := by unfold cmpI; (repeat split) <;> omega
  obtain ⟨cv, hcve⟩ : ∃ cv, cmpI (x.natAbs : Int) (y.natAbs : Int) = cv := ⟨_, rfl⟩
  rw [hcve] at hcv
  have Hcv := hid hcve
  clear hs hab hu hv hcve
  go_enter Tryz.func77, Tryz.ntmps77
  go_wp2_with fail
  obtain ⟨W0, hW0⟩ : ∃ W0, W0 = (((w.alloc (.cells #[.bool xb, .slice xo xm xc] 31)).alloc (.cells #[.bool yb, .slice yo ym yc] 31)).alloc (.cells #[.bool false, .slice none 0 0] 31)) := ⟨_, rfl⟩
  have hB0 : Below w.heap.size w W0 := by rw [hW0]; exact (((Below.refl _ _).alloc (by simp <;> omega) _).alloc (by simp <;> omega) _).alloc (by simp <;> omega) _
  have hz0 : W0.heap.size = w.heap.size + 3 := by rw [hW0]; simp
  have HS : Hid (∀ w', Below (w.heap.size + 2) W0 w' → w'.cell? ⟨w.heap.size, 0, none⟩ = some (.bool xb) ∧ w'.cell? ⟨w.heap.size, 1, none⟩ = some (.slice xo xm xc) ∧ w'.cell? ⟨w.heap.size + 1, 0, none⟩ = some (.bool yb) ∧ w'.cell? ⟨w.heap.size + 1, 1, none⟩ = some (.slice yo ym yc)) := hid (fun w' hb => by
    refine ⟨?_, ?_, ?_, ?_⟩ <;> (first | (rw [hb.cell (by simp <;> omega), hW0]; simp [go_sem]; done) | (rw [hb.frozen (by simp <;> omega), hW0]; simp [go_sem]; done)))
  have HT : Hid (∀ w', Below (w.heap.size + 3) W0 w' → w'.cell? ⟨w.heap.size + 2, 0, none⟩ = some (.bool false) ∧ w'.cell? ⟨w.heap.size + 2, 1, none⟩ = some (.slice none 0 0) ∧ w'.frozen? ⟨w.heap.size + 2, 0, none⟩ = false ∧ w'.frozen? ⟨w.heap.size + 2, 1, none⟩ = false) := hid (fun w' hb => by
    refine ⟨?_, ?_, ?_, ?_⟩ <;> (first | (rw [hb.cell (by simp <;> omega), hW0]; simp [go_sem]; done) | (rw [hb.frozen (by simp <;> omega), hW0]; simp [go_sem]; done)))
  rw [← hW0]
  clear hW0
  refine (order_md _ _ _ _ K K _ (Hxs.out _ hB0) (Hys.out _ hB0)).mono ?_
  rintro e w0 ⟨rfl, hw0⟩
  obtain rfl : W0 = w0 := hw0.symm
  rw [Hcv.out]
  have hB0w := hB0
  go_wp2
  go_region_held3 (fun w' => w'.cell? ⟨w.heap.size, 0, none⟩ = some (.bool xb) ∧ w'.cell? ⟨w.heap.size, 1, none⟩ = some (.slice xo xm xc) ∧ w'.cell? ⟨w.heap.size + 1, 0, none⟩ = some (.bool yb) ∧ w'.cell? ⟨w.heap.size + 1, 1, none⟩ = some (.slice yo ym yc)) ((refine HS.out _ ?_; first | assumption | exact Below.refl _ _ | exact (Below.refl _ _).drew | exact ((hB2.mono (Nat.le_succ _)).setCell (Nat.le_refl _) _).setCell (Nat.le_refl _) _)) (first
    | (go_at_call 90; refine (less_any _ _ _ _ K K _ (Hxs.out _ hB0.drew) (Hys.out _ hB0.drew) (le_of_either Hab.out) (Nat.le_succ_of_le hK)).mono ?_; rintro e w1 ⟨_, rfl, hv1, hb1⟩; obtain ⟨o1, m1, c1, rfl, H1⟩ := Md.opened hv1; have hB1 : Below (w.heap.size + 3) W0 w1 := ((Below.refl _ _).drew).trans (hb1.mono (by simp; omega)); have hB1s := hB1.mono (Nat.le_succ _))
    | (go_at_call 46; refine (made_any xb _ _ _ _ (H1.out _ (Below.refl _ _)).dg).mono ?_; rintro e w2 ⟨_, rfl, hv2, hb2⟩; obtain ⟨b2, o2, m2, c2, rfl, H2, H2s, H2b⟩ := Zt.opened hv2; have hB2 : Below (w.heap.size + 3) W0 w2 := hB1.trans (hb2.mono (by have := hB1.size; omega)); have hB2s := hB2.mono (Nat.le_succ _); obtain ⟨hr0, hr1, hr2, hr3⟩ := HT.out _ hB2))
  go_wp2
  have hbel : Below w.heap.size w w2 := hB0.trans (hB2.mono (by omega))
  refine bodyPost_ret (v := .agg #[.bool b2, .slice o2 m2 c2]) (by simp [results, Tryz.results77, go_sem, hr0, hr1]) rfl ⟨_, rfl, ?_, (hbel.setCell (by simp <;> omega) _).setCell (by simp <;> omega) _⟩
  have e : sgn xb ((x.natAbs : Int) - (y.natAbs : Int)) = x + y := by rw [Hxb.out]; have := Hs.out; unfold sgn; by_cases h : x < 0 <;> by_cases h2 : y < 0 <;> simp [h, h2] at this ⊢ <;> omega
  rw [← e]
  exact Zt.mono (((H2.out _ (Below.refl _ _)).set hr0 (fun x h => (by cases h)) _).set (u := .slice none 0 0) (by simp [go_sem, hr1]) (fun x h => (by cases h)) _) (Nat.le_succ _)

set_option maxRecDepth 100000 in
set_option maxHeartbeats 4000000 in
theorem radd_lt (u v : Value) (x y : Int) (K : Nat) (w : World) (hu : Zt w u x K) (hv : Zt w v y K) (hK : K ≤ 1073741823) (hs : decide (x < 0) ≠ decide (y < 0)) (hab : (x.natAbs : Int) < (y.natAbs : Int)) :
    Calls Tryz.prog 77 #[u, v] w (RetZ w (x + y) (K + 1)) := by
  obtain ⟨xb, xo, xm, xc, rfl, Hx, Hxs, Hxb⟩ := Zt.opened hu
  obtain ⟨yb, yo, ym, yc, rfl, Hy, Hys, Hyb⟩ := Zt.opened hv
  have hb : (xb == yb) = false := by rw [beq_eq_false_iff_ne, Hxb.out, Hyb.out]; exact hs
  have hb' : ¬ xb = yb := by simpa using hb
  have Hs := hid hs; have Hab := hid (show (x.natAbs : Int) ≤ (y.natAbs : Int) ∨ (x.natAbs : Int) < (y.natAbs : Int) from by first | exact Or.inl hab | exact Or.inr hab)
  have hcv : ¬ 0 ≤ cmpI (x.natAbs : Int) (y.natAbs : Int) := by unfold cmpI; (repeat split) <;> omega
  obtain ⟨cv, hcve⟩ : ∃ cv, cmpI (x.natAbs : Int) (y.natAbs : Int) = cv := ⟨_, rfl⟩
  rw [hcve] at hcv
  have Hcv := hid hcve
  clear hs hab hu hv hcve
  go_enter Tryz.func77, Tryz.ntmps77
  go_wp2_with fail
  obtain ⟨W0, hW0⟩ : ∃ W0, W0 = (((w.alloc (.cells #[.bool xb, .slice xo xm xc] 31)).alloc (.cells #[.bool yb, .slice yo ym yc] 31)).alloc (.cells #[.bool false, .slice none 0 0] 31)) := ⟨_, rfl⟩
  have hB0 : Below w.heap.size w W0 := by rw [hW0]; exact (((Below.refl _ _).alloc (by simp <;> omega) _).alloc (by simp <;> omega) _).alloc (by simp <;> omega) _
  have hz0 : W0.heap.size = w.heap.size + 3 := by rw [hW0]; simp
  have HS : Hid (∀ w', Below (w.heap.size + 2) W0 w' → w'.cell? ⟨w.heap.size, 0, none⟩ = some (.bool xb) ∧ w'.cell? ⟨w.heap.size, 1, none⟩ = some (.slice xo xm xc) ∧ w'.cell? ⟨w.heap.size + 1, 0, none⟩ = some (.bool yb) ∧ w'.cell? ⟨w.heap.size + 1, 1, none⟩ = some (.slice yo ym yc)) := hid (fun w' hb => by
    refine ⟨?_, ?_, ?_, ?_⟩ <;> (first | (rw [hb.cell (by simp <;> omega), hW0]; simp [go_sem]; done) | (rw [hb.frozen (by simp <;> omega), hW0]; simp [go_sem]; done)))
  have HT : Hid (∀ w', Below (w.heap.size + 3) W0 w' → w'.cell? ⟨w.heap.size + 2, 0, none⟩ = some (.bool false) ∧ w'.cell? ⟨w.heap.size + 2, 1, none⟩ = some (.slice none 0 0) ∧ w'.frozen? ⟨w.heap.size + 2, 0, none⟩ = false ∧ w'.frozen? ⟨w.heap.size + 2, 1, none⟩ = false) := hid (fun w' hb => by
    refine ⟨?_, ?_, ?_, ?_⟩ <;> (first | (rw [hb.cell (by simp <;> omega), hW0]; simp [go_sem]; done) | (rw [hb.frozen (by simp <;> omega), hW0]; simp [go_sem]; done)))
  rw [← hW0]
  clear hW0
  refine (order_md _ _ _ _ K K _ (Hxs.out _ hB0) (Hys.out _ hB0)).mono ?_
  rintro e w0 ⟨rfl, hw0⟩
  obtain rfl : W0 = w0 := hw0.symm
  rw [Hcv.out]
  have hB0w := hB0
  go_wp2
  go_region_held3 (fun w' => w'.cell? ⟨w.heap.size, 0, none⟩ = some (.bool xb) ∧ w'.cell? ⟨w.heap.size, 1, none⟩ = some (.slice xo xm xc) ∧ w'.cell? ⟨w.heap.size + 1, 0, none⟩ = some (.bool yb) ∧ w'.cell? ⟨w.heap.size + 1, 1, none⟩ = some (.slice yo ym yc)) ((refine HS.out _ ?_; first | assumption | exact Below.refl _ _ | exact (Below.refl _ _).drew | exact ((hB2.mono (Nat.le_succ _)).setCell (Nat.le_refl _) _).setCell (Nat.le_refl _) _)) (first
    | (go_at_call 90; refine (less_any _ _ _ _ K K _ (Hys.out _ hB0.drew) (Hxs.out _ hB0.drew) (le_of_either Hab.out) (Nat.le_succ_of_le hK)).mono ?_; rintro e w1 ⟨_, rfl, hv1, hb1⟩; obtain ⟨o1, m1, c1, rfl, H1⟩ := Md.opened hv1; have hB1 : Below (w.heap.size + 3) W0 w1 := ((Below.refl _ _).drew).trans (hb1.mono (by simp; omega)); have hB1s := hB1.mono (Nat.le_succ _))
    | (go_at_call 46; refine (made_any yb _ _ _ _ (H1.out _ (Below.refl _ _)).dg).mono ?_; rintro e w2 ⟨_, rfl, hv2, hb2⟩; obtain ⟨b2, o2, m2, c2, rfl, H2, H2s, H2b⟩ := Zt.opened hv2; have hB2 : Below (w.heap.size + 3) W0 w2 := hB1.trans (hb2.mono (by have := hB1.size; omega)); have hB2s := hB2.mono (Nat.le_succ _); obtain ⟨hr0, hr1, hr2, hr3⟩ := HT.out _ hB2))
  go_wp2
  have hbel : Below w.heap.size w w2 := hB0.trans (hB2.mono (by omega))
  refine bodyPost_ret (v := .agg #[.bool b2, .slice o2 m2 c2]) (by simp [results, Tryz.results77, go_sem, hr0, hr1]) rfl ⟨_, rfl, ?_, (hbel.setCell (by simp <;> omega) _).setCell (by simp <;> omega) _⟩
  have e : sgn yb ((y.natAbs : Int) - (x.natAbs : Int)) = x + y := by rw [Hyb.out]; have := Hs.out; unfold sgn; by_cases h : y < 0 <;> by_cases h2 : x < 0 <;> simp [h, h2] at this ⊢ <;> omega
  rw [← e]
  exact Zt.mono (((H2.out _ (Below.refl _ _)).set hr0 (fun x h => (by cases h)) _).set (u := .slice none 0 0) (by simp [go_sem, hr1]) (fun x h => (by cases h)) _) (Nat.le_succ _)

theorem radd_any (u v : Value) (x y : Int) (K : Nat) (w : World) (hu : Zt w u x K) (hv : Zt w v y K) (hK : K ≤ 1073741823) :
    Calls Tryz.prog 77 #[u, v] w (RetZ w (x + y) (K + 1)) := by
  by_cases hs : decide (x < 0) = decide (y < 0)
  · exact radd_same u v x y K w hu hv hK hs
  · by_cases hab : (y.natAbs : Int) ≤ (x.natAbs : Int)
    · exact radd_ge u v x y K w hu hv hK hs hab
    · exact radd_lt u v x y K w hu hv hK hs (by omega)

set_option maxRecDepth 100000 in
set_option maxHeartbeats 4000000 in
theorem rsub_any (u v : Value) (x y : Int) (K : Nat) (w : World) (hu : Zt w u x K) (hv : Zt w v y K) (hK : K ≤ 1073741823) :
    Calls Tryz.prog 80 #[u, v] w (RetZ w (x - y) (K + 1)) := by
  obtain ⟨xb, xo, xm, xc, rfl, Hx, Hxs, Hxb⟩ := Zt.opened hu
  obtain ⟨yb, yo, ym, yc, rfl, Hy, Hys, Hyb⟩ := Zt.opened hv
  go_enter Tryz.func80, Tryz.ntmps80
  go_wp2
  obtain ⟨W0, hW0⟩ : ∃ W0, W0 = (((w.alloc (.cells #[.bool xb, .slice xo xm xc] 31)).alloc (.cells #[.bool yb, .slice yo ym yc] 31)).alloc (.cells #[.bool false, .slice none 0 0] 31)) := ⟨_, rfl⟩
  have hB0 : Below w.heap.size w W0 := by rw [hW0]; exact (((Below.refl _ _).alloc (by simp <;> omega) _).alloc (by simp <;> omega) _).alloc (by simp <;> omega) _
  have hz0 : W0.heap.size = w.heap.size + 3 := by rw [hW0]; simp
  have HS : Hid (∀ w', Below (w.heap.size + 2) W0 w' → w'.cell? ⟨w.heap.size, 0, none⟩ = some (.bool xb) ∧ w'.cell? ⟨w.heap.size, 1, none⟩ = some (.slice xo xm xc) ∧ w'.cell? ⟨w.heap.size + 1, 0, none⟩ = some (.bool yb) ∧ w'.cell? ⟨w.heap.size + 1, 1, none⟩ = some (.slice yo ym yc)) := hid (fun w' hb => by
    refine ⟨?_, ?_, ?_, ?_⟩ <;> (first | (rw [hb.cell (by simp <;> omega), hW0]; simp [go_sem]; done) | (rw [hb.frozen (by simp <;> omega), hW0]; simp [go_sem]; done)))
  have HT : Hid (∀ w', Below (w.heap.size + 3) W0 w' → w'.cell? ⟨w.heap.size + 2, 0, none⟩ = some (.bool false) ∧ w'.cell? ⟨w.heap.size + 2, 1, none⟩ = some (.slice none 0 0) ∧ w'.frozen? ⟨w.heap.size + 2, 0, none⟩ = false ∧ w'.frozen? ⟨w.heap.size + 2, 1, none⟩ = false) := hid (fun w' hb => by
    refine ⟨?_, ?_, ?_, ?_⟩ <;> (first | (rw [hb.cell (by simp <;> omega), hW0]; simp [go_sem]; done) | (rw [hb.frozen (by simp <;> omega), hW0]; simp [go_sem]; done)))
  rw [← hW0]
  clear hW0
  go_region_held3 (fun w' => w'.cell? ⟨w.heap.size, 0, none⟩ = some (.bool xb) ∧ w'.cell? ⟨w.heap.size, 1, none⟩ = some (.slice xo xm xc) ∧ w'.cell? ⟨w.heap.size + 1, 0, none⟩ = some (.bool yb) ∧ w'.cell? ⟨w.heap.size + 1, 1, none⟩ = some (.slice yo ym yc)) ((refine HS.out _ ?_; first | assumption | exact Below.refl _ _ | exact (Below.refl _ _).drew | exact ((hB2.mono (Nat.le_succ _)).setCell (Nat.le_refl _) _).setCell (Nat.le_refl _) _)) (first
    | (go_at_call 48; refine (rneg_any _ y K _ (Hy.out _ hB0.drew)).mono ?_; rintro e w1 ⟨_, rfl, hv1, hb1⟩; obtain ⟨b1, o1, m1, c1, rfl, H1, H1s, H1b⟩ := Zt.opened hv1; have hB1 : Below (w.heap.size + 3) W0 w1 := ((Below.refl _ _).drew).trans (hb1.mono (by simp; omega)); have hB1s := hB1.mono (Nat.le_succ _))
    | (go_at_call 77; refine (radd_any _ _ x (-y) K _ (Hx.out _ (hB0.trans (hB1.mono (by omega)))) (H1.out _ (Below.refl _ _)) hK).mono ?_; rintro e w2 ⟨_, rfl, hv2, hb2⟩; obtain ⟨b2, o2, m2, c2, rfl, H2, H2s, H2b⟩ := Zt.opened hv2; have hB2 : Below (w.heap.size + 3) W0 w2 := hB1.trans (hb2.mono (by have := hB1.size; omega)); have hB2s := hB2.mono (Nat.le_succ _); obtain ⟨hr0, hr1, hr2, hr3⟩ := HT.out _ hB2))
  go_wp2
  have hbel : Below w.heap.size w w2 := hB0.trans (hB2.mono (by omega))
  refine bodyPost_ret (v := .agg #[.bool b2, .slice o2 m2 c2]) (by simp [results, Tryz.results80, go_sem, hr0, hr1]) rfl ⟨_, rfl, ?_, (hbel.setCell (by simp <;> omega) _).setCell (by simp <;> omega) _⟩
  rw [Int.sub_eq_add_neg]
  exact ((H2.out _ (Below.refl _ _)).set hr0 (fun x h => (by cases h)) _).set (u := .slice none 0 0) (by simp [go_sem, hr1]) (fun x h => (by cases h)) _

set_option maxRecDepth 100000 in
set_option maxHeartbeats 4000000 in
theorem rcmp_any (u v : Value) (x y : Int) (K : Nat) (w : World) (hu : Zt w u x K) (hv : Zt w v y K) (hK : K ≤ 1073741823) :
    Calls Tryz.prog 41 #[u, v] w fun e w' => e = .returned (.int .i64 (cmpI x y)) ∧ Below w.heap.size w w' := by
  obtain ⟨xb, xo, xm, xc, rfl, Hx, Hxs, Hxb⟩ := Zt.opened hu
  obtain ⟨yb, yo, ym, yc, rfl, Hy, Hys, Hyb⟩ := Zt.opened hv
  have e : cmpI (x - y) 0 = cmpI x y := by unfold cmpI; (repeat split) <;> omega
  have hb : Below w.heap.size w ((w.alloc (.cells #[.bool xb, .slice xo xm xc] 31)).alloc (.cells #[.bool yb, .slice yo ym yc] 31)) := ((Below.refl _ _).alloc (Nat.le_refl _) _).alloc (by simp) _
  have HS := hid (rsub_any _ _ x y K _ (Hx.out _ hb) (Hy.out _ hb) hK)
  have HB := hid hb; have HE := hid e
  clear hb e
  go_enter Tryz.func41, Tryz.ntmps41
  go_wp2_with fail
  refine HS.out.mono ?_
  rintro e w1 ⟨_, rfl, hv1, hb1⟩
  obtain ⟨b1, o1, m1, c1, rfl, H1, H1s, H1b⟩ := Zt.opened hv1
  have Hb1 := hid hb1
  clear hb1 hv1
  go_wp2_with fail
  refine (rsign_any _ (x - y) _ _ (H1.out _ ((Below.refl _ _).alloc (Nat.le_refl _) _))).mono ?_
  rintro e w2 ⟨rfl, hb2⟩
  rw [HE.out]
  have h1 := HB.out.trans (Hb1.out.mono HB.out.size)
  have h2 := h1.alloc h1.size (.cells #[.bool b1, .slice o1 m1 c1] 31)
  have HF := hid (h2.trans (hb2.mono h2.size))
  clear h1 h2 hb2
  go_wp2
  go_ret
  exact ⟨rfl, HF.out⟩

end Go.Proofs.YtbapeilpkhbbeaaGreatDoor

/- The document's own integers: From. -/
namespace Go.Proofs.YtbapeilpkhbbeaaGreatDoor
open Go.RowKit

def un16 : List Int → List Int
  | [] => []
  | x :: l => x % 65536 :: x / 65536 :: un16 l
theorem un16_val : ∀ l : List Int, val R16 (un16 l) = val B32 l
  | [] => rfl
  | x :: l => by
    have h := un16_val l
    have e : B32 = R16 * R16 := by decide
    have d := Int.emod_add_mul_ediv x R16
    simp only [un16, val, h, e]
    unfold R16 at *; grind
theorem un16_len : ∀ l : List Int, (un16 l).length = 2 * l.length
  | [] => rfl
  | x :: l => by simp only [un16, List.length_cons, un16_len l]; omega
theorem un16_dig : ∀ {l : List Int}, Dig B32 l → Dig R16 (un16 l)
  | [], _ => Dig.nil _
  | x :: l, h => by
    have h1 := h.head
    have e : B32 = 4294967296 := rfl
    rw [e] at h1
    refine Dig.cons (by omega) (by unfold R16; omega) (Dig.cons (by omega) (by unfold R16; omega) (un16_dig h.tail))
theorem un16_snoc : ∀ (l : List Int) (x : Int), un16 (l ++ [x]) = un16 l ++ [x % 65536, x / 65536]
  | [], x => rfl
  | y :: l, x => by simp [un16, un16_snoc l x]

structure FrI (W0 wr : World) (W : List Int) (k : Nat) (ov : Value) : Prop where
  own : wr.ownsRow W0.heap.size 3 1 ov (2 * k) ((un16 (W.take k)).map (Value.int .i64))
  low : Below W0.heap.size W0 wr

set_option maxRecDepth 100000 in
set_option maxHeartbeats 4000000 in
theorem rfrom_any (v : Value) (z : Int) (K : Nat) (w : World) (h : Ai w v z K) (hK : K ≤ 268435456) :
    Calls Tryz.prog 16 #[v] w (RetZ w z (2 * K)) := by
  obtain ⟨neg, ao, c, W, rfl, h⟩ := h
  obtain ⟨n, hn⟩ : ∃ n, n = W.length := ⟨_, rfl⟩
  have hnK := h.le
  rw [← hn] at hnK ⊢
  have H := hid h; have Hn := hid hn
  clear h hn
  obtain ⟨i0, hi, hz0, hz1, hz2⟩ := info_parts Tryz.info3
  go_enter Tryz.func16, Tryz.ntmps16
  go_upto_region 1 with (fail)
  obtain ⟨W0, hW0⟩ : ∃ W0, W0 = ((w.alloc (.cells #[.bool neg, .slice ao n c] 24)).alloc (.cells #[.bool false, .slice none 0 0] 31)) := ⟨_, rfl⟩
  have hB0 : Below w.heap.size w W0 := by rw [hW0]; exact ((Below.refl _ _).alloc (Nat.le_refl _) _).alloc (by simp) _
  have hw0 : W0.heap.size = w.heap.size + 2 := by rw [hW0]; simp
  have HS : Hid (∀ w', Below W0.heap.size W0 w' → w'.cell? ⟨w.heap.size, 0, none⟩ = some (.bool neg) ∧ w'.cell? ⟨w.heap.size, 1, none⟩ = some (.slice ao n c)) := hid (fun w' hb => by
    refine ⟨?_, ?_⟩ <;> (rw [hb.cell (by rw [hw0]; simp <;> omega), hW0]; simp [go_sem]))
  have HT : Hid (∀ w', Below W0.heap.size W0 w' → w'.cell? ⟨w.heap.size + 1, 0, none⟩ = some (.bool false) ∧ w'.cell? ⟨w.heap.size + 1, 1, none⟩ = some (.slice none 0 0) ∧ w'.frozen? ⟨w.heap.size + 1, 0, none⟩ = false ∧ w'.frozen? ⟨w.heap.size + 1, 1, none⟩ = false) := hid (fun w' hb => by
    refine ⟨?_, ?_, ?_, ?_⟩ <;> (first | (rw [hb.cell (by rw [hw0]; simp <;> omega), hW0]; simp [go_sem]; done) | (rw [hb.frozen (by rw [hw0]; simp <;> omega), hW0]; simp [go_sem]; done)))
  rw [← hW0]
  clear hW0
  have HI0 := hid (show FrI W0 W0 W 0 (.slice none 0 0) from ⟨⟨by simp [un16], .inl ⟨rfl, rfl⟩⟩, Below.refl _ _⟩)
  have HB0 := hid hB0; have Hw0 := hid hw0
  clear hB0 hw0
  go_wp2
  go_loopw [3, 4] (fun ov iv wr => ∃ k : Nat, k ≤ n ∧ iv = .int .i64 k ∧ FrI W0 wr W k ov) (fun _ iv _ => n - (intOf iv).toNat)
  case atStart => exact ⟨0, Nat.zero_le _, rfl, HI0.out⟩
  case round =>
    obtain ⟨k, hk, rfl, HI⟩ := hrel
    obtain ⟨hs0, hs1⟩ := HS.out _ HI.low
    by_cases hlt : k < n
    · obtain ⟨b, o, rfl⟩ := H.out.rd.adr (by have := Hn.out; omega)
      have hc : ∀ w', Below W0.heap.size W0 w' → w'.cell? ⟨b, o + k, none⟩ = some (.int .u32 (W[k]?.getD 0)) := fun w' hb => (H.out.rd.below (HB0.out.trans (hb.mono (by have := Hw0.out; omega))) (Nat.le_refl _)).cell b o rfl k (by have := Hn.out; omega)
      have hd := H.out.dig.at B32_pos k
      have hts := take_succ_getD W k (by have := Hn.out; omega)
      have hus := un16_snoc (W.take k) (W[k]?.getD 0)
      rw [← hts] at hus
      obtain ⟨x, hxe⟩ : ∃ x, x = W[k]?.getD 0 := ⟨_, rfl⟩
      rw [← hxe] at hc hd hus
      have HU := hid hus
      have d0 := hd.1; have d1 : x < 4294967296 := hd.2
      have HC2 := hid (fun w' (hb : Below W0.heap.size W0 w') => And.intro (HS.out w' hb).2 (hc w' hb))
      have HHI := hid HI
      have u1 : IntKind.i64.wrap (x % 65536) = x % 65536 := IntWalk.i64_in _ (by omega)
      have u2 : IntKind.i64.wrap (x / 65536) = x / 65536 := IntWalk.i64_in _ (by omega)
      have u3 : IntKind.u32.wrap (x % 65536) = x % 65536 := by rw [IntKind.wrap_u32]; omega
      have u4 : IntKind.u32.wrap (x / 65536) = x / 65536 := by rw [IntKind.wrap_u32]; omega
      have u5 : x.tmod 65536 = x % 65536 := Int.tmod_eq_emod_of_nonneg d0
      have u6 : x.tdiv 65536 = x / 65536 := Int.tdiv_eq_ediv_of_nonneg d0
      have hk0 : (0 : Int) ≤ (k : Int) := by omega
      have hkn : (k : Int) < (n : Int) := by omega
      have hbel := HI.low
      clear hts hus hxe HI0 HI hs0 hd hc
      go_wp2
      go_region_held3 (fun w' => w'.cell? ⟨w.heap.size, 1, none⟩ = some (.slice (some ⟨b, o, none⟩) n c) ∧ w'.cell? ⟨b, o + k, none⟩ = some (.int .u32 x)) ((refine HC2.out _ ?_; first | assumption | exact HHI.out.low.drew | exact HHI.out.low.alloc HHI.out.low.size _ | exact (HHI.out.low.alloc HHI.out.low.size _).drew | exact (HHI.out.low.drew.alloc HHI.out.low.size _)))
        ((refine step_append_lies _ (by rfl) _ _ _ (by rfl) W0.heap.size 3 i0 _ 1 8 Tryz.underlying29 hi hz0 hz1 hz2 rfl (by omega) _ (2 * k) _ (by rfl) ((HHI.out.own.alloc _).drew) ⟨wr.heap.size, 0, none⟩ 2 2 [.int .i64 (x % 65536), .int .i64 (x / 65536)] (by rfl) (by rfl) (World.news_of_block (cs := #[.int .i64 (x % 65536), .int .i64 (x / 65536)]) (t := 3) (fr := (0, 0)) (heap_alloc_new wr _)) (by simp [Value.oneCell']) (by omega) (by unfold maxLen; omega) (by omega) (by have := HHI.out.low.size; simp; omega) (wr.heap.size + 1) (by simp) ?_; intro gg cap w1 hown1 hgrow hat hlt1; have hB1 : Below W0.heap.size W0 w1 := ((HHI.out.low.alloc HHI.out.low.size _).drew).grown hgrow (by have := HHI.out.low.size; simp; omega) (fun i e => owns_block HHI.out.own i e)))
      have HN := hid (show FrI W0 w1 W (k + 1) (.slice (some ⟨gg, 0, none⟩) (2 * k + 2) cap) from ⟨by rw [HU.out, List.map_append]; exact hown1, hB1⟩)
      clear hB1 hown1 hgrow hat hlt1
      go_wp2
      go_roundw
      case rel => exact ⟨k + 1, by omega, by go_num, HN.out⟩
      case measure => simp [intOf]; omega
    · obtain rfl : k = n := by omega
      have hdg : Dg wr u3 (val B32 W) (2 * K) := by
        have ho := HI.own
        rw [Hn.out, List.take_length] at ho
        have hl : (un16 W).length = 2 * W.length := un16_len W
        rcases ho.2 with ⟨rfl, h0⟩ | ⟨g, cap, cur, rfl, hg, hh, hn, hcm, hs, ht⟩
        · have hW : W = [] := List.eq_nil_of_length_eq_zero (by omega)
          subst hW
          exact ⟨none, 0, [], rfl, Rd.nil _ _, Dig.nil _, rfl, by simp⟩
        · rw [← hl] at ho ⊢
          exact ⟨_, cap, un16 W, rfl, owns_rd ho hcm, un16_dig H.out.dig, un16_val W, by have := H.out.le; omega⟩
      have hm := made_any neg u3 _ _ wr hdg
      rw [← H.out.eq] at hm
      have HM := hid hm; have HL := hid HI.low
      clear hm hdg HI HI0 hk hnK
      go_wp2_with fail
      refine HM.out.mono ?_
      rintro e w1 ⟨_, rfl, hv1, hb1⟩
      obtain ⟨b1, o1, m1, c1, rfl, H1, H1s, H1b⟩ := Zt.opened hv1
      have hB1 : Below W0.heap.size W0 w1 := HL.out.trans (hb1.mono HL.out.size)
      obtain ⟨hr0, hr1, hr2, hr3⟩ := HT.out _ hB1
      go_wp2
      have hbel : Below w.heap.size w w1 := HB0.out.trans (hB1.mono (by have := Hw0.out; omega))
      refine bodyPost_ret (v := .agg #[.bool b1, .slice o1 m1 c1]) (by simp [results, Tryz.results16, go_sem, hr0, hr1]) rfl ⟨_, rfl, ?_, (hbel.setCell (by simp <;> omega) _).setCell (by simp <;> omega) _⟩
      exact ((H1.out _ (Below.refl _ _)).set hr0 (fun x h => (by cases h)) _).set (u := .slice none 0 0) (by simp [go_sem, hr1]) (fun x h => (by cases h)) _

end Go.Proofs.YtbapeilpkhbbeaaGreatDoor
