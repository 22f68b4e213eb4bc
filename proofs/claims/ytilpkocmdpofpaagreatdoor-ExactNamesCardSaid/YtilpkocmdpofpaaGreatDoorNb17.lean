/- exact: divided and whole: fractions of integers. exact.Sign, exact.Cmp. exact.Make: the ratio of two integers in lowest terms, or ErrZero. exact.Make where the divisor is 0; exact.Whole. The region 'q, r := f(g(x), y)' of two structs (a bool and a slice) whose addresses are taken. Written by gen_ediv.py. -/
import Derived.Test.YtilpkocmdpofpaaGreatDoorNb16
import Derived.Test.YtilpkocmdpofpaaGreatDoorNb09
import Derived.Test.YtilpkocmdpofpaaGreatDoorNb11
import Derived.Test.YtilpkocmdpofpaaGreatDoorNb12
import Derived.Test.YtilpkocmdpofpaaGreatDoorNb13
import Derived.Deep.DeepCutAuto
/- exact: divided and whole: fractions of integers. -/
namespace Go.Proofs.YtilpkocmdpofpaaGreatDoor
open Go.RowKit

theorem nt_keeps {n : Int} {K : Nat} {w w' : World} {v : Value} (hk : Keeps .u64 w w') (h : Nt w v n K) : Nt w' v n K := by
  obtain ⟨ao, c, L, rfl, h⟩ := h
  exact ⟨ao, c, L, rfl, h.rd.keeps hk, h.dig, h.nrm, h.eq, h.le⟩

set_option maxRecDepth 100000 in
set_option maxHeartbeats 800000 in
theorem divided_any (u v : Value) (x y : Int) (K : Nat) (w : World) (hu : It w u x K) (hv : It w v y K) :
    Calls Tryz.prog 106 #[u, v] w fun e w' => ∃ f, e = .returned f ∧ Ft w' f (sgn (decide (x < 0) != decide (y < 0)) (x.natAbs : Int)) (y.natAbs : Int) K ∧ Below w.heap.size w w' := by
  obtain ⟨xb, xo, xm, xc, rfl, Hx, Hxs, Hxb⟩ := It.opened hu
  obtain ⟨yb, yo, ym, yc, rfl, Hy, Hys, Hyb⟩ := It.opened hv
  rw [← Hxb.out, ← Hyb.out]
  clear hu hv
  obtain ⟨W0, hW0⟩ : ∃ W0, W0 = (((w.alloc (.cells #[.bool xb, .slice xo xm xc] 84)).alloc (.cells #[.bool yb, .slice yo ym yc] 84)).alloc (.cells #[.bool false, .slice none 0 0, .slice none 0 0] 86)) := ⟨_, rfl⟩
  have hB0 : Below w.heap.size w W0 := by rw [hW0]; exact (((Below.refl _ _).alloc (Nat.le_refl _) _).alloc (by simp) _).alloc (by simp <;> omega) _
  have hz0 : W0.heap.size = w.heap.size + 3 := by rw [hW0]; simp
  have HS : Hid (∀ w', Below (w.heap.size + 2) W0 w' → w'.cell? ⟨w.heap.size, 0, none⟩ = some (.bool xb) ∧ w'.cell? ⟨w.heap.size, 1, none⟩ = some (.slice xo xm xc) ∧ w'.cell? ⟨w.heap.size + 1, 0, none⟩ = some (.bool yb) ∧ w'.cell? ⟨w.heap.size + 1, 1, none⟩ = some (.slice yo ym yc)) := hid (fun w' hb => by
    refine ⟨?_, ?_, ?_, ?_⟩ <;> (rw [hb.cell (by simp <;> omega), hW0]; simp [go_sem]))
  have HT : Hid (∀ w', Below (w.heap.size + 3) W0 w' → (w'.cell? ⟨w.heap.size + 2, 0, none⟩ = some (.bool false) ∧ w'.cell? ⟨w.heap.size + 2, 1, none⟩ = some (.slice none 0 0) ∧ w'.cell? ⟨w.heap.size + 2, 2, none⟩ = some (.slice none 0 0)) ∧ (w'.frozen? ⟨w.heap.size + 2, 0, none⟩ = false ∧ w'.frozen? ⟨w.heap.size + 2, 1, none⟩ = false ∧ w'.frozen? ⟨w.heap.size + 2, 2, none⟩ = false)) := hid (fun w' hb => by
    refine ⟨⟨?_, ?_, ?_⟩, ?_, ?_, ?_⟩ <;> (first | (rw [hb.cell (by simp <;> omega), hW0]; simp [go_sem]; done) | (rw [hb.frozen (by simp <;> omega), hW0]; simp [go_sem]; done)))
  have HB0 := hid hB0; have Hz0 := hid hz0; have HW := hid hW0
  clear hW0
  go_enter Tryz.func106, Tryz.ntmps106
  go_upto_region 1 with (fail)
  rw [← HW.out]
  obtain ⟨k0, k1, k2, k3⟩ := HS.out _ (Below.refl _ _)
  clear k0 k1 k2 k3
  go_region_held3 (fun w' => w'.cell? ⟨w.heap.size, 0, none⟩ = some (.bool xb) ∧ w'.cell? ⟨w.heap.size, 1, none⟩ = some (.slice xo xm xc) ∧ w'.cell? ⟨w.heap.size + 1, 0, none⟩ = some (.bool yb) ∧ w'.cell? ⟨w.heap.size + 1, 1, none⟩ = some (.slice yo ym yc)) ((refine HS.out _ ?_; repeat (first | assumption | exact Below.refl _ _ | exact (Below.refl _ _).drew | exact Below.drew (by assumption) | (refine Below.setCell ?_ (by simp) _)))) (first
    | (go_at_call 55; refine (signed_any (xb != yb) _ _ K _ (Hxs.out _ hB0.drew)).mono ?_; rintro e w2 ⟨_, rfl, hv2, hb2⟩; obtain ⟨b2, o2, m2, c2, rfl, H2, H2s, H2b⟩ := It.opened hv2; have hB2 : Below (w.heap.size + 3) W0 w2 := ((Below.refl _ _).drew).trans (hb2.mono (by simp; omega)); have hB2s : Below (w.heap.size + 2) W0 w2 := hB2.mono (by omega); obtain ⟨⟨hr0, hr1, hr2⟩, hf0, hf1, hf2⟩ := HT.out _ hB2))
  go_wp2
  have hbel : Below w.heap.size w w2 := hB0.trans (hB2.mono (by omega))
  refine bodyPost_ret (v := .agg #[.bool b2, .slice o2 m2 c2, .slice yo ym yc]) (by simp [results, Tryz.results106, go_sem, hr0, hr1, hr2]) rfl ⟨_, rfl, ?_, ((hbel.setCell (by simp <;> omega) _).setCell (by simp <;> omega) _).setCell (by simp <;> omega) _⟩
  refine ⟨.slice o2 m2 c2, .slice yo ym yc, by rw [H2b.out], ?_, ?_⟩
  · exact nt_keeps (((((Keeps.refl _ _).setCell (u := .bool false) hr0 (fun x h => (by cases h)) _).setCell (u := .slice none 0 0) (by simp [go_sem, hr1]) (fun x h => (by cases h)) _).setCell (u := .slice none 0 0) (by simp [go_sem, hr2]) (fun x h => (by cases h)) _)) (H2s.out _ (Below.refl _ _))
  · exact nt_keeps (((((Keeps.refl _ _).setCell (u := .bool false) hr0 (fun x h => (by cases h)) _).setCell (u := .slice none 0 0) (by simp [go_sem, hr1]) (fun x h => (by cases h)) _).setCell (u := .slice none 0 0) (by simp [go_sem, hr2]) (fun x h => (by cases h)) _)) (Hys.out _ hbel)

set_option maxRecDepth 100000 in
set_option maxHeartbeats 800000 in
theorem whole_any (u : Value) (x : Int) (K : Nat) (w : World) (hu : It w u x K) (hK : 1 ≤ K) :
    Calls Tryz.prog 88 #[u] w fun e w' => ∃ f, e = .returned f ∧ Ft w' f x 1 K ∧ Below w.heap.size w w' := by
  obtain ⟨xb, xo, xm, xc, rfl, Hx, Hxs, Hxb⟩ := It.opened hu
  clear hu
  obtain ⟨W0, hW0⟩ : ∃ W0, W0 = ((w.alloc (.cells #[.bool xb, .slice xo xm xc] 84)).alloc (.cells #[.bool false, .slice none 0 0, .slice none 0 0] 86)) := ⟨_, rfl⟩
  have hB0 : Below w.heap.size w W0 := by rw [hW0]; exact ((Below.refl _ _).alloc (Nat.le_refl _) _).alloc (by simp) _
  have hz0 : W0.heap.size = w.heap.size + 2 := by rw [hW0]; simp
  have HS : Hid (∀ w', Below (w.heap.size + 1) W0 w' → w'.cell? ⟨w.heap.size, 0, none⟩ = some (.bool xb) ∧ w'.cell? ⟨w.heap.size, 1, none⟩ = some (.slice xo xm xc)) := hid (fun w' hb => by
    refine ⟨?_, ?_⟩ <;> (rw [hb.cell (by simp <;> omega), hW0]; simp [go_sem]))
  have HT : Hid (∀ w', Below (w.heap.size + 2) W0 w' → (w'.cell? ⟨w.heap.size + 1, 0, none⟩ = some (.bool false) ∧ w'.cell? ⟨w.heap.size + 1, 1, none⟩ = some (.slice none 0 0) ∧ w'.cell? ⟨w.heap.size + 1, 2, none⟩ = some (.slice none 0 0)) ∧ (w'.frozen? ⟨w.heap.size + 1, 0, none⟩ = false ∧ w'.frozen? ⟨w.heap.size + 1, 1, none⟩ = false ∧ w'.frozen? ⟨w.heap.size + 1, 2, none⟩ = false)) := hid (fun w' hb => by
    refine ⟨⟨?_, ?_, ?_⟩, ?_, ?_, ?_⟩ <;> (first | (rw [hb.cell (by simp <;> omega), hW0]; simp [go_sem]; done) | (rw [hb.frozen (by simp <;> omega), hW0]; simp [go_sem]; done)))
  have HB0 := hid hB0; have Hz0 := hid hz0; have HW := hid hW0
  clear hW0
  go_enter Tryz.func88, Tryz.ntmps88
  go_upto_region 1 with (fail)
  rw [← HW.out]
  obtain ⟨k0, k1⟩ := HS.out _ (Below.refl _ _)
  obtain ⟨⟨hr0, hr1, hr2⟩, hf0, hf1, hf2⟩ := HT.out _ (Below.refl _ _)
  go_wp2
  obtain ⟨W1, hW1⟩ : ∃ W1, W1 = (((W0.setCell ⟨w.heap.size + 1, 0, none⟩ (.bool xb)).setCell ⟨w.heap.size + 1, 1, none⟩ (.slice xo xm xc)).setCell ⟨w.heap.size + 1, 2, none⟩ (.slice (some ⟨w.heap.size + 2, 0, none⟩) 1 1)) := ⟨_, rfl⟩
  have hk : Keeps .u64 W0 W1 := by rw [hW1]; exact (((((Keeps.refl _ _).setCell (u := .bool false) hr0 (fun x h => (by cases h)) _).setCell (u := .slice none 0 0) (by simp [go_sem, hr1]) (fun x h => (by cases h)) _).setCell (u := .slice none 0 0) (by simp [go_sem, hr2]) (fun x h => (by cases h)) _))
  have hz1 : W1.heap.size = w.heap.size + 2 := by rw [hW1]; simp; omega
  have hb1 : Below w.heap.size w W1 := by rw [hW1]; exact ((hB0.setCell (by simp <;> omega) _).setCell (by simp <;> omega) _).setCell (by simp <;> omega) _
  have hc0 : W1.cell? ⟨w.heap.size + 1, 0, none⟩ = some (.bool xb) := by rw [hW1]; simp [go_sem, hr0]
  have hc1 : W1.cell? ⟨w.heap.size + 1, 1, none⟩ = some (.slice xo xm xc) := by rw [hW1]; simp [go_sem, hr1]
  have hc2 : W1.cell? ⟨w.heap.size + 1, 2, none⟩ = some (.slice (some ⟨w.heap.size + 2, 0, none⟩) 1 1) := by rw [hW1]; simp [go_sem, hr2]
  rw [← hW1]
  have hal : Below W1.heap.size W1 (W1.alloc (.cells #[.int .u64 1] 91 (0, 0))) := (Below.refl _ _).alloc (Nat.le_refl _) _
  have hd0 := (hal.cell (p := ⟨w.heap.size + 1, 0, none⟩) (by simp; omega)).trans hc0
  have hd1 := (hal.cell (p := ⟨w.heap.size + 1, 1, none⟩) (by simp; omega)).trans hc1
  have hd2 := (hal.cell (p := ⟨w.heap.size + 1, 2, none⟩) (by simp; omega)).trans hc2
  refine bodyPost_ret (v := .agg #[.bool xb, .slice xo xm xc, .slice (some ⟨w.heap.size + 2, 0, none⟩) 1 1]) (by simp [results, Tryz.results88, go_sem, hd0, hd1, hd2]) rfl ⟨_, rfl, ?_, hb1.alloc (by omega) _⟩
  refine ⟨.slice xo xm xc, .slice (some ⟨w.heap.size + 2, 0, none⟩) 1 1, by rw [Hxb.out], ?_, ?_⟩
  · exact (nt_keeps hk (Hxs.out _ hB0)).below hal (Nat.le_refl _)
  · have h1 := (one_row W1).mono hK
    rw [hz1] at h1
    exact h1
end Go.Proofs.YtilpkocmdpofpaaGreatDoor

/- exact.Sign, exact.Cmp. -/
namespace Go.Proofs.YtilpkocmdpofpaaGreatDoor
open Go.RowKit

theorem Nt.zero {w : World} {ao : Option Addr} {m c : Nat} {n : Int} {K : Nat} (h : Nt w (.slice ao m c) n K) : m = 0 ↔ n = 0 := by
  obtain ⟨ao, c, L, e, h⟩ := h
  cases e
  exact h.zero_iff

set_option maxHeartbeats 1000000 in
theorem sign_any (v : Value) (z : Int) (K : Nat) (w : World) (h : It w v z K) :
    Calls Tryz.prog 79 #[v] w fun e w' => e = .returned (.int .i64 (cmpI z 0)) ∧ Below w.heap.size w w' := by
  obtain ⟨xb, xo, xm, xc, rfl, Hx, Hxs, Hxb⟩ := It.opened h
  have hz := (Hxs.out w (Below.refl _ _)).zero
  by_cases h0 : z = 0
  · obtain rfl : xm = 0 := hz.2 (by omega)
    have e : cmpI z 0 = 0 := by rw [h0]; rfl
    rw [e]
    clear hz h h0 e
    go_enter Tryz.func79, Tryz.ntmps79
    go_wp2
    go_ret
    exact ⟨rfl, (Below.refl _ _).alloc (Nat.le_refl _) _⟩
  · have hm : ((xm : Int) == 0) = false := by rw [beq_eq_false_iff_ne]; have := hz.1; omega
    by_cases h1 : z < 0
    · obtain rfl : xb = true := by rw [Hxb.out]; exact decide_eq_true h1
      rw [cmpI_lt h1]
      clear hz h h0 h1
      go_enter Tryz.func79, Tryz.ntmps79
      go_wp2
      go_ret
      exact ⟨rfl, (Below.refl _ _).alloc (Nat.le_refl _) _⟩
    · obtain rfl : xb = false := by rw [Hxb.out]; exact decide_eq_false h1
      rw [cmpI_gt (show 0 < z by omega)]
      clear hz h h0 h1
      go_enter Tryz.func79, Tryz.ntmps79
      go_wp2
      go_ret
      exact ⟨rfl, (Below.refl _ _).alloc (Nat.le_refl _) _⟩

set_option maxHeartbeats 1000000 in
theorem order_ne (a b : Int) (f : Value) (w : World) (hne : a ≠ b) :
    Calls Tryz.prog 94 #[.int .i64 a, .int .i64 b, f] w fun e w' => e = .returned (.int .i64 (cmpI a b)) ∧ w' = w := by
  have hb : ((a : Int) != b) = true := by rw [bne_iff_ne]; exact hne
  go_enter Tryz.func94, Tryz.ntmps94
  go_wp2_with (go_at_call 141; refine (cmpInt _ _ _).mono ?_; rintro e w' ⟨rfl, rfl⟩)
  go_ret
  exact ⟨rfl, rfl⟩

theorem cmpI_bd (a b : Int) : -1 ≤ cmpI a b ∧ cmpI a b ≤ 1 := by unfold cmpI; split <;> (try split) <;> decide

end Go.Proofs.YtilpkocmdpofpaaGreatDoor

/- exact.Make: the ratio of two integers in lowest terms, or ErrZero. -/
namespace Go.Proofs.YtilpkocmdpofpaaGreatDoor
open Go.RowKit

/-- Cells below B that lie in another block than g are as they were. -/
structure Kp (B g : Nat) (w w' : World) : Prop where
  cell : ∀ a : Addr, a.block < B → a.block ≠ g → w'.cell? a = w.cell? a
theorem Kp.of_below {B g : Nat} {w w' : World} (h : Below B w w') : Kp B g w w' := ⟨fun _ ha _ => h.cell ha⟩
theorem Kp.set {B g : Nat} {w w' : World} (h : Kp B g w w') {a : Addr} (ha : a.block = g) (u : Value) : Kp B g w (w'.setCell a u) := by
  refine ⟨fun p hp hne => ?_⟩
  rw [World.cell?_setCell_other w' a p u (by rintro rfl; exact hne ha)]
  exact h.cell p hp hne
theorem FrA.opened {w0 w : World} {v : Value} {z : Int} {K : Nat} (h : FrA w0 w v z K) : ∃ b ao m c, v = .agg #[.bool b, .slice ao m c] ∧ Hid (FrA w0 w (.agg #[.bool b, .slice ao m c]) z K) := by
  obtain ⟨s, rfl, h⟩ := h
  obtain ⟨ao, m, c, rfl, H⟩ := FrW.opened h
  exact ⟨_, ao, m, c, rfl, hid ⟨_, rfl, H.out⟩⟩
theorem FrA.base {w0 w1 w : World} {v : Value} {z : Int} {K : Nat} (h : FrA w1 w v z K) (hb : w0.heap.size ≤ w1.heap.size) : FrA w0 w v z K := by
  obtain ⟨s, rfl, h⟩ := h
  exact ⟨s, rfl, h.base hb⟩
theorem FrR.opened {w0 w : World} {v : Value} {x y : Int} {K : Nat} (h : FrR w0 w v x y K) : ∃ b1 o1 m1 c1 b2 o2 m2 c2, v = .agg #[.bool b1, .slice o1 m1 c1, .bool b2, .slice o2 m2 c2] ∧ Hid (FrA w0 w (.agg #[.bool b1, .slice o1 m1 c1]) x K) ∧ Hid (FrA w0 w (.agg #[.bool b2, .slice o2 m2 c2]) y K) := by
  obtain ⟨_, _, _, _, rfl, h1, h2⟩ := h
  obtain ⟨b1, o1, m1, c1, e1, H1⟩ := FrA.opened h1
  obtain ⟨b2, o2, m2, c2, e2, H2⟩ := FrA.opened h2
  injection e1 with e1
  injection e2 with e2
  simp at e1 e2
  obtain ⟨rfl, rfl⟩ := e1
  obtain ⟨rfl, rfl⟩ := e2
  exact ⟨b1, o1, m1, c1, b2, o2, m2, c2, rfl, H1, H2⟩

set_option maxRecDepth 100000 in
set_option maxHeartbeats 1000000 in
theorem Make_any (u v : Value) (x y : Int) (K : Nat) (w : World) (hu : Ai w u x K) (hv : Ai w v y K) (hy : y ≠ 0) (hK : K ≤ 1073741823) :
    Calls Tryz.prog 137 #[u, v] w fun e w' => ∃ f, e = .returned (.tuple #[f, .int .i64 0]) ∧ FrR w w' f (lowN (sgn (decide (x < 0) != decide (y < 0)) (x.natAbs : Int)) (y.natAbs : Int)) (lowD (sgn (decide (x < 0) != decide (y < 0)) (x.natAbs : Int)) (y.natAbs : Int)) (2 * ((K + 1) / 2)) ∧ Below w.heap.size w w' := by
  obtain ⟨xb, xo, xm, xc, rfl, Hx⟩ := Ai.opened hu
  obtain ⟨yb, yo, ym, yc, rfl, Hy⟩ := Ai.opened hv
  clear hu hv
  obtain ⟨W0, hW0⟩ : ∃ W0, W0 = (((w.alloc (.cells #[.bool xb, .slice xo xm xc] 24)).alloc (.cells #[.bool yb, .slice yo ym yc] 24)).alloc (.cells #[.bool false, .slice none 0 0, .bool false, .slice none 0 0] 26)) := ⟨_, rfl⟩
  have hB0 : Below w.heap.size w W0 := by rw [hW0]; exact (((Below.refl _ _).alloc (Nat.le_refl _) _).alloc (by simp) _).alloc (by simp <;> omega) _
  have hz0 : W0.heap.size = w.heap.size + 3 := by rw [hW0]; simp
  have HS : Hid (∀ w', Below (w.heap.size + 2) W0 w' → w'.cell? ⟨w.heap.size, 0, none⟩ = some (.bool xb) ∧ w'.cell? ⟨w.heap.size, 1, none⟩ = some (.slice xo xm xc) ∧ w'.cell? ⟨w.heap.size + 1, 0, none⟩ = some (.bool yb) ∧ w'.cell? ⟨w.heap.size + 1, 1, none⟩ = some (.slice yo ym yc)) := hid (fun w' hb => by
    refine ⟨?_, ?_, ?_, ?_⟩ <;> (rw [hb.cell (by simp <;> omega), hW0]; simp [go_sem]))
  have HT : Hid (∀ w', Below (w.heap.size + 3) W0 w' → (w'.cell? ⟨w.heap.size + 2, 0, none⟩ = some (.bool false) ∧ w'.cell? ⟨w.heap.size + 2, 1, none⟩ = some (.slice none 0 0) ∧ w'.cell? ⟨w.heap.size + 2, 2, none⟩ = some (.bool false) ∧ w'.cell? ⟨w.heap.size + 2, 3, none⟩ = some (.slice none 0 0)) ∧ (w'.frozen? ⟨w.heap.size + 2, 0, none⟩ = false ∧ w'.frozen? ⟨w.heap.size + 2, 1, none⟩ = false ∧ w'.frozen? ⟨w.heap.size + 2, 2, none⟩ = false ∧ w'.frozen? ⟨w.heap.size + 2, 3, none⟩ = false)) := hid (fun w' hb => by
    refine ⟨⟨?_, ?_, ?_, ?_⟩, ?_, ?_, ?_, ?_⟩ <;> (first | (rw [hb.cell (by simp <;> omega), hW0]; simp [go_sem]; done) | (rw [hb.frozen (by simp <;> omega), hW0]; simp [go_sem]; done)))
  have HB0 := hid hB0; have Hz0 := hid hz0; have HW := hid hW0
  clear hW0 hB0 hz0
  have hcy : cmpI y 0 ≠ 0 := by unfold cmpI; split <;> (try split) <;> omega
  obtain ⟨t, ht⟩ : ∃ t, t = cmpI y 0 := ⟨_, rfl⟩
  rw [← ht] at hcy
  have Ht := hid ht
  clear ht
  go_enter Tryz.func137, Tryz.ntmps137
  go_upto_region 1 with (fail)
  rw [← HW.out]
  obtain ⟨k0, k1, k2, k3⟩ := HS.out _ (Below.refl _ _)
  go_wp2_with fail
  refine (read_any _ y K _ (Hy.out _ HB0.out) (by omega)).mono ?_
  rintro e w1 ⟨_, rfl, hv1, hb1⟩
  obtain ⟨b1, o1, m1, c1, rfl, H1, H1s, H1b⟩ := It.opened hv1
  have hB1 : Below (w.heap.size + 3) W0 w1 := hb1.mono (by have := Hz0.out; omega)
  clear k0 k1 k2 k3 hv1 hb1
  go_wp2_with fail
  obtain ⟨W2, hW2⟩ : ∃ W2, W2 = w1.alloc (.cells #[.bool b1, .slice o1 m1 c1] 84) := ⟨_, rfl⟩
  have hal : Below w1.heap.size w1 W2 := by rw [hW2]; exact (Below.refl _ _).alloc (Nat.le_refl _) _
  have hz2 : W2.heap.size = w1.heap.size + 1 := by rw [hW2]; simp
  have hs1 := hB1.size
  have hB2 : Below (w.heap.size + 3) W0 W2 := hB1.trans (hal.mono (by have := Hz0.out; omega))
  have hbx := HS.out _ (hB2.mono (by omega))
  have hby0 : W2.cell? ⟨w1.heap.size, 0, none⟩ = some (.bool b1) := by rw [hW2]; simp [go_sem]
  have hby1 : W2.cell? ⟨w1.heap.size, 1, none⟩ = some (.slice o1 m1 c1) := by rw [hW2]; simp [go_sem]
  have HSS : Hid (∀ w', Kp W2.heap.size (w.heap.size + 2) W2 w' → w'.cell? ⟨w.heap.size, 0, none⟩ = some (.bool xb) ∧ w'.cell? ⟨w.heap.size, 1, none⟩ = some (.slice xo xm xc) ∧ w'.cell? ⟨w1.heap.size, 0, none⟩ = some (.bool b1) ∧ w'.cell? ⟨w1.heap.size, 1, none⟩ = some (.slice o1 m1 c1)) := hid (fun w' h => by
    have := Hz0.out
    exact ⟨(h.cell _ (by simp; omega) (by simp)).trans hbx.1, (h.cell _ (by simp; omega) (by simp)).trans hbx.2.1, (h.cell _ (by simp; omega) (by simp; omega)).trans hby0, (h.cell _ (by simp; omega) (by simp; omega)).trans hby1⟩)
  rw [← hW2]
  have HAL := hid hal; have HB2 := hid hB2; have Hz2 := hid hz2; have Hs1 := hid hs1
  clear hW2 hbx hby0 hby1 hal hB2 hz2 hs1 hB1
  refine (sign_any _ y _ _ (H1.out _ HAL.out)).mono ?_
  rintro e w3 ⟨rfl, hb3⟩
  rw [← Ht.out]
  have hw3 : Below w.heap.size w w3 := HB0.out.trans ((HB2.out.trans (hb3.mono HB2.out.size |>.mono (by have := Hz0.out; omega))).mono (by omega))
  go_wp2
  go_region_held3 (fun w' => w'.cell? ⟨w.heap.size, 0, none⟩ = some (.bool xb) ∧ w'.cell? ⟨w.heap.size, 1, none⟩ = some (.slice xo xm xc) ∧ w'.cell? ⟨w1.heap.size, 0, none⟩ = some (.bool b1) ∧ w'.cell? ⟨w1.heap.size, 1, none⟩ = some (.slice o1 m1 c1)) ((refine HSS.out _ ?_; repeat (first | assumption | exact Kp.of_below (by assumption) | exact Kp.of_below (Below.refl _ _) | exact Kp.of_below (Below.refl _ _).drew | exact Kp.of_below (Below.drew (by assumption)) | (refine Kp.set ?_ (by simp) _)))) (first
    | (go_at_call 72; refine (read_any _ x K _ (Hx.out _ hw3.drew) (by omega)).mono ?_; rintro e w4 ⟨_, rfl, hv4, hb4⟩; obtain ⟨b4, o4, m4, c4, rfl, H4, H4s, H4b⟩ := It.opened hv4; have hX4 : Below W2.heap.size W2 w4 := hb3.drew.trans (hb4.mono (by have := hb3.size; simp; omega)))
    | (go_at_call 106; refine (divided_any _ _ x y _ _ (H4.out _ (Below.refl _ _)) (H1.out _ (HAL.out.trans (hX4.mono HAL.out.size)))).mono ?_; rintro e w5 ⟨_, rfl, hf5, hb5⟩; have hX5 : Below W2.heap.size W2 w5 := hX4.trans (hb5.mono hX4.size))
    | (go_at_call 67; refine (fracValue_any _ _ _ _ _ hf5 (by omega) (by omega)).mono ?_; rintro e w6 ⟨_, rfl, hv6, hb6⟩; obtain ⟨z1, o6, m6, c6, z2, o7, m7, c7, rfl, H6, H7⟩ := FrR.opened hv6; have hX6 : Below W2.heap.size W2 w6 := hX5.trans (hb6.mono hX5.size); obtain ⟨⟨hr0, hr1, hr2, hr3⟩, hf0, hf1, hf2, hf3⟩ := HT.out _ (HB2.out.trans (hX6.mono HB2.out.size |>.mono (by have := Hz0.out; omega)))))
  go_wp2
  have hz0 := Hz0.out; have hz2 := Hz2.out; have hs1 := Hs1.out; have hs5 := hX5.size
  have hw6 : Below w.heap.size w w6 := HB0.out.trans ((HB2.out.trans (hX6.mono (by omega))).mono (by omega))
  have hlt : w.heap.size + 2 < w5.heap.size := by omega
  refine bodyPost_ret (v := .tuple #[.agg #[.bool z1, .slice o6 m6 c6, .bool z2, .slice o7 m7 c7], .int .i64 0]) (by simp [results, Tryz.results137, go_sem, hr0, hr1, hr2, hr3]) rfl ⟨_, rfl, ?_, (((hw6.setCell (by simp <;> omega) _).setCell (by simp <;> omega) _).setCell (by simp <;> omega) _).setCell (by simp <;> omega) _⟩
  refine ⟨_, _, _, _, rfl, ?_, ?_⟩
  · exact ((((H6.out.set hlt _).set hlt _).set hlt _).set hlt _).base (by omega)
  · exact ((((H7.out.set hlt _).set hlt _).set hlt _).set hlt _).base (by omega)
end Go.Proofs.YtilpkocmdpofpaaGreatDoor

/- exact.Make where the divisor is 0; exact.Whole. -/
namespace Go.Proofs.YtilpkocmdpofpaaGreatDoor
open Go.RowKit

end Go.Proofs.YtilpkocmdpofpaaGreatDoor

/- The region 'q, r := f(g(x), y)' of two structs (a bool and a slice) whose addresses are taken. Written by gen_ediv.py. -/
namespace Go.Proofs.YtilpkocmdpofpaaGreatDoor
open Go.RowKit

structure QuoJ (k : IntKind) (B : Nat) (W0 : World) (vx vy : Value) (G1 Gq Gr : World → Value → Prop) (b0 b1 b2 b3 b4 b5 b6 b7 b8 b9 b10 : Bool) (s8 s9 s17 s18 s19 s20 s21 s22 s23 : Value) (w : World) : Prop where
  bel : Below B W0 w
  siz : B ≤ w.heap.size
  l0 : b0 = true → s18 = vx
  c1 : b1 = true → G1 w s19
  l2 : b2 = true → s20 = vy
  c3 : b3 = true → ∃ u v, s21 = .tuple #[u, v] ∧ Gq w u ∧ Gr w v
  m4 : b4 = true → ∃ u v, s17 = .tuple #[u, v] ∧ Gq w u ∧ Gr w v
  e5 : b5 = true → Gq w s22
  e6 : b6 = true → Gr w s23
  p7 : b7 = true → PtrAt k B w s8 b9 s22
  p8 : b8 = true → PtrAt k B w s9 b10 s23
  ne : b7 = true → b8 = true → s8 ≠ s9

section
variable {k : IntKind} {B : Nat} {W0 : World} {vx vy : Value} {G1 Gq Gr : World → Value → Prop} {b0 b1 b2 b3 b4 b5 b6 b7 b8 b9 b10 : Bool} {s8 s9 s17 s18 s19 s20 s21 s22 s23 : Value} {w w' : World}
theorem QuoJ.start (h : Below B W0 w) (hs : B ≤ w.heap.size) : QuoJ k B W0 vx vy G1 Gq Gr false false false false false false false false false false false s8 s9 s17 s18 s19 s20 s21 s22 s23 w :=
  ⟨h, hs, nofun, nofun, nofun, nofun, nofun, nofun, nofun, nofun, nofun, nofun⟩
theorem QuoJ.load0 (h : QuoJ k B W0 vx vy G1 Gq Gr b0 b1 b2 b3 b4 b5 b6 b7 b8 b9 b10 s8 s9 s17 s18 s19 s20 s21 s22 s23 w) : QuoJ k B W0 vx vy G1 Gq Gr true b1 b2 b3 b4 b5 b6 b7 b8 b9 b10 s8 s9 s17 vx s19 s20 s21 s22 s23 w :=
  ⟨h.bel, h.siz, fun _ => rfl, h.c1, h.l2, h.c3, h.m4, h.e5, h.e6, h.p7, h.p8, h.ne⟩
theorem QuoJ.load2 (h : QuoJ k B W0 vx vy G1 Gq Gr b0 b1 b2 b3 b4 b5 b6 b7 b8 b9 b10 s8 s9 s17 s18 s19 s20 s21 s22 s23 w) : QuoJ k B W0 vx vy G1 Gq Gr b0 b1 true b3 b4 b5 b6 b7 b8 b9 b10 s8 s9 s17 s18 s19 vy s21 s22 s23 w :=
  ⟨h.bel, h.siz, h.l0, h.c1, fun _ => rfl, h.c3, h.m4, h.e5, h.e6, h.p7, h.p8, h.ne⟩
def KeepG (k : IntKind) (G : World → Value → Prop) : Prop := ∀ w w' v, Keeps k w w' → G w v → G w' v
theorem two_keep (hq : KeepG k Gq) (hr : KeepG k Gr) {s : Value} (hk : Keeps k w w') (h : ∃ u v, s = .tuple #[u, v] ∧ Gq w u ∧ Gr w v) : ∃ u v, s = .tuple #[u, v] ∧ Gq w' u ∧ Gr w' v := by
  obtain ⟨u, v, e, a, b⟩ := h
  exact ⟨u, v, e, hq _ _ _ hk a, hr _ _ _ hk b⟩
theorem QuoJ.call1 (h : QuoJ k B W0 vx vy G1 Gq Gr b0 b1 b2 b3 b4 b5 b6 b7 b8 b9 b10 s8 s9 s17 s18 s19 s20 s21 s22 s23 w) (hq : KeepG k Gq) (hr : KeepG k Gr) (hb : Below w.heap.size w w') {v : Value} (hv : G1 w' v) :
    QuoJ k B W0 vx vy G1 Gq Gr b0 true b2 b3 b4 b5 b6 b7 b8 b9 b10 s8 s9 s17 s18 v s20 s21 s22 s23 w' := by
  have hk : Keeps k w w' := Keeps.below hb (Nat.le_refl _)
  exact ⟨h.bel.trans (hb.mono h.siz), Nat.le_trans h.siz hb.size, h.l0, fun _ => hv, h.l2, fun e => two_keep hq hr hk (h.c3 e), fun e => two_keep hq hr hk (h.m4 e), fun e => hq _ _ _ hk (h.e5 e), fun e => hr _ _ _ hk (h.e6 e), fun e => (h.p7 e).below hb, fun e => (h.p8 e).below hb, h.ne⟩
theorem QuoJ.call3 (h : QuoJ k B W0 vx vy G1 Gq Gr b0 b1 b2 b3 b4 b5 b6 b7 b8 b9 b10 s8 s9 s17 s18 s19 s20 s21 s22 s23 w) (h1 : KeepG k G1) (hq : KeepG k Gq) (hr : KeepG k Gr) (hb : Below w.heap.size w w') {u v : Value} (hu : Gq w' u) (hv : Gr w' v) :
    QuoJ k B W0 vx vy G1 Gq Gr b0 b1 b2 true b4 b5 b6 b7 b8 b9 b10 s8 s9 s17 s18 s19 s20 (.tuple #[u, v]) s22 s23 w' := by
  have hk : Keeps k w w' := Keeps.below hb (Nat.le_refl _)
  exact ⟨h.bel.trans (hb.mono h.siz), Nat.le_trans h.siz hb.size, h.l0, fun e => h1 _ _ _ hk (h.c1 e), h.l2, fun _ => ⟨u, v, rfl, hu, hv⟩, fun e => two_keep hq hr hk (h.m4 e), fun e => hq _ _ _ hk (h.e5 e), fun e => hr _ _ _ hk (h.e6 e), fun e => (h.p7 e).below hb, fun e => (h.p8 e).below hb, h.ne⟩
theorem QuoJ.move4 (h : QuoJ k B W0 vx vy G1 Gq Gr b0 b1 b2 true b4 b5 b6 b7 b8 b9 b10 s8 s9 s17 s18 s19 s20 s21 s22 s23 w) : QuoJ k B W0 vx vy G1 Gq Gr b0 b1 b2 true true b5 b6 b7 b8 b9 b10 s8 s9 s21 s18 s19 s20 s21 s22 s23 w :=
  ⟨h.bel, h.siz, h.l0, h.c1, h.l2, h.c3, fun _ => h.c3 rfl, h.e5, h.e6, h.p7, h.p8, h.ne⟩
theorem QuoJ.ext5 {u : Value} (h : QuoJ k B W0 vx vy G1 Gq Gr b0 b1 b2 b3 b4 b5 b6 b7 b8 false b10 s8 s9 s17 s18 s19 s20 s21 s22 s23 w) (hu : Gq w u) : QuoJ k B W0 vx vy G1 Gq Gr b0 b1 b2 b3 b4 true b6 b7 b8 false b10 s8 s9 s17 s18 s19 s20 s21 u s23 w :=
  ⟨h.bel, h.siz, h.l0, h.c1, h.l2, h.c3, h.m4, fun _ => hu, h.e6, fun e => (h.p7 e).fresh, h.p8, h.ne⟩
theorem QuoJ.ext6 {v : Value} (h : QuoJ k B W0 vx vy G1 Gq Gr b0 b1 b2 b3 b4 b5 b6 b7 b8 b9 false s8 s9 s17 s18 s19 s20 s21 s22 s23 w) (hv : Gr w v) : QuoJ k B W0 vx vy G1 Gq Gr b0 b1 b2 b3 b4 b5 true b7 b8 b9 false s8 s9 s17 s18 s19 s20 s21 s22 v w :=
  ⟨h.bel, h.siz, h.l0, h.c1, h.l2, h.c3, h.m4, h.e5, fun _ => hv, h.p7, fun e => (h.p8 e).fresh, h.ne⟩
theorem QuoJ.alloc7 (h : QuoJ k B W0 vx vy G1 Gq Gr b0 b1 b2 b3 b4 b5 b6 b7 b8 false b10 s8 s9 s17 s18 s19 s20 s21 s22 s23 w) (h1 : KeepG k G1) (hq : KeepG k Gq) (hr : KeepG k Gr) (T : TypeId) :
    QuoJ k B W0 vx vy G1 Gq Gr b0 b1 b2 b3 b4 b5 b6 true b8 false b10 (.pointer (some ⟨w.heap.size, 0, none⟩)) s9 s17 s18 s19 s20 s21 s22 s23 (w.alloc (.cells #[.bool false, .slice none 0 0] T)) := by
  have hb := (Below.refl w.heap.size w).alloc (Nat.le_refl _) (.cells #[.bool false, .slice none 0 0] T)
  have hk := Keeps.below (k := k) hb (Nat.le_refl _)
  exact ⟨h.bel.alloc h.siz _, by simp; have := h.siz; omega, h.l0, fun e => h1 _ _ _ hk (h.c1 e), h.l2, fun e => two_keep hq hr hk (h.c3 e), fun e => two_keep hq hr hk (h.m4 e), fun e => hq _ _ _ hk (h.e5 e), fun e => hr _ _ _ hk (h.e6 e), fun _ => ptr_new k B w T _ h.siz, fun e => (h.p8 e).below hb, fun _ e => (ptr_ne_new (h.p8 e)).symm⟩
theorem QuoJ.alloc8 (h : QuoJ k B W0 vx vy G1 Gq Gr b0 b1 b2 b3 b4 b5 b6 b7 b8 b9 false s8 s9 s17 s18 s19 s20 s21 s22 s23 w) (h1 : KeepG k G1) (hq : KeepG k Gq) (hr : KeepG k Gr) (T : TypeId) :
    QuoJ k B W0 vx vy G1 Gq Gr b0 b1 b2 b3 b4 b5 b6 b7 true b9 false s8 (.pointer (some ⟨w.heap.size, 0, none⟩)) s17 s18 s19 s20 s21 s22 s23 (w.alloc (.cells #[.bool false, .slice none 0 0] T)) := by
  have hb := (Below.refl w.heap.size w).alloc (Nat.le_refl _) (.cells #[.bool false, .slice none 0 0] T)
  have hk := Keeps.below (k := k) hb (Nat.le_refl _)
  exact ⟨h.bel.alloc h.siz _, by simp; have := h.siz; omega, h.l0, fun e => h1 _ _ _ hk (h.c1 e), h.l2, fun e => two_keep hq hr hk (h.c3 e), fun e => two_keep hq hr hk (h.m4 e), fun e => hq _ _ _ hk (h.e5 e), fun e => hr _ _ _ hk (h.e6 e), fun e => (h.p7 e).below hb, fun _ => ptr_new k B w T _ h.siz, fun e _ => ptr_ne_new (h.p7 e)⟩
theorem QuoJ.store9 {p : Nat} {u0 u1 : Value} (h : QuoJ k B W0 vx vy G1 Gq Gr b0 b1 b2 b3 b4 b5 b6 true b8 b9 b10 (.pointer (some ⟨p, 0, none⟩)) s9 s17 s18 s19 s20 s21 (.agg #[u0, u1]) s23 w) (h1 : KeepG k G1) (hq : KeepG k Gq) (hr : KeepG k Gr) (m0 : ∀ x, u0 ≠ .int k x) (m1 : ∀ x, u1 ≠ .int k x) :
    QuoJ k B W0 vx vy G1 Gq Gr b0 b1 b2 b3 b4 b5 b6 true b8 true b10 (.pointer (some ⟨p, 0, none⟩)) s9 s17 s18 s19 s20 s21 (.agg #[u0, u1]) s23 ((w.setCell ⟨p, 0, none⟩ u0).setCell ⟨p, 1, none⟩ u1) := by
  obtain ⟨p', v0, v1, e, hp, c0, c1, f0, f1, n0, n1, _⟩ := h.p7 rfl
  cases e
  have hk := keeps_two c0 c1 n0 n1 u0 u1
  have ht := two_cells c0 c1 u0 u1
  exact ⟨(h.bel.setCell hp _).setCell hp _, by simpa using h.siz, h.l0, fun e => h1 _ _ _ hk (h.c1 e), h.l2, fun e => two_keep hq hr hk (h.c3 e), fun e => two_keep hq hr hk (h.m4 e), fun e => hq _ _ _ hk (h.e5 e), fun e => hr _ _ _ hk (h.e6 e), fun _ => ⟨p, u0, u1, rfl, hp, ht.1, ht.2, by simpa using f0, by simpa using f1, m0, m1, fun _ => rfl⟩, fun e => (h.p8 e).other (h.ne rfl e).symm _ _, h.ne⟩
theorem QuoJ.store10 {p : Nat} {u0 u1 : Value} (h : QuoJ k B W0 vx vy G1 Gq Gr b0 b1 b2 b3 b4 b5 b6 b7 true b9 b10 s8 (.pointer (some ⟨p, 0, none⟩)) s17 s18 s19 s20 s21 s22 (.agg #[u0, u1]) w) (h1 : KeepG k G1) (hq : KeepG k Gq) (hr : KeepG k Gr) (m0 : ∀ x, u0 ≠ .int k x) (m1 : ∀ x, u1 ≠ .int k x) :
    QuoJ k B W0 vx vy G1 Gq Gr b0 b1 b2 b3 b4 b5 b6 b7 true b9 true s8 (.pointer (some ⟨p, 0, none⟩)) s17 s18 s19 s20 s21 s22 (.agg #[u0, u1]) ((w.setCell ⟨p, 0, none⟩ u0).setCell ⟨p, 1, none⟩ u1) := by
  obtain ⟨p', v0, v1, e, hp, c0, c1, f0, f1, n0, n1, _⟩ := h.p8 rfl
  cases e
  have hk := keeps_two c0 c1 n0 n1 u0 u1
  have ht := two_cells c0 c1 u0 u1
  exact ⟨(h.bel.setCell hp _).setCell hp _, by simpa using h.siz, h.l0, fun e => h1 _ _ _ hk (h.c1 e), h.l2, fun e => two_keep hq hr hk (h.c3 e), fun e => two_keep hq hr hk (h.m4 e), fun e => hq _ _ _ hk (h.e5 e), fun e => hr _ _ _ hk (h.e6 e), fun e => (h.p7 e).other (h.ne e rfl) _ _, fun _ => ⟨p, u0, u1, rfl, hp, ht.1, ht.2, by simpa using f0, by simpa using f1, m0, m1, fun _ => rfl⟩, h.ne⟩
end
/-- The blocks from lo to below B hold what they held. -/
structure Kq (B lo : Nat) (w w' : World) : Prop where
  cell : ∀ a : Addr, lo ≤ a.block → a.block < B → w'.cell? a = w.cell? a
theorem Kq.of_below {B lo : Nat} {w w' : World} (h : Below B w w') : Kq B lo w w' := ⟨fun _ _ ha => h.cell ha⟩
theorem Kq.set {B lo : Nat} {w w' : World} (h : Kq B lo w w') {a : Addr} (ha : a.block < lo) (u : Value) : Kq B lo w (w'.setCell a u) :=
  ⟨fun b hb hB => (World.cell?_setCell_other w' a b u (by rintro rfl; omega)).trans (h.cell b hb hB)⟩
theorem it_keepG (z : Int) (K : Nat) : KeepG .u64 (fun w v => It w v z K) := fun _ _ _ hk h => it_keeps hk h
end Go.Proofs.YtilpkocmdpofpaaGreatDoor
