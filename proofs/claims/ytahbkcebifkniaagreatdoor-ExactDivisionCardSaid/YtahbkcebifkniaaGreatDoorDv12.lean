/- exact: divided and whole: fractions of integers. exact.Sign, exact.Cmp. exact.Make: the ratio of two integers in lowest terms, or ErrZero. exact.Make where the divisor is 0; exact.Whole. The document's own integers: cut, digit, order. Digits to the base 65536, the lowest first. The document's own integers: few, even, value. The document's own integers: naturals as digits; half. The document's own integers: sum. The document's own integers: made, Sign, Neg. The document's own integers: less, double, split. -/
import Derived.Test.YtahbkcebifkniaaGreatDoorDv11
import Derived.Test.YtahbkcebifkniaaGreatDoorDv10
import Derived.Test.YtahbkcebifkniaaGreatDoorDv04
import Derived.Test.YtahbkcebifkniaaGreatDoorDv02
import Derived.Test.YtahbkcebifkniaaGreatDoorDv03
/- exact: divided and whole: fractions of integers. -/
namespace Go.Proofs.YtahbkcebifkniaaGreatDoor
open Go.RowKit

theorem nt_keeps {n : Int} {K : Nat} {w w' : World} {v : Value} (hk : Keeps .u64 w w') (h : Nt w v n K) : Nt w' v n K := by
  obtain ⟨ao, c, L, rfl, h⟩ := h
  exact ⟨ao, c, L, rfl, h.rd.keeps hk, h.dig, h.nrm, h.eq, h.le⟩

set_option maxRecDepth 100000 in
set_option maxHeartbeats 800000 in
theorem divided_any (u v : Value) (x y : Int) (K : Nat) (w : World) (hu : It w u x K) (hv : It w v y K) :
    Calls Tryz.prog 66 #[u, v] w fun e w' => ∃ f, e = .returned f ∧ Ft w' f (sgn (decide (x < 0) != decide (y < 0)) (x.natAbs : Int)) (y.natAbs : Int) K ∧ Below w.heap.size w w' := by
  obtain ⟨xb, xo, xm, xc, rfl, Hx, Hxs, Hxb⟩ := It.opened hu
  obtain ⟨yb, yo, ym, yc, rfl, Hy, Hys, Hyb⟩ := It.opened hv
  rw [← Hxb.out, ← Hyb.out]
  clear hu hv
  obtain ⟨W0, hW0⟩ : ∃ W0, W0 = (((w.alloc (.cells #[.bool xb, .slice xo xm xc] 51)).alloc (.cells #[.bool yb, .slice yo ym yc] 51)).alloc (.cells #[.bool false, .slice none 0 0, .slice none 0 0] 66)) := ⟨_, rfl⟩
  have hB0 : Below w.heap.size w W0 := by rw [hW0]; exact (((Below.refl _ _).alloc (Nat.le_refl _) _).alloc (by simp) _).alloc (by simp <;> omega) _
  have hz0 : W0.heap.size = w.heap.size + 3 := by rw [hW0]; simp
  have HS : Hid (∀ w', Below (w.heap.size + 2) W0 w' → w'.cell? ⟨w.heap.size, 0, none⟩ = some (.bool xb) ∧ w'.cell? ⟨w.heap.size, 1, none⟩ = some (.slice xo xm xc) ∧ w'.cell? ⟨w.heap.size + 1, 0, none⟩ = some (.bool yb) ∧ w'.cell? ⟨w.heap.size + 1, 1, none⟩ = some (.slice yo ym yc)) := hid (fun w' hb => by
    refine ⟨?_, ?_, ?_, ?_⟩ <;> (rw [hb.cell (by simp <;> omega), hW0]; simp [go_sem]))
  have HT : Hid (∀ w', Below (w.heap.size + 3) W0 w' → (w'.cell? ⟨w.heap.size + 2, 0, none⟩ = some (.bool false) ∧ w'.cell? ⟨w.heap.size + 2, 1, none⟩ = some (.slice none 0 0) ∧ w'.cell? ⟨w.heap.size + 2, 2, none⟩ = some (.slice none 0 0)) ∧ (w'.frozen? ⟨w.heap.size + 2, 0, none⟩ = false ∧ w'.frozen? ⟨w.heap.size + 2, 1, none⟩ = false ∧ w'.frozen? ⟨w.heap.size + 2, 2, none⟩ = false)) := hid (fun w' hb => by
    refine ⟨⟨?_, ?_, ?_⟩, ?_, ?_, ?_⟩ <;> (first | (rw [hb.cell (by simp <;> omega), hW0]; simp [go_sem]; done) | (rw [hb.frozen (by simp <;> omega), hW0]; simp [go_sem]; done)))
  have HB0 := hid hB0; have Hz0 := hid hz0; have HW := hid hW0
  clear hW0
  go_enter Tryz.func66, Tryz.ntmps66
  go_upto_region 1 with (fail)
  rw [← HW.out]
  obtain ⟨k0, k1, k2, k3⟩ := HS.out _ (Below.refl _ _)
  clear k0 k1 k2 k3
  go_region_held3 (fun w' => w'.cell? ⟨w.heap.size, 0, none⟩ = some (.bool xb) ∧ w'.cell? ⟨w.heap.size, 1, none⟩ = some (.slice xo xm xc) ∧ w'.cell? ⟨w.heap.size + 1, 0, none⟩ = some (.bool yb) ∧ w'.cell? ⟨w.heap.size + 1, 1, none⟩ = some (.slice yo ym yc)) ((refine HS.out _ ?_; repeat (first | assumption | exact Below.refl _ _ | exact (Below.refl _ _).drew | exact Below.drew (by assumption) | (refine Below.setCell ?_ (by simp) _)))) (first
    | (go_at_call 38; refine (signed_any (xb != yb) _ _ K _ (Hxs.out _ hB0.drew)).mono ?_; rintro e w2 ⟨_, rfl, hv2, hb2⟩; obtain ⟨b2, o2, m2, c2, rfl, H2, H2s, H2b⟩ := It.opened hv2; have hB2 : Below (w.heap.size + 3) W0 w2 := ((Below.refl _ _).drew).trans (hb2.mono (by simp; omega)); have hB2s : Below (w.heap.size + 2) W0 w2 := hB2.mono (by omega); obtain ⟨⟨hr0, hr1, hr2⟩, hf0, hf1, hf2⟩ := HT.out _ hB2))
  go_wp2
  have hbel : Below w.heap.size w w2 := hB0.trans (hB2.mono (by omega))
  refine bodyPost_ret (v := .agg #[.bool b2, .slice o2 m2 c2, .slice yo ym yc]) (by simp [results, Tryz.results66, go_sem, hr0, hr1, hr2]) rfl ⟨_, rfl, ?_, ((hbel.setCell (by simp <;> omega) _).setCell (by simp <;> omega) _).setCell (by simp <;> omega) _⟩
  refine ⟨.slice o2 m2 c2, .slice yo ym yc, by rw [H2b.out], ?_, ?_⟩
  · exact nt_keeps (((((Keeps.refl _ _).setCell (u := .bool false) hr0 (fun x h => (by cases h)) _).setCell (u := .slice none 0 0) (by simp [go_sem, hr1]) (fun x h => (by cases h)) _).setCell (u := .slice none 0 0) (by simp [go_sem, hr2]) (fun x h => (by cases h)) _)) (H2s.out _ (Below.refl _ _))
  · exact nt_keeps (((((Keeps.refl _ _).setCell (u := .bool false) hr0 (fun x h => (by cases h)) _).setCell (u := .slice none 0 0) (by simp [go_sem, hr1]) (fun x h => (by cases h)) _).setCell (u := .slice none 0 0) (by simp [go_sem, hr2]) (fun x h => (by cases h)) _)) (Hys.out _ hbel)

set_option maxRecDepth 100000 in
set_option maxHeartbeats 800000 in
theorem whole_any (u : Value) (x : Int) (K : Nat) (w : World) (hu : It w u x K) (hK : 1 ≤ K) :
    Calls Tryz.prog 65 #[u] w fun e w' => ∃ f, e = .returned f ∧ Ft w' f x 1 K ∧ Below w.heap.size w w' := by
  obtain ⟨xb, xo, xm, xc, rfl, Hx, Hxs, Hxb⟩ := It.opened hu
  clear hu
  obtain ⟨W0, hW0⟩ : ∃ W0, W0 = ((w.alloc (.cells #[.bool xb, .slice xo xm xc] 51)).alloc (.cells #[.bool false, .slice none 0 0, .slice none 0 0] 66)) := ⟨_, rfl⟩
  have hB0 : Below w.heap.size w W0 := by rw [hW0]; exact ((Below.refl _ _).alloc (Nat.le_refl _) _).alloc (by simp) _
  have hz0 : W0.heap.size = w.heap.size + 2 := by rw [hW0]; simp
  have HS : Hid (∀ w', Below (w.heap.size + 1) W0 w' → w'.cell? ⟨w.heap.size, 0, none⟩ = some (.bool xb) ∧ w'.cell? ⟨w.heap.size, 1, none⟩ = some (.slice xo xm xc)) := hid (fun w' hb => by
    refine ⟨?_, ?_⟩ <;> (rw [hb.cell (by simp <;> omega), hW0]; simp [go_sem]))
  have HT : Hid (∀ w', Below (w.heap.size + 2) W0 w' → (w'.cell? ⟨w.heap.size + 1, 0, none⟩ = some (.bool false) ∧ w'.cell? ⟨w.heap.size + 1, 1, none⟩ = some (.slice none 0 0) ∧ w'.cell? ⟨w.heap.size + 1, 2, none⟩ = some (.slice none 0 0)) ∧ (w'.frozen? ⟨w.heap.size + 1, 0, none⟩ = false ∧ w'.frozen? ⟨w.heap.size + 1, 1, none⟩ = false ∧ w'.frozen? ⟨w.heap.size + 1, 2, none⟩ = false)) := hid (fun w' hb => by
    refine ⟨⟨?_, ?_, ?_⟩, ?_, ?_, ?_⟩ <;> (first | (rw [hb.cell (by simp <;> omega), hW0]; simp [go_sem]; done) | (rw [hb.frozen (by simp <;> omega), hW0]; simp [go_sem]; done)))
  have HB0 := hid hB0; have Hz0 := hid hz0; have HW := hid hW0
  clear hW0
  go_enter Tryz.func65, Tryz.ntmps65
  go_upto_region 1 with (fail)
  rw [← HW.out]
  obtain ⟨k0, k1⟩ := HS.out _ (Below.refl _ _)
  obtain ⟨⟨hr0, hr1, hr2⟩, hf0, hf1, hf2⟩ := HT.out _ (Below.refl _ _)
  go_wp2
  obtain ⟨W1, hW1⟩ : ∃ W1, W1 = (((W0.setCell ⟨w.heap.size + 1, 0, none⟩ (.bool xb)).setCell ⟨w.heap.size + 1, 1, none⟩ (.slice xo xm xc)).setCell ⟨w.heap.size + 1, 2, none⟩ (.slice (some ⟨w.heap.size + 2, 0, none⟩) 1 1)) := ⟨_, rfl⟩
  have hk : Keeps .u64 W0 W1 := by rw [hW1]; exact (((((Keeps.refl _ _).setCell (u := .bool false) hr0 (fun x h => (by cases h)) _).setCell (u := .slice none 0 0) (by simp [go_sem, hr1]) (fun x h => (by cases h)) _).setCell (u := .slice none 0 0) (by simp [go_sem, hr2]) (fun x h => (by cases h)) _))
  have hz1 : W1.heap.size = w.heap.size + 2 := by rw [hW1]; simp; omega
  have hb1 : Below w.heap.size w W1 := by rw [hW1]; exact ((hB0.setCell (by simp <;> omega) _).setCell (by simp <;> omega) _).setCell (by simp <;> omega) _
  have hc0 : W1.cell? ⟨w.heap.size + 1, 0, none⟩ = some (.bool xb) := by rw [hW1]; simp [go_sem, hr0]
  have hc1 : W1.cell? ⟨w.heap.size + 1, 1, none⟩ = some (.slice xo xm xc) := by rw [hW1]; simp [go_sem, hr1]
  have hc2 : W1.cell? ⟨w.heap.size + 1, 2, none⟩ = some (.slice (some ⟨w.heap.size + 2, 0, none⟩) 1 1) := by rw [hW1]; simp [go_sem, hr2]
  rw [← hW1]
  have hal : Below W1.heap.size W1 (W1.alloc (.cells #[.int .u64 1] 61 (0, 0))) := (Below.refl _ _).alloc (Nat.le_refl _) _
  have hd0 := (hal.cell (p := ⟨w.heap.size + 1, 0, none⟩) (by simp; omega)).trans hc0
  have hd1 := (hal.cell (p := ⟨w.heap.size + 1, 1, none⟩) (by simp; omega)).trans hc1
  have hd2 := (hal.cell (p := ⟨w.heap.size + 1, 2, none⟩) (by simp; omega)).trans hc2
  refine bodyPost_ret (v := .agg #[.bool xb, .slice xo xm xc, .slice (some ⟨w.heap.size + 2, 0, none⟩) 1 1]) (by simp [results, Tryz.results65, go_sem, hd0, hd1, hd2]) rfl ⟨_, rfl, ?_, hb1.alloc (by omega) _⟩
  refine ⟨.slice xo xm xc, .slice (some ⟨w.heap.size + 2, 0, none⟩) 1 1, by rw [Hxb.out], ?_, ?_⟩
  · exact (nt_keeps hk (Hxs.out _ hB0)).below hal (Nat.le_refl _)
  · have h1 := (one_row W1).mono hK
    rw [hz1] at h1
    exact h1
end Go.Proofs.YtahbkcebifkniaaGreatDoor

/- exact.Sign, exact.Cmp. -/
namespace Go.Proofs.YtahbkcebifkniaaGreatDoor
open Go.RowKit

theorem Nt.zero {w : World} {ao : Option Addr} {m c : Nat} {n : Int} {K : Nat} (h : Nt w (.slice ao m c) n K) : m = 0 ↔ n = 0 := by
  obtain ⟨ao, c, L, e, h⟩ := h
  cases e
  exact h.zero_iff

set_option maxHeartbeats 1000000 in
theorem sign_any (v : Value) (z : Int) (K : Nat) (w : World) (h : It w v z K) :
    Calls Tryz.prog 33 #[v] w fun e w' => e = .returned (.int .i64 (cmpI z 0)) ∧ Below w.heap.size w w' := by
  obtain ⟨xb, xo, xm, xc, rfl, Hx, Hxs, Hxb⟩ := It.opened h
  have hz := (Hxs.out w (Below.refl _ _)).zero
  by_cases h0 : z = 0
  · obtain rfl : xm = 0 := hz.2 (by omega)
    have e : cmpI z 0 = 0 := by rw [h0]; rfl
    rw [e]
    clear hz h h0 e
    go_enter Tryz.func33, Tryz.ntmps33
    go_wp2
    go_ret
    exact ⟨rfl, (Below.refl _ _).alloc (Nat.le_refl _) _⟩
  · have hm : ((xm : Int) == 0) = false := by rw [beq_eq_false_iff_ne]; have := hz.1; omega
    by_cases h1 : z < 0
    · obtain rfl : xb = true := by rw [Hxb.out]; exact decide_eq_true h1
      rw [cmpI_lt h1]
      clear hz h h0 h1
      go_enter Tryz.func33, Tryz.ntmps33
      go_wp2
      go_ret
      exact ⟨rfl, (Below.refl _ _).alloc (Nat.le_refl _) _⟩
    · obtain rfl : xb = false := by rw [Hxb.out]; exact decide_eq_false h1
      rw [cmpI_gt (show 0 < z by omega)]
      clear hz h h0 h1
      go_enter Tryz.func33, Tryz.ntmps33
      go_wp2
      go_ret
      exact ⟨rfl, (Below.refl _ _).alloc (Nat.le_refl _) _⟩

set_option maxHeartbeats 1000000 in
theorem Sign_any (v : Value) (z : Int) (K : Nat) (w : World) (h : Ai w v z K) (hK : K ≤ 1073741824) :
    Calls Tryz.prog 11 #[v] w fun e w' => e = .returned (.int .i64 (cmpI z 0)) ∧ Below w.heap.size w w' := by
  obtain ⟨xb, xo, xm, xc, rfl, Hx⟩ := Ai.opened h
  go_enter Tryz.func11, Tryz.ntmps11
  go_wp2_with fail
  refine (read_any _ z K _ (Hx.out _ ((Below.refl _ _).alloc (Nat.le_refl _) _)) hK).mono ?_
  rintro e w1 ⟨v1, rfl, hv1, hb1⟩
  go_wp2_with fail
  refine (sign_any _ z _ _ hv1).mono ?_
  rintro e w2 ⟨rfl, hb2⟩
  go_wp2
  go_ret
  exact ⟨rfl, (((Below.refl w.heap.size w).alloc (Nat.le_refl _) _).trans (hb1.mono (by simp))).trans (hb2.mono (by have := hb1.size; simp at this; omega))⟩

set_option maxHeartbeats 1000000 in
/-- The closure that compares the sizes: the two integers lie in the blocks p and q. -/
theorem closure_any (p q : Nat) (xo yo : Option Addr) (xm xc ym yc : Nat) (a b : Int) (Ka Kb : Nat) (w : World)
    (hp1 : w.cell? ⟨p, 1, none⟩ = some (.slice xo xm xc)) (hq1 : w.cell? ⟨q, 1, none⟩ = some (.slice yo ym yc))
    (ha : Nt w (.slice xo xm xc) a Ka) (hb : Nt w (.slice yo ym yc) b Kb) :
    Calls Tryz.prog 35 #[.pointer (some ⟨p, 0, none⟩), .pointer (some ⟨q, 0, none⟩)] w fun e w' => ∃ nq, e = .returned (.int .i64 (cmpI a b)) ∧ w' = w.drewN nq := by
  have HC := hid (compare_any _ _ a b Ka Kb w ha hb)
  clear ha hb
  go_enter Tryz.func35, Tryz.ntmps35
  go_wp2_with fail
  refine HC.out.mono ?_
  rintro e w' ⟨nq, rfl, rfl⟩
  go_wp2
  go_ret
  exact ⟨nq, rfl, rfl⟩

set_option maxHeartbeats 1000000 in
theorem order_ne (a b : Int) (f : Value) (w : World) (hne : a ≠ b) :
    Calls Tryz.prog 34 #[.int .i64 a, .int .i64 b, f] w fun e w' => e = .returned (.int .i64 (cmpI a b)) ∧ w' = w := by
  have hb : ((a : Int) != b) = true := by rw [bne_iff_ne]; exact hne
  go_enter Tryz.func34, Tryz.ntmps34
  go_wp2_with (go_at_call 56; refine (cmpInt _ _ _).mono ?_; rintro e w' ⟨rfl, rfl⟩)
  go_ret
  exact ⟨rfl, rfl⟩

theorem cmpI_bd (a b : Int) : -1 ≤ cmpI a b ∧ cmpI a b ≤ 1 := by unfold cmpI; split <;> (try split) <;> decide

set_option maxHeartbeats 1000000 in
theorem order_eq (s : Int) (hs : -1 ≤ s ∧ s ≤ 1) (p q : Nat) (xo yo : Option Addr) (xm xc ym yc : Nat) (a b : Int) (Ka Kb : Nat) (w : World)
    (hp1 : w.cell? ⟨p, 1, none⟩ = some (.slice xo xm xc)) (hq1 : w.cell? ⟨q, 1, none⟩ = some (.slice yo ym yc))
    (ha : Nt w (.slice xo xm xc) a Ka) (hb : Nt w (.slice yo ym yc) b Kb) :
    Calls Tryz.prog 34 #[.int .i64 s, .int .i64 s, .func (.func 35) #[] #[.pointer (some ⟨p, 0, none⟩), .pointer (some ⟨q, 0, none⟩)]] w fun e w' => ∃ nq, e = .returned (.int .i64 (s * cmpI a b)) ∧ w' = w.drewN nq := by
  have HC := hid (closure_any p q xo yo xm xc ym yc a b Ka Kb w hp1 hq1 ha hb)
  have hc := cmpI_bd a b
  obtain ⟨c, hce⟩ : ∃ c, c = cmpI a b := ⟨_, rfl⟩
  rw [← hce] at hc HC ⊢
  clear ha hb hp1 hq1 hce
  rcases (show s = -1 ∨ s = 0 ∨ s = 1 by omega) with rfl | rfl | rfl
  all_goals
    clear hs
    go_enter Tryz.func34, Tryz.ntmps34
    go_wp2_with (go_at_call 35; refine HC.out.mono ?_; rintro e w' ⟨nq, rfl, rfl⟩)
    go_ret
    exact ⟨nq, by simp, rfl⟩

end Go.Proofs.YtahbkcebifkniaaGreatDoor

/- exact.Make: the ratio of two integers in lowest terms, or ErrZero. -/
namespace Go.Proofs.YtahbkcebifkniaaGreatDoor
open Go.RowKit

/-- Cells below B that lie in another block than g are as they were. -/
structure Kp (B g : Nat) (w w' : World) : Prop where
  cell : ∀ a : Addr, a.block < B → a.block ≠ g → w'.cell? a = w.cell? a
theorem Kp.of_below {B g : Nat} {w w' : World} (h : Below B w w') : Kp B g w w' := ⟨fun _ ha _ => h.cell ha⟩
theorem Kp.set {B g : Nat} {w w' : World} (h : Kp B g w w') {a : Addr} (ha : a.block = g) (u : Value) : Kp B g w (w'.setCell a u) := by
  refine ⟨fun p hp hne => ?_⟩
  rw [World.cell?_setCell_other w' a p u (by rintro rfl; exact hne ha)]
  exact h.cell p hp hne
theorem FrA.opened {w0 w : World} {v : Value} {z : Int} {K : Nat} (h : FrA w0 w v z K) : ∃ b ao m c, v = .agg #[.bool b, .slice ao m c] ∧ Hid (FrA w0 w (.agg #[.bool b, .slice ao m c]) z K) := by
  obtain ⟨s, rfl, h⟩ := h
  obtain ⟨ao, m, c, rfl, H⟩ := FrW.opened h
  exact ⟨_, ao, m, c, rfl, hid ⟨_, rfl, H.out⟩⟩
theorem FrA.base {w0 w1 w : World} {v : Value} {z : Int} {K : Nat} (h : FrA w1 w v z K) (hb : w0.heap.size ≤ w1.heap.size) : FrA w0 w v z K := by
  obtain ⟨s, rfl, h⟩ := h
  exact ⟨s, rfl, h.base hb⟩
theorem FrR.opened {w0 w : World} {v : Value} {x y : Int} {K : Nat} (h : FrR w0 w v x y K) : ∃ b1 o1 m1 c1 b2 o2 m2 c2, v = .agg #[.bool b1, .slice o1 m1 c1, .bool b2, .slice o2 m2 c2] ∧ Hid (FrA w0 w (.agg #[.bool b1, .slice o1 m1 c1]) x K) ∧ Hid (FrA w0 w (.agg #[.bool b2, .slice o2 m2 c2]) y K) := by
  obtain ⟨_, _, _, _, rfl, h1, h2⟩ := h
  obtain ⟨b1, o1, m1, c1, e1, H1⟩ := FrA.opened h1
  obtain ⟨b2, o2, m2, c2, e2, H2⟩ := FrA.opened h2
  injection e1 with e1
  injection e2 with e2
  simp at e1 e2
  obtain ⟨rfl, rfl⟩ := e1
  obtain ⟨rfl, rfl⟩ := e2
  exact ⟨b1, o1, m1, c1, b2, o2, m2, c2, rfl, H1, H2⟩

set_option maxRecDepth 100000 in
set_option maxHeartbeats 1000000 in
theorem Make_any (u v : Value) (x y : Int) (K : Nat) (w : World) (hu : Ai w u x K) (hv : Ai w v y K) (hy : y ≠ 0) (hK : K ≤ 1073741823) :
    Calls Tryz.prog 72 #[u, v] w fun e w' => ∃ f, e = .returned (.tuple #[f, .int .i64 0]) ∧ FrR w w' f (lowN (sgn (decide (x < 0) != decide (y < 0)) (x.natAbs : Int)) (y.natAbs : Int)) (lowD (sgn (decide (x < 0) != decide (y < 0)) (x.natAbs : Int)) (y.natAbs : Int)) (2 * ((K + 1) / 2)) ∧ Below w.heap.size w w' := by
  obtain ⟨xb, xo, xm, xc, rfl, Hx⟩ := Ai.opened hu
  obtain ⟨yb, yo, ym, yc, rfl, Hy⟩ := Ai.opened hv
  clear hu hv
  obtain ⟨W0, hW0⟩ : ∃ W0, W0 = (((w.alloc (.cells #[.bool xb, .slice xo xm xc] 24)).alloc (.cells #[.bool yb, .slice yo ym yc] 24)).alloc (.cells #[.bool false, .slice none 0 0, .bool false, .slice none 0 0] 37)) := ⟨_, rfl⟩
  have hB0 : Below w.heap.size w W0 := by rw [hW0]; exact (((Below.refl _ _).alloc (Nat.le_refl _) _).alloc (by simp) _).alloc (by simp <;> omega) _
  have hz0 : W0.heap.size = w.heap.size + 3 := by rw [hW0]; simp
  have HS : Hid (∀ w', Below (w.heap.size + 2) W0 w' → w'.cell? ⟨w.heap.size, 0, none⟩ = some (.bool xb) ∧ w'.cell? ⟨w.heap.size, 1, none⟩ = some (.slice xo xm xc) ∧ w'.cell? ⟨w.heap.size + 1, 0, none⟩ = some (.bool yb) ∧ w'.cell? ⟨w.heap.size + 1, 1, none⟩ = some (.slice yo ym yc)) := hid (fun w' hb => by
    refine ⟨?_, ?_, ?_, ?_⟩ <;> (rw [hb.cell (by simp <;> omega), hW0]; simp [go_sem]))
  have HT : Hid (∀ w', Below (w.heap.size + 3) W0 w' → (w'.cell? ⟨w.heap.size + 2, 0, none⟩ = some (.bool false) ∧ w'.cell? ⟨w.heap.size + 2, 1, none⟩ = some (.slice none 0 0) ∧ w'.cell? ⟨w.heap.size + 2, 2, none⟩ = some (.bool false) ∧ w'.cell? ⟨w.heap.size + 2, 3, none⟩ = some (.slice none 0 0)) ∧ (w'.frozen? ⟨w.heap.size + 2, 0, none⟩ = false ∧ w'.frozen? ⟨w.heap.size + 2, 1, none⟩ = false ∧ w'.frozen? ⟨w.heap.size + 2, 2, none⟩ = false ∧ w'.frozen? ⟨w.heap.size + 2, 3, none⟩ = false)) := hid (fun w' hb => by
    refine ⟨⟨?_, ?_, ?_, ?_⟩, ?_, ?_, ?_, ?_⟩ <;> (first | (rw [hb.cell (by simp <;> omega), hW0]; simp [go_sem]; done) | (rw [hb.frozen (by simp <;> omega), hW0]; simp [go_sem]; done)))
  have HB0 := hid hB0; have Hz0 := hid hz0; have HW := hid hW0
  clear hW0 hB0 hz0
  have hcy : cmpI y 0 ≠ 0 := by unfold cmpI; split <;> (try split) <;> omega
  obtain ⟨t, ht⟩ : ∃ t, t = cmpI y 0 := ⟨_, rfl⟩
  rw [← ht] at hcy
  have Ht := hid ht
  clear ht
  go_enter Tryz.func72, Tryz.ntmps72
  go_upto_region 1 with (fail)
  rw [← HW.out]
  obtain ⟨k0, k1, k2, k3⟩ := HS.out _ (Below.refl _ _)
  go_wp2_with fail
  refine (read_any _ y K _ (Hy.out _ HB0.out) (by omega)).mono ?_
  rintro e w1 ⟨_, rfl, hv1, hb1⟩
  obtain ⟨b1, o1, m1, c1, rfl, H1, H1s, H1b⟩ := It.opened hv1
  have hB1 : Below (w.heap.size + 3) W0 w1 := hb1.mono (by have := Hz0.out; omega)
  clear k0 k1 k2 k3 hv1 hb1
  go_wp2_with fail
  obtain ⟨W2, hW2⟩ : ∃ W2, W2 = w1.alloc (.cells #[.bool b1, .slice o1 m1 c1] 51) := ⟨_, rfl⟩
  have hal : Below w1.heap.size w1 W2 := by rw [hW2]; exact (Below.refl _ _).alloc (Nat.le_refl _) _
  have hz2 : W2.heap.size = w1.heap.size + 1 := by rw [hW2]; simp
  have hs1 := hB1.size
  have hB2 : Below (w.heap.size + 3) W0 W2 := hB1.trans (hal.mono (by have := Hz0.out; omega))
  have hbx := HS.out _ (hB2.mono (by omega))
  have hby0 : W2.cell? ⟨w1.heap.size, 0, none⟩ = some (.bool b1) := by rw [hW2]; simp [go_sem]
  have hby1 : W2.cell? ⟨w1.heap.size, 1, none⟩ = some (.slice o1 m1 c1) := by rw [hW2]; simp [go_sem]
  have HSS : Hid (∀ w', Kp W2.heap.size (w.heap.size + 2) W2 w' → w'.cell? ⟨w.heap.size, 0, none⟩ = some (.bool xb) ∧ w'.cell? ⟨w.heap.size, 1, none⟩ = some (.slice xo xm xc) ∧ w'.cell? ⟨w1.heap.size, 0, none⟩ = some (.bool b1) ∧ w'.cell? ⟨w1.heap.size, 1, none⟩ = some (.slice o1 m1 c1)) := hid (fun w' h => by
    have := Hz0.out
    exact ⟨(h.cell _ (by simp; omega) (by simp)).trans hbx.1, (h.cell _ (by simp; omega) (by simp)).trans hbx.2.1, (h.cell _ (by simp; omega) (by simp; omega)).trans hby0, (h.cell _ (by simp; omega) (by simp; omega)).trans hby1⟩)
  rw [← hW2]
  have HAL := hid hal; have HB2 := hid hB2; have Hz2 := hid hz2; have Hs1 := hid hs1
  clear hW2 hbx hby0 hby1 hal hB2 hz2 hs1 hB1
  refine (sign_any _ y _ _ (H1.out _ HAL.out)).mono ?_
  rintro e w3 ⟨rfl, hb3⟩
  rw [← Ht.out]
  have hw3 : Below w.heap.size w w3 := HB0.out.trans ((HB2.out.trans (hb3.mono HB2.out.size |>.mono (by have := Hz0.out; omega))).mono (by omega))
  go_wp2
  go_region_held3 (fun w' => w'.cell? ⟨w.heap.size, 0, none⟩ = some (.bool xb) ∧ w'.cell? ⟨w.heap.size, 1, none⟩ = some (.slice xo xm xc) ∧ w'.cell? ⟨w1.heap.size, 0, none⟩ = some (.bool b1) ∧ w'.cell? ⟨w1.heap.size, 1, none⟩ = some (.slice o1 m1 c1)) ((refine HSS.out _ ?_; repeat (first | assumption | exact Kp.of_below (by assumption) | exact Kp.of_below (Below.refl _ _) | exact Kp.of_below (Below.refl _ _).drew | exact Kp.of_below (Below.drew (by assumption)) | (refine Kp.set ?_ (by simp) _)))) (first
    | (go_at_call 28; refine (read_any _ x K _ (Hx.out _ hw3.drew) (by omega)).mono ?_; rintro e w4 ⟨_, rfl, hv4, hb4⟩; obtain ⟨b4, o4, m4, c4, rfl, H4, H4s, H4b⟩ := It.opened hv4; have hX4 : Below W2.heap.size W2 w4 := hb3.drew.trans (hb4.mono (by have := hb3.size; simp; omega)))
    | (go_at_call 66; refine (divided_any _ _ x y _ _ (H4.out _ (Below.refl _ _)) (H1.out _ (HAL.out.trans (hX4.mono HAL.out.size)))).mono ?_; rintro e w5 ⟨_, rfl, hf5, hb5⟩; have hX5 : Below W2.heap.size W2 w5 := hX4.trans (hb5.mono hX4.size))
    | (go_at_call 43; refine (fracValue_any _ _ _ _ _ hf5 (by omega) (by omega)).mono ?_; rintro e w6 ⟨_, rfl, hv6, hb6⟩; obtain ⟨z1, o6, m6, c6, z2, o7, m7, c7, rfl, H6, H7⟩ := FrR.opened hv6; have hX6 : Below W2.heap.size W2 w6 := hX5.trans (hb6.mono hX5.size); obtain ⟨⟨hr0, hr1, hr2, hr3⟩, hf0, hf1, hf2, hf3⟩ := HT.out _ (HB2.out.trans (hX6.mono HB2.out.size |>.mono (by have := Hz0.out; omega)))))
  go_wp2
  have hz0 := Hz0.out; have hz2 := Hz2.out; have hs1 := Hs1.out; have hs5 := hX5.size
  have hw6 : Below w.heap.size w w6 := HB0.out.trans ((HB2.out.trans (hX6.mono (by omega))).mono (by omega))
  have hlt : w.heap.size + 2 < w5.heap.size := by omega
  refine bodyPost_ret (v := .tuple #[.agg #[.bool z1, .slice o6 m6 c6, .bool z2, .slice o7 m7 c7], .int .i64 0]) (by simp [results, Tryz.results72, go_sem, hr0, hr1, hr2, hr3]) rfl ⟨_, rfl, ?_, (((hw6.setCell (by simp <;> omega) _).setCell (by simp <;> omega) _).setCell (by simp <;> omega) _).setCell (by simp <;> omega) _⟩
  refine ⟨_, _, _, _, rfl, ?_, ?_⟩
  · exact ((((H6.out.set hlt _).set hlt _).set hlt _).set hlt _).base (by omega)
  · exact ((((H7.out.set hlt _).set hlt _).set hlt _).set hlt _).base (by omega)
end Go.Proofs.YtahbkcebifkniaaGreatDoor

/- exact.Make where the divisor is 0; exact.Whole. -/
namespace Go.Proofs.YtahbkcebifkniaaGreatDoor
open Go.RowKit

set_option maxRecDepth 100000 in
set_option maxHeartbeats 1000000 in
theorem Make_zero (u v : Value) (x : Int) (K : Nat) (w : World) (hu : Ai w u x K) (hv : Ai w v 0 K) (hK : K ≤ 1073741823) :
    Calls Tryz.prog 72 #[u, v] w fun e w' => e = .returned (.tuple #[.agg #[.bool false, .slice none 0 0, .bool false, .slice none 0 0], .int .i64 10]) ∧ Below w.heap.size w w' := by
  obtain ⟨xb, xo, xm, xc, rfl, _⟩ := Ai.opened hu
  obtain ⟨yb, yo, ym, yc, rfl, Hy⟩ := Ai.opened hv
  clear hu hv
  obtain ⟨W0, hW0⟩ : ∃ W0, W0 = (((w.alloc (.cells #[.bool xb, .slice xo xm xc] 24)).alloc (.cells #[.bool yb, .slice yo ym yc] 24)).alloc (.cells #[.bool false, .slice none 0 0, .bool false, .slice none 0 0] 37)) := ⟨_, rfl⟩
  have hB0 : Below w.heap.size w W0 := by rw [hW0]; exact (((Below.refl _ _).alloc (Nat.le_refl _) _).alloc (by simp) _).alloc (by simp <;> omega) _
  have hz0 : W0.heap.size = w.heap.size + 3 := by rw [hW0]; simp
  have HS : Hid (∀ w', Below (w.heap.size + 2) W0 w' → w'.cell? ⟨w.heap.size, 0, none⟩ = some (.bool xb) ∧ w'.cell? ⟨w.heap.size, 1, none⟩ = some (.slice xo xm xc) ∧ w'.cell? ⟨w.heap.size + 1, 0, none⟩ = some (.bool yb) ∧ w'.cell? ⟨w.heap.size + 1, 1, none⟩ = some (.slice yo ym yc)) := hid (fun w' hb => by
    refine ⟨?_, ?_, ?_, ?_⟩ <;> (rw [hb.cell (by simp <;> omega), hW0]; simp [go_sem]))
  have HT : Hid (∀ w', Below (w.heap.size + 3) W0 w' → (w'.cell? ⟨w.heap.size + 2, 0, none⟩ = some (.bool false) ∧ w'.cell? ⟨w.heap.size + 2, 1, none⟩ = some (.slice none 0 0) ∧ w'.cell? ⟨w.heap.size + 2, 2, none⟩ = some (.bool false) ∧ w'.cell? ⟨w.heap.size + 2, 3, none⟩ = some (.slice none 0 0)) ∧ (w'.frozen? ⟨w.heap.size + 2, 0, none⟩ = false ∧ w'.frozen? ⟨w.heap.size + 2, 1, none⟩ = false ∧ w'.frozen? ⟨w.heap.size + 2, 2, none⟩ = false ∧ w'.frozen? ⟨w.heap.size + 2, 3, none⟩ = false)) := hid (fun w' hb => by
    refine ⟨⟨?_, ?_, ?_, ?_⟩, ?_, ?_, ?_, ?_⟩ <;> (first | (rw [hb.cell (by simp <;> omega), hW0]; simp [go_sem]; done) | (rw [hb.frozen (by simp <;> omega), hW0]; simp [go_sem]; done)))
  have HB0 := hid hB0; have Hz0 := hid hz0; have HW := hid hW0
  clear hW0 hB0 hz0
  go_enter Tryz.func72, Tryz.ntmps72
  go_upto_region 1 with (fail)
  rw [← HW.out]
  obtain ⟨k0, k1, k2, k3⟩ := HS.out _ (Below.refl _ _)
  go_wp2_with fail
  refine (read_any _ 0 K _ (Hy.out _ HB0.out) (by omega)).mono ?_
  rintro e w1 ⟨_, rfl, hv1, hb1⟩
  obtain ⟨b1, o1, m1, c1, rfl, H1, H1s, H1b⟩ := It.opened hv1
  have hB1 : Below (w.heap.size + 3) W0 w1 := hb1.mono (by have := Hz0.out; omega)
  clear k0 k1 k2 k3 hv1 hb1
  go_wp2_with fail
  refine (sign_any _ 0 _ _ (H1.out _ ((Below.refl _ _).alloc (Nat.le_refl _) _))).mono ?_
  rintro e w3 ⟨rfl, hb3⟩
  have hX3 : Below (w.heap.size + 3) W0 w3 := (hB1.alloc (by have := hB1.size; have := Hz0.out; omega) _).trans (hb3.mono (by have := hB1.size; have := Hz0.out; simp; omega))
  obtain ⟨⟨hr0, hr1, hr2, hr3⟩, hf0, hf1, hf2, hf3⟩ := HT.out _ hX3
  have h00 : cmpI 0 0 = 0 := by decide
  rw [h00]
  go_wp2
  have hw6 : Below w.heap.size w w3 := HB0.out.trans (hX3.mono (by omega))
  exact bodyPost_ret (v := .tuple #[.agg #[.bool false, .slice none 0 0, .bool false, .slice none 0 0], .int .i64 10]) (by simp [results, Tryz.results72, go_sem, hr0, hr1, hr2, hr3]) rfl ⟨rfl, (((hw6.setCell (by simp <;> omega) _).setCell (by simp <;> omega) _).setCell (by simp <;> omega) _).setCell (by simp <;> omega) _⟩

end Go.Proofs.YtahbkcebifkniaaGreatDoor

/- The document's own integers: cut, digit, order. Digits to the base 65536, the lowest first. -/
namespace Go.Proofs.YtahbkcebifkniaaGreatDoor
open Go.RowKit

def R16 : Int := 65536
theorem R16_pos : 0 < R16 := by decide

/-- A list with zeros behind it, up to a length. -/
def pad (L : List Int) (N : Nat) : List Int := L ++ List.replicate (N - L.length) 0
theorem pad_len {L : List Int} {N : Nat} (h : L.length ≤ N) : (pad L N).length = N := by unfold pad; simp; omega
theorem pad_get (L : List Int) (N i : Nat) : (pad L N)[i]?.getD 0 = L[i]?.getD 0 := by
  unfold pad
  by_cases h : i < L.length
  · rw [List.getElem?_append_left h]
  · rw [List.getElem?_append_right (by omega)]
    have e : L[i]?.getD 0 = 0 := by simp [Nat.le_of_not_lt h]
    rw [e]
    by_cases h2 : i - L.length < N - L.length
    · simp [h2]
    · simp [h2]
theorem val_rep0 (B : Int) (n : Nat) : val B (List.replicate n 0) = 0 := by
  induction n with
  | zero => rfl
  | succ n ih => simp [List.replicate_succ, val, ih]
theorem pad_val (B : Int) (L : List Int) (N : Nat) : val B (pad L N) = val B L := by unfold pad; rw [val_append, val_rep0]; simp
theorem pad_dig {B : Int} (hB : 0 < B) {L : List Int} (h : Dig B L) (N : Nat) : Dig B (pad L N) := h.append (fun x hx => by rw [(List.mem_replicate.1 hx).2]; exact ⟨Int.le_refl 0, hB⟩)

end Go.Proofs.YtahbkcebifkniaaGreatDoor

/- The document's own integers: few, even, value. -/
namespace Go.Proofs.YtahbkcebifkniaaGreatDoor
open Go.RowKit

theorem val_mod2 (L : List Int) : val R16 L % 2 = L[0]?.getD 0 % 2 := by
  cases L with
  | nil => rfl
  | cons x l => simp only [val, R16]; simp; omega

theorem value_small {L : List Int} (hd : Dig R16 L) (hl : L.length ≤ 3) : 0 ≤ val R16 L ∧ val R16 L < 281474976710656 := by
  have h := val_lt R16_pos hd
  have h2 := pow_mono R16_pos hl
  have e : R16 ^ 3 = 281474976710656 := by decide
  exact ⟨val_nonneg R16_pos hd, by omega⟩

theorem val_drop (B : Int) (L : List Int) (k : Nat) (hk : k < L.length) : val B (L.drop k) = L[k]?.getD 0 + B * val B (L.drop (k + 1)) := by
  rw [List.drop_eq_getElem_cons hk]; simp [val, hk]

end Go.Proofs.YtahbkcebifkniaaGreatDoor

/- The document's own integers: naturals as digits; half. -/
namespace Go.Proofs.YtahbkcebifkniaaGreatDoor
open Go.RowKit

/-- The value v reads in w as the natural number n: digits to the base 65536, in normal form, K at most. -/
structure MdL (w : World) (ao : Option Addr) (c : Nat) (L : List Int) (n : Int) (K : Nat) : Prop where
  rd : Rd w .i64 ao c L
  dig : Dig R16 L
  nrm : Nrm L
  eq : val R16 L = n
  le : L.length ≤ K
def Md (w : World) (v : Value) (n : Int) (K : Nat) : Prop := ∃ ao c L, v = .slice ao L.length c ∧ MdL w ao c L n K
def RetM (w : World) (n : Int) (K : Nat) (e : Ending) (w' : World) : Prop := ∃ v, e = .returned v ∧ Md w' v n K ∧ Below w.heap.size w w'

theorem Md.nonneg {w : World} {v : Value} {n : Int} {K : Nat} (h : Md w v n K) : 0 ≤ n := by obtain ⟨_, _, _, _, h⟩ := h; rw [← h.eq]; exact val_nonneg R16_pos h.dig
theorem Md.below {w w' : World} {v : Value} {n : Int} {K B : Nat} (h : Md w v n K) (hb : Below B w w') (hB : w.heap.size ≤ B) : Md w' v n K := by
  obtain ⟨ao, c, L, rfl, h⟩ := h
  exact ⟨ao, c, L, rfl, h.rd.below hb hB, h.dig, h.nrm, h.eq, h.le⟩
theorem Md.mono {w : World} {v : Value} {n : Int} {K K' : Nat} (h : Md w v n K) (hk : K ≤ K') : Md w v n K' := by
  obtain ⟨ao, c, L, rfl, h⟩ := h
  exact ⟨ao, c, L, rfl, h.rd, h.dig, h.nrm, h.eq, Nat.le_trans h.le hk⟩
theorem Md.nil (w : World) : Md w (.slice none 0 0) 0 0 := ⟨none, 0, [], rfl, Rd.nil _ _, Dig.nil _, rfl, rfl, Nat.le_refl _⟩

theorem rowi_rd {w : World} {g : Nat} {L : List Int} {c : Nat} (h : Row .i64 3 w g L) (hc : L.length ≤ c) (hc' : c ≤ 9223372036854775807) : Rd w .i64 (some ⟨g, 0, none⟩) c L := by
  have h' : Row .i64 3 w g ([] ++ L ++ []) := by simpa using h
  exact h'.rd hc hc'
theorem md_row {w : World} {g : Nat} {L : List Int} {c : Nat} {n : Int} {K : Nat} (h : Row .i64 3 w g L) (hd : Dig R16 L) (hv : val R16 L = n) (hc : L.length ≤ c) (hc' : c ≤ 9223372036854775807) (hK : L.length ≤ K) :
    Md w (.slice (some ⟨g, 0, none⟩) (trimL L).length c) n K := by
  refine ⟨_, c, trimL L, rfl, ?_, hd.trim, Nrm.trim L, by rw [val_trim]; exact hv, Nat.le_trans (trimL_len L) hK⟩
  rw [trimL_take L]; exact (rowi_rd h hc hc').take _

theorem Tryz.info3 : (Tryz.prog.info? 3).map (fun i => (i.zero, i.size, i.bytes)) = some (some (.int .i64 0), 1, 8) := by kernel_rfl

/-- Behind the digits from j on, divided by x. -/
structure DivR (w wr : World) (g : Nat) (LA : List Int) (x : Int) (j : Nat) (QT : List Int) (r : Int) : Prop where
  row : Row .i64 3 wr g (List.replicate j 0 ++ QT)
  gr : w.grownBy wr (some g)
  len : j + QT.length = LA.length
  dig : Dig R16 QT
  r0 : 0 ≤ r
  r1 : r < x
  eq : val R16 (LA.drop j) = val R16 QT * x + r

theorem DivR.step {w wr : World} {g : Nat} {LA QT : List Int} {x r : Int} {j : Nat} (h : DivR w wr g LA x (j + 1) QT r) (hx : 0 < x) (a : Int) (ha : a = LA[j]?.getD 0) (a0 : 0 ≤ a) (a1 : a < R16) :
    DivR w (wr.setCell ⟨g, j, none⟩ (.int .i64 ((r * 65536 + a) / x))) g LA x j ((r * 65536 + a) / x :: QT) ((r * 65536 + a) % x) ∧ 0 ≤ r * 65536 + a ∧ (r * 65536 + a) / x < 65536 := by
  have hj : j < LA.length := by have := h.len; omega
  have r0 := h.r0; have r1 := h.r1
  have hn0 : 0 ≤ r * 65536 + a := by omega
  have hn1 : r * 65536 + a < 65536 * x := by unfold R16 at a1; omega
  have q0 : 0 ≤ (r * 65536 + a) / x := Int.ediv_nonneg hn0 (Int.le_of_lt hx)
  have q1 : (r * 65536 + a) / x < 65536 := Int.ediv_lt_of_lt_mul hx hn1
  have hs := h.row.set j ((r * 65536 + a) / x)
  rw [List.replicate_succ', List.append_assoc, List.set_append_right _ _ (by simp), List.length_replicate, Nat.sub_self] at hs
  refine ⟨⟨hs, grown_trans h.gr (grown_set _ _ _ _), by have := h.len; simp; omega, Dig.cons q0 q1 h.dig, Int.emod_nonneg _ (by omega), Int.emod_lt_of_pos _ hx, ?_⟩, hn0, q1⟩
  have e := Int.emod_add_mul_ediv (r * 65536 + a) x
  rw [val_drop R16 LA j hj, ← ha, h.eq]
  simp only [val]
  generalize (r * 65536 + a) / x = q at *
  generalize (r * 65536 + a) % x = m at *
  generalize val R16 QT = t at *
  unfold R16
  grind

end Go.Proofs.YtahbkcebifkniaaGreatDoor

/- The document's own integers: sum. -/
namespace Go.Proofs.YtahbkcebifkniaaGreatDoor
open Go.RowKit

theorem owns_block {w : World} {base n s : Nat} {e : TypeId} {v : Value} {xs : List Value} (h : w.ownsRow base e s v n xs) : ∀ k, v.ownBlock = some k → base ≤ k := by
  intro k hk
  rcases h.2 with ⟨rfl, _⟩ | ⟨g, cap, cur, rfl, hb, _⟩
  · simp [Value.ownBlock] at hk
  · simp [Value.ownBlock] at hk; omega

/-- What holds of a sum of digits: k have been summed. -/
structure DsI (w wr : World) (A B : List Int) (k : Nat) (ov : Value) (Q : List Int) (c : Int) : Prop where
  own : wr.ownsRow w.heap.size 3 1 ov k (Q.map (Value.int .i64))
  len : Q.length = k
  dig : Dig R16 Q
  c0 : 0 ≤ c
  c1 : c ≤ 1
  eq : val R16 Q + R16 ^ k * c = val R16 (A.take k) + val R16 (B.take k)
  low : Below w.heap.size w wr

theorem DsI.next {w wr wx : World} {A B Q : List Int} {k : Nat} {ov ov' : Value} {c : Int} (H : DsI w wr A B k ov Q c) (x y : Int) (hx : x = A[k]?.getD 0) (hy : y = B[k]?.getD 0) (hA : Dig R16 A) (hB : Dig R16 B) (hka : k < A.length) (hkb : k < B.length)
    (hown : wx.ownsRow w.heap.size 3 1 ov' (k + 1) (Q.map (Value.int .i64) ++ [.int .i64 ((x + y + c) % 65536)])) (hlow : Below w.heap.size w wx) :
    DsI w wx A B (k + 1) ov' (Q ++ [(x + y + c) % 65536]) ((x + y + c) / 65536) := by
  have a := hA.at R16_pos k; have b := hB.at R16_pos k
  rw [← hx] at a; rw [← hy] at b
  have c0 := H.c0; have c1 := H.c1
  refine ⟨by rw [List.map_append]; exact hown, by simp [H.len], H.dig.append (Dig.cons (by omega) (by unfold R16; omega) (Dig.nil _)), by omega, by unfold R16 at a b; omega, ?_, hlow⟩
  rw [val_snoc, H.len, val_take_succ R16 A k hka, val_take_succ R16 B k hkb, ← hx, ← hy, Int.pow_succ]
  have e := H.eq
  have hd : (x + y + c) % 65536 + R16 * ((x + y + c) / 65536) = x + y + c := Int.emod_add_mul_ediv (x + y + c) 65536
  generalize (x + y + c) % 65536 = lo at *
  generalize (x + y + c) / 65536 = hi at *
  generalize R16 ^ k = p at *
  generalize R16 = r at *
  grind

def RetO (w : World) (n : Int) (K : Nat) (e : Ending) (w' : World) : Prop := ∃ v Q, e = .returned v ∧ w'.ownsRow w.heap.size 3 1 v K (Q.map (Value.int .i64)) ∧ Q.length = K ∧ Dig R16 Q ∧ val R16 Q = n ∧ Below w.heap.size w w'

end Go.Proofs.YtahbkcebifkniaaGreatDoor

/- The document's own integers: made, Sign, Neg. -/
namespace Go.Proofs.YtahbkcebifkniaaGreatDoor
open Go.RowKit

/-- The value v reads in w as the document's integer z, of at most K digits. -/
def Zt (w : World) (v : Value) (z : Int) (K : Nat) : Prop := ∃ s, v = .agg #[.bool (decide (z < 0)), s] ∧ Md w s (z.natAbs : Int) K
def RetZ (w : World) (z : Int) (K : Nat) (e : Ending) (w' : World) : Prop := ∃ v, e = .returned v ∧ Zt w' v z K ∧ Below w.heap.size w w'
theorem Zt.below {w w' : World} {v : Value} {n : Int} {K B : Nat} (h : Zt w v n K) (hb : Below B w w') (hB : w.heap.size ≤ B) : Zt w' v n K := by
  obtain ⟨s, rfl, h⟩ := h; exact ⟨s, rfl, h.below hb hB⟩
theorem Zt.mono {w : World} {v : Value} {n : Int} {K K' : Nat} (h : Zt w v n K) (hk : K ≤ K') : Zt w v n K' := by
  obtain ⟨s, rfl, h⟩ := h; exact ⟨s, rfl, h.mono hk⟩
theorem Md.set {w : World} {s : Value} {n : Int} {K : Nat} (h : Md w s n K) {a : Addr} {u : Value} (hu : w.cell? a = some u) (hn : ∀ x, u ≠ .int .i64 x) (v : Value) : Md (w.setCell a v) s n K := by
  obtain ⟨ao, c, L, rfl, h⟩ := h; exact ⟨ao, c, L, rfl, h.rd.set hu hn v, h.dig, h.nrm, h.eq, h.le⟩
theorem Zt.set {w : World} {s : Value} {n : Int} {K : Nat} (h : Zt w s n K) {a : Addr} {u : Value} (hu : w.cell? a = some u) (hn : ∀ x, u ≠ .int .i64 x) (v : Value) : Zt (w.setCell a v) s n K := by
  obtain ⟨s, rfl, h⟩ := h; exact ⟨s, rfl, h.set hu hn v⟩
theorem MdL.zero_iff {w : World} {ao : Option Addr} {c : Nat} {L : List Int} {n : Int} {K : Nat} (h : MdL w ao c L n K) : L.length = 0 ↔ n = 0 := by
  constructor
  · intro hl; rw [← h.eq, List.eq_nil_of_length_eq_zero hl]; rfl
  · intro hn; rw [Nrm.eq_nil R16_pos h.dig h.nrm (by rw [h.eq, hn])]; rfl
theorem Zt.opened {w : World} {v : Value} {z : Int} {K : Nat} (h : Zt w v z K) : ∃ b ao m c, v = .agg #[.bool b, .slice ao m c] ∧ Hid (∀ w', Below w.heap.size w w' → Zt w' (.agg #[.bool b, .slice ao m c]) z K) ∧ Hid (∀ w', Below w.heap.size w w' → Md w' (.slice ao m c) (z.natAbs : Int) K) ∧ Hid (b = decide (z < 0)) := by
  obtain ⟨s, rfl, ao, c, L, rfl, h⟩ := h
  have hN : ∀ w', Below w.heap.size w w' → Md w' (.slice ao L.length c) (z.natAbs : Int) K := fun w' hb => ⟨ao, c, L, rfl, h.rd.below hb (Nat.le_refl _), h.dig, h.nrm, h.eq, h.le⟩
  exact ⟨_, ao, L.length, c, rfl, hid (fun w' hb => ⟨_, rfl, hN w' hb⟩), hid hN, hid rfl⟩
theorem Md.opened {w : World} {v : Value} {n : Int} {K : Nat} (h : Md w v n K) : ∃ ao m c, v = .slice ao m c ∧ Hid (∀ w', Below w.heap.size w w' → Md w' (.slice ao m c) n K) := by
  obtain ⟨ao, c, L, rfl, h⟩ := h
  exact ⟨ao, L.length, c, rfl, hid (fun w' hb => ⟨ao, c, L, rfl, h.rd.below hb (Nat.le_refl _), h.dig, h.nrm, h.eq, h.le⟩)⟩

/-- Digits, not cut: what reads as them. -/
def Dg (w : World) (v : Value) (n : Int) (K : Nat) : Prop := ∃ ao c L, v = .slice ao L.length c ∧ Rd w .i64 ao c L ∧ Dig R16 L ∧ val R16 L = n ∧ L.length ≤ K
theorem Md.dg {w : World} {v : Value} {n : Int} {K : Nat} (h : Md w v n K) : Dg w v n K := by
  obtain ⟨ao, c, L, rfl, h⟩ := h; exact ⟨ao, c, L, rfl, h.rd, h.dig, h.eq, h.le⟩
theorem Dg.below {w w' : World} {v : Value} {n : Int} {K B : Nat} (h : Dg w v n K) (hb : Below B w w') (hB : w.heap.size ≤ B) : Dg w' v n K := by
  obtain ⟨ao, c, L, rfl, hr, h⟩ := h; exact ⟨ao, c, L, rfl, hr.below hb hB, h⟩
theorem Dg.mono {w : World} {v : Value} {n : Int} {K K' : Nat} (h : Dg w v n K) (hk : K ≤ K') : Dg w v n K' := by
  obtain ⟨ao, c, L, rfl, hr, hd, hv, hl⟩ := h; exact ⟨ao, c, L, rfl, hr, hd, hv, Nat.le_trans hl hk⟩
theorem Dg.opened {w : World} {v : Value} {n : Int} {K : Nat} (h : Dg w v n K) : ∃ ao m c, v = .slice ao m c ∧ Hid (∀ w', Below w.heap.size w w' → Dg w' (.slice ao m c) n K) := by
  obtain ⟨ao, c, L, rfl, h⟩ := h
  exact ⟨ao, L.length, c, rfl, hid (fun w' hb => Dg.below ⟨ao, c, L, rfl, h⟩ hb (Nat.le_refl _))⟩

end Go.Proofs.YtahbkcebifkniaaGreatDoor

/- The document's own integers: less, double, split. -/
namespace Go.Proofs.YtahbkcebifkniaaGreatDoor
open Go.RowKit

/-- The one cell of a block that was just made. -/
theorem new_one {w : World} {n : Nat} {T : TypeId} {y : Value} (j : Nat) (u : Value) (hj : ([y] : List Value)[j]? = some u) : ((w.drewN n).alloc (.cells #[y] T (0, 0))).cell? ((⟨w.heap.size, 0, none⟩ : Addr).add j) = some u := by
  match j, hj with
  | 0, hj =>
    simp at hj; subst hj
    have h : ((w.drewN n).alloc (.cells #[y] T (0, 0))).heap[w.heap.size]? = some (.cells #[y] T (0, 0)) := by show ((w.drewN n).heap.push _)[(w.drewN n).heap.size]? = _; simp
    exact (cell_of_row _ w.heap.size 0 _ T (0, 0) h).trans rfl

/-- A row of digits that grows: k digits so far. -/
structure GrI (w wr : World) (k : Nat) (ov : Value) (Q : List Int) : Prop where
  own : wr.ownsRow w.heap.size 3 1 ov k (Q.map (Value.int .i64))
  len : Q.length = k
  dig : Dig R16 Q
  low : Below w.heap.size w wr
theorem GrI.start (w : World) : GrI w w 0 (.slice none 0 0) [] := ⟨⟨by simp, .inl ⟨rfl, rfl⟩⟩, rfl, Dig.nil _, Below.refl _ _⟩
theorem GrI.drewN {w wr : World} {k : Nat} {ov : Value} {Q : List Int} (H : GrI w wr k ov Q) (n : Nat) : GrI w (wr.drewN n) k ov Q := ⟨H.own, H.len, H.dig, below_drewN H.low n⟩
theorem GrI.next {w wr wx : World} {k : Nat} {ov ov' : Value} {Q : List Int} (H : GrI w wr k ov Q) (y : Int) (y0 : 0 ≤ y) (y1 : y < 65536) (o : Obj)
    (hown : wx.ownsRow w.heap.size 3 1 ov' (k + 1) (Q.map (Value.int .i64) ++ [.int .i64 y])) (hg : (wr.alloc o).grownBy wx ov.ownBlock) : GrI w wx (k + 1) ov' (Q ++ [y]) :=
  ⟨by rw [List.map_append]; exact hown, by simp [H.len], H.dig.append (Dig.cons y0 (by unfold R16; omega) (Dig.nil _)), (H.low.alloc H.low.size o).grown hg (by have := H.low.size; simp; omega) (fun i e => owns_block H.own i e)⟩
/-- What a grown row reads as. -/
theorem GrI.rd {w wr : World} {k : Nat} {ov : Value} {Q : List Int} (H : GrI w wr k ov Q) (hk : k ≤ 1073741824) : ∃ ao c, ov = .slice ao Q.length c ∧ Rd wr .i64 ao c Q := by
  rcases H.own.2 with ⟨rfl, rfl⟩ | ⟨g, cap, cur, rfl, hb, hh, hn, hcm, hs, ht⟩
  · have hl := H.len
    have : Q = [] := List.eq_nil_of_length_eq_zero hl
    subst this
    exact ⟨none, 0, rfl, Rd.nil _ _⟩
  · have hl := H.len
    refine ⟨_, cap, by rw [hl], ?_⟩
    have h := H.own
    rw [← hl] at h
    exact owns_rd h hcm
theorem GrI.md {w wr : World} {k : Nat} {ov : Value} {Q : List Int} (H : GrI w wr k ov Q) (hk : k ≤ 1073741824) {n : Int} {K : Nat} (hn : Nrm Q) (hv : val R16 Q = n) (hK : k ≤ K) : Md wr ov n K := by
  obtain ⟨ao, c, rfl, hr⟩ := H.rd hk
  exact ⟨ao, c, Q, rfl, hr, H.dig, hn, hv, by have := H.len; omega⟩
/-- The value's memory lies at B or above. -/
def Fr (B : Nat) (v : Value) : Prop := ∀ b off l c, v = .slice (some ⟨b, off, none⟩) l c → B ≤ b
def RetF (w : World) (n : Int) (K : Nat) (e : Ending) (w' : World) : Prop := ∃ v, e = .returned v ∧ (Md w' v n K ∧ Fr w.heap.size v) ∧ Below w.heap.size w w'
theorem RetF.retM {w : World} {n : Int} {K : Nat} {e : Ending} {w' : World} (h : RetF w n K e w') : RetM w n K e w' := by
  obtain ⟨v, e, h1, h2⟩ := h
  exact ⟨v, e, h1.1, h2⟩
theorem len_le_gen {B : Int} (hB : 0 < B) {L M : List Int} (hL : Dig B L) (hM : Dig B M) (nM : Nrm M) (h : val B M ≤ val B L) : M.length ≤ L.length := by
  by_cases hl : M.length ≤ L.length
  · exact hl
  · exfalso
    have h1 := val_lt hB hL
    have h2 := Nrm.low hB hM nM (by omega)
    have h3 := pow_mono hB (show L.length ≤ M.length - 1 by omega)
    omega

structure LsI (w wr : World) (A B : List Int) (k : Nat) (ov : Value) (Q : List Int) (c : Int) : Prop where
  g : GrI w wr k ov Q
  c0 : 0 ≤ c
  c1 : c ≤ 1
  eq : val R16 Q - R16 ^ k * c = val R16 (A.take k) - val R16 (B.take k)

theorem LsI.next {w wr wx : World} {A B Q : List Int} {k : Nat} {ov ov' : Value} {c : Int} (H : LsI w wr A B k ov Q c) (x y : Int) (hx : x = A[k]?.getD 0) (hy : y = B[k]?.getD 0) (hA : Dig R16 A) (hB : Dig R16 B) (hka : k < A.length) (hkb : k < B.length)
    (hg : GrI w wx (k + 1) ov' (Q ++ [(x - y - c + 65536) % 65536])) : LsI w wx A B (k + 1) ov' (Q ++ [(x - y - c + 65536) % 65536]) (1 - (x - y - c + 65536) / 65536) := by
  have a := hA.at R16_pos k; have b := hB.at R16_pos k
  rw [← hx] at a; rw [← hy] at b
  have c0 := H.c0; have c1 := H.c1
  unfold R16 at a b
  refine ⟨hg, by omega, by omega, ?_⟩
  rw [val_snoc, H.g.len, val_take_succ R16 A k hka, val_take_succ R16 B k hkb, ← hx, ← hy, Int.pow_succ]
  have e := H.eq
  have hd : (x - y - c + 65536) % 65536 + R16 * ((x - y - c + 65536) / 65536) = x - y - c + R16 := Int.emod_add_mul_ediv (x - y - c + 65536) 65536
  generalize (x - y - c + 65536) % 65536 = lo at *
  generalize (x - y - c + 65536) / 65536 = hi at *
  generalize R16 ^ k = p at *
  generalize R16 = r at *
  grind

end Go.Proofs.YtahbkcebifkniaaGreatDoor
