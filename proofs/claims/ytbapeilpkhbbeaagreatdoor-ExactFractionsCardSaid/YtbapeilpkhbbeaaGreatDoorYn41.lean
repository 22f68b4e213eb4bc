/- The document's ratios: lowest: a ratio in lowest terms. Written by gen_low.py. exact.Small: the number of 64 bits that an integer is, if it is one. -/
import Derived.Test.YtbapeilpkhbbeaaGreatDoorYn40
import Derived.Test.YtbapeilpkhbbeaaGreatDoorYn25
import Derived.Test.YtbapeilpkhbbeaaGreatDoorYn26
/- The document's ratios: lowest: a ratio in lowest terms. Written by gen_low.py. -/
namespace Go.Proofs.YtbapeilpkhbbeaaGreatDoor
open Go.RowKit

/-- The common divisor with the divisor's sign. -/
def gsg (n d : Int) : Int := if d < 0 then -(Int.gcd n d : Int) else (Int.gcd n d : Int)
theorem zt_digit {w : World} {b : Bool} {o : Option Addr} {m c K : Nat} {z : Int} (h : Zt w (.agg #[.bool b, .slice o m c]) z K) : b = decide (z < 0) ∧ (m ≠ 1 ∨ (m = 1 ∧ ∃ g off l, o = some ⟨g, off, none⟩ ∧ w.cell? ⟨g, off, none⟩ = some (.int .i64 l) ∧ l = (z.natAbs : Int))) ∧ (z.natAbs = 1 → m = 1) := by
  obtain ⟨s, e, ao, c', L, e2, hL⟩ := h
  subst e2
  simp at e
  obtain ⟨rfl, rfl, rfl, rfl⟩ := e
  refine ⟨rfl, ?_, ?_⟩
  · by_cases h1 : L.length = 1
    · obtain ⟨l, hl⟩ := List.length_eq_one_iff.1 h1
      subst hl
      obtain ⟨g, off, rfl⟩ := hL.rd.adr (by simp)
      have hc := hL.rd.cell g off rfl 0 (by simp)
      refine Or.inr ⟨h1, g, off, l, rfl, by simpa using hc, ?_⟩
      have := hL.eq
      simpa [val] using this
    · exact Or.inl h1
  · intro hz
    have hv := hL.eq
    rw [hz] at hv
    match L, hL with
    | [], hL => simp [val] at hv
    | [_], _ => rfl
    | x :: y :: r, hL =>
      have hlo := hL.nrm.low R16_pos hL.dig (by simp)
      have hp := pow_mono R16_pos (show 1 ≤ (x :: y :: r).length - 1 by simp)
      rw [hv] at hlo
      have : R16 ^ 1 = 65536 := by decide
      omega

set_option maxRecDepth 100000 in
set_option maxHeartbeats 1000000 in
theorem rlowest_pos (u v : Value) (n d : Int) (K : Nat) (w : World) (hu : Zt w u n K) (hv : Zt w v d K) (hd : 0 < d) (hK : K ≤ 67108864) (hK4 : 4 ≤ K) :
    Calls Tryz.prog 18 #[u, v] w fun e w' => ∃ f, e = .returned f ∧ Qt w' f (n.fdiv (gsg n d)) (d.fdiv (gsg n d)) (K + 3) ∧ Below w.heap.size w w' := by
  obtain ⟨xb, xo, xm, xc, rfl, Hx, _, _⟩ := Zt.opened hu
  obtain ⟨yb, yo, ym, yc, rfl, Hy, _, Hyb⟩ := Zt.opened hv
  clear hu hv
  obtain ⟨W0, hW0⟩ : ∃ W0, W0 = (((w.alloc (.cells #[.bool xb, .slice xo xm xc] 31)).alloc (.cells #[.bool yb, .slice yo ym yc] 31)).alloc (.cells #[.bool false, .slice none 0 0, .bool false, .slice none 0 0] 33)) := ⟨_, rfl⟩
  have hB0 : Below w.heap.size w W0 := by rw [hW0]; exact (((Below.refl _ _).alloc (Nat.le_refl _) _).alloc (by simp) _).alloc (by simp <;> omega) _
  have hz0 : W0.heap.size = w.heap.size + 3 := by rw [hW0]; simp
  have HS : Hid (∀ w', Below (w.heap.size + 2) W0 w' → w'.cell? ⟨w.heap.size, 0, none⟩ = some (.bool xb) ∧ w'.cell? ⟨w.heap.size, 1, none⟩ = some (.slice xo xm xc) ∧ w'.cell? ⟨w.heap.size + 1, 0, none⟩ = some (.bool yb) ∧ w'.cell? ⟨w.heap.size + 1, 1, none⟩ = some (.slice yo ym yc)) := hid (fun w' hb => by
    refine ⟨?_, ?_, ?_, ?_⟩ <;> (rw [hb.cell (by simp <;> omega), hW0]; simp [go_sem]))
  have HT : Hid (∀ w', Below (w.heap.size + 3) W0 w' → (w'.cell? ⟨w.heap.size + 2, 0, none⟩ = some (.bool false) ∧ w'.cell? ⟨w.heap.size + 2, 1, none⟩ = some (.slice none 0 0) ∧ w'.cell? ⟨w.heap.size + 2, 2, none⟩ = some (.bool false) ∧ w'.cell? ⟨w.heap.size + 2, 3, none⟩ = some (.slice none 0 0)) ∧ (w'.frozen? ⟨w.heap.size + 2, 0, none⟩ = false ∧ w'.frozen? ⟨w.heap.size + 2, 1, none⟩ = false ∧ w'.frozen? ⟨w.heap.size + 2, 2, none⟩ = false ∧ w'.frozen? ⟨w.heap.size + 2, 3, none⟩ = false)) := hid (fun w' hb => by
    refine ⟨⟨?_, ?_, ?_, ?_⟩, ?_, ?_, ?_, ?_⟩ <;> (first | (rw [hb.cell (by simp <;> omega), hW0]; simp [go_sem]; done) | (rw [hb.frozen (by simp <;> omega), hW0]; simp [go_sem]; done)))
  have HB0 := hid hB0; have Hz0 := hid hz0; have HW := hid hW0
  clear hW0 hB0 hz0
  have hgs : gsg n d = (Int.gcd n d : Int) := by unfold gsg; rw [if_neg (by omega)]
  have hyb : yb = false := by rw [Hyb.out]; exact decide_eq_false (by omega)
  subst hyb
  obtain ⟨g, hg⟩ : ∃ g : Int, g = (Int.gcd n d : Int) := ⟨_, rfl⟩
  have hgp : 0 < g := by rw [hg]; have := Int.gcd_pos_of_ne_zero_right n (show d ≠ 0 by omega); omega
  rw [hgs, ← hg]
  go_enter Tryz.func18, Tryz.ntmps18
  go_upto_region 1 with (fail)
  rw [← HW.out]
  obtain ⟨k0, k1, k2, k3⟩ := HS.out _ (Below.refl _ _)
  go_wp2_with fail
  refine (rgcd_any _ _ n d K _ (Hx.out _ HB0.out) (Hy.out _ HB0.out) hK hK4).mono ?_
  rintro e w1 ⟨_, rfl, hv1, hb1⟩
  obtain ⟨b1, o1, m1, c1, rfl, H1, _, _⟩ := Zt.opened hv1
  have hB1 : Below (w.heap.size + 3) W0 w1 := hb1.mono (by have := Hz0.out; omega)
  obtain ⟨W2, hW2⟩ : ∃ W2, W2 = w1.alloc (.cells #[.bool b1, .slice o1 m1 c1] 31) := ⟨_, rfl⟩
  have hal : Below w1.heap.size w1 W2 := by rw [hW2]; exact (Below.refl _ _).alloc (Nat.le_refl _) _
  have hz2 : W2.heap.size = w1.heap.size + 1 := by rw [hW2]; simp
  have hB2 : Below (w.heap.size + 3) W0 W2 := hB1.trans (hal.mono (by have := hB1.size; have := Hz0.out; omega))
  have hg0 : W2.cell? ⟨w1.heap.size, 0, none⟩ = some (.bool b1) := by rw [hW2]; simp [go_sem]
  have hg1 : W2.cell? ⟨w1.heap.size, 1, none⟩ = some (.slice o1 m1 c1) := by rw [hW2]; simp [go_sem]
  have hf0 : W2.frozen? ⟨w1.heap.size, 0, none⟩ = false := by rw [hW2]; simp [go_sem]
  have hf1 : W2.frozen? ⟨w1.heap.size, 1, none⟩ = false := by rw [hW2]; simp [go_sem]
  have HZ1 := H1.out _ hal
  obtain ⟨q0, q1, q2, q3⟩ := HS.out _ (hB2.mono (by omega))
  clear k0 k1 k2 k3 hv1
  go_upto_region 2 with (fail)
  rw [← hW2]
  clear hW2
  rw [← hg] at HZ1
  obtain ⟨e1, hm1, hm2⟩ := zt_digit HZ1
  have e2 : b1 = false := by rw [e1]; exact decide_eq_false (by omega)
  subst e2
  have hwW2 : Below w.heap.size w W2 := HB0.out.trans (hB2.mono (by omega))
  have HB2 := hid hB2; have HWW := hid hwW2; have HZg := hid HZ1
  have Hz2 := hid hz2; have Hs1 := hid hB1.size
  clear hal hB1 hB2 hwW2 HZ1 e1 hf0 hf1 hg hz2 hb1
  by_cases h1 : g = 1
  · subst h1
    obtain hm := hm2 (by decide)
    rcases hm1 with h | ⟨_, gb, off, l, rfl, hc, hl⟩
    · exact absurd hm h
    · subst hm
      obtain rfl : l = 1 := by simpa using hl
      obtain ⟨⟨hr0, hr1, hr2, hr3⟩, hf0, hf1, hf2, hf3⟩ := HT.out _ HB2.out
      clear hm2 hl
      go_wp2
      refine bodyPost_ret (v := .agg #[.bool xb, .slice xo xm xc, .bool false, .slice yo ym yc]) (by simp [results, Tryz.results18, go_sem, hr0, hr1, hr2, hr3]) rfl ⟨_, rfl, ?_, (((HWW.out.setCell (by simp <;> omega) _).setCell (by simp <;> omega) _).setCell (by simp <;> omega) _).setCell (by simp <;> omega) _⟩
      have hx2 := (Hx.out _ HWW.out).mono (show K ≤ K + 3 by omega)
      have hy2 := (Hy.out _ HWW.out).mono (show K ≤ K + 3 by omega)
      refine ⟨_, _, _, _, _, _, _, _, rfl, ?_, ?_⟩
      · exact zt_keeps ((((((Keeps.refl _ _).setCell (u := .bool false) hr0 (fun x h => (by cases h)) _).setCell (u := .slice none 0 0) (by simp [go_sem, hr1]) (fun x h => (by cases h)) _).setCell (u := .bool false) (by simp [go_sem, hr2]) (fun x h => (by cases h)) _).setCell (u := .slice none 0 0) (by simp [go_sem, hr3]) (fun x h => (by cases h)) _)) hx2
      · exact zt_keeps ((((((Keeps.refl _ _).setCell (u := .bool false) hr0 (fun x h => (by cases h)) _).setCell (u := .slice none 0 0) (by simp [go_sem, hr1]) (fun x h => (by cases h)) _).setCell (u := .bool false) (by simp [go_sem, hr2]) (fun x h => (by cases h)) _).setCell (u := .slice none 0 0) (by simp [go_sem, hr3]) (fun x h => (by cases h)) _)) hy2
  · rcases hm1 with h | ⟨hm, gb, off, l, rfl, hc, hl⟩
    all_goals (first | (have hmi : (m1 : Int) ≠ 1 := by omega) | (subst hm; have hli : l ≠ 1 := by (have := hl; omega)))
    all_goals (go_wp2_with fail)
    all_goals (refine (rdiv_any _ _ n g (K + 1) W2 ((Hx.out _ HWW.out).mono (Nat.le_succ _)) HZg.out (by omega) (by omega)).mono ?_)
    all_goals (rintro e w5 ⟨_, _, rfl, hq1, hq2, hb5⟩)
    all_goals (obtain ⟨b5, o5, m5, c5, rfl, H5, _, _⟩ := Zt.opened hq1)
    all_goals (obtain ⟨b6, o6, m6, c6, rfl, H6, _, _⟩ := Zt.opened hq2)
    all_goals (go_upto_region 7 with (fail))
    all_goals (obtain ⟨W7, hW7⟩ : ∃ W7, W7 = (w5.alloc (.cells #[.bool b5, .slice o5 m5 c5] 31)).alloc (.cells #[.bool b6, .slice o6 m6 c6] 31) := ⟨_, rfl⟩)
    all_goals (have hb57 : Below w5.heap.size w5 W7 := by rw [hW7]; exact ((Below.refl _ _).alloc (Nat.le_refl _) _).alloc (by simp) _)
    all_goals (have hs0 : W7.cell? ⟨w5.heap.size, 0, none⟩ = some (.bool b5) := by rw [hW7]; simp [go_sem])
    all_goals (have hs1 : W7.cell? ⟨w5.heap.size, 1, none⟩ = some (.slice o5 m5 c5) := by rw [hW7]; simp [go_sem])
    all_goals (have hz7 : W7.heap.size = w5.heap.size + 2 := by rw [hW7]; simp)
    all_goals (have hX7 : Below W2.heap.size W2 W7 := hb5.trans (hb57.mono hb5.size))
    all_goals (have hz0 := Hz0.out; have hz2 := Hz2.out; have hs1' := Hs1.out)
    all_goals (have hY7 : Below (w.heap.size + 3) W0 W7 := HB2.out.trans (hX7.mono (by omega)))
    all_goals (rw [← hW7])
    all_goals (clear hW7 q0 q1 q2 q3)
    all_goals (obtain ⟨q0, q1, q2, q3⟩ := HS.out _ (hY7.mono (by omega)))
    all_goals (have p0 := (hX7.cell (p := ⟨w1.heap.size, 0, none⟩) (by simp; omega)).trans hg0)
    all_goals (have p1 := (hX7.cell (p := ⟨w1.heap.size, 1, none⟩) (by simp; omega)).trans hg1)
    all_goals (have hw7 : Below w.heap.size w W7 := HWW.out.trans (hX7.mono HWW.out.size))
    all_goals (go_wp2_with fail)
    all_goals (refine (rdiv_any _ _ d g (K + 1) W7 ((Hy.out _ hw7).mono (Nat.le_succ _)) (HZg.out.below hX7 (Nat.le_refl _)) (by omega) (by omega)).mono ?_)
    all_goals (rintro e w8 ⟨_, _, rfl, hp1, hp2, hb8⟩)
    all_goals (obtain ⟨b8, o8, m8, c8, rfl, H8, _, _⟩ := Zt.opened hp1)
    all_goals (obtain ⟨b9, o9, m9, c9, rfl, H9, _, _⟩ := Zt.opened hp2)
    all_goals (go_upto_region 8 with (fail))
    all_goals (obtain ⟨W9, hW9⟩ : ∃ W9, W9 = (w8.alloc (.cells #[.bool b8, .slice o8 m8 c8] 31)).alloc (.cells #[.bool b9, .slice o9 m9 c9] 31) := ⟨_, rfl⟩)
    all_goals (have hb89 : Below w8.heap.size w8 W9 := by rw [hW9]; exact ((Below.refl _ _).alloc (Nat.le_refl _) _).alloc (by simp) _)
    all_goals (have r0 : W9.cell? ⟨w8.heap.size, 0, none⟩ = some (.bool b8) := by rw [hW9]; simp [go_sem])
    all_goals (have r1 : W9.cell? ⟨w8.heap.size, 1, none⟩ = some (.slice o8 m8 c8) := by rw [hW9]; simp [go_sem])
    all_goals (have hX9 : Below W7.heap.size W7 W9 := hb8.trans (hb89.mono hb8.size))
    all_goals (have t0 := (hX9.cell (p := ⟨w5.heap.size, 0, none⟩) (by simp; omega)).trans hs0)
    all_goals (have t1 := (hX9.cell (p := ⟨w5.heap.size, 1, none⟩) (by simp; omega)).trans hs1)
    all_goals (have hY9 : Below (w.heap.size + 3) W0 W9 := hY7.trans (hX9.mono (by have := hb5.size; omega)))
    all_goals (obtain ⟨⟨hr0, hr1, hr2, hr3⟩, hf0, hf1, hf2, hf3⟩ := HT.out _ hY9)
    all_goals (have hw9 : Below w.heap.size w W9 := hw7.trans (hX9.mono hw7.size))
    all_goals (have hq5 := (H5.out _ (hb57.trans (hX9.mono hb57.size))).mono (show K + 1 + 2 ≤ K + 3 by omega))
    all_goals (have hq8 := (H8.out _ hb89).mono (show K + 1 + 2 ≤ K + 3 by omega))
    all_goals (rw [← hW9])
    all_goals (clear hW9 q0 q1 q2 q3 p0 p1 hs0 hs1 hq1 hq2 hp1 hp2)
    all_goals (go_wp2)
    all_goals (refine bodyPost_ret (v := .agg #[.bool b5, .slice o5 m5 c5, .bool b8, .slice o8 m8 c8]) (by simp [results, Tryz.results18, go_sem, hr0, hr1, hr2, hr3]) rfl ⟨_, rfl, ?_, (((hw9.setCell (by simp <;> omega) _).setCell (by simp <;> omega) _).setCell (by simp <;> omega) _).setCell (by simp <;> omega) _⟩)
    all_goals (refine ⟨_, _, _, _, _, _, _, _, rfl, ?_, ?_⟩)
    all_goals (first | exact zt_keeps ((((((Keeps.refl _ _).setCell (u := .bool false) hr0 (fun x h => (by cases h)) _).setCell (u := .slice none 0 0) (by simp [go_sem, hr1]) (fun x h => (by cases h)) _).setCell (u := .bool false) (by simp [go_sem, hr2]) (fun x h => (by cases h)) _).setCell (u := .slice none 0 0) (by simp [go_sem, hr3]) (fun x h => (by cases h)) _)) hq5 | exact zt_keeps ((((((Keeps.refl _ _).setCell (u := .bool false) hr0 (fun x h => (by cases h)) _).setCell (u := .slice none 0 0) (by simp [go_sem, hr1]) (fun x h => (by cases h)) _).setCell (u := .bool false) (by simp [go_sem, hr2]) (fun x h => (by cases h)) _).setCell (u := .slice none 0 0) (by simp [go_sem, hr3]) (fun x h => (by cases h)) _)) hq8)

set_option maxRecDepth 100000 in
set_option maxHeartbeats 1000000 in
theorem rlowest_neg (u v : Value) (n d : Int) (K : Nat) (w : World) (hu : Zt w u n K) (hv : Zt w v d K) (hd : d < 0) (hK : K ≤ 67108864) (hK4 : 4 ≤ K) :
    Calls Tryz.prog 18 #[u, v] w fun e w' => ∃ f, e = .returned f ∧ Qt w' f (n.fdiv (gsg n d)) (d.fdiv (gsg n d)) (K + 3) ∧ Below w.heap.size w w' := by
  obtain ⟨xb, xo, xm, xc, rfl, Hx, _, _⟩ := Zt.opened hu
  obtain ⟨yb, yo, ym, yc, rfl, Hy, _, Hyb⟩ := Zt.opened hv
  clear hu hv
  obtain ⟨W0, hW0⟩ : ∃ W0, W0 = (((w.alloc (.cells #[.bool xb, .slice xo xm xc] 31)).alloc (.cells #[.bool yb, .slice yo ym yc] 31)).alloc (.cells #[.bool false, .slice none 0 0, .bool false, .slice none 0 0] 33)) := ⟨_, rfl⟩
  have hB0 : Below w.heap.size w W0 := by rw [hW0]; exact (((Below.refl _ _).alloc (Nat.le_refl _) _).alloc (by simp) _).alloc (by simp <;> omega) _
  have hz0 : W0.heap.size = w.heap.size + 3 := by rw [hW0]; simp
  have HS : Hid (∀ w', Below (w.heap.size + 2) W0 w' → w'.cell? ⟨w.heap.size, 0, none⟩ = some (.bool xb) ∧ w'.cell? ⟨w.heap.size, 1, none⟩ = some (.slice xo xm xc) ∧ w'.cell? ⟨w.heap.size + 1, 0, none⟩ = some (.bool yb) ∧ w'.cell? ⟨w.heap.size + 1, 1, none⟩ = some (.slice yo ym yc)) := hid (fun w' hb => by
    refine ⟨?_, ?_, ?_, ?_⟩ <;> (rw [hb.cell (by simp <;> omega), hW0]; simp [go_sem]))
  have HT : Hid (∀ w', Below (w.heap.size + 3) W0 w' → (w'.cell? ⟨w.heap.size + 2, 0, none⟩ = some (.bool false) ∧ w'.cell? ⟨w.heap.size + 2, 1, none⟩ = some (.slice none 0 0) ∧ w'.cell? ⟨w.heap.size + 2, 2, none⟩ = some (.bool false) ∧ w'.cell? ⟨w.heap.size + 2, 3, none⟩ = some (.slice none 0 0)) ∧ (w'.frozen? ⟨w.heap.size + 2, 0, none⟩ = false ∧ w'.frozen? ⟨w.heap.size + 2, 1, none⟩ = false ∧ w'.frozen? ⟨w.heap.size + 2, 2, none⟩ = false ∧ w'.frozen? ⟨w.heap.size + 2, 3, none⟩ = false)) := hid (fun w' hb => by
    refine ⟨⟨?_, ?_, ?_, ?_⟩, ?_, ?_, ?_, ?_⟩ <;> (first | (rw [hb.cell (by simp <;> omega), hW0]; simp [go_sem]; done) | (rw [hb.frozen (by simp <;> omega), hW0]; simp [go_sem]; done)))
  have HB0 := hid hB0; have Hz0 := hid hz0; have HW := hid hW0
  clear hW0 hB0 hz0
  have hgs : gsg n d = -(Int.gcd n d : Int) := by unfold gsg; rw [if_pos hd]
  have hyb : yb = true := by rw [Hyb.out]; exact decide_eq_true hd
  subst hyb
  obtain ⟨g, hg⟩ : ∃ g : Int, g = (Int.gcd n d : Int) := ⟨_, rfl⟩
  have hgp : 0 < g := by rw [hg]; have := Int.gcd_pos_of_ne_zero_right n (show d ≠ 0 by omega); omega
  rw [hgs, ← hg]
  go_enter Tryz.func18, Tryz.ntmps18
  go_upto_region 1 with (fail)
  rw [← HW.out]
  obtain ⟨k0, k1, k2, k3⟩ := HS.out _ (Below.refl _ _)
  go_wp2_with fail
  refine (rgcd_any _ _ n d K _ (Hx.out _ HB0.out) (Hy.out _ HB0.out) hK hK4).mono ?_
  rintro e w1 ⟨_, rfl, hv1, hb1⟩
  obtain ⟨b1, o1, m1, c1, rfl, H1, _, _⟩ := Zt.opened hv1
  have hB1 : Below (w.heap.size + 3) W0 w1 := hb1.mono (by have := Hz0.out; omega)
  obtain ⟨W2, hW2⟩ : ∃ W2, W2 = w1.alloc (.cells #[.bool b1, .slice o1 m1 c1] 31) := ⟨_, rfl⟩
  have hal : Below w1.heap.size w1 W2 := by rw [hW2]; exact (Below.refl _ _).alloc (Nat.le_refl _) _
  have hz2 : W2.heap.size = w1.heap.size + 1 := by rw [hW2]; simp
  have hB2 : Below (w.heap.size + 3) W0 W2 := hB1.trans (hal.mono (by have := hB1.size; have := Hz0.out; omega))
  have hg0 : W2.cell? ⟨w1.heap.size, 0, none⟩ = some (.bool b1) := by rw [hW2]; simp [go_sem]
  have hg1 : W2.cell? ⟨w1.heap.size, 1, none⟩ = some (.slice o1 m1 c1) := by rw [hW2]; simp [go_sem]
  have hf0 : W2.frozen? ⟨w1.heap.size, 0, none⟩ = false := by rw [hW2]; simp [go_sem]
  have hf1 : W2.frozen? ⟨w1.heap.size, 1, none⟩ = false := by rw [hW2]; simp [go_sem]
  have HZ1 := H1.out _ hal
  obtain ⟨q0, q1, q2, q3⟩ := HS.out _ (hB2.mono (by omega))
  clear k0 k1 k2 k3 hv1
  go_upto_region 2 with (fail)
  rw [← hW2]
  clear hW2
  rw [← hg] at HZ1
  have hwW2 : Below w.heap.size w W2 := HB0.out.trans (hB2.mono (by omega))
  have hsB1 := hB1.size
  clear hg hb1 hB1
  go_wp2_with fail
  refine (rneg_any _ g (K + 1) W2 HZ1).mono ?_
  rintro e w3 ⟨_, rfl, hv3, hb3⟩
  obtain ⟨b3, o3, m3, c3, rfl, H3, _, _⟩ := Zt.opened hv3
  have hlt : w1.heap.size < W2.heap.size := by omega
  have u0 := (hb3.cell (p := ⟨w1.heap.size, 0, none⟩) hlt).trans hg0
  have u1 := (hb3.cell (p := ⟨w1.heap.size, 1, none⟩) hlt).trans hg1
  have v0 := (hb3.frozen (p := ⟨w1.heap.size, 0, none⟩) hlt).trans hf0
  have v1 := (hb3.frozen (p := ⟨w1.heap.size, 1, none⟩) hlt).trans hf1
  have hz0 := Hz0.out
  clear q0 q1 q2 q3 hf0 hf1 hg0 hg1
  go_upto_region 4 with (fail)
  obtain ⟨W4, hW4⟩ : ∃ W4, W4 = (w3.setCell ⟨w1.heap.size, 0, none⟩ (.bool b3)).setCell ⟨w1.heap.size, 1, none⟩ (.slice o3 m3 c3) := ⟨_, rfl⟩
  have hk : Keeps .i64 w3 W4 := by rw [hW4]; exact ((Keeps.refl _ _).setCell (u := .bool b1) u0 (fun x h => (by cases h)) _).setCell (u := .slice o1 m1 c1) (by simp [go_sem, u1]) (fun x h => (by cases h)) _
  have hg0 : W4.cell? ⟨w1.heap.size, 0, none⟩ = some (.bool b3) := by rw [hW4]; simp [go_sem, u0]
  have hg1 : W4.cell? ⟨w1.heap.size, 1, none⟩ = some (.slice o3 m3 c3) := by rw [hW4]; simp [go_sem, u1]
  have hB4 : Below (w.heap.size + 3) W0 W4 := by rw [hW4]; exact ((hB2.trans (hb3.mono (by omega))).setCell (by simp <;> omega) _).setCell (by simp <;> omega) _
  have hw4 : Below w.heap.size w W4 := HB0.out.trans (hB4.mono (by omega))
  have hz4 : w1.heap.size + 1 ≤ W4.heap.size := by have := hb3.size; rw [hW4]; simp; omega
  have HZ4 := zt_keeps hk (H3.out _ (Below.refl _ _))
  obtain ⟨q0, q1, q2, q3⟩ := HS.out _ (hB4.mono (by omega))
  rw [← hW4]
  clear hW4 hk u0 u1 v0 v1 hv3 hlt
  obtain ⟨e1, hm1, hm2⟩ := zt_digit HZ4
  have e2 : b3 = true := by rw [e1]; exact decide_eq_true (by omega)
  subst e2
  have HB4 := hid hB4; have HWW := hid hw4; have HZg := hid HZ4
  have Hz2 := hid hz4; have Hs1 := hid hsB1
  clear hal hB2 hb3 hwW2 HZ1 hz2 hB4 hw4 HZ4 hz4 hsB1 e1 hm2
  rcases hm1 with h | ⟨hm, gb, off, l, rfl, hc, hl⟩
  · have hmi : (m3 : Int) ≠ 1 := by omega
    go_wp2_with fail
    all_goals (refine (rdiv_any _ _ n (-g) (K + 1) W4 ((Hx.out _ HWW.out).mono (Nat.le_succ _)) HZg.out (by omega) (by omega)).mono ?_)
    all_goals (rintro e w5 ⟨_, _, rfl, hq1, hq2, hb5⟩)
    all_goals (obtain ⟨b5, o5, m5, c5, rfl, H5, _, _⟩ := Zt.opened hq1)
    all_goals (obtain ⟨b6, o6, m6, c6, rfl, H6, _, _⟩ := Zt.opened hq2)
    all_goals (go_upto_region 7 with (fail))
    all_goals (obtain ⟨W7, hW7⟩ : ∃ W7, W7 = (w5.alloc (.cells #[.bool b5, .slice o5 m5 c5] 31)).alloc (.cells #[.bool b6, .slice o6 m6 c6] 31) := ⟨_, rfl⟩)
    all_goals (have hb57 : Below w5.heap.size w5 W7 := by rw [hW7]; exact ((Below.refl _ _).alloc (Nat.le_refl _) _).alloc (by simp) _)
    all_goals (have hs0 : W7.cell? ⟨w5.heap.size, 0, none⟩ = some (.bool b5) := by rw [hW7]; simp [go_sem])
    all_goals (have hs1 : W7.cell? ⟨w5.heap.size, 1, none⟩ = some (.slice o5 m5 c5) := by rw [hW7]; simp [go_sem])
    all_goals (have hz7 : W7.heap.size = w5.heap.size + 2 := by rw [hW7]; simp)
    all_goals (have hX7 : Below W4.heap.size W4 W7 := hb5.trans (hb57.mono hb5.size))
    all_goals (have hz0 := Hz0.out; have hz2 := Hz2.out; have hs1' := Hs1.out)
    all_goals (have hY7 : Below (w.heap.size + 3) W0 W7 := HB4.out.trans (hX7.mono (by omega)))
    all_goals (rw [← hW7])
    all_goals (clear hW7 q0 q1 q2 q3)
    all_goals (obtain ⟨q0, q1, q2, q3⟩ := HS.out _ (hY7.mono (by omega)))
    all_goals (have p0 := (hX7.cell (p := ⟨w1.heap.size, 0, none⟩) (by simp; omega)).trans hg0)
    all_goals (have p1 := (hX7.cell (p := ⟨w1.heap.size, 1, none⟩) (by simp; omega)).trans hg1)
    all_goals (have hw7 : Below w.heap.size w W7 := HWW.out.trans (hX7.mono HWW.out.size))
    all_goals (go_wp2_with fail)
    all_goals (refine (rdiv_any _ _ d (-g) (K + 1) W7 ((Hy.out _ hw7).mono (Nat.le_succ _)) (HZg.out.below hX7 (Nat.le_refl _)) (by omega) (by omega)).mono ?_)
    all_goals (rintro e w8 ⟨_, _, rfl, hp1, hp2, hb8⟩)
    all_goals (obtain ⟨b8, o8, m8, c8, rfl, H8, _, _⟩ := Zt.opened hp1)
    all_goals (obtain ⟨b9, o9, m9, c9, rfl, H9, _, _⟩ := Zt.opened hp2)
    all_goals (go_upto_region 8 with (fail))
    all_goals (obtain ⟨W9, hW9⟩ : ∃ W9, W9 = (w8.alloc (.cells #[.bool b8, .slice o8 m8 c8] 31)).alloc (.cells #[.bool b9, .slice o9 m9 c9] 31) := ⟨_, rfl⟩)
    all_goals (have hb89 : Below w8.heap.size w8 W9 := by rw [hW9]; exact ((Below.refl _ _).alloc (Nat.le_refl _) _).alloc (by simp) _)
    all_goals (have r0 : W9.cell? ⟨w8.heap.size, 0, none⟩ = some (.bool b8) := by rw [hW9]; simp [go_sem])
    all_goals (have r1 : W9.cell? ⟨w8.heap.size, 1, none⟩ = some (.slice o8 m8 c8) := by rw [hW9]; simp [go_sem])
    all_goals (have hX9 : Below W7.heap.size W7 W9 := hb8.trans (hb89.mono hb8.size))
    all_goals (have t0 := (hX9.cell (p := ⟨w5.heap.size, 0, none⟩) (by simp; omega)).trans hs0)
    all_goals (have t1 := (hX9.cell (p := ⟨w5.heap.size, 1, none⟩) (by simp; omega)).trans hs1)
    all_goals (have hY9 : Below (w.heap.size + 3) W0 W9 := hY7.trans (hX9.mono (by have := hb5.size; omega)))
    all_goals (obtain ⟨⟨hr0, hr1, hr2, hr3⟩, hf0, hf1, hf2, hf3⟩ := HT.out _ hY9)
    all_goals (have hw9 : Below w.heap.size w W9 := hw7.trans (hX9.mono hw7.size))
    all_goals (have hq5 := (H5.out _ (hb57.trans (hX9.mono hb57.size))).mono (show K + 1 + 2 ≤ K + 3 by omega))
    all_goals (have hq8 := (H8.out _ hb89).mono (show K + 1 + 2 ≤ K + 3 by omega))
    all_goals (rw [← hW9])
    all_goals (clear hW9 q0 q1 q2 q3 p0 p1 hs0 hs1 hq1 hq2 hp1 hp2)
    all_goals (go_wp2)
    all_goals (refine bodyPost_ret (v := .agg #[.bool b5, .slice o5 m5 c5, .bool b8, .slice o8 m8 c8]) (by simp [results, Tryz.results18, go_sem, hr0, hr1, hr2, hr3]) rfl ⟨_, rfl, ?_, (((hw9.setCell (by simp <;> omega) _).setCell (by simp <;> omega) _).setCell (by simp <;> omega) _).setCell (by simp <;> omega) _⟩)
    all_goals (refine ⟨_, _, _, _, _, _, _, _, rfl, ?_, ?_⟩)
    all_goals (first | exact zt_keeps ((((((Keeps.refl _ _).setCell (u := .bool false) hr0 (fun x h => (by cases h)) _).setCell (u := .slice none 0 0) (by simp [go_sem, hr1]) (fun x h => (by cases h)) _).setCell (u := .bool false) (by simp [go_sem, hr2]) (fun x h => (by cases h)) _).setCell (u := .slice none 0 0) (by simp [go_sem, hr3]) (fun x h => (by cases h)) _)) hq5 | exact zt_keeps ((((((Keeps.refl _ _).setCell (u := .bool false) hr0 (fun x h => (by cases h)) _).setCell (u := .slice none 0 0) (by simp [go_sem, hr1]) (fun x h => (by cases h)) _).setCell (u := .bool false) (by simp [go_sem, hr2]) (fun x h => (by cases h)) _).setCell (u := .slice none 0 0) (by simp [go_sem, hr3]) (fun x h => (by cases h)) _)) hq8)
  · subst hm
    by_cases hl1 : l = 1
    · subst hl1
      go_wp2_with fail
      all_goals (refine (rdiv_any _ _ n (-g) (K + 1) W4 ((Hx.out _ HWW.out).mono (Nat.le_succ _)) HZg.out (by omega) (by omega)).mono ?_)
      all_goals (rintro e w5 ⟨_, _, rfl, hq1, hq2, hb5⟩)
      all_goals (obtain ⟨b5, o5, m5, c5, rfl, H5, _, _⟩ := Zt.opened hq1)
      all_goals (obtain ⟨b6, o6, m6, c6, rfl, H6, _, _⟩ := Zt.opened hq2)
      all_goals (go_upto_region 7 with (fail))
      all_goals (obtain ⟨W7, hW7⟩ : ∃ W7, W7 = (w5.alloc (.cells #[.bool b5, .slice o5 m5 c5] 31)).alloc (.cells #[.bool b6, .slice o6 m6 c6] 31) := ⟨_, rfl⟩)
      all_goals (have hb57 : Below w5.heap.size w5 W7 := by rw [hW7]; exact ((Below.refl _ _).alloc (Nat.le_refl _) _).alloc (by simp) _)
      all_goals (have hs0 : W7.cell? ⟨w5.heap.size, 0, none⟩ = some (.bool b5) := by rw [hW7]; simp [go_sem])
      all_goals (have hs1 : W7.cell? ⟨w5.heap.size, 1, none⟩ = some (.slice o5 m5 c5) := by rw [hW7]; simp [go_sem])
      all_goals (have hz7 : W7.heap.size = w5.heap.size + 2 := by rw [hW7]; simp)
      all_goals (have hX7 : Below W4.heap.size W4 W7 := hb5.trans (hb57.mono hb5.size))
      all_goals (have hz0 := Hz0.out; have hz2 := Hz2.out; have hs1' := Hs1.out)
      all_goals (have hY7 : Below (w.heap.size + 3) W0 W7 := HB4.out.trans (hX7.mono (by omega)))
      all_goals (rw [← hW7])
      all_goals (clear hW7 q0 q1 q2 q3)
      all_goals (obtain ⟨q0, q1, q2, q3⟩ := HS.out _ (hY7.mono (by omega)))
      all_goals (have p0 := (hX7.cell (p := ⟨w1.heap.size, 0, none⟩) (by simp; omega)).trans hg0)
      all_goals (have p1 := (hX7.cell (p := ⟨w1.heap.size, 1, none⟩) (by simp; omega)).trans hg1)
      all_goals (have hw7 : Below w.heap.size w W7 := HWW.out.trans (hX7.mono HWW.out.size))
      all_goals (go_wp2_with fail)
      all_goals (refine (rdiv_any _ _ d (-g) (K + 1) W7 ((Hy.out _ hw7).mono (Nat.le_succ _)) (HZg.out.below hX7 (Nat.le_refl _)) (by omega) (by omega)).mono ?_)
      all_goals (rintro e w8 ⟨_, _, rfl, hp1, hp2, hb8⟩)
      all_goals (obtain ⟨b8, o8, m8, c8, rfl, H8, _, _⟩ := Zt.opened hp1)
      all_goals (obtain ⟨b9, o9, m9, c9, rfl, H9, _, _⟩ := Zt.opened hp2)
      all_goals (go_upto_region 8 with (fail))
      all_goals (obtain ⟨W9, hW9⟩ : ∃ W9, W9 = (w8.alloc (.cells #[.bool b8, .slice o8 m8 c8] 31)).alloc (.cells #[.bool b9, .slice o9 m9 c9] 31) := ⟨_, rfl⟩)
      all_goals (have hb89 : Below w8.heap.size w8 W9 := by rw [hW9]; exact ((Below.refl _ _).alloc (Nat.le_refl _) _).alloc (by simp) _)
      all_goals (have r0 : W9.cell? ⟨w8.heap.size, 0, none⟩ = some (.bool b8) := by rw [hW9]; simp [go_sem])
      all_goals (have r1 : W9.cell? ⟨w8.heap.size, 1, none⟩ = some (.slice o8 m8 c8) := by rw [hW9]; simp [go_sem])
      all_goals (have hX9 : Below W7.heap.size W7 W9 := hb8.trans (hb89.mono hb8.size))
      all_goals (have t0 := (hX9.cell (p := ⟨w5.heap.size, 0, none⟩) (by simp; omega)).trans hs0)
      all_goals (have t1 := (hX9.cell (p := ⟨w5.heap.size, 1, none⟩) (by simp; omega)).trans hs1)
      all_goals (have hY9 : Below (w.heap.size + 3) W0 W9 := hY7.trans (hX9.mono (by have := hb5.size; omega)))
      all_goals (obtain ⟨⟨hr0, hr1, hr2, hr3⟩, hf0, hf1, hf2, hf3⟩ := HT.out _ hY9)
      all_goals (have hw9 : Below w.heap.size w W9 := hw7.trans (hX9.mono hw7.size))
      all_goals (have hq5 := (H5.out _ (hb57.trans (hX9.mono hb57.size))).mono (show K + 1 + 2 ≤ K + 3 by omega))
      all_goals (have hq8 := (H8.out _ hb89).mono (show K + 1 + 2 ≤ K + 3 by omega))
      all_goals (rw [← hW9])
      all_goals (clear hW9 q0 q1 q2 q3 p0 p1 hs0 hs1 hq1 hq2 hp1 hp2)
      all_goals (go_wp2)
      all_goals (refine bodyPost_ret (v := .agg #[.bool b5, .slice o5 m5 c5, .bool b8, .slice o8 m8 c8]) (by simp [results, Tryz.results18, go_sem, hr0, hr1, hr2, hr3]) rfl ⟨_, rfl, ?_, (((hw9.setCell (by simp <;> omega) _).setCell (by simp <;> omega) _).setCell (by simp <;> omega) _).setCell (by simp <;> omega) _⟩)
      all_goals (refine ⟨_, _, _, _, _, _, _, _, rfl, ?_, ?_⟩)
      all_goals (first | exact zt_keeps ((((((Keeps.refl _ _).setCell (u := .bool false) hr0 (fun x h => (by cases h)) _).setCell (u := .slice none 0 0) (by simp [go_sem, hr1]) (fun x h => (by cases h)) _).setCell (u := .bool false) (by simp [go_sem, hr2]) (fun x h => (by cases h)) _).setCell (u := .slice none 0 0) (by simp [go_sem, hr3]) (fun x h => (by cases h)) _)) hq5 | exact zt_keeps ((((((Keeps.refl _ _).setCell (u := .bool false) hr0 (fun x h => (by cases h)) _).setCell (u := .slice none 0 0) (by simp [go_sem, hr1]) (fun x h => (by cases h)) _).setCell (u := .bool false) (by simp [go_sem, hr2]) (fun x h => (by cases h)) _).setCell (u := .slice none 0 0) (by simp [go_sem, hr3]) (fun x h => (by cases h)) _)) hq8)
    · go_wp2_with fail
      all_goals (refine (rdiv_any _ _ n (-g) (K + 1) W4 ((Hx.out _ HWW.out).mono (Nat.le_succ _)) HZg.out (by omega) (by omega)).mono ?_)
      all_goals (rintro e w5 ⟨_, _, rfl, hq1, hq2, hb5⟩)
      all_goals (obtain ⟨b5, o5, m5, c5, rfl, H5, _, _⟩ := Zt.opened hq1)
      all_goals (obtain ⟨b6, o6, m6, c6, rfl, H6, _, _⟩ := Zt.opened hq2)
      all_goals (go_upto_region 7 with (fail))
      all_goals (obtain ⟨W7, hW7⟩ : ∃ W7, W7 = (w5.alloc (.cells #[.bool b5, .slice o5 m5 c5] 31)).alloc (.cells #[.bool b6, .slice o6 m6 c6] 31) := ⟨_, rfl⟩)
      all_goals (have hb57 : Below w5.heap.size w5 W7 := by rw [hW7]; exact ((Below.refl _ _).alloc (Nat.le_refl _) _).alloc (by simp) _)
      all_goals (have hs0 : W7.cell? ⟨w5.heap.size, 0, none⟩ = some (.bool b5) := by rw [hW7]; simp [go_sem])
      all_goals (have hs1 : W7.cell? ⟨w5.heap.size, 1, none⟩ = some (.slice o5 m5 c5) := by rw [hW7]; simp [go_sem])
      all_goals (have hz7 : W7.heap.size = w5.heap.size + 2 := by rw [hW7]; simp)
      all_goals (have hX7 : Below W4.heap.size W4 W7 := hb5.trans (hb57.mono hb5.size))
      all_goals (have hz0 := Hz0.out; have hz2 := Hz2.out; have hs1' := Hs1.out)
      all_goals (have hY7 : Below (w.heap.size + 3) W0 W7 := HB4.out.trans (hX7.mono (by omega)))
      all_goals (rw [← hW7])
      all_goals (clear hW7 q0 q1 q2 q3)
      all_goals (obtain ⟨q0, q1, q2, q3⟩ := HS.out _ (hY7.mono (by omega)))
      all_goals (have p0 := (hX7.cell (p := ⟨w1.heap.size, 0, none⟩) (by simp; omega)).trans hg0)
      all_goals (have p1 := (hX7.cell (p := ⟨w1.heap.size, 1, none⟩) (by simp; omega)).trans hg1)
      all_goals (have hw7 : Below w.heap.size w W7 := HWW.out.trans (hX7.mono HWW.out.size))
      all_goals (go_wp2_with fail)
      all_goals (refine (rdiv_any _ _ d (-g) (K + 1) W7 ((Hy.out _ hw7).mono (Nat.le_succ _)) (HZg.out.below hX7 (Nat.le_refl _)) (by omega) (by omega)).mono ?_)
      all_goals (rintro e w8 ⟨_, _, rfl, hp1, hp2, hb8⟩)
      all_goals (obtain ⟨b8, o8, m8, c8, rfl, H8, _, _⟩ := Zt.opened hp1)
      all_goals (obtain ⟨b9, o9, m9, c9, rfl, H9, _, _⟩ := Zt.opened hp2)
      all_goals (go_upto_region 8 with (fail))
      all_goals (obtain ⟨W9, hW9⟩ : ∃ W9, W9 = (w8.alloc (.cells #[.bool b8, .slice o8 m8 c8] 31)).alloc (.cells #[.bool b9, .slice o9 m9 c9] 31) := ⟨_, rfl⟩)
      all_goals (have hb89 : Below w8.heap.size w8 W9 := by rw [hW9]; exact ((Below.refl _ _).alloc (Nat.le_refl _) _).alloc (by simp) _)
      all_goals (have r0 : W9.cell? ⟨w8.heap.size, 0, none⟩ = some (.bool b8) := by rw [hW9]; simp [go_sem])
      all_goals (have r1 : W9.cell? ⟨w8.heap.size, 1, none⟩ = some (.slice o8 m8 c8) := by rw [hW9]; simp [go_sem])
      all_goals (have hX9 : Below W7.heap.size W7 W9 := hb8.trans (hb89.mono hb8.size))
      all_goals (have t0 := (hX9.cell (p := ⟨w5.heap.size, 0, none⟩) (by simp; omega)).trans hs0)
      all_goals (have t1 := (hX9.cell (p := ⟨w5.heap.size, 1, none⟩) (by simp; omega)).trans hs1)
      all_goals (have hY9 : Below (w.heap.size + 3) W0 W9 := hY7.trans (hX9.mono (by have := hb5.size; omega)))
      all_goals (obtain ⟨⟨hr0, hr1, hr2, hr3⟩, hf0, hf1, hf2, hf3⟩ := HT.out _ hY9)
      all_goals (have hw9 : Below w.heap.size w W9 := hw7.trans (hX9.mono hw7.size))
      all_goals (have hq5 := (H5.out _ (hb57.trans (hX9.mono hb57.size))).mono (show K + 1 + 2 ≤ K + 3 by omega))
      all_goals (have hq8 := (H8.out _ hb89).mono (show K + 1 + 2 ≤ K + 3 by omega))
      all_goals (rw [← hW9])
      all_goals (clear hW9 q0 q1 q2 q3 p0 p1 hs0 hs1 hq1 hq2 hp1 hp2)
      all_goals (go_wp2)
      all_goals (refine bodyPost_ret (v := .agg #[.bool b5, .slice o5 m5 c5, .bool b8, .slice o8 m8 c8]) (by simp [results, Tryz.results18, go_sem, hr0, hr1, hr2, hr3]) rfl ⟨_, rfl, ?_, (((hw9.setCell (by simp <;> omega) _).setCell (by simp <;> omega) _).setCell (by simp <;> omega) _).setCell (by simp <;> omega) _⟩)
      all_goals (refine ⟨_, _, _, _, _, _, _, _, rfl, ?_, ?_⟩)
      all_goals (first | exact zt_keeps ((((((Keeps.refl _ _).setCell (u := .bool false) hr0 (fun x h => (by cases h)) _).setCell (u := .slice none 0 0) (by simp [go_sem, hr1]) (fun x h => (by cases h)) _).setCell (u := .bool false) (by simp [go_sem, hr2]) (fun x h => (by cases h)) _).setCell (u := .slice none 0 0) (by simp [go_sem, hr3]) (fun x h => (by cases h)) _)) hq5 | exact zt_keeps ((((((Keeps.refl _ _).setCell (u := .bool false) hr0 (fun x h => (by cases h)) _).setCell (u := .slice none 0 0) (by simp [go_sem, hr1]) (fun x h => (by cases h)) _).setCell (u := .bool false) (by simp [go_sem, hr2]) (fun x h => (by cases h)) _).setCell (u := .slice none 0 0) (by simp [go_sem, hr3]) (fun x h => (by cases h)) _)) hq8)

end Go.Proofs.YtbapeilpkhbbeaaGreatDoor

/- exact.Small: the number of 64 bits that an integer is, if it is one. -/
namespace Go.Proofs.YtbapeilpkhbbeaaGreatDoor
open Go.RowKit

end Go.Proofs.YtbapeilpkhbbeaaGreatDoor
