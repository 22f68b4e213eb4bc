/- exact.readRatio at any ratio; Signum; the negated fraction, and products. Fractions: products, negation; exact.Times, exact.Minus. Quotients rounded down, and their rests: plain facts. -/
import Derived.Test.YtbapeilpkhbbeaaGreatRn20
import Derived.Test.YtbapeilpkhbbeaaGreatRn14
import Derived.Test.YtbapeilpkhbbeaaGreatRn05
import Derived.Test.YtbapeilpkhbbeaaGreatRn04
/- exact.readRatio at any ratio; Signum; the negated fraction, and products. -/
namespace Go.Proofs.YtbapeilpkhbbeaaGreat
open Go.RowKit

theorem sign_z0 (v : Value) (K : Nat) (w : World) (h : It w v 0 K) : Calls Tryz.prog 61 #[v] w fun e w' => e = .returned (.int .i64 0) ∧ Below w.heap.size w w' := sign_any v 0 K w h
theorem zero_it (w : World) : It w (.agg #[.bool false, .slice none 0 0]) 0 1 := ⟨.slice none 0 0, rfl, (Nt.nil w).mono (by omega)⟩

set_option maxRecDepth 100000 in
set_option maxHeartbeats 1000000 in
theorem readRatio_zero (v : Value) (x : Int) (K : Nat) (w : World) (hv : Ra w v x 0 K) (hK : K ≤ 1073741823) :
    Calls Tryz.prog 52 #[v] w fun e w' => ∃ f, e = .returned f ∧ Ft w' f 0 1 1 ∧ Below w.heap.size w w' := by
  obtain ⟨xb, xo, xm, xc, yb, yo, ym, yc, rfl, Hx, Hy⟩ := Ra.opened hv
  clear hv
  obtain ⟨W0, hW0⟩ : ∃ W0, W0 = ((w.alloc (.cells #[.bool xb, .slice xo xm xc, .bool yb, .slice yo ym yc] 26)).alloc (.cells #[.bool false, .slice none 0 0, .slice none 0 0] 80)) := ⟨_, rfl⟩
  have hB0 : Below w.heap.size w W0 := by rw [hW0]; exact ((Below.refl _ _).alloc (Nat.le_refl _) _).alloc (by simp) _
  have hz0 : W0.heap.size = w.heap.size + 2 := by rw [hW0]; simp
  have HS : Hid (∀ w', Below (w.heap.size + 1) W0 w' → w'.cell? ⟨w.heap.size, 0, none⟩ = some (.bool xb) ∧ w'.cell? ⟨w.heap.size, 1, none⟩ = some (.slice xo xm xc) ∧ w'.cell? ⟨w.heap.size, 2, none⟩ = some (.bool yb) ∧ w'.cell? ⟨w.heap.size, 3, none⟩ = some (.slice yo ym yc)) := hid (fun w' hb => by
    refine ⟨?_, ?_, ?_, ?_⟩ <;> (rw [hb.cell (by simp <;> omega), hW0]; simp [go_sem]))
  have HT : Hid (∀ w', Below (w.heap.size + 2) W0 w' → (w'.cell? ⟨w.heap.size + 1, 0, none⟩ = some (.bool false) ∧ w'.cell? ⟨w.heap.size + 1, 1, none⟩ = some (.slice none 0 0) ∧ w'.cell? ⟨w.heap.size + 1, 2, none⟩ = some (.slice none 0 0)) ∧ (w'.frozen? ⟨w.heap.size + 1, 0, none⟩ = false ∧ w'.frozen? ⟨w.heap.size + 1, 1, none⟩ = false ∧ w'.frozen? ⟨w.heap.size + 1, 2, none⟩ = false)) := hid (fun w' hb => by
    refine ⟨⟨?_, ?_, ?_⟩, ?_, ?_, ?_⟩ <;> (first | (rw [hb.cell (by simp <;> omega), hW0]; simp [go_sem]; done) | (rw [hb.frozen (by simp <;> omega), hW0]; simp [go_sem]; done)))
  have HB0 := hid hB0; have Hz0 := hid hz0; have HW := hid hW0
  clear hW0 hB0 hz0
  go_enter Tryz.func52, Tryz.ntmps52
  go_upto_region 1 with (fail)
  rw [← HW.out]
  obtain ⟨k0, k1, k2, k3⟩ := HS.out _ (Below.refl _ _)
  go_wp2_with fail
  refine (read_any _ 0 K _ (Hy.out _ HB0.out) (by omega)).mono ?_
  rintro e w1 ⟨_, rfl, hv1, hb1⟩
  obtain ⟨b1, o1, m1, c1, rfl, H1, H1s, H1b⟩ := It.opened hv1
  have hB1 : Below (w.heap.size + 2) W0 w1 := hb1.mono (by have := Hz0.out; omega)
  clear k0 k1 k2 k3 hv1 hb1
  go_wp2_with fail
  obtain ⟨W2, hW2⟩ : ∃ W2, W2 = w1.alloc (.cells #[.bool b1, .slice o1 m1 c1] 78) := ⟨_, rfl⟩
  have hal : Below w1.heap.size w1 W2 := by rw [hW2]; exact (Below.refl _ _).alloc (Nat.le_refl _) _
  have hz2 : W2.heap.size = w1.heap.size + 1 := by rw [hW2]; simp
  have hs1 := hB1.size
  have hB2 : Below (w.heap.size + 2) W0 W2 := hB1.trans (hal.mono (by have := Hz0.out; omega))
  have hbx := HS.out _ (hB2.mono (by omega))
  have hby0 : W2.cell? ⟨w1.heap.size, 0, none⟩ = some (.bool b1) := by rw [hW2]; simp [go_sem]
  have hby1 : W2.cell? ⟨w1.heap.size, 1, none⟩ = some (.slice o1 m1 c1) := by rw [hW2]; simp [go_sem]
  have HSS : Hid (∀ w', Kp W2.heap.size (w.heap.size + 1) W2 w' → w'.cell? ⟨w.heap.size, 0, none⟩ = some (.bool xb) ∧ w'.cell? ⟨w.heap.size, 1, none⟩ = some (.slice xo xm xc) ∧ w'.cell? ⟨w1.heap.size, 0, none⟩ = some (.bool b1) ∧ w'.cell? ⟨w1.heap.size, 1, none⟩ = some (.slice o1 m1 c1)) := hid (fun w' h => by
    have := Hz0.out
    exact ⟨(h.cell _ (by simp; omega) (by simp)).trans hbx.1, (h.cell _ (by simp; omega) (by simp)).trans hbx.2.1, (h.cell _ (by simp; omega) (by simp; omega)).trans hby0, (h.cell _ (by simp; omega) (by simp; omega)).trans hby1⟩)
  rw [← hW2]
  have HAL := hid hal; have HB2 := hid hB2; have Hz2 := hid hz2; have Hs1 := hid hs1
  clear hW2 hbx hby0 hby1 hal hB2 hz2 hs1 hB1
  refine (sign_z0 _ _ _ (H1.out _ HAL.out)).mono ?_
  rintro e w3 ⟨rfl, hb3⟩
  have hX3 : Below W2.heap.size W2 w3 := hb3
  go_wp2_with fail
  refine (whole_any _ 0 1 _ (zero_it _) (Nat.le_refl _)).mono ?_
  rintro e w5 ⟨_, rfl, ⟨_, _, rfl, hn5, hd5⟩, hb5⟩
  obtain ⟨o6, m6, c6, rfl, H6⟩ := Nt.opened hn5
  obtain ⟨o7, m7, c7, rfl, H7⟩ := Nt.opened hd5
  have hX5 : Below W2.heap.size W2 w5 := hX3.trans (hb5.mono hX3.size)
  obtain ⟨⟨hr0, hr1, hr2⟩, hf0, hf1, hf2⟩ := HT.out _ (HB2.out.trans (hX5.mono HB2.out.size |>.mono (by have := Hz0.out; omega)))
  go_wp2
  have hz0 := Hz0.out; have hz2 := Hz2.out; have hs1 := Hs1.out; have hs5 := hX5.size
  have hw5 : Below w.heap.size w w5 := HB0.out.trans ((HB2.out.trans (hX5.mono (by omega))).mono (by omega))
  refine bodyPost_ret (v := .agg #[.bool false, .slice o6 m6 c6, .slice o7 m7 c7]) (by simp [results, Tryz.results52, go_sem, hr0, hr1, hr2]) rfl ⟨_, rfl, ?_, ((hw5.setCell (by simp <;> omega) _).setCell (by simp <;> omega) _).setCell (by simp <;> omega) _⟩
  refine ⟨_, _, rfl, ?_, ?_⟩
  · exact nt_keeps (((((Keeps.refl _ _).setCell (u := .bool false) hr0 (fun x h => (by cases h)) _).setCell (u := .slice none 0 0) (by simp [go_sem, hr1]) (fun x h => (by cases h)) _).setCell (u := .slice none 0 0) (by simp [go_sem, hr2]) (fun x h => (by cases h)) _)) (H6.out _ (Below.refl _ _))
  · exact nt_keeps (((((Keeps.refl _ _).setCell (u := .bool false) hr0 (fun x h => (by cases h)) _).setCell (u := .slice none 0 0) (by simp [go_sem, hr1]) (fun x h => (by cases h)) _).setCell (u := .slice none 0 0) (by simp [go_sem, hr2]) (fun x h => (by cases h)) _)) (H7.out _ (Below.refl _ _))

/-- The number that a ratio stands for. -/
def rn (x y : Int) : Int := if y = 0 then 0 else sgn (decide (x < 0) != decide (y < 0)) (x.natAbs : Int)
def rd (y : Int) : Int := if y = 0 then 1 else (y.natAbs : Int)
theorem rd_pos (y : Int) : 0 < rd y := by unfold rd; split <;> omega
theorem Ft.mono {w : World} {v : Value} {z d : Int} {K K' : Nat} (h : Ft w v z d K) (hk : K ≤ K') : Ft w v z d K' := by
  obtain ⟨s1, s2, rfl, h1, h2⟩ := h
  exact ⟨s1, s2, rfl, h1.mono hk, h2.mono hk⟩
theorem readRatio_any (v : Value) (x y : Int) (K : Nat) (w : World) (hv : Ra w v x y K) (hK : K ≤ 1073741823) :
    Calls Tryz.prog 52 #[v] w fun e w' => ∃ f, e = .returned f ∧ Ft w' f (rn x y) (rd y) ((K + 1) / 2 + 1) ∧ Below w.heap.size w w' := by
  by_cases hy : y = 0
  · subst hy
    refine (readRatio_zero v x K w hv hK).mono ?_
    rintro e w' ⟨f, rfl, hf, hb⟩
    exact ⟨f, rfl, (show Ft w' f 0 1 1 from hf).mono (by omega), hb⟩
  · refine (readRatio_ne v x y K w hv hy hK).mono ?_
    rintro e w' ⟨f, rfl, hf, hb⟩
    refine ⟨f, rfl, ?_, hb⟩
    have e1 : rn x y = sgn (decide (x < 0) != decide (y < 0)) (x.natAbs : Int) := by unfold rn; rw [if_neg hy]
    have e2 : rd y = (y.natAbs : Int) := by unfold rd; rw [if_neg hy]
    rw [e1, e2]
    exact hf.mono (by omega)

end Go.Proofs.YtbapeilpkhbbeaaGreat

/- Fractions: products, negation; exact.Times, exact.Minus. -/
namespace Go.Proofs.YtbapeilpkhbbeaaGreat
open Go.RowKit

end Go.Proofs.YtbapeilpkhbbeaaGreat

/- Quotients rounded down, and their rests: plain facts. -/
namespace Go.Proofs.YtbapeilpkhbbeaaGreat

theorem fdiv_uniq {x y q r : Int} (e : x = q * y + r) (h : (0 ≤ r ∧ r < y) ∨ (y < r ∧ r ≤ 0)) : x.fdiv y = q ∧ x.fmod y = r := by
  rcases h with ⟨h0, h1⟩ | ⟨h0, h1⟩
  · have hy : 0 < y := by omega
    rw [Int.fdiv_eq_ediv_of_nonneg _ (Int.le_of_lt hy), Int.fmod_eq_emod_of_nonneg _ (Int.le_of_lt hy)]
    exact (Int.ediv_emod_unique hy).2 ⟨by rw [e, Int.mul_comm]; omega, h0, h1⟩
  · have hy : 0 < -y := by omega
    have hq : x.fdiv y = q := by
      rw [← Int.neg_fdiv_neg, Int.fdiv_eq_ediv_of_nonneg _ (Int.le_of_lt hy)]
      exact ((Int.ediv_emod_unique (a := -x) (r := -r) (q := q) hy).2 ⟨by rw [e, Int.mul_comm q y, Int.neg_mul]; omega, by omega, by omega⟩).1
    refine ⟨hq, ?_⟩
    rw [Int.fmod_def, hq, e, Int.mul_comm]
    omega
theorem abs_div (x y : Int) (hy : y ≠ 0) : (x.natAbs : Int) = (x.natAbs : Int) / (y.natAbs : Int) * (y.natAbs : Int) + (x.natAbs : Int) % (y.natAbs : Int) ∧ 0 ≤ (x.natAbs : Int) % (y.natAbs : Int) ∧ (x.natAbs : Int) % (y.natAbs : Int) < (y.natAbs : Int) := by
  have h : (0 : Int) < (y.natAbs : Int) := by omega
  refine ⟨?_, Int.emod_nonneg _ (by omega), Int.emod_lt_of_pos _ h⟩
  have := Int.emod_add_mul_ediv (x.natAbs : Int) (y.natAbs : Int)
  rw [Int.mul_comm ((x.natAbs : Int) / (y.natAbs : Int))]
  omega
theorem fdiv_same (x y : Int) (hy : y ≠ 0) (hs : decide (x < 0) = decide (y < 0)) : sgn false ((x.natAbs : Int) / (y.natAbs : Int)) = x.fdiv y ∧ sgn (decide (x < 0)) ((x.natAbs : Int) % (y.natAbs : Int)) = x.fmod y := by
  obtain ⟨e, h0, h1⟩ := abs_div x y hy
  generalize (x.natAbs : Int) / (y.natAbs : Int) = q at *
  generalize (x.natAbs : Int) % (y.natAbs : Int) = r at *
  by_cases hx : x < 0
  · have hy2 : y < 0 := by simpa [hx] using hs.symm
    have ea : (x.natAbs : Int) = -x := by omega
    have eb : (y.natAbs : Int) = -y := by omega
    rw [ea, eb] at e
    rw [eb] at h1
    have h := fdiv_uniq (x := x) (y := y) (q := q) (r := -r) (by rw [Int.mul_neg] at e; omega) (Or.inr ⟨by omega, by omega⟩)
    simp only [sgn, hx, decide_true, if_true, h.1, h.2]
    simp
  · have hy2 : ¬ y < 0 := by simpa [hx] using hs.symm
    have ea : (x.natAbs : Int) = x := by omega
    have eb : (y.natAbs : Int) = y := by omega
    rw [ea, eb] at e
    rw [eb] at h1
    have h := fdiv_uniq (x := x) (y := y) (q := q) (r := r) (by omega) (Or.inl ⟨by omega, by omega⟩)
    simp [sgn, hx, h.1, h.2]
theorem fdiv_even (x y : Int) (hy : y ≠ 0) (hs : decide (x < 0) ≠ decide (y < 0)) (hr : (x.natAbs : Int) % (y.natAbs : Int) = 0) : sgn true ((x.natAbs : Int) / (y.natAbs : Int)) = x.fdiv y ∧ sgn (decide (x < 0)) ((x.natAbs : Int) % (y.natAbs : Int)) = x.fmod y := by
  obtain ⟨e, h0, h1⟩ := abs_div x y hy
  rw [hr] at e ⊢
  generalize (x.natAbs : Int) / (y.natAbs : Int) = q at *
  by_cases hx : x < 0
  · have hy2 : ¬ y < 0 := by simpa [hx] using hs
    have ea : (x.natAbs : Int) = -x := by omega
    have eb : (y.natAbs : Int) = y := by omega
    rw [ea, eb] at e
    have h := fdiv_uniq (x := x) (y := y) (q := -q) (r := 0) (by rw [Int.neg_mul]; omega) (Or.inl ⟨by omega, by omega⟩)
    simp [sgn, h.1, h.2]
  · have hy2 : y < 0 := by simpa [hx] using hs
    have ea : (x.natAbs : Int) = x := by omega
    have eb : (y.natAbs : Int) = -y := by omega
    rw [ea, eb] at e
    have h := fdiv_uniq (x := x) (y := y) (q := -q) (r := 0) (by rw [Int.neg_mul]; rw [Int.mul_neg] at e; omega) (Or.inr ⟨by omega, by omega⟩)
    simp [sgn, h.1, h.2]
theorem fdiv_floor (x y : Int) (hy : y ≠ 0) (hs : decide (x < 0) ≠ decide (y < 0)) (hr : (x.natAbs : Int) % (y.natAbs : Int) ≠ 0) :
    sgn true ((x.natAbs : Int) / (y.natAbs : Int) + 1) = x.fdiv y ∧ sgn (decide (y < 0)) ((y.natAbs : Int) - (x.natAbs : Int) % (y.natAbs : Int)) = x.fmod y := by
  obtain ⟨e, h0, h1⟩ := abs_div x y hy
  generalize (x.natAbs : Int) / (y.natAbs : Int) = q at *
  generalize (x.natAbs : Int) % (y.natAbs : Int) = r at *
  by_cases hx : x < 0
  · have hy2 : ¬ y < 0 := by simpa [hx] using hs
    have ea : (x.natAbs : Int) = -x := by omega
    have eb : (y.natAbs : Int) = y := by omega
    rw [ea, eb] at e
    rw [eb] at h1 ⊢
    have h := fdiv_uniq (x := x) (y := y) (q := -(q + 1)) (r := y - r) (by rw [Int.neg_mul, Int.add_mul]; omega) (Or.inl ⟨by omega, by omega⟩)
    simp [sgn, h.1, h.2, hy2]
  · have hy2 : y < 0 := by simpa [hx] using hs
    have ea : (x.natAbs : Int) = x := by omega
    have eb : (y.natAbs : Int) = -y := by omega
    rw [ea, eb] at e
    rw [eb] at h1 ⊢
    have h := fdiv_uniq (x := x) (y := y) (q := -(q + 1)) (r := y + r) (by rw [Int.neg_mul, Int.add_mul]; rw [Int.mul_neg] at e; omega) (Or.inr ⟨by omega, by omega⟩)
    simp [sgn, h.1, h.2, hy2]
    omega
end Go.Proofs.YtbapeilpkhbbeaaGreat
