/- exact.readRatio at any ratio; Signum; the negated fraction, and products. exact.parseQuotient of any two texts. (exact.integer).text and exact.Text of numbers closer to 0 than 100. Fractions: products, negation; exact.Times, exact.Minus. A region that draws its order and holds up to twelve values and one box for a struct of a bool and a slice: what holds between two of its operations. Written by gen_boxk.py. (exact.fraction).plus where the denominators differ. Written by gen_fplus.py. -/
import Derived.Test.YtilpkocmdpofpaaGreatDoorNb24
import Derived.Test.YtilpkocmdpofpaaGreatDoorNb17
import Derived.Test.YtilpkocmdpofpaaGreatDoorNb25
import Derived.Test.YtilpkocmdpofpaaGreatDoorNb22
import Derived.Test.YtilpkocmdpofpaaGreatDoorNb20
import Derived.Test.YtilpkocmdpofpaaGreatDoorNb11
import Derived.Test.YtilpkocmdpofpaaGreatDoorNb12
import Derived.Test.YtilpkocmdpofpaaGreatDoorNb16
/- exact.readRatio at any ratio; Signum; the negated fraction, and products. -/
namespace Go.Proofs.YtilpkocmdpofpaaGreatDoor
open Go.RowKit

theorem sign_z0 (v : Value) (K : Nat) (w : World) (h : It w v 0 K) : Calls Tryz.prog 79 #[v] w fun e w' => e = .returned (.int .i64 0) ∧ Below w.heap.size w w' := sign_any v 0 K w h
theorem zero_it (w : World) : It w (.agg #[.bool false, .slice none 0 0]) 0 1 := ⟨.slice none 0 0, rfl, (Nt.nil w).mono (by omega)⟩

set_option maxRecDepth 100000 in
set_option maxHeartbeats 1000000 in
theorem readRatio_zero (v : Value) (x : Int) (K : Nat) (w : World) (hv : Ra w v x 0 K) (hK : K ≤ 1073741823) :
    Calls Tryz.prog 53 #[v] w fun e w' => ∃ f, e = .returned f ∧ Ft w' f 0 1 1 ∧ Below w.heap.size w w' := by
  obtain ⟨xb, xo, xm, xc, yb, yo, ym, yc, rfl, Hx, Hy⟩ := Ra.opened hv
  clear hv
  obtain ⟨W0, hW0⟩ : ∃ W0, W0 = ((w.alloc (.cells #[.bool xb, .slice xo xm xc, .bool yb, .slice yo ym yc] 26)).alloc (.cells #[.bool false, .slice none 0 0, .slice none 0 0] 86)) := ⟨_, rfl⟩
  have hB0 : Below w.heap.size w W0 := by rw [hW0]; exact ((Below.refl _ _).alloc (Nat.le_refl _) _).alloc (by simp) _
  have hz0 : W0.heap.size = w.heap.size + 2 := by rw [hW0]; simp
  have HS : Hid (∀ w', Below (w.heap.size + 1) W0 w' → w'.cell? ⟨w.heap.size, 0, none⟩ = some (.bool xb) ∧ w'.cell? ⟨w.heap.size, 1, none⟩ = some (.slice xo xm xc) ∧ w'.cell? ⟨w.heap.size, 2, none⟩ = some (.bool yb) ∧ w'.cell? ⟨w.heap.size, 3, none⟩ = some (.slice yo ym yc)) := hid (fun w' hb => by
    refine ⟨?_, ?_, ?_, ?_⟩ <;> (rw [hb.cell (by simp <;> omega), hW0]; simp [go_sem]))
  have HT : Hid (∀ w', Below (w.heap.size + 2) W0 w' → (w'.cell? ⟨w.heap.size + 1, 0, none⟩ = some (.bool false) ∧ w'.cell? ⟨w.heap.size + 1, 1, none⟩ = some (.slice none 0 0) ∧ w'.cell? ⟨w.heap.size + 1, 2, none⟩ = some (.slice none 0 0)) ∧ (w'.frozen? ⟨w.heap.size + 1, 0, none⟩ = false ∧ w'.frozen? ⟨w.heap.size + 1, 1, none⟩ = false ∧ w'.frozen? ⟨w.heap.size + 1, 2, none⟩ = false)) := hid (fun w' hb => by
    refine ⟨⟨?_, ?_, ?_⟩, ?_, ?_, ?_⟩ <;> (first | (rw [hb.cell (by simp <;> omega), hW0]; simp [go_sem]; done) | (rw [hb.frozen (by simp <;> omega), hW0]; simp [go_sem]; done)))
  have HB0 := hid hB0; have Hz0 := hid hz0; have HW := hid hW0
  clear hW0 hB0 hz0
  go_enter Tryz.func53, Tryz.ntmps53
  go_upto_region 1 with (fail)
  rw [← HW.out]
  obtain ⟨k0, k1, k2, k3⟩ := HS.out _ (Below.refl _ _)
  go_wp2_with fail
  refine (read_any _ 0 K _ (Hy.out _ HB0.out) (by omega)).mono ?_
  rintro e w1 ⟨_, rfl, hv1, hb1⟩
  obtain ⟨b1, o1, m1, c1, rfl, H1, H1s, H1b⟩ := It.opened hv1
  have hB1 : Below (w.heap.size + 2) W0 w1 := hb1.mono (by have := Hz0.out; omega)
  clear k0 k1 k2 k3 hv1 hb1
  go_wp2_with fail
  obtain ⟨W2, hW2⟩ : ∃ W2, W2 = w1.alloc (.cells #[.bool b1, .slice o1 m1 c1] 84) := ⟨_, rfl⟩
  have hal : Below w1.heap.size w1 W2 := by rw [hW2]; exact (Below.refl _ _).alloc (Nat.le_refl _) _
  have hz2 : W2.heap.size = w1.heap.size + 1 := by rw [hW2]; simp
  have hs1 := hB1.size
  have hB2 : Below (w.heap.size + 2) W0 W2 := hB1.trans (hal.mono (by have := Hz0.out; omega))
  have hbx := HS.out _ (hB2.mono (by omega))
  have hby0 : W2.cell? ⟨w1.heap.size, 0, none⟩ = some (.bool b1) := by rw [hW2]; simp [go_sem]
  have hby1 : W2.cell? ⟨w1.heap.size, 1, none⟩ = some (.slice o1 m1 c1) := by rw [hW2]; simp [go_sem]
  have HSS : Hid (∀ w', Kp W2.heap.size (w.heap.size + 1) W2 w' → w'.cell? ⟨w.heap.size, 0, none⟩ = some (.bool xb) ∧ w'.cell? ⟨w.heap.size, 1, none⟩ = some (.slice xo xm xc) ∧ w'.cell? ⟨w1.heap.size, 0, none⟩ = some (.bool b1) ∧ w'.cell? ⟨w1.heap.size, 1, none⟩ = some (.slice o1 m1 c1)) := hid (fun w' h => by
    have := Hz0.out
    exact ⟨(h.cell _ (by simp; omega) (by simp)).trans hbx.1, (h.cell _ (by simp; omega) (by simp)).trans hbx.2.1, (h.cell _ (by simp; omega) (by simp; omega)).trans hby0, (h.cell _ (by simp; omega) (by simp; omega)).trans hby1⟩)
  rw [← hW2]
  have HAL := hid hal; have HB2 := hid hB2; have Hz2 := hid hz2; have Hs1 := hid hs1
  clear hW2 hbx hby0 hby1 hal hB2 hz2 hs1 hB1
  refine (sign_z0 _ _ _ (H1.out _ HAL.out)).mono ?_
  rintro e w3 ⟨rfl, hb3⟩
  have hX3 : Below W2.heap.size W2 w3 := hb3
  go_wp2_with fail
  refine (whole_any _ 0 1 _ (zero_it _) (Nat.le_refl _)).mono ?_
  rintro e w5 ⟨_, rfl, ⟨_, _, rfl, hn5, hd5⟩, hb5⟩
  obtain ⟨o6, m6, c6, rfl, H6⟩ := Nt.opened hn5
  obtain ⟨o7, m7, c7, rfl, H7⟩ := Nt.opened hd5
  have hX5 : Below W2.heap.size W2 w5 := hX3.trans (hb5.mono hX3.size)
  obtain ⟨⟨hr0, hr1, hr2⟩, hf0, hf1, hf2⟩ := HT.out _ (HB2.out.trans (hX5.mono HB2.out.size |>.mono (by have := Hz0.out; omega)))
  go_wp2
  have hz0 := Hz0.out; have hz2 := Hz2.out; have hs1 := Hs1.out; have hs5 := hX5.size
  have hw5 : Below w.heap.size w w5 := HB0.out.trans ((HB2.out.trans (hX5.mono (by omega))).mono (by omega))
  refine bodyPost_ret (v := .agg #[.bool false, .slice o6 m6 c6, .slice o7 m7 c7]) (by simp [results, Tryz.results53, go_sem, hr0, hr1, hr2]) rfl ⟨_, rfl, ?_, ((hw5.setCell (by simp <;> omega) _).setCell (by simp <;> omega) _).setCell (by simp <;> omega) _⟩
  refine ⟨_, _, rfl, ?_, ?_⟩
  · exact nt_keeps (((((Keeps.refl _ _).setCell (u := .bool false) hr0 (fun x h => (by cases h)) _).setCell (u := .slice none 0 0) (by simp [go_sem, hr1]) (fun x h => (by cases h)) _).setCell (u := .slice none 0 0) (by simp [go_sem, hr2]) (fun x h => (by cases h)) _)) (H6.out _ (Below.refl _ _))
  · exact nt_keeps (((((Keeps.refl _ _).setCell (u := .bool false) hr0 (fun x h => (by cases h)) _).setCell (u := .slice none 0 0) (by simp [go_sem, hr1]) (fun x h => (by cases h)) _).setCell (u := .slice none 0 0) (by simp [go_sem, hr2]) (fun x h => (by cases h)) _)) (H7.out _ (Below.refl _ _))

/-- The number that a ratio stands for. -/
def rn (x y : Int) : Int := if y = 0 then 0 else sgn (decide (x < 0) != decide (y < 0)) (x.natAbs : Int)
def rd (y : Int) : Int := if y = 0 then 1 else (y.natAbs : Int)
theorem rd_pos (y : Int) : 0 < rd y := by unfold rd; split <;> omega
theorem Ft.mono {w : World} {v : Value} {z d : Int} {K K' : Nat} (h : Ft w v z d K) (hk : K ≤ K') : Ft w v z d K' := by
  obtain ⟨s1, s2, rfl, h1, h2⟩ := h
  exact ⟨s1, s2, rfl, h1.mono hk, h2.mono hk⟩
theorem readRatio_any (v : Value) (x y : Int) (K : Nat) (w : World) (hv : Ra w v x y K) (hK : K ≤ 1073741823) :
    Calls Tryz.prog 53 #[v] w fun e w' => ∃ f, e = .returned f ∧ Ft w' f (rn x y) (rd y) ((K + 1) / 2 + 1) ∧ Below w.heap.size w w' := by
  by_cases hy : y = 0
  · subst hy
    refine (readRatio_zero v x K w hv hK).mono ?_
    rintro e w' ⟨f, rfl, hf, hb⟩
    exact ⟨f, rfl, (show Ft w' f 0 1 1 from hf).mono (by omega), hb⟩
  · refine (readRatio_ne v x y K w hv hy hK).mono ?_
    rintro e w' ⟨f, rfl, hf, hb⟩
    refine ⟨f, rfl, ?_, hb⟩
    have e1 : rn x y = sgn (decide (x < 0) != decide (y < 0)) (x.natAbs : Int) := by unfold rn; rw [if_neg hy]
    have e2 : rd y = (y.natAbs : Int) := by unfold rd; rw [if_neg hy]
    rw [e1, e2]
    exact hf.mono (by omega)

end Go.Proofs.YtilpkocmdpofpaaGreatDoor

/- exact.parseQuotient of any two texts. -/
namespace Go.Proofs.YtilpkocmdpofpaaGreatDoor
open Go.RowKit

/-- The texts of two integers, the second one above 0. -/
def quoB (t u : List UInt8) : Bool := prsB t && prsB u && decide (0 < prsZ u)
/-- What parseQuotient hands back. -/
def RetPF (b : Bool) (n d : Int) (K : Nat) (w : World) (e : Ending) (w' : World) : Prop :=
  ∃ v x y, e = .returned (.tuple #[v, .bool b]) ∧ Ft w' v x y K ∧ (b = true → x = n ∧ y = d) ∧ Below w.heap.size w w'
theorem It.mono' {w : World} {v : Value} {n : Int} {K K' : Nat} (h : It w v n K) (hk : K ≤ K') : It w v n K' := by
  obtain ⟨s, rfl, h⟩ := h
  exact ⟨s, rfl, h.mono hk⟩
theorem sgn_pos_den {x y : Int} (hy : 0 < y) : sgn (decide (x < 0) != decide (y < 0)) (x.natAbs : Int) = x := by
  have h : decide (y < 0) = false := decide_eq_false (by omega)
  rw [h, Bool.bne_false]
  unfold sgn
  by_cases hx : x < 0
  · simp [hx]; omega
  · simp [hx]; omega

set_option maxRecDepth 100000 in
set_option maxHeartbeats 1000000 in
theorem parseQuotient_any (t u : List UInt8) (ht : t.length ≤ 100000) (hu : u.length ≤ 100000) (K : Nat) (htK : t.length + 1 ≤ K) (huK : u.length + 1 ≤ K) (w : World) :
    Calls Tryz.prog 120 #[.string ⟨t.toArray⟩, .string ⟨u.toArray⟩] w (RetPF (quoB t u) (prsZ t) (prsZ u) K w) := by
  have HP1 := fun w' => parseInteger_any t ht w'
  have HP2 := fun w' => parseInteger_any u hu w'
  obtain ⟨B, hB⟩ : ∃ B, B = quoB t u := ⟨_, rfl⟩
  obtain ⟨b1, hb1⟩ : ∃ b, b = prsB t := ⟨_, rfl⟩
  obtain ⟨b2, hb2⟩ : ∃ b, b = prsB u := ⟨_, rfl⟩
  obtain ⟨z1, hz1⟩ : ∃ z, z = prsZ t := ⟨_, rfl⟩
  obtain ⟨z2, hz2⟩ : ∃ z, z = prsZ u := ⟨_, rfl⟩
  obtain ⟨s1, hs1⟩ : ∃ s : ByteArray, s = ⟨t.toArray⟩ := ⟨_, rfl⟩
  obtain ⟨s2, hs2⟩ : ∃ s : ByteArray, s = ⟨u.toArray⟩ := ⟨_, rfl⟩
  have hBB : B = (b1 && b2 && decide (0 < z2)) := by rw [hB, hb1, hb2, hz2]; rfl
  rw [← hs1, ← hb1, ← hz1] at HP1
  rw [← hs2, ← hb2, ← hz2] at HP2
  rw [← hB, ← hs1, ← hs2, ← hz1, ← hz2]
  have H1 : Hid (∀ w', Calls Tryz.prog 101 #[.string s1] w' (RetPI b1 z1 K w')) := hid (fun w' => (HP1 w').mono (by rintro e w2 ⟨v, y, rfl, h, h2⟩; exact ⟨v, y, rfl, h.mono' htK, h2⟩))
  have H2 : Hid (∀ w', Calls Tryz.prog 101 #[.string s2] w' (RetPI b2 z2 K w')) := hid (fun w' => (HP2 w').mono (by rintro e w2 ⟨v, y, rfl, h, h2⟩; exact ⟨v, y, rfl, h.mono' huK, h2⟩))
  have HBB := hid hBB
  clear hBB hs1 hs2 hz1 hz2 hb1 hb2 hB HP1 HP2 ht hu htK huK
  go_enter Tryz.func120, Tryz.ntmps120
  obtain ⟨W0, hW0⟩ : ∃ W0, W0 = w.alloc (.cells #[.bool false, .slice none 0 0, .slice none 0 0] 86) := ⟨_, rfl⟩
  have hB0 : Below w.heap.size w W0 := by rw [hW0]; exact (Below.refl _ _).alloc (Nat.le_refl _) _
  have HT : Hid (∀ w', Below W0.heap.size W0 w' → (w'.cell? ⟨w.heap.size, 0, none⟩ = some (.bool false) ∧ w'.cell? ⟨w.heap.size, 1, none⟩ = some (.slice none 0 0) ∧ w'.cell? ⟨w.heap.size, 2, none⟩ = some (.slice none 0 0)) ∧ w'.frozen? ⟨w.heap.size, 0, none⟩ = false ∧ w'.frozen? ⟨w.heap.size, 1, none⟩ = false ∧ w'.frozen? ⟨w.heap.size, 2, none⟩ = false) := hid (fun w' hb => by
    refine ⟨⟨?_, ?_, ?_⟩, ?_, ?_, ?_⟩ <;> (first | (rw [hb.cell (by rw [hW0]; simp), hW0]; simp [go_sem]; done) | (rw [hb.frozen (by rw [hW0]; simp), hW0]; simp [go_sem]; done)))
  have HB0 := hid hB0; have HW := hid hW0
  clear hW0 hB0
  go_wp2_with fail
  rw [← HW.out]
  refine (H1.out W0).mono ?_
  rintro e w1 ⟨v1, y1, rfl, hv1, hy1, hb1⟩
  obtain ⟨g1, o1, m1, c1, rfl, HV1, _, _⟩ := It.opened hv1
  have HY1 := hid hy1; have HX1 := hid hb1
  clear hv1 hy1 hb1
  obtain ⟨W1, hW1⟩ : ∃ W1, W1 = w1.alloc (.cells #[.bool g1, .slice o1 m1 c1] 84) := ⟨_, rfl⟩
  have HA1 := hid (show Below w1.heap.size w1 W1 by rw [hW1]; exact (Below.refl _ _).alloc (Nat.le_refl _) _)
  have HS1 : Hid (∀ w', Below W1.heap.size W1 w' → w'.cell? ⟨w1.heap.size, 0, none⟩ = some (.bool g1) ∧ w'.cell? ⟨w1.heap.size, 1, none⟩ = some (.slice o1 m1 c1)) := hid (fun w' hb => by
    refine ⟨?_, ?_⟩ <;> (rw [hb.cell (by rw [hW1]; simp), hW1]; simp [go_sem]))
  have HW1 := hid hW1
  clear hW1
  go_wp2_with fail
  rw [← HW1.out]
  refine (H2.out W1).mono ?_
  rintro e w2 ⟨v2, y2, rfl, hv2, hy2, hb2⟩
  obtain ⟨g2, o2, m2, c2, rfl, HV2, _, _⟩ := It.opened hv2
  have HY2 := hid hy2; have HX2 := hid hb2
  clear hv2 hy2 hb2
  obtain ⟨W2, hW2⟩ : ∃ W2, W2 = w2.alloc (.cells #[.bool g2, .slice o2 m2 c2] 84) := ⟨_, rfl⟩
  have HA2 := hid (show Below w2.heap.size w2 W2 by rw [hW2]; exact (Below.refl _ _).alloc (Nat.le_refl _) _)
  have HS2 : Hid (∀ w', Below W2.heap.size W2 w' → w'.cell? ⟨w2.heap.size, 0, none⟩ = some (.bool g2) ∧ w'.cell? ⟨w2.heap.size, 1, none⟩ = some (.slice o2 m2 c2)) := hid (fun w' hb => by
    refine ⟨?_, ?_⟩ <;> (rw [hb.cell (by rw [hW2]; simp), hW2]; simp [go_sem]))
  have HW2 := hid hW2
  clear hW2
  have HX12 := hid (show Below W1.heap.size W1 W2 from HX2.out.trans (HA2.out.mono HX2.out.size))
  have HX01 := hid (show Below W0.heap.size W0 W1 from HX1.out.trans (HA1.out.mono HX1.out.size))
  have HX02 := hid (show Below W0.heap.size W0 W2 from HX01.out.trans (HX12.out.mono HX01.out.size))
  have HBad := hid (show B = false → ∀ w', Below w.heap.size w w' → RetPF B z1 z2 K w (.returned (.tuple #[.agg #[.bool false, .slice none 0 0, .slice none 0 0], .bool false])) w' from fun hb w' hbel => by
    refine ⟨_, 0, 0, by rw [hb], ⟨.slice none 0 0, .slice none 0 0, by rw [show decide ((0 : Int) < 0) = false from rfl], (Nt.nil _).mono (Nat.zero_le _), (Nt.nil _).mono (Nat.zero_le _)⟩, (fun h => by rw [hb] at h; cases h), hbel⟩)
  go_upto_region 3 with (fail)
  rw [← HW2.out]
  have HBel := hid (show Below w.heap.size w W2 from HB0.out.trans (HX02.out.mono HB0.out.size))
  cases hb1 : b1 with
  | false =>
    subst hb1
    obtain ⟨⟨k0, k1, k2⟩, f0, f1, f2⟩ := HT.out _ HX02.out
    have HB00 := hid (show B = false by rw [HBB.out]; rfl)
    go_wp2
    refine bodyPost_ret (v := .tuple #[.agg #[.bool false, .slice none 0 0, .slice none 0 0], .bool false]) (by simp [results, Tryz.results120, go_sem, k0, k1, k2]) rfl (HBad.out HB00.out _ ((HBel.out.setCell (p := ⟨w.heap.size, 0, none⟩) (Nat.le_refl _) _).setCell (p := ⟨w.heap.size, 1, none⟩) (Nat.le_refl _) _ |>.setCell (p := ⟨w.heap.size, 2, none⟩) (Nat.le_refl _) _))
  | true =>
    subst hb1
    cases hb2 : b2 with
    | false =>
      subst hb2
      obtain ⟨⟨k0, k1, k2⟩, f0, f1, f2⟩ := HT.out _ HX02.out
      have HB00 := hid (show B = false by rw [HBB.out]; rfl)
      go_wp2
      refine bodyPost_ret (v := .tuple #[.agg #[.bool false, .slice none 0 0, .slice none 0 0], .bool false]) (by simp [results, Tryz.results120, go_sem, k0, k1, k2]) rfl (HBad.out HB00.out _ ((HBel.out.setCell (p := ⟨w.heap.size, 0, none⟩) (Nat.le_refl _) _).setCell (p := ⟨w.heap.size, 1, none⟩) (Nat.le_refl _) _ |>.setCell (p := ⟨w.heap.size, 2, none⟩) (Nat.le_refl _) _))
    | true =>
      subst hb2
      have hy1 : y1 = z1 := HY1.out rfl
      have hy2 : y2 = z2 := HY2.out rfl
      subst hy1
      subst hy2
      obtain ⟨q0, q1⟩ := HS2.out _ (Below.refl _ _)
      have HSg := hid (sign_any _ y2 K W2 (HV2.out _ HA2.out))
      have HV1' := hid (fun w' (hb : Below W2.heap.size W2 w') => HV1.out w' (HA1.out.trans ((HX12.out.trans (hb.mono HX12.out.size)).mono HA1.out.size)))
      have HV2' := hid (fun w' (hb : Below W2.heap.size W2 w') => HV2.out w' (HA2.out.trans (hb.mono HA2.out.size)))
      by_cases hp : 0 < y2
      · have hc : cmpI y2 0 = 1 := by unfold cmpI; split <;> (try split) <;> omega
        rw [hc] at HSg
        have HB11 := hid (show B = true by rw [HBB.out, decide_eq_true hp]; rfl)
        have HP := hid hp
        clear hp hc
        go_wp2_with (go_at_call 79; refine HSg.out.mono ?_; rintro e w3 ⟨rfl, hb3⟩; obtain ⟨p0, p1⟩ := HS1.out w3 (HX12.out.trans (hb3.mono HX12.out.size)); obtain ⟨r0, r1⟩ := HS2.out w3 hb3)
        refine (divided_any _ _ y1 y2 K w3 (HV1'.out _ hb3) (HV2'.out _ hb3)).mono ?_
        rintro e w4 ⟨f, rfl, hf, hb4⟩
        rw [sgn_pos_den HP.out] at hf
        obtain ⟨b5, o5, m5, c5, o6, m6, c6, rfl, HF1, HF2, HFb⟩ := Ft.opened hf
        have hb34 : Below W2.heap.size W2 w4 := hb3.trans (hb4.mono hb3.size)
        obtain ⟨⟨k0, k1, k2⟩, f0, f1, f2⟩ := HT.out w4 (HX02.out.trans (hb34.mono HX02.out.size))
        go_wp2
        refine bodyPost_ret (v := .tuple #[.agg #[.bool b5, .slice o5 m5 c5, .slice o6 m6 c6], .bool true]) (by simp [results, Tryz.results120, go_sem, k0, k1, k2]) rfl ⟨_, y1, y2, by rw [HB11.out], ?_, (fun _ => ⟨rfl, rfl⟩), ((HBel.out.trans (hb34.mono HBel.out.size)).setCell (p := ⟨w.heap.size, 0, none⟩) (Nat.le_refl _) _).setCell (p := ⟨w.heap.size, 1, none⟩) (Nat.le_refl _) _ |>.setCell (p := ⟨w.heap.size, 2, none⟩) (Nat.le_refl _) _⟩
        have hk := (((Keeps.refl .u64 w4).setCell (a := ⟨w.heap.size, 0, none⟩) (u := .bool false) k0 (fun x h => (by cases h)) (.bool b5)).setCell (a := ⟨w.heap.size, 1, none⟩) (u := .slice none 0 0) (by simp [go_sem, k1]) (fun x h => (by cases h)) (.slice o5 m5 c5)).setCell (a := ⟨w.heap.size, 2, none⟩) (u := .slice none 0 0) (by simp [go_sem, k2]) (fun x h => (by cases h)) (.slice o6 m6 c6)
        have hn2 : ((y2.natAbs : Nat) : Int) = y2 := by have := HP.out; omega
        rw [hn2] at hf
        obtain ⟨s5, s6, he, hn5, hn6⟩ := hf
        exact ⟨s5, s6, he, nt_keeps hk hn5, nt_keeps hk hn6⟩
      · have hc : cmpI y2 0 ≤ 0 := by unfold cmpI; split <;> (try split) <;> omega
        obtain ⟨cv, hcv⟩ : ∃ c, c = cmpI y2 0 := ⟨_, rfl⟩
        rw [← hcv] at HSg hc
        have HB00 := hid (show B = false by rw [HBB.out, decide_eq_false hp]; rfl)
        clear hp hcv
        go_wp2_with (go_at_call 79; refine HSg.out.mono ?_; rintro e w3 ⟨rfl, hb3⟩; obtain ⟨⟨k0, k1, k2⟩, f0, f1, f2⟩ := HT.out w3 (HX02.out.trans (hb3.mono HX02.out.size)))
        refine bodyPost_ret (v := .tuple #[.agg #[.bool false, .slice none 0 0, .slice none 0 0], .bool false]) (by simp [results, Tryz.results120, go_sem, k0, k1, k2]) rfl (HBad.out HB00.out _ (((HBel.out.trans (hb3.mono HBel.out.size)).setCell (p := ⟨w.heap.size, 0, none⟩) (Nat.le_refl _) _).setCell (p := ⟨w.heap.size, 1, none⟩) (Nat.le_refl _) _ |>.setCell (p := ⟨w.heap.size, 2, none⟩) (Nat.le_refl _) _))
end Go.Proofs.YtilpkocmdpofpaaGreatDoor

/- (exact.integer).text and exact.Text of numbers closer to 0 than 100. -/
namespace Go.Proofs.YtilpkocmdpofpaaGreatDoor
open Go.RowKit

set_option maxRecDepth 100000 in
set_option maxHeartbeats 1000000 in
theorem text_pos (i : Nat) (K : Nat) (v : Value) (w : World) (h : It w v i K) (h0 : 0 < i) (h1 : i < 100) :
    Calls Tryz.prog 83 #[v] w fun e w' => e = .returned (.string ⟨(Lib.decDigits i).toArray⟩) ∧ Below w.heap.size w w' := by
  obtain ⟨xb, xo, xm, xc, rfl, Hx, Hxs, Hxb⟩ := It.opened h
  obtain rfl : xb = false := by rw [Hxb.out]; exact decide_eq_false (by omega)
  clear h
  obtain ⟨s, hs⟩ : ∃ s : ByteArray, s = ⟨(Lib.decDigits i).toArray⟩ := ⟨_, rfl⟩
  have HD := hid (fun (w' : World) (hb : Below w.heap.size w w') => by have := decimals_one i K _ w' (by simpa using Hxs.out w' hb) h0 h1; rw [← hs] at this; exact this)
  rw [← hs]
  clear hs
  have hB0 : Below w.heap.size w (w.alloc (.cells #[.bool false, .slice xo xm xc] 84)) := (Below.refl _ _).alloc (Nat.le_refl _) _
  have HB0 := hid hB0
  clear hB0
  go_enter Tryz.func83, Tryz.ntmps83
  go_wp2_with fail
  refine (HD.out _ HB0.out).mono ?_
  rintro e w1 ⟨rfl, hb1⟩
  go_wp2
  go_ret
  exact ⟨rfl, HB0.out.trans (hb1.mono (by simp))⟩

set_option maxRecDepth 100000 in
set_option maxHeartbeats 1000000 in
theorem text_neg (i : Nat) (K : Nat) (v : Value) (w : World) (h : It w v (-(i : Int)) K) (h0 : 0 < i) (h1 : i < 100) :
    Calls Tryz.prog 83 #[v] w fun e w' => e = .returned (.string (⟨#[45]⟩ ++ ⟨(Lib.decDigits i).toArray⟩)) ∧ Below w.heap.size w w' := by
  obtain ⟨xb, xo, xm, xc, rfl, Hx, Hxs, Hxb⟩ := It.opened h
  obtain rfl : xb = true := by rw [Hxb.out]; exact decide_eq_true (by omega)
  clear h
  obtain ⟨s, hs⟩ : ∃ s : ByteArray, s = ⟨(Lib.decDigits i).toArray⟩ := ⟨_, rfl⟩
  have HD := hid (fun (w' : World) (hb : Below w.heap.size w w') => by have := decimals_one i K _ w' (by simpa using Hxs.out w' hb) h0 h1; rw [← hs] at this; exact this)
  have hsz : ¬ 9223372036854775807 < 1 + s.size := by have := dec_len i h1; rw [hs]; show ¬ 9223372036854775807 < 1 + (Lib.decDigits i).length; omega
  rw [← hs]
  clear hs
  have hB0 : Below w.heap.size w (w.alloc (.cells #[.bool true, .slice xo xm xc] 84)) := (Below.refl _ _).alloc (Nat.le_refl _) _
  have HB0 := hid hB0
  clear hB0
  go_enter Tryz.func83, Tryz.ntmps83
  go_wp2_with fail
  refine (HD.out _ HB0.out).mono ?_
  rintro e w1 ⟨rfl, hb1⟩
  go_wp2
  go_ret
  exact ⟨rfl, HB0.out.trans (hb1.mono (by simp))⟩

/-- The text of a number closer to 0 than 100. -/
def tx (z : Int) : ByteArray := if z < 0 then ⟨#[45]⟩ ++ ⟨(Lib.decDigits z.natAbs).toArray⟩ else ⟨(Lib.decDigits z.natAbs).toArray⟩
theorem text_any (z : Int) (K : Nat) (v : Value) (w : World) (h : It w v z K) (h0 : z ≠ 0) (h1 : z.natAbs < 100) :
    Calls Tryz.prog 83 #[v] w fun e w' => e = .returned (.string (tx z)) ∧ Below w.heap.size w w' := by
  unfold tx
  by_cases hz : z < 0
  · rw [if_pos hz]
    exact text_neg z.natAbs K v w (by rw [show -((z.natAbs : Nat) : Int) = z by omega]; exact h) (by omega) h1
  · rw [if_neg hz]
    exact text_pos z.natAbs K v w (by rw [show ((z.natAbs : Nat) : Int) = z by omega]; exact h) (by omega) h1

set_option maxRecDepth 100000 in
set_option maxHeartbeats 1000000 in
theorem Text_any (z : Int) (K : Nat) (v : Value) (w : World) (h : Ai w v z K) (hK : K ≤ 1073741824) (h0 : z ≠ 0) (h1 : z.natAbs < 100) :
    Calls Tryz.prog 23 #[v] w fun e w' => e = .returned (.string (tx z)) ∧ Below w.heap.size w w' := by
  obtain ⟨xb, xo, xm, xc, rfl, Hx⟩ := Ai.opened h
  clear h
  have H0 := hid h0
  clear h0
  go_enter Tryz.func23, Tryz.ntmps23
  go_wp2_with fail
  refine (read_any _ z K _ (Hx.out _ ((Below.refl _ _).alloc (Nat.le_refl _) _)) hK).mono ?_
  rintro e w1 ⟨v1, rfl, hv1, hb1⟩
  go_wp2_with fail
  refine (text_any z _ _ _ hv1 H0.out h1).mono ?_
  rintro e w2 ⟨rfl, hb2⟩
  go_wp2
  go_ret
  exact ⟨rfl, (((Below.refl w.heap.size w).alloc (Nat.le_refl _) _).trans (hb1.mono (by simp))).trans (hb2.mono (by have := hb1.size; simp at this; omega))⟩
end Go.Proofs.YtilpkocmdpofpaaGreatDoor

/- Fractions: products, negation; exact.Times, exact.Minus. -/
namespace Go.Proofs.YtilpkocmdpofpaaGreatDoor
open Go.RowKit

set_option maxRecDepth 100000 in
set_option maxHeartbeats 1000000 in
theorem fneg_any (u : Value) (x d : Int) (K : Nat) (w : World) (hu : Ft w u x d K) :
    Calls Tryz.prog 87 #[u] w fun e w' => ∃ f, e = .returned f ∧ Ft w' f (-x) d K ∧ Below w.heap.size w w' := by
  obtain ⟨xb, xo, xm, xc, po, pm, pc, rfl, Hx, HP, Hxb⟩ := Ft.opened hu
  clear hu
  obtain ⟨W0, hW0⟩ : ∃ W0, W0 = ((w.alloc (.cells #[.bool xb, .slice xo xm xc, .slice po pm pc] 86)).alloc (.cells #[.bool false, .slice none 0 0, .slice none 0 0] 86)) := ⟨_, rfl⟩
  have hB0 : Below w.heap.size w W0 := by rw [hW0]; exact ((Below.refl _ _).alloc (Nat.le_refl _) _).alloc (by simp) _
  have hz0 : W0.heap.size = w.heap.size + 2 := by rw [hW0]; simp
  have HS : Hid (∀ w', Below (w.heap.size + 1) W0 w' → w'.cell? ⟨w.heap.size, 0, none⟩ = some (.bool xb) ∧ w'.cell? ⟨w.heap.size, 1, none⟩ = some (.slice xo xm xc) ∧ w'.cell? ⟨w.heap.size, 2, none⟩ = some (.slice po pm pc)) := hid (fun w' hb => by
    refine ⟨?_, ?_, ?_⟩ <;> (rw [hb.cell (by simp <;> omega), hW0]; simp [go_sem]))
  have HT : Hid (∀ w', Below (w.heap.size + 2) W0 w' → (w'.cell? ⟨w.heap.size + 1, 0, none⟩ = some (.bool false) ∧ w'.cell? ⟨w.heap.size + 1, 1, none⟩ = some (.slice none 0 0) ∧ w'.cell? ⟨w.heap.size + 1, 2, none⟩ = some (.slice none 0 0)) ∧ (w'.frozen? ⟨w.heap.size + 1, 0, none⟩ = false ∧ w'.frozen? ⟨w.heap.size + 1, 1, none⟩ = false ∧ w'.frozen? ⟨w.heap.size + 1, 2, none⟩ = false)) := hid (fun w' hb => by
    refine ⟨⟨?_, ?_, ?_⟩, ?_, ?_, ?_⟩ <;> (first | (rw [hb.cell (by simp <;> omega), hW0]; simp [go_sem]; done) | (rw [hb.frozen (by simp <;> omega), hW0]; simp [go_sem]; done)))
  have HB0 := hid hB0; have Hz0 := hid hz0; have HW := hid hW0
  clear hW0 hB0 hz0
  have HNe := hid (fun (w' : World) (hb : Below w.heap.size w w') => negated_any _ x K w' (Hx.out w' hb))
  have hbld : ∀ (b : Bool) (o o2 : Option Addr) (m c m2 c2 : Nat) (w : World), (Instr.build 86 #[(0, .agg #[.bool b, .slice o m c]), (1, .slice o2 m2 c2)]).run Tryz.prog w = .ok (.agg #[.bool b, .slice o m c, .slice o2 m2 c2]) w := fun b o o2 m c m2 c2 w => by kernel_rfl
  go_enter Tryz.func87, Tryz.ntmps87
  go_upto_region 1 with (fail)
  rw [← HW.out]
  go_region_held3 (fun w' => w'.cell? ⟨w.heap.size, 0, none⟩ = some (.bool xb) ∧ w'.cell? ⟨w.heap.size, 1, none⟩ = some (.slice xo xm xc) ∧ w'.cell? ⟨w.heap.size, 2, none⟩ = some (.slice po pm pc)) ((refine HS.out _ ?_; repeat (first | assumption | exact Below.refl _ _ | exact (Below.refl _ _).drew | exact Below.drew (by assumption) | (refine Below.setCell ?_ (by simp) _)))) (first
    | (go_at_call 138; refine (HNe.out _ HB0.out.drew).mono ?_; rintro e w2 ⟨_, rfl, hv2, hb2⟩; obtain ⟨b2, o2, m2, c2, rfl, H2, H2s, H2b⟩ := It.opened hv2; have hX2 : Below W0.heap.size W0 w2 := (Below.refl _ _).drew.trans hb2; have hS2 : Below (w.heap.size + 1) W0 w2 := hX2.mono (by have := Hz0.out; omega); obtain ⟨⟨hr0, hr1, hr2⟩, hf0, hf1, hf2⟩ := HT.out _ (hX2.mono (by have := Hz0.out; omega))))
  go_wp2
  have hz0 := Hz0.out; have hs1 := hX2.size
  have hw2 : Below w.heap.size w w2 := HB0.out.trans (hX2.mono HB0.out.size)
  refine bodyPost_ret (v := .agg #[.bool b2, .slice o2 m2 c2, .slice po pm pc]) (by simp [results, Tryz.results87, go_sem, hr0, hr1, hr2]) rfl ⟨_, rfl, ?_, ((hw2.setCell (by simp <;> omega) _).setCell (by simp <;> omega) _).setCell (by simp <;> omega) _⟩
  refine ⟨_, _, by rw [H2b.out], ?_, ?_⟩
  · exact nt_keeps (((((Keeps.refl _ _).setCell (u := .bool false) hr0 (fun x h => (by cases h)) _).setCell (u := .slice none 0 0) (by simp [go_sem, hr1]) (fun x h => (by cases h)) _).setCell (u := .slice none 0 0) (by simp [go_sem, hr2]) (fun x h => (by cases h)) _)) (H2s.out _ (Below.refl _ _))
  · exact nt_keeps (((((Keeps.refl _ _).setCell (u := .bool false) hr0 (fun x h => (by cases h)) _).setCell (u := .slice none 0 0) (by simp [go_sem, hr1]) (fun x h => (by cases h)) _).setCell (u := .slice none 0 0) (by simp [go_sem, hr2]) (fun x h => (by cases h)) _)) (HP.out _ hw2)
end Go.Proofs.YtilpkocmdpofpaaGreatDoor

/- A region that draws its order and holds up to twelve values and one box for a struct of a bool and a slice: what holds between two of its operations. Written by gen_boxk.py. -/
namespace Go.Proofs.YtilpkocmdpofpaaGreatDoor
open Go.RowKit

def Kc (u : Value) (_ : World) (v : Value) : Prop := v = u
def Kt (_ : World) (_ : Value) : Prop := True
theorem kc_keep (u : Value) : KeepG .u64 (Kc u) := fun _ _ _ _ h => h
theorem kt_keep : KeepG .u64 Kt := fun _ _ _ _ h => h

structure BK (B : Nat) (W0 : World) (G0 G1 G2 G3 G4 G5 G6 G7 G8 G9 G10 G11 : World → Value → Prop) (b0 b1 b2 b3 b4 b5 b6 b7 b8 b9 b10 b11 : Bool) (s0 s1 s2 s3 s4 s5 s6 s7 s8 s9 s10 s11 : Value) (p1 q1 : Bool) (t1 x1 : Value) (w : World) : Prop where
  bel : Below B W0 w
  siz : B ≤ w.heap.size
  v0 : b0 = true → G0 w s0
  v1 : b1 = true → G1 w s1
  v2 : b2 = true → G2 w s2
  v3 : b3 = true → G3 w s3
  v4 : b4 = true → G4 w s4
  v5 : b5 = true → G5 w s5
  v6 : b6 = true → G6 w s6
  v7 : b7 = true → G7 w s7
  v8 : b8 = true → G8 w s8
  v9 : b9 = true → G9 w s9
  v10 : b10 = true → G10 w s10
  v11 : b11 = true → G11 w s11
  a1 : p1 = true → PtrAt .u64 B w t1 q1 x1
structure KK (G0 G1 G2 G3 G4 G5 G6 G7 G8 G9 G10 G11 : World → Value → Prop) : Prop where
  k0 : KeepG .u64 G0
  k1 : KeepG .u64 G1
  k2 : KeepG .u64 G2
  k3 : KeepG .u64 G3
  k4 : KeepG .u64 G4
  k5 : KeepG .u64 G5
  k6 : KeepG .u64 G6
  k7 : KeepG .u64 G7
  k8 : KeepG .u64 G8
  k9 : KeepG .u64 G9
  k10 : KeepG .u64 G10
  k11 : KeepG .u64 G11

section
variable {B : Nat} {W0 : World} {G0 G1 G2 G3 G4 G5 G6 G7 G8 G9 G10 G11 : World → Value → Prop} {b0 b1 b2 b3 b4 b5 b6 b7 b8 b9 b10 b11 : Bool} {s0 s1 s2 s3 s4 s5 s6 s7 s8 s9 s10 s11 : Value} {p1 q1 : Bool} {t1 x1 : Value} {w w' : World}
theorem BK.start (h : Below B W0 w) (hs : B ≤ w.heap.size) : BK B W0 G0 G1 G2 G3 G4 G5 G6 G7 G8 G9 G10 G11 false false false false false false false false false false false false s0 s1 s2 s3 s4 s5 s6 s7 s8 s9 s10 s11 false false t1 x1 w :=
  ⟨h, hs, nofun, nofun, nofun, nofun, nofun, nofun, nofun, nofun, nofun, nofun, nofun, nofun, nofun⟩
theorem BK.step (h : BK B W0 G0 G1 G2 G3 G4 G5 G6 G7 G8 G9 G10 G11 b0 b1 b2 b3 b4 b5 b6 b7 b8 b9 b10 b11 s0 s1 s2 s3 s4 s5 s6 s7 s8 s9 s10 s11 p1 q1 t1 x1 w) (k : KK G0 G1 G2 G3 G4 G5 G6 G7 G8 G9 G10 G11) (hb : Below w.heap.size w w') : BK B W0 G0 G1 G2 G3 G4 G5 G6 G7 G8 G9 G10 G11 b0 b1 b2 b3 b4 b5 b6 b7 b8 b9 b10 b11 s0 s1 s2 s3 s4 s5 s6 s7 s8 s9 s10 s11 p1 q1 t1 x1 w' := by
  have hk : Keeps .u64 w w' := Keeps.below hb (Nat.le_refl _)
  exact ⟨h.bel.trans (hb.mono h.siz), Nat.le_trans h.siz hb.size, fun e => k.k0 _ _ _ hk (h.v0 e), fun e => k.k1 _ _ _ hk (h.v1 e), fun e => k.k2 _ _ _ hk (h.v2 e), fun e => k.k3 _ _ _ hk (h.v3 e), fun e => k.k4 _ _ _ hk (h.v4 e), fun e => k.k5 _ _ _ hk (h.v5 e), fun e => k.k6 _ _ _ hk (h.v6 e), fun e => k.k7 _ _ _ hk (h.v7 e), fun e => k.k8 _ _ _ hk (h.v8 e), fun e => k.k9 _ _ _ hk (h.v9 e), fun e => k.k10 _ _ _ hk (h.v10 e), fun e => k.k11 _ _ _ hk (h.v11 e), fun e => (h.a1 e).below hb⟩
theorem BK.alloc1 (h : BK B W0 G0 G1 G2 G3 G4 G5 G6 G7 G8 G9 G10 G11 b0 b1 b2 b3 b4 b5 b6 b7 b8 b9 b10 b11 s0 s1 s2 s3 s4 s5 s6 s7 s8 s9 s10 s11 p1 false t1 x1 w) (k : KK G0 G1 G2 G3 G4 G5 G6 G7 G8 G9 G10 G11) (T : TypeId) :
    BK B W0 G0 G1 G2 G3 G4 G5 G6 G7 G8 G9 G10 G11 b0 b1 b2 b3 b4 b5 b6 b7 b8 b9 b10 b11 s0 s1 s2 s3 s4 s5 s6 s7 s8 s9 s10 s11 true false (.pointer (some ⟨w.heap.size, 0, none⟩)) x1 (w.alloc (.cells #[.bool false, .slice none 0 0] T)) := by
  have J := h.step k ((Below.refl w.heap.size w).alloc (Nat.le_refl _) (.cells #[.bool false, .slice none 0 0] T))
  exact ⟨J.bel, J.siz, J.v0, J.v1, J.v2, J.v3, J.v4, J.v5, J.v6, J.v7, J.v8, J.v9, J.v10, J.v11, fun _ => ptr_new .u64 B w T _ h.siz⟩
theorem BK.store1 {p : Nat} {u0 u1 : Value} (h : BK B W0 G0 G1 G2 G3 G4 G5 G6 G7 G8 G9 G10 G11 b0 b1 b2 b3 b4 b5 b6 b7 b8 b9 b10 b11 s0 s1 s2 s3 s4 s5 s6 s7 s8 s9 s10 s11 true q1 (.pointer (some ⟨p, 0, none⟩)) (.agg #[u0, u1]) w) (k : KK G0 G1 G2 G3 G4 G5 G6 G7 G8 G9 G10 G11) (m0 : ∀ x, u0 ≠ .int .u64 x) (m1 : ∀ x, u1 ≠ .int .u64 x) :
    BK B W0 G0 G1 G2 G3 G4 G5 G6 G7 G8 G9 G10 G11 b0 b1 b2 b3 b4 b5 b6 b7 b8 b9 b10 b11 s0 s1 s2 s3 s4 s5 s6 s7 s8 s9 s10 s11 true true (.pointer (some ⟨p, 0, none⟩)) (.agg #[u0, u1]) ((w.setCell ⟨p, 0, none⟩ u0).setCell ⟨p, 1, none⟩ u1) := by
  obtain ⟨p', v0, v1, e, hp, c0, c1, f0, f1, n0, n1, _⟩ := h.a1 rfl
  cases e
  have hk := keeps_two c0 c1 n0 n1 u0 u1
  have ht := two_cells c0 c1 u0 u1
  exact ⟨(h.bel.setCell hp _).setCell hp _, by simpa using h.siz, fun e => k.k0 _ _ _ hk (h.v0 e), fun e => k.k1 _ _ _ hk (h.v1 e), fun e => k.k2 _ _ _ hk (h.v2 e), fun e => k.k3 _ _ _ hk (h.v3 e), fun e => k.k4 _ _ _ hk (h.v4 e), fun e => k.k5 _ _ _ hk (h.v5 e), fun e => k.k6 _ _ _ hk (h.v6 e), fun e => k.k7 _ _ _ hk (h.v7 e), fun e => k.k8 _ _ _ hk (h.v8 e), fun e => k.k9 _ _ _ hk (h.v9 e), fun e => k.k10 _ _ _ hk (h.v10 e), fun e => k.k11 _ _ _ hk (h.v11 e), fun _ => ⟨p, u0, u1, rfl, hp, ht.1, ht.2, by simpa using f0, by simpa using f1, m0, m1, fun _ => rfl⟩⟩
end
end Go.Proofs.YtilpkocmdpofpaaGreatDoor

/- (exact.fraction).plus where the denominators differ. Written by gen_fplus.py. -/
namespace Go.Proofs.YtilpkocmdpofpaaGreatDoor
open Go.RowKit

theorem bl_tr {a b c : World} (h : Below a.heap.size a b) (k : Below b.heap.size b c) : Below a.heap.size a c := h.trans (k.mono h.size)

end Go.Proofs.YtilpkocmdpofpaaGreatDoor
