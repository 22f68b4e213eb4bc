/- exact.Show of any ratio. exact.raise. Written by gen_power.py. exact.Div. Written by gen_ediv.py. -/
import Derived.Test.YtbapeilpkhbbeaaGreatDoorYn29
import Derived.Test.YtbapeilpkhbbeaaGreatDoorYn28
import Derived.Test.YtbapeilpkhbbeaaGreatDoorYn09
import Derived.Test.YtbapeilpkhbbeaaGreatDoorYn16
/- exact.Show of any ratio. -/
namespace Go.Proofs.YtbapeilpkhbbeaaGreatDoor
open Go.RowKit

set_option maxRecDepth 100000 in
set_option maxHeartbeats 1000000 in
theorem Show_whole_all (v : Value) (x y N : Int) (K : Nat) (w : World) (hv : Ra w v x y K) (hK : K ≤ 5000) (hT : Tab w) (hs : (tx N).size ≤ 1000000)
    (hN : lowN (rn x y) (rd y) = N) (hD : lowD (rn x y) (rd y) = 1) :
    Calls Tryz.prog 11 #[v] w fun e w' => e = .returned (.string (tx N)) ∧ Below w.heap.size w w' := by
  have hRR := fun (w' : World) (hb : Below w.heap.size w w') => readRatio_any v x y K w' (hv.below hb (Nat.le_refl _)) (by omega)
  obtain ⟨xb, xo, xm, xc, yb, yo, ym, yc, rfl, _, _⟩ := Ra.opened hv
  have HRR := hid hRR
  obtain ⟨s1, hs1⟩ : ∃ s1, s1 = tx N := ⟨_, rfl⟩
  have hz1 : s1.size ≤ 1000000 := by rw [hs1]; exact hs
  have HT := hid (fun (v' : Value) (w' : World) (h : Ai w' v' N (2 * ((K + 1) / 2 + 1))) (hb : Below w.heap.size w w') => by have := Text_all N _ v' w' h (by omega) (hT.below hb); rw [← hs1] at this; exact this)
  have H1 := hid (fun (z d : Int) (Kz : Nat) (f : Value) (w' : World) (h : Ft w' f z d Kz) (hd : 0 < d) (hk : Kz ≤ 1073741823) => fracValue_any f z d Kz w' h hd hk)
  rw [← hs1]
  have HO1 := hid (show decide (((1 : Int).natAbs : Int) = 1) = true from rfl)
  have HN := hid hN; have HD := hid hD
  clear hs1 hRR hv hN hD hs hT
  have hB0 : Below w.heap.size w (w.alloc (.cells #[.bool xb, .slice xo xm xc, .bool yb, .slice yo ym yc] 26)) := (Below.refl _ _).alloc (Nat.le_refl _) _
  have HB0 := hid hB0
  clear hB0
  go_enter Tryz.func11, Tryz.ntmps11
  go_wp2_with fail
  refine (HRR.out _ HB0.out).mono ?_
  rintro e w1 ⟨f, rfl, hf, hb1⟩
  have HB1 := hid (show Below w.heap.size w w1 from HB0.out.trans (hb1.mono (by simp)))
  clear hb1
  go_wp2_with fail
  refine (H1.out _ _ _ _ _ hf (rd_pos y) (by omega)).mono ?_
  rintro e w2 ⟨_, rfl, hr, hb2⟩
  rw [HN.out, HD.out] at hr
  obtain ⟨b1, o1, m1, c1, b2, o2, m2, c2, rfl, HR1, HR2⟩ := FrR.opened hr
  have HB2 := hid (show Below w.heap.size w w2 from HB1.out.trans (hb2.mono HB1.out.size))
  clear hr hf hb2
  obtain ⟨W3, hW3⟩ : ∃ W3, W3 = w2.alloc (.cells #[.bool b1, .slice o1 m1 c1, .bool b2, .slice o2 m2 c2] 26) := ⟨_, rfl⟩
  have hal : Below w2.heap.size w2 W3 := by rw [hW3]; exact (Below.refl _ _).alloc (Nat.le_refl _) _
  have HS : Hid (∀ w', Below W3.heap.size W3 w' → w'.cell? ⟨w2.heap.size, 0, none⟩ = some (.bool b1) ∧ w'.cell? ⟨w2.heap.size, 1, none⟩ = some (.slice o1 m1 c1) ∧ w'.cell? ⟨w2.heap.size, 2, none⟩ = some (.bool b2) ∧ w'.cell? ⟨w2.heap.size, 3, none⟩ = some (.slice o2 m2 c2)) := hid (fun w' hb => by
    refine ⟨?_, ?_, ?_, ?_⟩ <;> (rw [hb.cell (by rw [hW3]; simp), hW3]; simp [go_sem]))
  have HAL := hid hal; have HW3 := hid hW3
  clear hal hW3
  go_wp2_with fail
  rw [← HW3.out]
  refine (HT.out _ _ (HR1.out.ai.below HAL.out (Nat.le_refl _)) (HB2.out.trans (HAL.out.mono HB2.out.size))).mono ?_
  rintro e w4 ⟨rfl, hb4⟩
  obtain ⟨k0, k1, k2, k3⟩ := HS.out _ hb4
  have HB4 := hid (show Below w2.heap.size w2 w4 from HAL.out.trans (hb4.mono HAL.out.size))
  clear hb4
  go_wp2_with fail
  refine (read_any _ 1 _ _ (HR2.out.ai.below HB4.out (Nat.le_refl _)) (by omega)).mono ?_
  rintro e w5 ⟨_, rfl, hv5, hb5⟩
  obtain ⟨b5, o5, m5, c5, rfl, H5, H5s, H5b⟩ := It.opened hv5
  have HI := hid (fun w' hb => isOne_any _ _ _ w' (H5s.out w' hb))
  have HB5 := hid (show Below w2.heap.size w2 w5 from HB4.out.trans (hb5.mono HB4.out.size))
  clear hb5 hv5
  have hfld : ∀ w : World, (Instr.field 56 (.agg #[.bool b5, .slice o5 m5 c5]) 1).run Tryz.prog w = .ok (.slice o5 m5 c5) w := fun w => by kernel_rfl
  go_wp2_with fail
  refine (HI.out _ (Below.refl _ _)).mono ?_
  rintro e w6 ⟨rfl, h6⟩
  obtain rfl : w5 = w6 := h6.symm
  rw [HO1.out]
  go_wp2
  go_ret
  exact ⟨rfl, HB2.out.trans (HB5.out.mono HB2.out.size)⟩

set_option maxRecDepth 100000 in
set_option maxHeartbeats 1000000 in
theorem Show_quot_all (v : Value) (x y N D : Int) (K : Nat) (w : World) (hv : Ra w v x y K) (hK : K ≤ 5000) (hT : Tab w) (hs : (tx N).size ≤ 1000000)
    (hN : lowN (rn x y) (rd y) = N) (hD : lowD (rn x y) (rd y) = D) (d0 : 1 < D) (hs2 : (Lib.decDigits D.natAbs).length ≤ 1000000) :
    Calls Tryz.prog 11 #[v] w fun e w' => e = .returned (.string (tx N ++ ⟨#[47]⟩ ++ ⟨(Lib.decDigits D.natAbs).toArray⟩)) ∧ Below w.heap.size w w' := by
  have hRR := fun (w' : World) (hb : Below w.heap.size w w') => readRatio_any v x y K w' (hv.below hb (Nat.le_refl _)) (by omega)
  obtain ⟨xb, xo, xm, xc, yb, yo, ym, yc, rfl, _, _⟩ := Ra.opened hv
  have HRR := hid hRR
  obtain ⟨s1, hs1⟩ : ∃ s1, s1 = tx N := ⟨_, rfl⟩
  have hz1 : s1.size ≤ 1000000 := by rw [hs1]; exact hs
  have HT := hid (fun (v' : Value) (w' : World) (h : Ai w' v' N (2 * ((K + 1) / 2 + 1))) (hb : Below w.heap.size w w') => by have := Text_all N _ v' w' h (by omega) (hT.below hb); rw [← hs1] at this; exact this)
  have H1 := hid (fun (z d : Int) (Kz : Nat) (f : Value) (w' : World) (h : Ft w' f z d Kz) (hd : 0 < d) (hk : Kz ≤ 1073741823) => fracValue_any f z d Kz w' h hd hk)
  rw [← hs1]
  obtain ⟨s2, hq0⟩ : ∃ s2 : ByteArray, s2 = ⟨(Lib.decDigits D.natAbs).toArray⟩ := ⟨_, rfl⟩
  have hz2 : s2.size ≤ 1000000 := by rw [hq0]; exact hs2
  have hq1 : ¬ 9223372036854775807 < s1.size + 1 := by omega
  have hq2 : ¬ 9223372036854775807 < s1.size + 1 + s2.size := by omega
  have HDD := hid (fun (v' : Value) (w' : World) (Kd : Nat) (h : Nt w' v' (D.natAbs : Int) Kd) (hk : Kd ≤ 40000) (hb : Below w.heap.size w w') => by have := decimals_nt D.natAbs Kd v' w' h hk (hT.below hb); rw [← hq0] at this; exact this)
  rw [← hq0]
  have HO1 := hid (show decide ((D.natAbs : Int) = 1) = false from decide_eq_false (by omega))
  have HN := hid hN; have HD := hid hD
  clear hs1 hq0 hRR hv hN hD hs hT hs2
  have hB0 : Below w.heap.size w (w.alloc (.cells #[.bool xb, .slice xo xm xc, .bool yb, .slice yo ym yc] 26)) := (Below.refl _ _).alloc (Nat.le_refl _) _
  have HB0 := hid hB0
  clear hB0
  go_enter Tryz.func11, Tryz.ntmps11
  go_wp2_with fail
  refine (HRR.out _ HB0.out).mono ?_
  rintro e w1 ⟨f, rfl, hf, hb1⟩
  have HB1 := hid (show Below w.heap.size w w1 from HB0.out.trans (hb1.mono (by simp)))
  clear hb1
  go_wp2_with fail
  refine (H1.out _ _ _ _ _ hf (rd_pos y) (by omega)).mono ?_
  rintro e w2 ⟨_, rfl, hr, hb2⟩
  rw [HN.out, HD.out] at hr
  obtain ⟨b1, o1, m1, c1, b2, o2, m2, c2, rfl, HR1, HR2⟩ := FrR.opened hr
  have HB2 := hid (show Below w.heap.size w w2 from HB1.out.trans (hb2.mono HB1.out.size))
  clear hr hf hb2
  obtain ⟨W3, hW3⟩ : ∃ W3, W3 = w2.alloc (.cells #[.bool b1, .slice o1 m1 c1, .bool b2, .slice o2 m2 c2] 26) := ⟨_, rfl⟩
  have hal : Below w2.heap.size w2 W3 := by rw [hW3]; exact (Below.refl _ _).alloc (Nat.le_refl _) _
  have HS : Hid (∀ w', Below W3.heap.size W3 w' → w'.cell? ⟨w2.heap.size, 0, none⟩ = some (.bool b1) ∧ w'.cell? ⟨w2.heap.size, 1, none⟩ = some (.slice o1 m1 c1) ∧ w'.cell? ⟨w2.heap.size, 2, none⟩ = some (.bool b2) ∧ w'.cell? ⟨w2.heap.size, 3, none⟩ = some (.slice o2 m2 c2)) := hid (fun w' hb => by
    refine ⟨?_, ?_, ?_, ?_⟩ <;> (rw [hb.cell (by rw [hW3]; simp), hW3]; simp [go_sem]))
  have HAL := hid hal; have HW3 := hid hW3
  clear hal hW3
  go_wp2_with fail
  rw [← HW3.out]
  refine (HT.out _ _ (HR1.out.ai.below HAL.out (Nat.le_refl _)) (HB2.out.trans (HAL.out.mono HB2.out.size))).mono ?_
  rintro e w4 ⟨rfl, hb4⟩
  obtain ⟨k0, k1, k2, k3⟩ := HS.out _ hb4
  have HB4 := hid (show Below w2.heap.size w2 w4 from HAL.out.trans (hb4.mono HAL.out.size))
  clear hb4
  go_wp2_with fail
  refine (read_any _ D _ _ (HR2.out.ai.below HB4.out (Nat.le_refl _)) (by omega)).mono ?_
  rintro e w5 ⟨_, rfl, hv5, hb5⟩
  obtain ⟨b5, o5, m5, c5, rfl, H5, H5s, H5b⟩ := It.opened hv5
  have HI := hid (fun w' hb => isOne_any _ _ _ w' (H5s.out w' hb))
  have HB5 := hid (show Below w2.heap.size w2 w5 from HB4.out.trans (hb5.mono HB4.out.size))
  clear hb5 hv5
  have hfld : ∀ w : World, (Instr.field 56 (.agg #[.bool b5, .slice o5 m5 c5]) 1).run Tryz.prog w = .ok (.slice o5 m5 c5) w := fun w => by kernel_rfl
  go_wp2_with fail
  refine (HI.out _ (Below.refl _ _)).mono ?_
  rintro e w6 ⟨rfl, h6⟩
  obtain rfl : w5 = w6 := h6.symm
  rw [HO1.out]
  go_wp2_with fail
  refine (HDD.out _ _ _ (H5s.out _ (Below.refl _ _)) (by omega) (HB2.out.trans (HB5.out.mono HB2.out.size))).mono ?_
  rintro e w7 ⟨rfl, hb7⟩
  go_wp2
  go_ret
  exact ⟨rfl, (HB2.out.trans (HB5.out.mono HB2.out.size)).trans (hb7.mono (HB2.out.trans (HB5.out.mono HB2.out.size)).size)⟩

/-- The text of a fraction in lowest terms. -/
def shT (N D : Int) : ByteArray := if D = 1 then tx N else tx N ++ ⟨#[47]⟩ ++ ⟨(Lib.decDigits D.natAbs).toArray⟩
theorem rn_abs (x y : Int) : (rn x y).natAbs ≤ x.natAbs := by
  unfold rn sgn
  split
  · simp
  · split <;> omega
theorem lowN_abs (z d : Int) : (lowN z d).natAbs ≤ z.natAbs := by
  unfold lowN sgn
  have h := Int.ediv_le_self ((Int.gcd (z.natAbs : Int) d : Int)) (show (0 : Int) ≤ (z.natAbs : Int) by omega)
  have h0 : (0 : Int) ≤ (z.natAbs : Int) / (Int.gcd (z.natAbs : Int) d : Int) := Int.ediv_nonneg (by omega) (by omega)
  split <;> omega
theorem Show_rv (v : Value) (n d : Int) (K : Nat) (w : World) (hv : Rv w v n d K) (hK : K ≤ 5000) (hT : Tab w) :
    Calls Tryz.prog 11 #[v] w fun e w' => e = .returned (.string (shT (lowN n d) (lowD n d))) ∧ Below w.heap.size w w' := by
  obtain ⟨hd, x, y, hr, he⟩ := hv
  obtain ⟨b1, o1, m1, c1, b2, o2, m2, c2, rfl, hx, hy⟩ := hr
  have hu := low_uniq (rd_pos y) hd he
  have hb1 := ai_lt hx
  have hb2 := ai_lt hy
  have hN : (lowN n d).natAbs < 10 ^ (10 * K) := by
    rw [← hu.1]
    exact Nat.lt_of_le_of_lt (Nat.le_trans (lowN_abs _ _) (rn_abs x y)) hb1
  have hlv := low_val n hd
  have hDp : 0 < lowD n d := hlv.2
  have hD : (lowD n d).natAbs < 10 ^ (10 * K) ∨ (lowD n d).natAbs = 1 := by
    rw [← hu.2]
    have h1 := (low_small (rn x y) (rd_pos y)).1
    have h2 : (rd y).natAbs ≤ y.natAbs ∨ rd y = 1 := by unfold rd; split <;> omega
    have h3 := (low_val (rn x y) (rd_pos y)).2
    omega
  have hD2 : (Lib.decDigits (lowD n d).natAbs).length ≤ 1000000 := by
    rcases hD with h | h
    · have := decs_len _ _ h; omega
    · rw [h]; simp [dec_small]
  unfold shT
  by_cases h1 : lowD n d = 1
  · rw [if_pos h1]
    exact Show_whole_all _ x y _ K w ⟨b1, o1, m1, c1, b2, o2, m2, c2, rfl, hx, hy⟩ hK hT (by have := tx_size hN; omega) hu.1 (by rw [hu.2]; exact h1)
  · rw [if_neg h1]
    exact Show_quot_all _ x y _ _ K w ⟨b1, o1, m1, c1, b2, o2, m2, c2, rfl, hx, hy⟩ hK hT (by have := tx_size hN; omega) hu.1 hu.2 (by omega) hD2
end Go.Proofs.YtbapeilpkhbbeaaGreatDoor

/- exact.raise. Written by gen_power.py. -/
namespace Go.Proofs.YtbapeilpkhbbeaaGreatDoor
open Go.RowKit

/-- What is left to multiply: base to the power n. -/
structure RaiseI (w wr : World) (b : Int) (n0 M : Nat) (bv ov : Value) (n p d Kp Ko : Nat) : Prop where
  num : d + p * n = n0
  lim : Ko + Kp * n ≤ M
  base : Nt wr bv (b ^ p) Kp
  out : Nt wr ov (b ^ d) Ko
  low : Below w.heap.size w wr
  kp : Kp ≤ M
theorem raise_odd {p d n0 Kp Ko M m : Nat} (e : d + p * (2 * m + 1) = n0) (k : Ko + Kp * (2 * m + 1) ≤ M) : (d + p) + (p + p) * m = n0 ∧ (Ko + Kp) + (Kp + Kp) * m ≤ M ∧ Ko + Kp ≤ M ∧ (0 < m → Kp + Kp ≤ M) := by
  have e1 : p * (2 * m + 1) = 2 * (p * m) + p := by grind
  have e2 : (p + p) * m = 2 * (p * m) := by grind
  have e3 : Kp * (2 * m + 1) = 2 * (Kp * m) + Kp := by grind
  have e4 : (Kp + Kp) * m = 2 * (Kp * m) := by grind
  refine ⟨by omega, by omega, by omega, fun h => ?_⟩
  have : Kp * 1 ≤ Kp * m := Nat.mul_le_mul_left _ h
  omega
theorem raise_even {p d n0 Kp Ko M m : Nat} (e : d + p * (2 * m) = n0) (k : Ko + Kp * (2 * m) ≤ M) (hm : 0 < m) : d + (p + p) * m = n0 ∧ Ko + (Kp + Kp) * m ≤ M ∧ Kp + Kp ≤ M := by
  have e1 : p * (2 * m) = 2 * (p * m) := by grind
  have e2 : (p + p) * m = 2 * (p * m) := by grind
  have e3 : Kp * (2 * m) = 2 * (Kp * m) := by grind
  have e4 : (Kp + Kp) * m = 2 * (Kp * m) := by grind
  have : Kp * 1 ≤ Kp * m := Nat.mul_le_mul_left _ hm
  omega

set_option maxRecDepth 100000 in
set_option maxHeartbeats 4000000 in
theorem raise_any (va : Value) (b : Int) (K n0 M : Nat) (w : World) (hA : Nt w va b K) (hM : K * n0 + 1 ≤ M) (hKM : K ≤ M) (hM2 : M ≤ 200000) (hn : n0 ≤ 1024) :
    Calls Tryz.prog 22 #[va, .int .i64 n0] w (RetN w (b ^ n0) M) := by
  have hb0 : Below w.heap.size w (w.alloc (Obj.cells #[Value.int IntKind.u64 1] 63)) := (Below.refl _ _).alloc (Nat.le_refl _) _
  obtain ⟨ao, am, ac, rfl, HA⟩ := Nt.opened hA
  have HI0 := hid (show RaiseI w _ b n0 M (.slice ao am ac) (.slice (some ⟨w.heap.size, 0, none⟩) 1 1) n0 1 0 K 1 from
    ⟨by omega, by omega, by rw [Int.pow_succ, Int.pow_zero, Int.one_mul]; exact HA.out _ hb0, by rw [Int.pow_zero]; exact one_row w, hb0, hKM⟩)
  clear hA HA hb0
  go_enter Tryz.func22, Tryz.ntmps22
  go_wp2
  go_loopw [0, 1, 5] (fun bv nv ov wr => ∃ n p d Kp Ko : Nat, n ≤ 1024 ∧ nv = .int .i64 n ∧ RaiseI w wr b n0 M bv ov n p d Kp Ko) (fun _ nv _ _ => (intOf nv).toNat)
  case atStart => exact ⟨n0, 1, 0, K, 1, hn, rfl, HI0.out⟩
  case round =>
    obtain ⟨n, p, d, Kp, Ko, hn2, rfl, H⟩ := hrel
    rcases (show n = 0 ∨ n = 1 ∨ (∃ m, 0 < m ∧ n = 2 * m + 1) ∨ (∃ m, 0 < m ∧ n = 2 * m) by
      obtain ⟨m, h⟩ : ∃ m, n = 2 * m ∨ n = 2 * m + 1 := ⟨n / 2, by omega⟩
      rcases h with h | h <;> rcases Nat.eq_zero_or_pos m with h0 | h0
      · exact Or.inl (by omega)
      · exact Or.inr (Or.inr (Or.inr ⟨m, h0, h⟩))
      · exact Or.inr (Or.inl (by omega))
      · exact Or.inr (Or.inr (Or.inl ⟨m, h0, h⟩))) with rfl | rfl | ⟨m, hm0, hnm⟩ | ⟨m, hm0, hnm⟩
    · have ho := H.out
      have hd : d = n0 := by have := H.num; omega
      rw [hd] at ho
      have HO := hid (ho.mono (show Ko ≤ M by have := H.lim; omega))
      have HL := hid H.low
      clear H HI0 ho hd
      go_wp2
      go_ret
      exact ⟨_, rfl, HO.out, HL.out⟩
    · have hs := raise_odd (p := p) (d := d) (n0 := n0) (Kp := Kp) (Ko := Ko) (M := M) (m := 0) (by simpa using H.num) (by simpa using H.lim)
      have HMul := hid (multiply_any _ _ (b ^ d) (b ^ p) Ko Kp wr H.out H.base (by omega))
      have HH := hid H
      have HS := hid hs
      clear hs H HI0
      go_wp2_with fail
      refine HMul.out.mono ?_
      rintro e w1 ⟨v1, rfl, hv1, hb1⟩
      rw [← Int.pow_add] at hv1
      have HN := hid (show RaiseI w w1 b n0 M _ v1 0 p (d + p) Kp (Ko + Kp) from ⟨by have := HS.out.1; omega, by have := HS.out.2.2.1; omega, HH.out.base.below hb1 (Nat.le_refl _), hv1, HH.out.low.trans (hb1.mono HH.out.low.size), HH.out.kp⟩)
      clear hv1 hb1
      go_wp2
      go_roundw
      case rel => exact ⟨0, p, d + p, Kp, Ko + Kp, by omega, rfl, HN.out⟩
      case measure => simp [intOf]
    · have hs := raise_odd (p := p) (d := d) (n0 := n0) (Kp := Kp) (Ko := Ko) (M := M) (m := m) (by rw [← hnm]; exact H.num) (by rw [← hnm]; exact H.lim)
      have HMul := hid (multiply_any _ _ (b ^ d) (b ^ p) Ko Kp wr H.out H.base (by omega))
      have HH := hid H
      have HS := hid hs
      have g1 : (n : Int) % 2 = 1 := by omega
      have g2 : (n : Int) / 2 = (m : Int) := by omega
      have g3 : (n : Int).tmod 2 = 1 := by rw [Int.tmod_eq_emod_of_nonneg (by omega)]; exact g1
      have g4 : (n : Int).tdiv 2 = (m : Int) := by rw [Int.tdiv_eq_ediv_of_nonneg (by omega)]; exact g2
      have g5 : (1 : Int) < (n : Int) := by omega
      have g6 : (0 : Int) < (n : Int) := by omega
      have Hnm := hid hnm
      clear hs H HI0 hnm
      go_wp2_with fail
      refine HMul.out.mono ?_
      rintro e w1 ⟨v1, rfl, hv1, hb1⟩
      rw [← Int.pow_add] at hv1
      have HV1 := hid hv1; have Hb1 := hid hb1
      have HMul2 := hid (multiply_any _ _ (b ^ p) (b ^ p) Kp Kp w1 (HH.out.base.below hb1 (Nat.le_refl _)) (HH.out.base.below hb1 (Nat.le_refl _)) (by have := HS.out.2.2.2 hm0; omega))
      clear hv1 hb1 HMul
      go_wp2_with fail
      refine HMul2.out.mono ?_
      rintro e w2 ⟨v2, rfl, hv2, hb2⟩
      rw [← Int.pow_add] at hv2
      have HN := hid (show RaiseI w w2 b n0 M v2 v1 m (p + p) (d + p) (Kp + Kp) (Ko + Kp) from ⟨HS.out.1, HS.out.2.1, hv2, HV1.out.below hb2 (Nat.le_refl _), HH.out.low.trans ((Hb1.out.trans (hb2.mono Hb1.out.size)).mono HH.out.low.size), HS.out.2.2.2 hm0⟩)
      clear hv2 hb2
      go_wp2
      go_roundw
      case rel => exact ⟨m, _, _, _, _, by have := Hnm.out; omega, rfl, HN.out⟩
      case measure => simp [intOf]; first | done | (have := Hnm.out; omega)
    · have hs := raise_even (p := p) (d := d) (n0 := n0) (Kp := Kp) (Ko := Ko) (M := M) (m := m) (by rw [← hnm]; exact H.num) (by rw [← hnm]; exact H.lim) hm0
      have HMul2 := hid (multiply_any _ _ (b ^ p) (b ^ p) Kp Kp wr H.base H.base (by omega))
      have HH := hid H
      have HS := hid hs
      have g1 : (n : Int) % 2 = 0 := by omega
      have g2 : (n : Int) / 2 = (m : Int) := by omega
      have g3 : (n : Int).tmod 2 = 0 := by rw [Int.tmod_eq_emod_of_nonneg (by omega)]; exact g1
      have g4 : (n : Int).tdiv 2 = (m : Int) := by rw [Int.tdiv_eq_ediv_of_nonneg (by omega)]; exact g2
      have g5 : (1 : Int) < (n : Int) := by omega
      have g6 : (0 : Int) < (n : Int) := by omega
      have Hnm := hid hnm
      clear hs H HI0 hnm
      go_wp2_with fail
      refine HMul2.out.mono ?_
      rintro e w2 ⟨v2, rfl, hv2, hb2⟩
      rw [← Int.pow_add] at hv2
      have HN := hid (show RaiseI w w2 b n0 M v2 _ m (p + p) d (Kp + Kp) Ko from ⟨HS.out.1, HS.out.2.1, hv2, HH.out.out.below hb2 (Nat.le_refl _), HH.out.low.trans (hb2.mono HH.out.low.size), HS.out.2.2⟩)
      clear hv2 hb2
      go_wp2
      go_roundw
      case rel => exact ⟨m, _, _, _, _, by have := Hnm.out; omega, rfl, HN.out⟩
      case measure => simp [intOf]; first | done | (have := Hnm.out; omega)

end Go.Proofs.YtbapeilpkhbbeaaGreatDoor

/- exact.Div. Written by gen_ediv.py. -/
namespace Go.Proofs.YtbapeilpkhbbeaaGreatDoor
open Go.RowKit

end Go.Proofs.YtbapeilpkhbbeaaGreatDoor
