/- The law ExactBack, its walk. Written by gen_back.py. -/
import Derived.Test.YtilpkocmdpofpaaGreatDoorBk40
import Derived.Test.YtilpkocmdpofpaaGreatDoorBk36
import Derived.Test.YtilpkocmdpofpaaGreatDoorBk39
/- The law ExactBack, its walk. Written by gen_back.py. -/
namespace Go.Proofs.YtilpkocmdpofpaaGreatDoor
open Go.RowKit

theorem back_lo {n d P a : Int} (hP : 0 < P) (h1 : a * (d * 2) ≤ n * P * 2 + d) : ((a * d - n * P) * (P * 2)) * 1 ≤ 1 * ((P * d) * 1) := by
  have e : 2 * (a * d - n * P) ≤ d := by grind
  have e2 : 2 * (a * d - n * P) * P ≤ d * P := Int.mul_le_mul_of_nonneg_right e (Int.le_of_lt hP)
  grind
theorem back_hi {n d P a : Int} (hP : 0 < P) (h2 : n * P * 2 + d < (a + 1) * (d * 2)) : (-1) * ((P * d) * 1) < ((a * d - n * P) * (P * 2)) * 1 := by
  have e : -d < 2 * (a * d - n * P) := by grind
  have e2 : -d * P < 2 * (a * d - n * P) * P := Int.mul_lt_mul_of_pos_right e hP
  grind
theorem cmp_le0 {x y : Int} (h : x ≤ y) : cmpI x y ≤ 0 := by unfold cmpI; (repeat' split) <;> omega
theorem cmp_lt1 {x y : Int} (h : x < y) : cmpI x y = -1 := by unfold cmpI; (repeat' split) <;> omega
theorem lover_rv (n : Int) (w : World) (h0 : -1 ≤ n) (h1 : n ≤ 1) : Calls Tryz.prog 27 #[.int .i64 n, .int .i64 1] w (RetV w n 1 4) := by
  refine (lover_any n 1 w (by omega) (by omega) (by decide) (by decide) (by decide)).mono ?_
  rintro e w' ⟨f, rfl, hf, hb⟩
  rw [sgn_pos_den (by decide)] at hf
  exact retV hf (by decide) (by decide) rfl (by decide) hb
theorem WholeB (u : Value) (z : Int) (K R : Nat) (w : World) (hu : Ai w u z K) (hK : K ≤ 1000) (hR : 2 * ((K + 1) / 2 + 1) ≤ R) : Calls Tryz.prog 47 #[u] w (RetV w z 1 R) := by
  refine (Whole_any u z K w hu (by omega)).mono ?_
  rintro e w' ⟨f, rfl, hf, hb⟩
  exact retV hf (by decide) (by decide) rfl hR hb
theorem of_s (t : Int) (w : World) (h0 : -100 ≤ t) (h1 : t ≤ 100) : Calls Tryz.prog 22 #[.int .i64 t] w (RetZI w t 2) :=
  (of_any t w (by omega) (by omega)).mono fun e w' h => h.zi (Nat.le_refl _)
theorem back_num {n d : Int} {p : Nat} (hd : 0 < d) (hn : n.natAbs < 10 ^ 160) (hp : p ≤ 100) {m : Nat} (hm : m = 261) : ((n * 10 ^ p * 2 + d).fdiv (d * 2)).natAbs < 10 ^ m := by
  have h := fdiv_abs (a := n * 10 ^ p) hd
  have e : (n * 10 ^ p).natAbs = n.natAbs * 10 ^ p := by rw [Int.natAbs_mul, Int.natAbs_pow]; rfl
  have h2 : n.natAbs * 10 ^ p ≤ 10 ^ 160 * 10 ^ 100 := Nat.mul_le_mul (Nat.le_of_lt hn) (Nat.pow_le_pow_right (by decide) hp)
  have h3 : ∀ u v : Nat, (10 : Nat) ^ (u + v + 1) = 10 ^ u * 10 ^ v * 10 := fun u v => by rw [Nat.pow_succ, Nat.pow_add]
  rw [show m = 160 + 100 + 1 from hm, h3 160 100]
  have h4 : 0 < (10 : Nat) ^ 160 * 10 ^ 100 := Nat.mul_pos (Nat.pow_pos (by decide)) (Nat.pow_pos (by decide))
  generalize (10 : Nat) ^ 160 * 10 ^ 100 = X at h2 h4 ⊢
  omega
theorem rd_abs {x y : Int} {m : Nat} (hx : x.natAbs < 10 ^ m) (hy : y.natAbs < 10 ^ m) (hm : 0 < m) : (lowN (rn x y) (rd y)).natAbs < 10 ^ m ∧ (lowD (rn x y) (rd y)).natAbs < 10 ^ m ∧ (rn x y).natAbs < 10 ^ m := by
  have h1 := lowN_abs (rn x y) (rd y)
  have h2 := rn_abs x y
  have h3 := (low_small (rn x y) (rd_pos y)).1
  have h4 := (low_val (rn x y) (rd_pos y)).2
  have h5 : (rd y).natAbs ≤ y.natAbs ∨ rd y = 1 := by unfold rd; split <;> omega
  have h6 : 1 < 10 ^ m := Nat.one_lt_pow (by omega) (by decide)
  omega

theorem PR_k (s : List UInt8) (hs : s.length ≤ 500) (hb : prfB s = true) (w : World) (hm : Mx w) (k : Nat) (hk : 501 ≤ 9 * k) : Calls Tryz.prog 15 #[.string ⟨s.toArray⟩] w (RetVE w (prfN s) (prfD s) k 0) :=
  ParseRatio_rv s w hm (by omega) hb k (Nat.lt_of_lt_of_le (prf_bound hb).1 (Nat.pow_le_pow_right (by decide) (by omega))) (Nat.lt_of_lt_of_le (prf_bound hb).2 (Nat.pow_le_pow_right (by decide) (by omega)))
theorem PR_any (s : List UInt8) (hs : s.length ≤ 500) (hb : prfB s = true) (w : World) (hm : Mx w) : Calls Tryz.prog 15 #[.string ⟨s.toArray⟩] w (RetVE w (prfN s) (prfD s) 56 0) := PR_k s hs hb w hm 56 (by decide)
theorem PS_any (s : List UInt8) (hs : s.length ≤ 500) (hb : prfB s = true) (w : World) (hm : Mx w) : Calls Tryz.prog 15 #[.string (shT (lowN (prfN s) (prfD s)) (lowD (prfN s) (prfD s)))] w (RetVE w (lowN (prfN s) (prfD s)) (lowD (prfN s) (prfD s)) 56 0) := by
  have hp := prf_pos hb
  have hlv := low_val (prfN s) hp
  have h1 : (lowD (prfN s) (prfD s)).natAbs ≤ (prfD s).natAbs := by
    have := (low_small (prfN s) hp).1
    have := hlv.2
    omega
  obtain ⟨b1, b2⟩ := prf_bound hb
  obtain ⟨m, hm1⟩ : ∃ m, m = s.length + 1 := ⟨_, rfl⟩
  have hpm : 10 ^ s.length ≤ 10 ^ m := Nat.pow_le_pow_right (by decide) (by omega)
  rw [← hm1] at b2
  exact ParseRatio_sh _ _ hlv.2 m (Nat.lt_of_le_of_lt (lowN_abs _ _) (Nat.lt_of_lt_of_le b1 hpm)) (Nat.lt_of_le_of_lt h1 b2) (by omega) 56 (by omega) w hm

set_option maxRecDepth 100000 in
set_option maxHeartbeats 4000000 in
theorem exactBack_walk (a1 a2 aa2 : Bool) (p1 p2 pp2 : Option Addr) (l1 q1 l2 ll2 q2 qq2 : Nat) (z x y : Int) (k : Nat) (s : List UInt8) (w : World) (hu : Ai w (.agg #[.bool a1, .slice p1 l1 q1]) z 16) (hv : Ra w (.agg #[.bool a2, .slice p2 l2 q2, .bool aa2, .slice pp2 ll2 qq2]) x y 16) (hk : k < 256) (hs : s.length ≤ 500) (t1 : Int) (ht1 : max (l2 : Int) (ll2 : Int) = t1) (g1 : ¬ 16 < t1) (hl1 : l1 ≤ 16) (hT : Tab w) (hM : Mx w) :
    Calls Tryz.prog 9 #[(.agg #[.bool a1, .slice p1 l1 q1]), (.agg #[.bool a2, .slice p2 l2 q2, .bool aa2, .slice pp2 ll2 qq2]), .int .u8 (k : Int), .string ⟨s.toArray⟩] w fun e w' => e = .returned (.bool true) ∧ Below w.heap.size w w' := by
  obtain ⟨W0, hW0⟩ : ∃ W0, W0 = ((w.alloc (.cells #[.bool a1, .slice p1 l1 q1] 24)).alloc (.cells #[.bool a2, .slice p2 l2 q2, .bool aa2, .slice pp2 ll2 qq2] 26)) := ⟨_, rfl⟩
  have hB0 : Below w.heap.size w W0 := by rw [hW0]; exact ((Below.refl _ _).alloc (Nat.le_refl _) _).alloc (by simp <;> omega) _
  have hz0 : W0.heap.size = w.heap.size + 2 := by rw [hW0]; simp
  have HS0 : Hid (∀ w', Below W0.heap.size W0 w' → w'.cell? ⟨w.heap.size, 0, none⟩ = some (.bool a1) ∧ w'.cell? ⟨w.heap.size, 1, none⟩ = some (.slice p1 l1 q1) ∧ w'.cell? ⟨w.heap.size + 1, 0, none⟩ = some (.bool a2) ∧ w'.cell? ⟨w.heap.size + 1, 1, none⟩ = some (.slice p2 l2 q2) ∧ w'.cell? ⟨w.heap.size + 1, 2, none⟩ = some (.bool aa2) ∧ w'.cell? ⟨w.heap.size + 1, 3, none⟩ = some (.slice pp2 ll2 qq2)) := hid (fun w' hb => by
    refine ⟨?_, ?_, ?_, ?_, ?_, ?_⟩ <;> (rw [hb.cell (by rw [hz0]; simp <;> omega), hW0]; simp [go_sem]))
  have VN : Hid (∀ w', Below W0.heap.size W0 w' → Ai w' (.agg #[.bool a1, .slice p1 l1 q1]) z 16) := hid (fun w' hb => (hu.below hB0 (Nat.le_refl _)).below hb (Nat.le_refl _))
  have hz := ai_lt hu
  obtain ⟨n, hn⟩ : ∃ n, n = rn x y := ⟨_, rfl⟩
  obtain ⟨d, hd⟩ : ∃ d, d = rd y := ⟨_, rfl⟩
  have hd0 : 0 < d := by rw [hd]; exact rd_pos y
  have hab : (lowN n d).natAbs < 10 ^ 160 ∧ (lowD n d).natAbs < 10 ^ 160 ∧ n.natAbs < 10 ^ 160 := by
    rw [hn, hd]
    obtain ⟨b1, o1, m1, c1, b2, o2, m2, c2, hvv, h1, h2⟩ := hv
    exact rd_abs (ai_lt h1) (ai_lt h2) (by decide)
  have hv2 : Rv w (.agg #[.bool a2, .slice p2 l2 q2, .bool aa2, .slice pp2 ll2 qq2]) n d 16 := ⟨hd0, x, y, hv, by rw [hn, hd]⟩
  have VR : Hid (∀ w', Below W0.heap.size W0 w' → Rv w' (.agg #[.bool a2, .slice p2 l2 q2, .bool aa2, .slice pp2 ll2 qq2]) n d 16) := hid (fun w' hb => (hv2.below hB0 (Nat.le_refl _)).below hb (Nat.le_refl _))
  have HT : Hid (∀ w', Below W0.heap.size W0 w' → Tab w') := hid (fun w' hb => (hT.below hB0).below hb)
  have HM : Hid (∀ w', Below W0.heap.size W0 w' → Mx w') := hid (fun w' hb => (hM.below hB0).below hb)
  obtain ⟨p, hp, hp0⟩ : ∃ p : Nat, (k : Int).tmod 101 = (p : Int) ∧ p ≤ 100 := by
    rw [Int.tmod_eq_emod_of_nonneg (by omega)]; exact ⟨((k : Int) % 101).toNat, by omega, by omega⟩
  obtain ⟨P, hP⟩ : ∃ P : Int, P = 10 ^ p := ⟨_, rfl⟩
  have hP0 : 0 < P := by rw [hP]; exact Int.pow_pos (by decide)
  obtain ⟨a, ha⟩ : ∃ a : Int, a = (n * P * 2 + d).fdiv (d * 2) := ⟨_, rfl⟩
  have ha2 := fdiv_le (n * P * 2 + d) (show 0 < d * 2 by omega)
  rw [← ha] at ha2
  obtain ⟨m, hm⟩ : ∃ m, m = 261 := ⟨_, rfl⟩
  have hal : a.natAbs < 10 ^ m := by rw [ha, hP]; exact back_num hd0 hab.2.2 hp0 hm
  obtain ⟨z1, hz1⟩ : ∃ t, t = cmpI (((a * d - n * P) * (P * 2)) * 1) (1 * ((P * d) * 1)) := ⟨_, rfl⟩
  have hz1l : z1 ≤ 0 := by rw [hz1]; exact cmp_le0 (back_lo hP0 ha2.1)
  have M1 := hid hz1.symm; have M2 := hid (show cmpI ((-1) * ((P * d) * 1)) (((a * d - n * P) * (P * 2)) * 1) = -1 from cmp_lt1 (back_hi hP0 ha2.2))
  obtain ⟨tt, htt⟩ : ∃ t, t = tx z := ⟨_, rfl⟩
  obtain ⟨N, hN⟩ : ∃ N, N = lowN n d := ⟨_, rfl⟩
  obtain ⟨D, hD⟩ : ∃ D, D = lowD n d := ⟨_, rfl⟩
  obtain ⟨sh, hsh⟩ : ∃ t, t = shT N D := ⟨_, rfl⟩
  obtain ⟨dt, hdt⟩ : ∃ t, t = dcT a p := ⟨_, rfl⟩
  have hlv := low_val n hd0
  rw [← hN, ← hD] at hlv hab
  have HX1 : Hid (∀ w', Below W0.heap.size W0 w' → Calls Tryz.prog 23 #[.agg #[.bool a1, .slice p1 l1 q1]] w' (fun e w2 => e = .returned (.string tt) ∧ Below w'.heap.size w' w2)) := hid (fun w' hb => by rw [htt]; exact Text_all z 16 _ _ (VN.out _ hb) (by omega) (HT.out _ hb))
  have HX2 : Hid (∀ w', Below W0.heap.size W0 w' → Calls Tryz.prog 49 #[.string tt] w' (RetZE w' z 18 0)) := hid (fun w' hb => by rw [htt]; exact Parse_tx z 160 _ hz (by omega) 18 (by omega))
  have HX3 : Hid (∀ w', Below W0.heap.size W0 w' → Calls Tryz.prog 17 #[.agg #[.bool a2, .slice p2 l2 q2, .bool aa2, .slice pp2 ll2 qq2]] w' (fun e w2 => e = .returned (.string sh) ∧ Below w'.heap.size w' w2)) := hid (fun w' hb => by rw [hsh, hN, hD]; exact Show_rv _ n d 16 _ (VR.out _ hb) (by omega) (HT.out _ hb))
  have HX4 : Hid (∀ w', Below W0.heap.size W0 w' → Calls Tryz.prog 15 #[.string sh] w' (RetVE w' N D 18 0)) := hid (fun w' hb => by rw [hsh]; exact ParseRatio_sh N D hlv.2 160 hab.1 hab.2.1 (by omega) 18 (by omega) _ (HM.out _ hb))
  have HX5 : Hid (∀ w', Below W0.heap.size W0 w' → Calls Tryz.prog 13 #[.agg #[.bool a2, .slice p2 l2 q2, .bool aa2, .slice pp2 ll2 qq2], .int .i64 (p : Int)] w' (fun e w2 => e = .returned (.tuple #[.string dt, .int .i64 0]) ∧ Below w'.heap.size w' w2)) := hid (fun w' hb => by rw [hdt, ha, hP]; exact Decimal_rv _ n d 16 p _ (VR.out _ hb) (by omega) hp0 (HT.out _ hb))
  have HX6 : Hid (∀ w', Below W0.heap.size W0 w' → Calls Tryz.prog 15 #[.string dt] w' (RetVE w' a P 29 0)) := hid (fun w' hb => by rw [hdt, hP]; exact ParseRatio_dc a p hp0 m hal (by omega) (by omega) 29 (by omega) _ (HM.out _ hb))
  have HX7 := hid (fun (u : Value) (w' : World) (h : Ai w' u 10 2) => show Calls Tryz.prog 32 #[u, .int .i64 (p : Int)] w' (RetZE w' P 12 0) by rw [hP]; exact Power_ten u p w' h hp0)
  have HND := hid (show N * d = n * D by rw [hN, hD] at *; exact hlv.1)
  have T1 := hid ht1; have HS := hid hs
  have kk1 : (0 : Int) ≤ (k : Int) := by omega
  have kk2 : (k : Int) ≤ 255 := by omega
  have g2 : ¬ (16 : Int) < (l1 : Int) := by omega
  have g3 : ¬ (500 : Int) < (s.length : Int) := by omega
  have HB0 := hid hB0; have HW0 := hid hW0
  clear hW0 hB0 hz0
  clear hz hn hd hd0 hab hv2 hP hP0 ha ha2 hal hm hz1 htt hN hD hsh hdt hlv ht1 hu hv hk hl1 hs hT hM hp0
  go_enter Tryz.func9, Tryz.ntmps9
  go_wp2_with fail
  rw [← HW0.out]
  refine (alive_any _).mono ?_
  rintro e w0 ⟨rfl, hX0⟩
  obtain ⟨k0, k1, k2, k3, k4, k5⟩ := HS0.out _ hX0
  go_wp2_with fail
  refine (wide_t _ _ _ _ _ _ _ _ t1 _ T1.out).mono ?_
  rintro e wa ⟨rfl, hba⟩
  have hXa := bl_tr hX0 hba
  clear k0 k1 k2 k3 k4 k5 hba hX0
  go_upto_region 4 with (fail)
  obtain ⟨k0, k1, k2, k3, k4, k5⟩ := HS0.out _ hXa
  go_wp2_with fail
  refine (HX1.out _ hXa).mono ?_
  rintro e wt ⟨rfl, hbt⟩
  have hXt := bl_tr hXa hbt
  go_wp2_with fail
  refine (HX2.out _ hXt).mono ?_
  rintro e wq1 ⟨b1, o1, m1, c1, rfl, H1, hbq⟩
  have hXq := bl_tr hXt hbq
  clear k0 k1 k2 k3 k4 k5 hbq hXa hbt hXt
  obtain ⟨W1, hW1⟩ : ∃ W, W = wq1.alloc (.cells #[.bool b1, .slice o1 m1 c1] 24) := ⟨_, rfl⟩
  have hal1 : Below wq1.heap.size wq1 W1 := by rw [hW1]; exact bl_new _
  have hXn1 : Below W0.heap.size W0 W1 := bl_tr hXq hal1
  have HS1 : Hid (∀ w', Below W1.heap.size W1 w' → (w'.cell? ⟨w.heap.size, 0, none⟩ = some (.bool a1) ∧ w'.cell? ⟨w.heap.size, 1, none⟩ = some (.slice p1 l1 q1) ∧ w'.cell? ⟨w.heap.size + 1, 0, none⟩ = some (.bool a2) ∧ w'.cell? ⟨w.heap.size + 1, 1, none⟩ = some (.slice p2 l2 q2) ∧ w'.cell? ⟨w.heap.size + 1, 2, none⟩ = some (.bool aa2) ∧ w'.cell? ⟨w.heap.size + 1, 3, none⟩ = some (.slice pp2 ll2 qq2)) ∧ w'.cell? ⟨wq1.heap.size, 0, none⟩ = some (.bool b1) ∧ w'.cell? ⟨wq1.heap.size, 1, none⟩ = some (.slice o1 m1 c1)) := hid (fun w' hb => by
    refine ⟨HS0.out _ (bl_tr hXn1 hb), ?_, ?_⟩ <;> (rw [hb.cell (by rw [hW1]; simp), hW1]; simp [go_sem]))
  replace VN := hid (fun w' hb => VN.out w' (bl_tr hXn1 hb))
  replace VR := hid (fun w' hb => VR.out w' (bl_tr hXn1 hb))
  replace HT := hid (fun w' hb => HT.out w' (bl_tr hXn1 hb))
  replace HM := hid (fun w' hb => HM.out w' (bl_tr hXn1 hb))
  replace HX1 := hid (fun w' hb => HX1.out w' (bl_tr hXn1 hb))
  replace HX2 := hid (fun w' hb => HX2.out w' (bl_tr hXn1 hb))
  replace HX3 := hid (fun w' hb => HX3.out w' (bl_tr hXn1 hb))
  replace HX4 := hid (fun w' hb => HX4.out w' (bl_tr hXn1 hb))
  replace HX5 := hid (fun w' hb => HX5.out w' (bl_tr hXn1 hb))
  replace HX6 := hid (fun w' hb => HX6.out w' (bl_tr hXn1 hb))
  have VB : Hid (∀ w', Below W1.heap.size W1 w' → Ai w' (.agg #[.bool b1, .slice o1 m1 c1]) z 18) := hid (fun w' hb => H1.out.below (bl_tr hal1 hb) (Nat.le_refl _))
  have HB1 := hid (HB0.out.trans (hXn1.mono HB0.out.size)); have HW1 := hid hW1
  clear hW1 hal1 hXn1 HS0 HB0 HW0
  clear hXq H1 HX1 HX2
  go_upto_region 5 with (fail)
  rw [← HW1.out]
  obtain ⟨⟨k0, k1, k2, k3, k4, k5⟩, k6, k7⟩ := HS1.out _ (Below.refl _ _)
  go_wp2_with fail
  refine (HX3.out _ (Below.refl _ _)).mono ?_
  rintro e wt ⟨rfl, hbt⟩
  go_wp2_with fail
  refine (HX4.out _ hbt).mono ?_
  rintro e wq2 ⟨b2, o2, m2, c2, bb2, oo2, mm2, cc2, rfl, H2, hbq⟩
  have hXq := bl_tr hbt hbq
  clear k0 k1 k2 k3 k4 k5 k6 k7 hbq hbt
  obtain ⟨W2, hW2⟩ : ∃ W, W = wq2.alloc (.cells #[.bool b2, .slice o2 m2 c2, .bool bb2, .slice oo2 mm2 cc2] 26) := ⟨_, rfl⟩
  have hal2 : Below wq2.heap.size wq2 W2 := by rw [hW2]; exact bl_new _
  have hXn2 : Below W1.heap.size W1 W2 := bl_tr hXq hal2
  have HS2 : Hid (∀ w', Below W2.heap.size W2 w' → ((w'.cell? ⟨w.heap.size, 0, none⟩ = some (.bool a1) ∧ w'.cell? ⟨w.heap.size, 1, none⟩ = some (.slice p1 l1 q1) ∧ w'.cell? ⟨w.heap.size + 1, 0, none⟩ = some (.bool a2) ∧ w'.cell? ⟨w.heap.size + 1, 1, none⟩ = some (.slice p2 l2 q2) ∧ w'.cell? ⟨w.heap.size + 1, 2, none⟩ = some (.bool aa2) ∧ w'.cell? ⟨w.heap.size + 1, 3, none⟩ = some (.slice pp2 ll2 qq2)) ∧ w'.cell? ⟨wq1.heap.size, 0, none⟩ = some (.bool b1) ∧ w'.cell? ⟨wq1.heap.size, 1, none⟩ = some (.slice o1 m1 c1)) ∧ w'.cell? ⟨wq2.heap.size, 0, none⟩ = some (.bool b2) ∧ w'.cell? ⟨wq2.heap.size, 1, none⟩ = some (.slice o2 m2 c2) ∧ w'.cell? ⟨wq2.heap.size, 2, none⟩ = some (.bool bb2) ∧ w'.cell? ⟨wq2.heap.size, 3, none⟩ = some (.slice oo2 mm2 cc2)) := hid (fun w' hb => by
    refine ⟨HS1.out _ (bl_tr hXn2 hb), ?_, ?_, ?_, ?_⟩ <;> (rw [hb.cell (by rw [hW2]; simp), hW2]; simp [go_sem]))
  replace VN := hid (fun w' hb => VN.out w' (bl_tr hXn2 hb))
  replace VR := hid (fun w' hb => VR.out w' (bl_tr hXn2 hb))
  replace HT := hid (fun w' hb => HT.out w' (bl_tr hXn2 hb))
  replace HM := hid (fun w' hb => HM.out w' (bl_tr hXn2 hb))
  replace HX3 := hid (fun w' hb => HX3.out w' (bl_tr hXn2 hb))
  replace HX4 := hid (fun w' hb => HX4.out w' (bl_tr hXn2 hb))
  replace HX5 := hid (fun w' hb => HX5.out w' (bl_tr hXn2 hb))
  replace HX6 := hid (fun w' hb => HX6.out w' (bl_tr hXn2 hb))
  replace VB := hid (fun w' hb => VB.out w' (bl_tr hXn2 hb))
  have VT : Hid (∀ w', Below W2.heap.size W2 w' → Rv w' (.agg #[.bool b2, .slice o2 m2 c2, .bool bb2, .slice oo2 mm2 cc2]) N D 18) := hid (fun w' hb => H2.out.below (bl_tr hal2 hb) (Nat.le_refl _))
  have HB2 := hid (HB1.out.trans (hXn2.mono HB1.out.size)); have HW2 := hid hW2
  clear hW2 hal2 hXn2 HS1 HB1 HW1
  clear hXq H2 HX3 HX4
  go_upto_region 6 with (fail)
  rw [← HW2.out]
  obtain ⟨⟨⟨k0, k1, k2, k3, k4, k5⟩, k6, k7⟩, k8, k9, k10, k11⟩ := HS2.out _ (Below.refl _ _)
  go_wp2_with fail
  refine (HX5.out _ (Below.refl _ _)).mono ?_
  rintro e wt ⟨rfl, hbt⟩
  go_wp2_with fail
  refine (HX6.out _ hbt).mono ?_
  rintro e wq3 ⟨b3, o3, m3, c3, bb3, oo3, mm3, cc3, rfl, H3, hbq⟩
  have hXq := bl_tr hbt hbq
  clear k0 k1 k2 k3 k4 k5 k6 k7 k8 k9 k10 k11 hbq hbt
  obtain ⟨W3, hW3⟩ : ∃ W, W = wq3.alloc (.cells #[.bool b3, .slice o3 m3 c3, .bool bb3, .slice oo3 mm3 cc3] 26) := ⟨_, rfl⟩
  have hal3 : Below wq3.heap.size wq3 W3 := by rw [hW3]; exact bl_new _
  have hXn3 : Below W2.heap.size W2 W3 := bl_tr hXq hal3
  have HS3 : Hid (∀ w', Below W3.heap.size W3 w' → (((w'.cell? ⟨w.heap.size, 0, none⟩ = some (.bool a1) ∧ w'.cell? ⟨w.heap.size, 1, none⟩ = some (.slice p1 l1 q1) ∧ w'.cell? ⟨w.heap.size + 1, 0, none⟩ = some (.bool a2) ∧ w'.cell? ⟨w.heap.size + 1, 1, none⟩ = some (.slice p2 l2 q2) ∧ w'.cell? ⟨w.heap.size + 1, 2, none⟩ = some (.bool aa2) ∧ w'.cell? ⟨w.heap.size + 1, 3, none⟩ = some (.slice pp2 ll2 qq2)) ∧ w'.cell? ⟨wq1.heap.size, 0, none⟩ = some (.bool b1) ∧ w'.cell? ⟨wq1.heap.size, 1, none⟩ = some (.slice o1 m1 c1)) ∧ w'.cell? ⟨wq2.heap.size, 0, none⟩ = some (.bool b2) ∧ w'.cell? ⟨wq2.heap.size, 1, none⟩ = some (.slice o2 m2 c2) ∧ w'.cell? ⟨wq2.heap.size, 2, none⟩ = some (.bool bb2) ∧ w'.cell? ⟨wq2.heap.size, 3, none⟩ = some (.slice oo2 mm2 cc2)) ∧ w'.cell? ⟨wq3.heap.size, 0, none⟩ = some (.bool b3) ∧ w'.cell? ⟨wq3.heap.size, 1, none⟩ = some (.slice o3 m3 c3) ∧ w'.cell? ⟨wq3.heap.size, 2, none⟩ = some (.bool bb3) ∧ w'.cell? ⟨wq3.heap.size, 3, none⟩ = some (.slice oo3 mm3 cc3)) := hid (fun w' hb => by
    refine ⟨HS2.out _ (bl_tr hXn3 hb), ?_, ?_, ?_, ?_⟩ <;> (rw [hb.cell (by rw [hW3]; simp), hW3]; simp [go_sem]))
  replace VN := hid (fun w' hb => VN.out w' (bl_tr hXn3 hb))
  replace VR := hid (fun w' hb => VR.out w' (bl_tr hXn3 hb))
  replace HT := hid (fun w' hb => HT.out w' (bl_tr hXn3 hb))
  replace HM := hid (fun w' hb => HM.out w' (bl_tr hXn3 hb))
  replace HX5 := hid (fun w' hb => HX5.out w' (bl_tr hXn3 hb))
  replace HX6 := hid (fun w' hb => HX6.out w' (bl_tr hXn3 hb))
  replace VB := hid (fun w' hb => VB.out w' (bl_tr hXn3 hb))
  replace VT := hid (fun w' hb => VT.out w' (bl_tr hXn3 hb))
  have VU : Hid (∀ w', Below W3.heap.size W3 w' → Rv w' (.agg #[.bool b3, .slice o3 m3 c3, .bool bb3, .slice oo3 mm3 cc3]) a P 29) := hid (fun w' hb => H3.out.below (bl_tr hal3 hb) (Nat.le_refl _))
  have HB3 := hid (HB2.out.trans (hXn3.mono HB2.out.size)); have HW3 := hid hW3
  clear hW3 hal3 hXn3 HS2 HB2 HW2
  clear hXq H3 HX5 HX6
  go_upto_region 8 with (fail)
  rw [← HW3.out]
  go_wp2_with fail
  refine (of_s 10 _ (by decide) (by decide)).mono ?_
  rintro e wo ⟨bo, oo, mo, co, rfl, Ho, hbt⟩
  go_wp2_with fail
  refine (HX7.out _ _ Ho.out).mono ?_
  rintro e wq4 ⟨b4, o4, m4, c4, rfl, H4, hbq⟩
  have hXq := bl_tr hbt hbq
  obtain ⟨W4, hW4⟩ : ∃ W, W = wq4.alloc (.cells #[.bool b4, .slice o4 m4 c4] 24) := ⟨_, rfl⟩
  have hal4 : Below wq4.heap.size wq4 W4 := by rw [hW4]; exact bl_new _
  have hXn4 : Below W3.heap.size W3 W4 := bl_tr hXq hal4
  have HS4 : Hid (∀ w', Below W4.heap.size W4 w' → ((((w'.cell? ⟨w.heap.size, 0, none⟩ = some (.bool a1) ∧ w'.cell? ⟨w.heap.size, 1, none⟩ = some (.slice p1 l1 q1) ∧ w'.cell? ⟨w.heap.size + 1, 0, none⟩ = some (.bool a2) ∧ w'.cell? ⟨w.heap.size + 1, 1, none⟩ = some (.slice p2 l2 q2) ∧ w'.cell? ⟨w.heap.size + 1, 2, none⟩ = some (.bool aa2) ∧ w'.cell? ⟨w.heap.size + 1, 3, none⟩ = some (.slice pp2 ll2 qq2)) ∧ w'.cell? ⟨wq1.heap.size, 0, none⟩ = some (.bool b1) ∧ w'.cell? ⟨wq1.heap.size, 1, none⟩ = some (.slice o1 m1 c1)) ∧ w'.cell? ⟨wq2.heap.size, 0, none⟩ = some (.bool b2) ∧ w'.cell? ⟨wq2.heap.size, 1, none⟩ = some (.slice o2 m2 c2) ∧ w'.cell? ⟨wq2.heap.size, 2, none⟩ = some (.bool bb2) ∧ w'.cell? ⟨wq2.heap.size, 3, none⟩ = some (.slice oo2 mm2 cc2)) ∧ w'.cell? ⟨wq3.heap.size, 0, none⟩ = some (.bool b3) ∧ w'.cell? ⟨wq3.heap.size, 1, none⟩ = some (.slice o3 m3 c3) ∧ w'.cell? ⟨wq3.heap.size, 2, none⟩ = some (.bool bb3) ∧ w'.cell? ⟨wq3.heap.size, 3, none⟩ = some (.slice oo3 mm3 cc3)) ∧ w'.cell? ⟨wq4.heap.size, 0, none⟩ = some (.bool b4) ∧ w'.cell? ⟨wq4.heap.size, 1, none⟩ = some (.slice o4 m4 c4)) := hid (fun w' hb => by
    refine ⟨HS3.out _ (bl_tr hXn4 hb), ?_, ?_⟩ <;> (rw [hb.cell (by rw [hW4]; simp), hW4]; simp [go_sem]))
  replace VN := hid (fun w' hb => VN.out w' (bl_tr hXn4 hb))
  replace VR := hid (fun w' hb => VR.out w' (bl_tr hXn4 hb))
  replace HT := hid (fun w' hb => HT.out w' (bl_tr hXn4 hb))
  replace HM := hid (fun w' hb => HM.out w' (bl_tr hXn4 hb))
  replace VB := hid (fun w' hb => VB.out w' (bl_tr hXn4 hb))
  replace VT := hid (fun w' hb => VT.out w' (bl_tr hXn4 hb))
  replace VU := hid (fun w' hb => VU.out w' (bl_tr hXn4 hb))
  have VP : Hid (∀ w', Below W4.heap.size W4 w' → Ai w' (.agg #[.bool b4, .slice o4 m4 c4]) P 12) := hid (fun w' hb => H4.out.below (bl_tr hal4 hb) (Nat.le_refl _))
  have HB4 := hid (HB3.out.trans (hXn4.mono HB3.out.size)); have HW4 := hid hW4
  clear hW4 hal4 hXn4 HS3 HB3 HW3
  clear hXq hbq hbt H4 Ho HX7
  go_upto_region 9 with (fail)
  rw [← HW4.out]
  have hX0 := Below.refl W4.heap.size W4
  have HKG : Hid (AllKeep [(false, (fun wq vq => vq = .agg #[.bool b3, .slice o3 m3 c3, .bool bb3, .slice oo3 mm3 cc3]), undef), (false, (fun wq vq => vq = .agg #[.bool a2, .slice p2 l2 q2, .bool aa2, .slice pp2 ll2 qq2]), undef), (false, (fun wq vq => Rv wq vq (a * d - n * P) (P * d) 66), undef), (false, (fun wq vq => vq = .agg #[.bool b4, .slice o4 m4 c4]), undef), (false, (fun wq vq => Ai wq vq (2) (2)), undef), (false, (fun wq vq => Ai wq vq (P * 2) (16)), undef), (false, (fun wq vq => Rv wq vq (P * 2) 1 18), undef), (false, (fun wq vq => Rv wq vq ((a * d - n * P) * (P * 2)) (P * d * 1) 138), undef)]) := hid ⟨kcV _, kcV _, rvV _ _ _, kcV _, aiV _ _, aiV _ _, rvV _ _ _, rvV _ _ _, trivial⟩
  refine region_inv (by kernel_rfl) (fun L act w' => ∃ f0 f1 f2 f3 f4 f5 f6 f7 f8 f9, L = #[f0, f1, f2, f3, f4, f5, f6, f7, f8, f9] ∧ (f9 = true → f8 = true ∧ f7 = true) ∧ ∃ s80 s81 s82 s83 s84 s85 s86 s87 s20, act = { tmps := #[.agg #[.bool a1, .slice p1 l1 q1], .agg #[.bool a2, .slice p2 l2 q2, .bool aa2, .slice pp2 ll2 qq2], .int .u8 (k : Int), .string ⟨s.toArray⟩, .pointer (some ⟨w.heap.size, 0, none⟩), .pointer (some ⟨w.heap.size + 1, 0, none⟩), undef, undef, .bool false, .bool true, .pointer (some ⟨wq1.heap.size, 0, none⟩), .int .i64 0, .pointer (some ⟨wq2.heap.size, 0, none⟩), .int .i64 0, .string dt, .int .i64 0, .pointer (some ⟨wq3.heap.size, 0, none⟩), .int .i64 0, .pointer (some ⟨wq4.heap.size, 0, none⟩), .int .i64 0, s20, undef, undef, undef, undef, undef, undef, .bool true, .pointer (some ⟨w.heap.size, 1, none⟩), .slice p1 l1 q1, .int .i64 (l1 : Int), .bool (decide (16 < (l1 : Int))), .bool (decide (16 < (l1 : Int))), .agg #[.bool a2, .slice p2 l2 q2, .bool aa2, .slice pp2 ll2 qq2], .int .i64 t1, .bool (decide (16 < t1)), .bool (decide (16 < (l1 : Int)) || decide (16 < t1)), .bool (decide (16 < (l1 : Int)) || decide (16 < t1)), .string ⟨s.toArray⟩, .int .i64 (s.length : Int), .bool (decide (500 < (s.length : Int))), .bool (decide (16 < (l1 : Int)) || decide (16 < t1) || decide (500 < (s.length : Int))), .bool (decide (16 < (l1 : Int)) || decide (16 < t1) || decide (500 < (s.length : Int))), .bool true, .bool false, .bool (decide (16 < (l1 : Int)) || decide (16 < t1) || decide (500 < (s.length : Int))), undef, .tuple #[.agg #[.bool b1, .slice o1 m1 c1], .int .i64 0], .agg #[.bool a1, .slice p1 l1 q1], .string tt, .tuple #[.agg #[.bool b1, .slice o1 m1 c1], .int .i64 0], .agg #[.bool b1, .slice o1 m1 c1], .int .i64 0, .tuple #[.agg #[.bool b2, .slice o2 m2 c2, .bool bb2, .slice oo2 mm2 cc2], .int .i64 0], .agg #[.bool a2, .slice p2 l2 q2, .bool aa2, .slice pp2 ll2 qq2], .string sh, .tuple #[.agg #[.bool b2, .slice o2 m2 c2, .bool bb2, .slice oo2 mm2 cc2], .int .i64 0], .agg #[.bool b2, .slice o2 m2 c2, .bool bb2, .slice oo2 mm2 cc2], .int .i64 0, .tuple #[.string dt, .int .i64 0], .agg #[.bool a2, .slice p2 l2 q2, .bool aa2, .slice pp2 ll2 qq2], .int .u8 (k : Int), .int .i64 (k : Int), .int .i64 (p : Int), .tuple #[.string dt, .int .i64 0], .string dt, .int .i64 0, .tuple #[.agg #[.bool b3, .slice o3 m3 c3, .bool bb3, .slice oo3 mm3 cc3], .int .i64 0], .string dt, .tuple #[.agg #[.bool b3, .slice o3 m3 c3, .bool bb3, .slice oo3 mm3 cc3], .int .i64 0], .agg #[.bool b3, .slice o3 m3 c3, .bool bb3, .slice oo3 mm3 cc3], .int .i64 0, .tuple #[.agg #[.bool b4, .slice o4 m4 c4], .int .i64 0], .agg #[.bool bo, .slice oo mo co], .int .u8 (k : Int), .int .i64 (k : Int), .int .i64 (p : Int), .tuple #[.agg #[.bool b4, .slice o4 m4 c4], .int .i64 0], .agg #[.bool b4, .slice o4 m4 c4], .int .i64 0, s80, s81, s82, s83, s84, s85, s86, s87, undef, undef, undef, undef, undef, undef, undef, undef, undef, undef, undef, undef, undef, undef, undef, undef, undef, undef, undef, undef, undef, undef, undef, undef, undef, undef, undef, undef, undef, undef, undef, undef, undef, undef, undef, undef, undef, undef, undef, undef, undef, undef, undef, undef, undef, undef, undef, undef, undef, undef, undef, undef, undef, undef, undef, undef, undef, undef, undef, undef, undef, undef, undef, undef, undef, undef, undef, undef, undef, undef, undef, undef, undef, undef, undef, undef, undef, undef, undef], defers := [] } ∧ RX W4.heap.size W4 [(f0, (fun wq vq => vq = .agg #[.bool b3, .slice o3 m3 c3, .bool bb3, .slice oo3 mm3 cc3]), s80), (f1, (fun wq vq => vq = .agg #[.bool a2, .slice p2 l2 q2, .bool aa2, .slice pp2 ll2 qq2]), s81), (f2, (fun wq vq => Rv wq vq (a * d - n * P) (P * d) 66), s82), (f3, (fun wq vq => vq = .agg #[.bool b4, .slice o4 m4 c4]), s83), (f4, (fun wq vq => Ai wq vq (2) (2)), s84), (f5, (fun wq vq => Ai wq vq (P * 2) (16)), s85), (f6, (fun wq vq => Rv wq vq (P * 2) 1 18), s86), (f7, (fun wq vq => Rv wq vq ((a * d - n * P) * (P * 2)) (P * d * 1) 138), s87)] [(4, f8, f9, s20, s87)] w') ?_ ?_ ?_
  · exact ⟨_, _, _, _, _, _, _, _, _, _, rfl, nofun, _, _, _, _, _, _, _, _, _, rfl, hX0.drew, hX0.size, ⟨nofun, nofun, nofun, nofun, nofun, nofun, nofun, nofun, trivial⟩, ⟨nofun, trivial⟩, ⟨trivial, trivial⟩⟩
  · rintro L act w' i hs ⟨f0, f1, f2, f3, f4, f5, f6, f7, f8, f9, rfl, d0, s80, s81, s82, s83, s84, s85, s86, s87, s20, rfl, J⟩ hi
    obtain ⟨hi, hn, hd⟩ := waits_spec (dep := [[], [], [0, 1], [], [2], [3, 4], [5], [2, 6], [], [8, 7]]) (by kernel_rfl) hi
    have hiN : i < 10 := hi
    obtain ⟨⟨⟨⟨⟨k0, k1, k2, k3, k4, k5⟩, k6, k7⟩, k8, k9, k10, k11⟩, k12, k13, k14, k15⟩, k16, k17⟩ := HS4.out w' J.bel
    have HJ := hid J
    rcases (show i = 0 ∨ i = 1 ∨ i = 2 ∨ i = 3 ∨ i = 4 ∨ i = 5 ∨ i = 6 ∨ i = 7 ∨ i = 8 ∨ i = 9 by omega) with rfl | rfl | rfl | rfl | rfl | rfl | rfl | rfl | rfl | rfl
    · clear J hd hi hiN hn
      refine wpOp_step rfl (fun kq hKq => ?_)
      go_simp
      exact hKq _ _ ⟨true, f1, f2, f3, f4, f5, f6, f7, f8, f9, rfl, d0, _, _, _, _, _, _, _, _, _, rfl, HJ.out.bel, HJ.out.siz, ⟨fun _ => rfl, HJ.out.vals.2.1, HJ.out.vals.2.2.1, HJ.out.vals.2.2.2.1, HJ.out.vals.2.2.2.2.1, HJ.out.vals.2.2.2.2.2.1, HJ.out.vals.2.2.2.2.2.2.1, HJ.out.vals.2.2.2.2.2.2.2.1, trivial⟩, ⟨HJ.out.boxes.1, trivial⟩, HJ.out.ne⟩
    · clear J hd hi hiN hn
      refine wpOp_step rfl (fun kq hKq => ?_)
      go_simp
      exact hKq _ _ ⟨f0, true, f2, f3, f4, f5, f6, f7, f8, f9, rfl, d0, _, _, _, _, _, _, _, _, _, rfl, HJ.out.bel, HJ.out.siz, ⟨HJ.out.vals.1, fun _ => rfl, HJ.out.vals.2.2.1, HJ.out.vals.2.2.2.1, HJ.out.vals.2.2.2.2.1, HJ.out.vals.2.2.2.2.2.1, HJ.out.vals.2.2.2.2.2.2.1, HJ.out.vals.2.2.2.2.2.2.2.1, trivial⟩, ⟨HJ.out.boxes.1, trivial⟩, HJ.out.ne⟩
    · obtain rfl : f2 = false := hn
      have e80 : s80 = .agg #[.bool b3, .slice o3 m3 c3, .bool bb3, .slice oo3 mm3 cc3] := J.vals.1 (hd 0 (by simp))
      subst e80
      have e81 : s81 = .agg #[.bool a2, .slice p2 l2 q2, .bool aa2, .slice pp2 ll2 qq2] := J.vals.2.1 (hd 1 (by simp))
      subst e81
      have hw := J.bel
      clear J hd hi hiN
      refine wpOp_step rfl (fun kq hKq => ?_)
      go_simp
      refine (Minus_rv _ _ _ _ _ _ 29 66 _ (VU.out _ hw) ((VR.out _ hw).mono (by omega)) (by omega) (by omega)).mono ?_
      rintro e wz ⟨yb, yo, ym, yc, xb, xo, xm, xc, rfl, HZq, hb⟩
      have J2 := RX.step HJ.out HKG.out hb
      exact hKq _ _ ⟨f0, f1, true, f3, f4, f5, f6, f7, f8, f9, rfl, d0, _, _, _, _, _, _, _, _, _, rfl, J2.bel, J2.siz, ⟨J2.vals.1, J2.vals.2.1, fun _ => HZq.out, J2.vals.2.2.2.1, J2.vals.2.2.2.2.1, J2.vals.2.2.2.2.2.1, J2.vals.2.2.2.2.2.2.1, J2.vals.2.2.2.2.2.2.2.1, trivial⟩, ⟨J2.boxes.1, trivial⟩, J2.ne⟩
    · clear J hd hi hiN hn
      refine wpOp_step rfl (fun kq hKq => ?_)
      go_simp
      exact hKq _ _ ⟨f0, f1, f2, true, f4, f5, f6, f7, f8, f9, rfl, d0, _, _, _, _, _, _, _, _, _, rfl, HJ.out.bel, HJ.out.siz, ⟨HJ.out.vals.1, HJ.out.vals.2.1, HJ.out.vals.2.2.1, fun _ => rfl, HJ.out.vals.2.2.2.2.1, HJ.out.vals.2.2.2.2.2.1, HJ.out.vals.2.2.2.2.2.2.1, HJ.out.vals.2.2.2.2.2.2.2.1, trivial⟩, ⟨HJ.out.boxes.1, trivial⟩, HJ.out.ne⟩
    · obtain rfl : f4 = false := hn
      have hw := J.bel
      clear J hd hi hiN
      refine wpOp_step rfl (fun kq hKq => ?_)
      go_simp
      refine (of_s 2 _ (by decide) (by decide)).mono ?_
      rintro e wz ⟨zb, zo, zm, zc, rfl, HZq, hb⟩
      have J2 := RX.step HJ.out HKG.out hb
      exact hKq _ _ ⟨f0, f1, f2, f3, true, f5, f6, f7, f8, f9, rfl, d0, _, _, _, _, _, _, _, _, _, rfl, J2.bel, J2.siz, ⟨J2.vals.1, J2.vals.2.1, J2.vals.2.2.1, J2.vals.2.2.2.1, fun _ => HZq.out, J2.vals.2.2.2.2.2.1, J2.vals.2.2.2.2.2.2.1, J2.vals.2.2.2.2.2.2.2.1, trivial⟩, ⟨J2.boxes.1, trivial⟩, J2.ne⟩
    · obtain rfl : f5 = false := hn
      have e83 : s83 = .agg #[.bool b4, .slice o4 m4 c4] := J.vals.2.2.2.1 (hd 3 (by simp))
      subst e83
      have h84 : (fun wq vq => Ai wq vq (2) (2)) w' s84 := J.vals.2.2.2.2.1 (hd 4 (by simp))
      have hw := J.bel
      clear J hd hi hiN
      refine wpOp_step rfl (fun kq hKq => ?_)
      go_simp
      refine (mul_z _ _ P 2 _ 12 2 16 _ (VP.out _ hw) h84 rfl (by omega) (by omega) (by omega)).mono ?_
      rintro e wz ⟨zb, zo, zm, zc, rfl, HZq, hb⟩
      have J2 := RX.step HJ.out HKG.out hb
      exact hKq _ _ ⟨f0, f1, f2, f3, f4, true, f6, f7, f8, f9, rfl, d0, _, _, _, _, _, _, _, _, _, rfl, J2.bel, J2.siz, ⟨J2.vals.1, J2.vals.2.1, J2.vals.2.2.1, J2.vals.2.2.2.1, J2.vals.2.2.2.2.1, fun _ => HZq.out, J2.vals.2.2.2.2.2.2.1, J2.vals.2.2.2.2.2.2.2.1, trivial⟩, ⟨J2.boxes.1, trivial⟩, J2.ne⟩
    · obtain rfl : f6 = false := hn
      have h85 : (fun wq vq => Ai wq vq (P * 2) (16)) w' s85 := J.vals.2.2.2.2.2.1 (hd 5 (by simp))
      have hw := J.bel
      clear J hd hi hiN
      refine wpOp_step rfl (fun kq hKq => ?_)
      go_simp
      refine (WholeB _ (P * 2) 16 18 _ h85 (by omega) (by omega)).mono ?_
      rintro e wz ⟨yb, yo, ym, yc, xb, xo, xm, xc, rfl, HZq, hb⟩
      have J2 := RX.step HJ.out HKG.out hb
      exact hKq _ _ ⟨f0, f1, f2, f3, f4, f5, true, f7, f8, f9, rfl, d0, _, _, _, _, _, _, _, _, _, rfl, J2.bel, J2.siz, ⟨J2.vals.1, J2.vals.2.1, J2.vals.2.2.1, J2.vals.2.2.2.1, J2.vals.2.2.2.2.1, J2.vals.2.2.2.2.2.1, fun _ => HZq.out, J2.vals.2.2.2.2.2.2.2.1, trivial⟩, ⟨J2.boxes.1, trivial⟩, J2.ne⟩
    · obtain rfl : f7 = false := hn
      obtain rfl : f9 = false := by cases f9 with | false => rfl | true => exact absurd (d0 rfl).2 (by simp)
      have h82 : (fun wq vq => Rv wq vq (a * d - n * P) (P * d) 66) w' s82 := J.vals.2.2.1 (hd 2 (by simp))
      have h86 : (fun wq vq => Rv wq vq (P * 2) 1 18) w' s86 := J.vals.2.2.2.2.2.2.1 (hd 6 (by simp))
      have hw := J.bel
      clear J hd hi hiN d0
      refine wpOp_step rfl (fun kq hKq => ?_)
      go_simp
      refine (Times_rv _ _ _ _ _ _ 66 138 _ h82 (Rv.mono h86 (by omega)) (by omega) (by omega)).mono ?_
      rintro e wz ⟨yb, yo, ym, yc, xb, xo, xm, xc, rfl, HZq, hb⟩
      have J2 := RX.step HJ.out HKG.out hb
      exact hKq _ _ ⟨f0, f1, f2, f3, f4, f5, f6, true, f8, false, rfl, nofun, _, _, _, _, _, _, _, _, _, rfl, J2.bel, J2.siz, ⟨J2.vals.1, J2.vals.2.1, J2.vals.2.2.1, J2.vals.2.2.2.1, J2.vals.2.2.2.2.1, J2.vals.2.2.2.2.2.1, J2.vals.2.2.2.2.2.2.1, fun _ => HZq.out, trivial⟩, ⟨fun e => (J2.boxes.1 e).fresh, trivial⟩, J2.ne⟩
    · obtain rfl : f8 = false := hn
      obtain rfl : f9 = false := by cases f9 with | false => rfl | true => exact absurd (d0 rfl).1 (by simp)
      clear J hd hi hiN d0
      refine wpOp_step rfl (fun kq hKq => ?_)
      go_simp
      have J2 := RX.step HJ.out HKG.out (bl_new (w := w') (.cells #[.bool false, .slice none 0 0, .bool false, .slice none 0 0] 26))
      exact hKq _ _ ⟨f0, f1, f2, f3, f4, f5, f6, f7, true, false, rfl, nofun, _, _, _, _, _, _, _, _, _, rfl, J2.bel, J2.siz, J2.vals, ⟨fun _ => boxn_new _ w' _ _ [.bool false, .slice none 0 0, .bool false, .slice none 0 0] (by intro i k x hi; match i, hi with | 0, _ => nofun | 1, _ => nofun | 2, _ => nofun | 3, _ => nofun) HJ.out.siz, trivial⟩, ⟨trivial, trivial⟩⟩
    · obtain rfl : f8 = true := hd 8 (by simp)
      obtain rfl : f7 = true := hd 7 (by simp)
      obtain ⟨sb, so, sm, sc, tb, tp, tm, tc, rfl, _⟩ := Rv.opened (J.vals.2.2.2.2.2.2.2.1 rfl)
      have HBX : Hid _ := hid (J.boxes.1 rfl)
      obtain ⟨p, vs, rfl, hp, hl, hnn, hc, hf, _⟩ := J.boxes.1 rfl
      have cc0 := hc 0 (by decide)
      have ff0 := hf 0 (by decide)
      have cc1 := hc 1 (by decide)
      have ff1 := hf 1 (by decide)
      have cc2 := hc 2 (by decide)
      have ff2 := hf 2 (by decide)
      have cc3 := hc 3 (by decide)
      have ff3 := hf 3 (by decide)
      clear J hd hi hiN hn hc hf hnn hl
      refine wpOp_step rfl (fun kq hKq => ?_)
      go_simp
      exact hKq _ _ ⟨f0, f1, f2, f3, f4, f5, f6, true, true, true, rfl, fun _ => ⟨rfl, rfl⟩, _, _, _, _, _, _, _, _, _, rfl, below_setCells hp [.bool sb, .slice so sm sc, .bool tb, .slice tp tm tc] 0 HJ.out.bel, Nat.le_trans HJ.out.siz (Nat.le_of_eq (size_setCells p [.bool sb, .slice so sm sc, .bool tb, .slice tp tm tc] 0 w').symm), Vals.keep HKG.out (BoxN.keeps HBX.out (us := [.bool sb, .slice so sm sc, .bool tb, .slice tp tm tc]) rfl) HJ.out.vals, ⟨fun _ => BoxN.store HBX.out [.bool sb, .slice so sm sc, .bool tb, .slice tp tm tc] rfl (by intro i k x hi; match i, hi with | 0, _ => nofun | 1, _ => nofun | 2, _ => nofun | 3, _ => nofun), trivial⟩, HJ.out.ne⟩
  rintro L act w' hs ⟨f0, f1, f2, f3, f4, f5, f6, f7, f8, f9, rfl, _, s80, s81, s82, s83, s84, s85, s86, s87, s20, rfl, J⟩ hr
  have hd := early_done (by kernel_rfl) hs hr 10
  obtain rfl : f0 = true := hd 0 (by omega) (by simp)
  obtain rfl : f1 = true := hd 1 (by omega) (by simp)
  obtain rfl : f2 = true := hd 2 (by omega) (by simp)
  obtain rfl : f3 = true := hd 3 (by omega) (by simp)
  obtain rfl : f4 = true := hd 4 (by omega) (by simp)
  obtain rfl : f5 = true := hd 5 (by omega) (by simp)
  obtain rfl : f6 = true := hd 6 (by omega) (by simp)
  obtain rfl : f7 = true := hd 7 (by omega) (by simp)
  obtain rfl : f8 = true := hd 8 (by omega) (by simp)
  obtain rfl : f9 = true := hd 9 (by omega) (by simp)
  have e80 : s80 = .agg #[.bool b3, .slice o3 m3 c3, .bool bb3, .slice oo3 mm3 cc3] := J.vals.1 rfl
  subst e80
  have e81 : s81 = .agg #[.bool a2, .slice p2 l2 q2, .bool aa2, .slice pp2 ll2 qq2] := J.vals.2.1 rfl
  subst e81
  have e83 : s83 = .agg #[.bool b4, .slice o4 m4 c4] := J.vals.2.2.2.1 rfl
  subst e83
  have hg20 : (fun wq vq => Rv wq vq ((a * d - n * P) * (P * 2)) (P * d * 1) 138) w' s87 := J.vals.2.2.2.2.2.2.2.1 rfl
  obtain ⟨sb, so, sm, sc, tb, tp, tm, tc, rfl, _⟩ := Rv.opened hg20
  obtain ⟨p20, rfl, hp20, hl20, hc20⟩ := BoxN.done (us := [.bool sb, .slice so sm sc, .bool tb, .slice tp tm tc]) (J.boxes.1 rfl)
  have k20_0 : w'.cell? ⟨p20, 0, none⟩ = some (.bool sb) := (hc20 0 (by decide)).1
  have k20_1 : w'.cell? ⟨p20, 1, none⟩ = some (.slice so sm sc) := (hc20 1 (by decide)).1
  have k20_2 : w'.cell? ⟨p20, 2, none⟩ = some (.bool tb) := (hc20 2 (by decide)).1
  have k20_3 : w'.cell? ⟨p20, 3, none⟩ = some (.slice tp tm tc) := (hc20 3 (by decide)).1
  clear hc20
  have hbel := J.bel
  have hsiz := J.siz
  have hv82 : (fun wq vq => Rv wq vq (a * d - n * P) (P * d) 66) w' s82 := J.vals.2.2.1 rfl
  have hv84 : (fun wq vq => Ai wq vq (2) (2)) w' s84 := J.vals.2.2.2.2.1 rfl
  have hv85 : (fun wq vq => Ai wq vq (P * 2) (16)) w' s85 := J.vals.2.2.2.2.2.1 rfl
  have hv86 : (fun wq vq => Rv wq vq (P * 2) 1 18) w' s86 := J.vals.2.2.2.2.2.2.1 rfl
  clear hd hr hs J
  obtain ⟨W5, rfl⟩ : ∃ W5, W5 = w' := ⟨_, rfl⟩
  have HS5 : Hid (∀ w', Below W5.heap.size W5 w' → (((((w'.cell? ⟨w.heap.size, 0, none⟩ = some (.bool a1) ∧ w'.cell? ⟨w.heap.size, 1, none⟩ = some (.slice p1 l1 q1) ∧ w'.cell? ⟨w.heap.size + 1, 0, none⟩ = some (.bool a2) ∧ w'.cell? ⟨w.heap.size + 1, 1, none⟩ = some (.slice p2 l2 q2) ∧ w'.cell? ⟨w.heap.size + 1, 2, none⟩ = some (.bool aa2) ∧ w'.cell? ⟨w.heap.size + 1, 3, none⟩ = some (.slice pp2 ll2 qq2)) ∧ w'.cell? ⟨wq1.heap.size, 0, none⟩ = some (.bool b1) ∧ w'.cell? ⟨wq1.heap.size, 1, none⟩ = some (.slice o1 m1 c1)) ∧ w'.cell? ⟨wq2.heap.size, 0, none⟩ = some (.bool b2) ∧ w'.cell? ⟨wq2.heap.size, 1, none⟩ = some (.slice o2 m2 c2) ∧ w'.cell? ⟨wq2.heap.size, 2, none⟩ = some (.bool bb2) ∧ w'.cell? ⟨wq2.heap.size, 3, none⟩ = some (.slice oo2 mm2 cc2)) ∧ w'.cell? ⟨wq3.heap.size, 0, none⟩ = some (.bool b3) ∧ w'.cell? ⟨wq3.heap.size, 1, none⟩ = some (.slice o3 m3 c3) ∧ w'.cell? ⟨wq3.heap.size, 2, none⟩ = some (.bool bb3) ∧ w'.cell? ⟨wq3.heap.size, 3, none⟩ = some (.slice oo3 mm3 cc3)) ∧ w'.cell? ⟨wq4.heap.size, 0, none⟩ = some (.bool b4) ∧ w'.cell? ⟨wq4.heap.size, 1, none⟩ = some (.slice o4 m4 c4)) ∧ w'.cell? ⟨p20, 0, none⟩ = some (.bool sb) ∧ w'.cell? ⟨p20, 1, none⟩ = some (.slice so sm sc) ∧ w'.cell? ⟨p20, 2, none⟩ = some (.bool tb) ∧ w'.cell? ⟨p20, 3, none⟩ = some (.slice tp tm tc)) := hid (fun w' hb => ⟨HS4.out _ (bl_tr hbel hb), (hb.cell (p := ⟨p20, 0, none⟩) hl20).trans k20_0, (hb.cell (p := ⟨p20, 1, none⟩) hl20).trans k20_1, (hb.cell (p := ⟨p20, 2, none⟩) hl20).trans k20_2, (hb.cell (p := ⟨p20, 3, none⟩) hl20).trans k20_3⟩)
  replace VN := hid (fun w' hb => VN.out w' (bl_tr hbel hb))
  replace VR := hid (fun w' hb => VR.out w' (bl_tr hbel hb))
  replace HT := hid (fun w' hb => HT.out w' (bl_tr hbel hb))
  replace HM := hid (fun w' hb => HM.out w' (bl_tr hbel hb))
  replace VB := hid (fun w' hb => VB.out w' (bl_tr hbel hb))
  replace VT := hid (fun w' hb => VT.out w' (bl_tr hbel hb))
  replace VU := hid (fun w' hb => VU.out w' (bl_tr hbel hb))
  replace VP := hid (fun w' hb => VP.out w' (bl_tr hbel hb))
  have VO : Hid (∀ w', Below W5.heap.size W5 w' → Rv w' (.agg #[.bool sb, .slice so sm sc, .bool tb, .slice tp tm tc]) ((a * d - n * P) * (P * 2)) (P * d * 1) 138) := hid (fun w' hb => Rv.below hg20 hb (Nat.le_refl _))
  have HB5 := hid (HB4.out.trans (hbel.mono HB4.out.size)); have HW5 := hid trivial
  clear HS4 HB4 hX0 hbel hsiz hp20 hl20 k20_0 k20_1 k20_2 k20_3 hg20 HKG
  have hX0 := Below.refl W5.heap.size W5
  go_upto_region 10 with (fail)
  have tk1 := hid trivial
  have tk2 := hid trivial
  have tk3 := hid trivial
  have tk4 := hid trivial
  go_region_held3 (fun w' => (((((w'.cell? ⟨w.heap.size, 0, none⟩ = some (.bool a1) ∧ w'.cell? ⟨w.heap.size, 1, none⟩ = some (.slice p1 l1 q1) ∧ w'.cell? ⟨w.heap.size + 1, 0, none⟩ = some (.bool a2) ∧ w'.cell? ⟨w.heap.size + 1, 1, none⟩ = some (.slice p2 l2 q2) ∧ w'.cell? ⟨w.heap.size + 1, 2, none⟩ = some (.bool aa2) ∧ w'.cell? ⟨w.heap.size + 1, 3, none⟩ = some (.slice pp2 ll2 qq2)) ∧ w'.cell? ⟨wq1.heap.size, 0, none⟩ = some (.bool b1) ∧ w'.cell? ⟨wq1.heap.size, 1, none⟩ = some (.slice o1 m1 c1)) ∧ w'.cell? ⟨wq2.heap.size, 0, none⟩ = some (.bool b2) ∧ w'.cell? ⟨wq2.heap.size, 1, none⟩ = some (.slice o2 m2 c2) ∧ w'.cell? ⟨wq2.heap.size, 2, none⟩ = some (.bool bb2) ∧ w'.cell? ⟨wq2.heap.size, 3, none⟩ = some (.slice oo2 mm2 cc2)) ∧ w'.cell? ⟨wq3.heap.size, 0, none⟩ = some (.bool b3) ∧ w'.cell? ⟨wq3.heap.size, 1, none⟩ = some (.slice o3 m3 c3) ∧ w'.cell? ⟨wq3.heap.size, 2, none⟩ = some (.bool bb3) ∧ w'.cell? ⟨wq3.heap.size, 3, none⟩ = some (.slice oo3 mm3 cc3)) ∧ w'.cell? ⟨wq4.heap.size, 0, none⟩ = some (.bool b4) ∧ w'.cell? ⟨wq4.heap.size, 1, none⟩ = some (.slice o4 m4 c4)) ∧ w'.cell? ⟨p20, 0, none⟩ = some (.bool sb) ∧ w'.cell? ⟨p20, 1, none⟩ = some (.slice so sm sc) ∧ w'.cell? ⟨p20, 2, none⟩ = some (.bool tb) ∧ w'.cell? ⟨p20, 3, none⟩ = some (.slice tp tm tc)) ((refine HS5.out _ ?_; first | assumption | exact Below.drew (by assumption))) (first
    | (clear tk1; go_at_call 27; refine (lover_rv 1 _ (by decide) (by decide)).mono ?_; rintro e v1 ⟨b5, o5, m5, c5, bb5, oo5, mm5, cc5, rfl, H5, hbq⟩; have hY1 : Below W5.heap.size W5 v1 := (hX0.drew).trans (hbq.mono (hX0.drew).size))
    | (clear tk2; go_at_call 38; refine (Compare_rv _ _ _ _ _ _ z1 138 _ (VO.out _ hY1) (H5.out.mono (by omega)) M1.out (by omega)).mono ?_; rintro e v2 ⟨rfl, hbq⟩; have hY2 : Below W5.heap.size W5 v2 := (hY1).trans (hbq.mono (hY1).size))
    | (clear tk3; go_at_call 27; refine (lover_rv (-1) _ (by decide) (by decide)).mono ?_; rintro e v3 ⟨b6, o6, m6, c6, bb6, oo6, mm6, cc6, rfl, H6, hbq⟩; have hY3 : Below W5.heap.size W5 v3 := (hY2).trans (hbq.mono (hY2).size))
    | (clear tk4; go_at_call 38; refine (Compare_rv _ _ _ _ _ _ (-1) 138 _ (H6.out.mono (by omega)) (VO.out _ hY3) M2.out (by omega)).mono ?_; rintro e v4 ⟨rfl, hbq⟩; have hY4 : Below W5.heap.size W5 v4 := (hY3).trans (hbq.mono (hY3).size)))
  clear hX0 hY1 hY2 hY3
  go_upto_region 11 with (fail)
  obtain ⟨⟨⟨⟨⟨⟨k0, k1, k2, k3, k4, k5⟩, k6, k7⟩, k8, k9, k10, k11⟩, k12, k13, k14, k15⟩, k16, k17⟩, k18, k19, k20, k21⟩ := HS5.out _ hY4
  go_wp2_with fail
  refine (equal_z _ _ z z 18 _ ((VN.out _ hY4).mono (by omega)) (VB.out _ hY4) rfl (by omega)).mono ?_
  rintro e we ⟨rfl, hbe⟩
  have hYe := bl_tr hY4 hbe
  clear k0 k1 k2 k3 k4 k5 k6 k7 k8 k9 k10 k11 k12 k13 k14 k15 k16 k17 k18 k19 k20 k21 hY4 hbe
  obtain ⟨⟨⟨⟨⟨⟨k0, k1, k2, k3, k4, k5⟩, k6, k7⟩, k8, k9, k10, k11⟩, k12, k13, k14, k15⟩, k16, k17⟩, k18, k19, k20, k21⟩ := HS5.out _ hYe
  go_wp2_with fail
  refine (same_rv _ _ N D n d 18 _ (VT.out _ hYe) ((VR.out _ hYe).mono (by omega)) HND.out (by omega)).mono ?_
  rintro e wf ⟨rfl, hbf⟩
  have hYf := bl_tr hYe hbf
  clear k0 k1 k2 k3 k4 k5 k6 k7 k8 k9 k10 k11 k12 k13 k14 k15 k16 k17 k18 k19 k20 k21 hYe hbf
  go_upto_region 12 with (fail)
  by_cases hb : prfB s = false
  · have HR := hid (ParseRatio_bad s HS.out _ (HM.out _ hYf) hb)
    clear hb
    obtain ⟨⟨⟨⟨⟨⟨k0, k1, k2, k3, k4, k5⟩, k6, k7⟩, k8, k9, k10, k11⟩, k12, k13, k14, k15⟩, k16, k17⟩, k18, k19, k20, k21⟩ := HS5.out _ hYf
    go_wp2_with fail
    refine HR.out.mono ?_
    rintro e wr ⟨b8, o8, m8, c8, bb8, oo8, mm8, cc8, rfl, hbr⟩
    have hYr := bl_tr hYf hbr
    clear k0 k1 k2 k3 k4 k5 k6 k7 k8 k9 k10 k11 k12 k13 k14 k15 k16 k17 k18 k19 k20 k21 hbr
    go_wp2
    go_ret
    exact ⟨rfl, HB5.out.trans ((hYr.alloc hYr.size _).mono HB5.out.size)⟩
  · replace hb : prfB s = true := by simpa using hb
    have HR := hid (PR_any s HS.out hb _ (HM.out _ hYf))
    have HQ := hid (fun (w' : World) (h : Mx w') => PS_any s HS.out hb w' h)
    obtain ⟨N2, hN2⟩ : ∃ N2, N2 = prfN s := ⟨_, rfl⟩
    obtain ⟨D2, hD2⟩ : ∃ D2, D2 = prfD s := ⟨_, rfl⟩
    have hp2 : 0 < D2 := by rw [hD2]; exact prf_pos hb
    rw [← hN2, ← hD2] at HR HQ
    have hlv := low_val N2 hp2
    obtain ⟨N3, hN3⟩ : ∃ N3, N3 = lowN N2 D2 := ⟨_, rfl⟩
    obtain ⟨D3, hD3⟩ : ∃ D3, D3 = lowD N2 D2 := ⟨_, rfl⟩
    obtain ⟨sv, hsv⟩ : ∃ sv, sv = shT N3 D3 := ⟨_, rfl⟩
    rw [← hN3, ← hD3, ← hsv] at HQ
    rw [← hN3, ← hD3] at hlv
    have HSh := hid (fun (u : Value) (w' : World) (h : Rv w' u N2 D2 56) (ht : Tab w') => show Calls Tryz.prog 17 #[u] w' (fun e w2 => e = .returned (.string sv) ∧ Below w'.heap.size w' w2) by rw [hsv, hN3, hD3]; exact Show_rv u N2 D2 56 w' h (by omega) ht)
    have HE2 := hid (show N2 * D3 = N3 * D2 from hlv.1.symm)
    clear hb hN2 hD2 hp2 hlv hN3 hD3 hsv
    obtain ⟨⟨⟨⟨⟨⟨k0, k1, k2, k3, k4, k5⟩, k6, k7⟩, k8, k9, k10, k11⟩, k12, k13, k14, k15⟩, k16, k17⟩, k18, k19, k20, k21⟩ := HS5.out _ hYf
    go_wp2_with fail
    refine HR.out.mono ?_
    rintro e wq8 ⟨b8, o8, m8, c8, bb8, oo8, mm8, cc8, rfl, H8, hbq⟩
    have hXq := bl_tr hYf hbq
    clear k0 k1 k2 k3 k4 k5 k6 k7 k8 k9 k10 k11 k12 k13 k14 k15 k16 k17 k18 k19 k20 k21 hYf hbq HR
    obtain ⟨W6, hW6⟩ : ∃ W, W = wq8.alloc (.cells #[.bool b8, .slice o8 m8 c8, .bool bb8, .slice oo8 mm8 cc8] 26) := ⟨_, rfl⟩
    have hal6 : Below wq8.heap.size wq8 W6 := by rw [hW6]; exact bl_new _
    have hXn6 : Below W5.heap.size W5 W6 := bl_tr hXq hal6
    have HS6 : Hid (∀ w', Below W6.heap.size W6 w' → ((((((w'.cell? ⟨w.heap.size, 0, none⟩ = some (.bool a1) ∧ w'.cell? ⟨w.heap.size, 1, none⟩ = some (.slice p1 l1 q1) ∧ w'.cell? ⟨w.heap.size + 1, 0, none⟩ = some (.bool a2) ∧ w'.cell? ⟨w.heap.size + 1, 1, none⟩ = some (.slice p2 l2 q2) ∧ w'.cell? ⟨w.heap.size + 1, 2, none⟩ = some (.bool aa2) ∧ w'.cell? ⟨w.heap.size + 1, 3, none⟩ = some (.slice pp2 ll2 qq2)) ∧ w'.cell? ⟨wq1.heap.size, 0, none⟩ = some (.bool b1) ∧ w'.cell? ⟨wq1.heap.size, 1, none⟩ = some (.slice o1 m1 c1)) ∧ w'.cell? ⟨wq2.heap.size, 0, none⟩ = some (.bool b2) ∧ w'.cell? ⟨wq2.heap.size, 1, none⟩ = some (.slice o2 m2 c2) ∧ w'.cell? ⟨wq2.heap.size, 2, none⟩ = some (.bool bb2) ∧ w'.cell? ⟨wq2.heap.size, 3, none⟩ = some (.slice oo2 mm2 cc2)) ∧ w'.cell? ⟨wq3.heap.size, 0, none⟩ = some (.bool b3) ∧ w'.cell? ⟨wq3.heap.size, 1, none⟩ = some (.slice o3 m3 c3) ∧ w'.cell? ⟨wq3.heap.size, 2, none⟩ = some (.bool bb3) ∧ w'.cell? ⟨wq3.heap.size, 3, none⟩ = some (.slice oo3 mm3 cc3)) ∧ w'.cell? ⟨wq4.heap.size, 0, none⟩ = some (.bool b4) ∧ w'.cell? ⟨wq4.heap.size, 1, none⟩ = some (.slice o4 m4 c4)) ∧ w'.cell? ⟨p20, 0, none⟩ = some (.bool sb) ∧ w'.cell? ⟨p20, 1, none⟩ = some (.slice so sm sc) ∧ w'.cell? ⟨p20, 2, none⟩ = some (.bool tb) ∧ w'.cell? ⟨p20, 3, none⟩ = some (.slice tp tm tc)) ∧ w'.cell? ⟨wq8.heap.size, 0, none⟩ = some (.bool b8) ∧ w'.cell? ⟨wq8.heap.size, 1, none⟩ = some (.slice o8 m8 c8) ∧ w'.cell? ⟨wq8.heap.size, 2, none⟩ = some (.bool bb8) ∧ w'.cell? ⟨wq8.heap.size, 3, none⟩ = some (.slice oo8 mm8 cc8)) := hid (fun w' hb => by
      refine ⟨HS5.out _ (bl_tr hXn6 hb), ?_, ?_, ?_, ?_⟩ <;> (rw [hb.cell (by rw [hW6]; simp), hW6]; simp [go_sem]))
    replace VN := hid (fun w' hb => VN.out w' (bl_tr hXn6 hb))
    replace VR := hid (fun w' hb => VR.out w' (bl_tr hXn6 hb))
    replace HT := hid (fun w' hb => HT.out w' (bl_tr hXn6 hb))
    replace HM := hid (fun w' hb => HM.out w' (bl_tr hXn6 hb))
    replace VB := hid (fun w' hb => VB.out w' (bl_tr hXn6 hb))
    replace VT := hid (fun w' hb => VT.out w' (bl_tr hXn6 hb))
    replace VU := hid (fun w' hb => VU.out w' (bl_tr hXn6 hb))
    replace VP := hid (fun w' hb => VP.out w' (bl_tr hXn6 hb))
    replace VO := hid (fun w' hb => VO.out w' (bl_tr hXn6 hb))
    have VV : Hid (∀ w', Below W6.heap.size W6 w' → Rv w' (.agg #[.bool b8, .slice o8 m8 c8, .bool bb8, .slice oo8 mm8 cc8]) N2 D2 56) := hid (fun w' hb => H8.out.below (bl_tr hal6 hb) (Nat.le_refl _))
    have HB6 := hid (HB5.out.trans (hXn6.mono HB5.out.size)); have HW6 := hid hW6
    clear hW6 hal6 hXn6 HS5 HB5 HW5
    clear hXq H8
    go_upto_region 15 with (fail)
    rw [← HW6.out]
    obtain ⟨⟨⟨⟨⟨⟨⟨k0, k1, k2, k3, k4, k5⟩, k6, k7⟩, k8, k9, k10, k11⟩, k12, k13, k14, k15⟩, k16, k17⟩, k18, k19, k20, k21⟩, k22, k23, k24, k25⟩ := HS6.out _ (Below.refl _ _)
    go_wp2_with fail
    refine (HSh.out _ _ (VV.out _ (Below.refl _ _)) (HT.out _ (Below.refl _ _))).mono ?_
    rintro e wt ⟨rfl, hbt⟩
    go_wp2_with fail
    refine (HQ.out _ (HM.out _ hbt)).mono ?_
    rintro e wq9 ⟨b9, o9, m9, c9, bb9, oo9, mm9, cc9, rfl, H9, hbq⟩
    have hXq := bl_tr hbt hbq
    clear k0 k1 k2 k3 k4 k5 k6 k7 k8 k9 k10 k11 k12 k13 k14 k15 k16 k17 k18 k19 k20 k21 k22 k23 k24 k25 hbt hbq HSh HQ
    obtain ⟨W7, hW7⟩ : ∃ W, W = wq9.alloc (.cells #[.bool b9, .slice o9 m9 c9, .bool bb9, .slice oo9 mm9 cc9] 26) := ⟨_, rfl⟩
    have hal7 : Below wq9.heap.size wq9 W7 := by rw [hW7]; exact bl_new _
    have hXn7 : Below W6.heap.size W6 W7 := bl_tr hXq hal7
    have HS7 : Hid (∀ w', Below W7.heap.size W7 w' → (((((((w'.cell? ⟨w.heap.size, 0, none⟩ = some (.bool a1) ∧ w'.cell? ⟨w.heap.size, 1, none⟩ = some (.slice p1 l1 q1) ∧ w'.cell? ⟨w.heap.size + 1, 0, none⟩ = some (.bool a2) ∧ w'.cell? ⟨w.heap.size + 1, 1, none⟩ = some (.slice p2 l2 q2) ∧ w'.cell? ⟨w.heap.size + 1, 2, none⟩ = some (.bool aa2) ∧ w'.cell? ⟨w.heap.size + 1, 3, none⟩ = some (.slice pp2 ll2 qq2)) ∧ w'.cell? ⟨wq1.heap.size, 0, none⟩ = some (.bool b1) ∧ w'.cell? ⟨wq1.heap.size, 1, none⟩ = some (.slice o1 m1 c1)) ∧ w'.cell? ⟨wq2.heap.size, 0, none⟩ = some (.bool b2) ∧ w'.cell? ⟨wq2.heap.size, 1, none⟩ = some (.slice o2 m2 c2) ∧ w'.cell? ⟨wq2.heap.size, 2, none⟩ = some (.bool bb2) ∧ w'.cell? ⟨wq2.heap.size, 3, none⟩ = some (.slice oo2 mm2 cc2)) ∧ w'.cell? ⟨wq3.heap.size, 0, none⟩ = some (.bool b3) ∧ w'.cell? ⟨wq3.heap.size, 1, none⟩ = some (.slice o3 m3 c3) ∧ w'.cell? ⟨wq3.heap.size, 2, none⟩ = some (.bool bb3) ∧ w'.cell? ⟨wq3.heap.size, 3, none⟩ = some (.slice oo3 mm3 cc3)) ∧ w'.cell? ⟨wq4.heap.size, 0, none⟩ = some (.bool b4) ∧ w'.cell? ⟨wq4.heap.size, 1, none⟩ = some (.slice o4 m4 c4)) ∧ w'.cell? ⟨p20, 0, none⟩ = some (.bool sb) ∧ w'.cell? ⟨p20, 1, none⟩ = some (.slice so sm sc) ∧ w'.cell? ⟨p20, 2, none⟩ = some (.bool tb) ∧ w'.cell? ⟨p20, 3, none⟩ = some (.slice tp tm tc)) ∧ w'.cell? ⟨wq8.heap.size, 0, none⟩ = some (.bool b8) ∧ w'.cell? ⟨wq8.heap.size, 1, none⟩ = some (.slice o8 m8 c8) ∧ w'.cell? ⟨wq8.heap.size, 2, none⟩ = some (.bool bb8) ∧ w'.cell? ⟨wq8.heap.size, 3, none⟩ = some (.slice oo8 mm8 cc8)) ∧ w'.cell? ⟨wq9.heap.size, 0, none⟩ = some (.bool b9) ∧ w'.cell? ⟨wq9.heap.size, 1, none⟩ = some (.slice o9 m9 c9) ∧ w'.cell? ⟨wq9.heap.size, 2, none⟩ = some (.bool bb9) ∧ w'.cell? ⟨wq9.heap.size, 3, none⟩ = some (.slice oo9 mm9 cc9)) := hid (fun w' hb => by
      refine ⟨HS6.out _ (bl_tr hXn7 hb), ?_, ?_, ?_, ?_⟩ <;> (rw [hb.cell (by rw [hW7]; simp), hW7]; simp [go_sem]))
    replace VN := hid (fun w' hb => VN.out w' (bl_tr hXn7 hb))
    replace VR := hid (fun w' hb => VR.out w' (bl_tr hXn7 hb))
    replace HT := hid (fun w' hb => HT.out w' (bl_tr hXn7 hb))
    replace HM := hid (fun w' hb => HM.out w' (bl_tr hXn7 hb))
    replace VB := hid (fun w' hb => VB.out w' (bl_tr hXn7 hb))
    replace VT := hid (fun w' hb => VT.out w' (bl_tr hXn7 hb))
    replace VU := hid (fun w' hb => VU.out w' (bl_tr hXn7 hb))
    replace VP := hid (fun w' hb => VP.out w' (bl_tr hXn7 hb))
    replace VO := hid (fun w' hb => VO.out w' (bl_tr hXn7 hb))
    replace VV := hid (fun w' hb => VV.out w' (bl_tr hXn7 hb))
    have VX : Hid (∀ w', Below W7.heap.size W7 w' → Rv w' (.agg #[.bool b9, .slice o9 m9 c9, .bool bb9, .slice oo9 mm9 cc9]) N3 D3 56) := hid (fun w' hb => H9.out.below (bl_tr hal7 hb) (Nat.le_refl _))
    have HB7 := hid (HB6.out.trans (hXn7.mono HB6.out.size)); have HW7 := hid hW7
    clear hW7 hal7 hXn7 HS6 HB6 HW6
    clear hXq H9
    go_upto_region 16 with (fail)
    rw [← HW7.out]
    obtain ⟨⟨⟨⟨⟨⟨⟨⟨k0, k1, k2, k3, k4, k5⟩, k6, k7⟩, k8, k9, k10, k11⟩, k12, k13, k14, k15⟩, k16, k17⟩, k18, k19, k20, k21⟩, k22, k23, k24, k25⟩, k26, k27, k28, k29⟩ := HS7.out _ (Below.refl _ _)
    go_wp2_with fail
    refine (same_rv _ _ N2 D2 N3 D3 56 _ (VV.out _ (Below.refl _ _)) (VX.out _ (Below.refl _ _)) HE2.out (by omega)).mono ?_
    rintro e wz ⟨rfl, hbz⟩
    clear k0 k1 k2 k3 k4 k5 k6 k7 k8 k9 k10 k11 k12 k13 k14 k15 k16 k17 k18 k19 k20 k21 k22 k23 k24 k25 k26 k27 k28 k29
    go_wp2
    go_ret
    exact ⟨rfl, HB7.out.trans (hbz.mono HB7.out.size)⟩
end Go.Proofs.YtilpkocmdpofpaaGreatDoor
