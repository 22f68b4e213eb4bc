/- exact.Plus, exact.Minus at any two ratios: a ratio of the right value. The contracts of the ratios' operations by values: Plus, Minus, Times, Signum. (exact.integer).text and exact.Text of any number. exact.Show of ratios whose lowest form has numbers closer to 0 than 100; over and shows of the laws. -/
import Derived.Test.YtilpkocmdpofpaaGreatDoorBk28
import Derived.Test.YtilpkocmdpofpaaGreatDoorBk21
import Derived.Test.YtilpkocmdpofpaaGreatDoorBk26
import Derived.Test.YtilpkocmdpofpaaGreatDoorBk24
/- exact.Plus, exact.Minus at any two ratios: a ratio of the right value. -/
namespace Go.Proofs.YtilpkocmdpofpaaGreatDoor
open Go.RowKit

set_option maxRecDepth 100000 in
set_option maxHeartbeats 1000000 in
theorem Minus_val (u v : Value) (x1 y1 x2 y2 : Int) (K : Nat) (w : World) (hu : Ra w u x1 y1 K) (hv : Ra w v x2 y2 K) (hK : K ≤ 70) :
    Calls Tryz.prog 37 #[u, v] w fun e w' => ∃ f z d, e = .returned f ∧ FrR w w' f (lowN z d) (lowD z d) (2 * (2 * ((K + 1) / 2 + 1) + 1)) ∧ 0 < d ∧ z * (rd y1 * rd y2) = (rn x1 y1 * rd y2 - rn x2 y2 * rd y1) * d ∧ Below w.heap.size w w' := by
  have hR1 := fun (w' : World) (hb : Below w.heap.size w w') => readRatio_any u x1 y1 K w' (hu.below hb (Nat.le_refl _)) (by omega)
  have hR2 := fun (w' : World) (hb : Below w.heap.size w w') => readRatio_any v x2 y2 K w' (hv.below hb (Nat.le_refl _)) (by omega)
  obtain ⟨ab, ao, am, ac, bb, bo, bm, bc, rfl, _, _⟩ := Ra.opened hu
  obtain ⟨cb, co, cm, cc, db, d_o, dm, dc, rfl, _, _⟩ := Ra.opened hv
  have hd1 : 0 < rd y1 := rd_pos y1
  have hd2 : 0 < rd y2 := rd_pos y2
  have HR1 := hid hR1; have HR2 := hid hR2
  obtain ⟨z1, hz1⟩ : ∃ z1, z1 = rn x1 y1 := ⟨_, rfl⟩
  obtain ⟨z2, hz2⟩ : ∃ z2, z2 = rn x2 y2 := ⟨_, rfl⟩
  obtain ⟨e1', he1⟩ : ∃ d, d = rd y1 := ⟨_, rfl⟩
  obtain ⟨e2', he2⟩ : ∃ d, d = rd y2 := ⟨_, rfl⟩
  rw [← he1] at hd1
  rw [← he2] at hd2
  rw [← hz1, ← hz2, ← he1, ← he2]
  rw [← hz1, ← he1] at HR1
  rw [← hz2, ← he2] at HR2
  clear hR1 hR2 hu hv hz1 hz2 he1 he2
  obtain ⟨W0, hW0⟩ : ∃ W0, W0 = (((w.alloc (.cells #[.bool ab, .slice ao am ac, .bool bb, .slice bo bm bc] 26)).alloc (.cells #[.bool cb, .slice co cm cc, .bool db, .slice d_o dm dc] 26)).alloc (.cells #[.bool false, .slice none 0 0, .bool false, .slice none 0 0] 26)) := ⟨_, rfl⟩
  have hB0 : Below w.heap.size w W0 := by rw [hW0]; exact (((Below.refl _ _).alloc (Nat.le_refl _) _).alloc (by simp) _).alloc (by simp <;> omega) _
  have hz0 : W0.heap.size = w.heap.size + 3 := by rw [hW0]; simp
  have HS : Hid (∀ w', Below (w.heap.size + 2) W0 w' → w'.cell? ⟨w.heap.size, 0, none⟩ = some (.bool ab) ∧ w'.cell? ⟨w.heap.size, 1, none⟩ = some (.slice ao am ac) ∧ w'.cell? ⟨w.heap.size, 2, none⟩ = some (.bool bb) ∧ w'.cell? ⟨w.heap.size, 3, none⟩ = some (.slice bo bm bc) ∧ w'.cell? ⟨w.heap.size + 1, 0, none⟩ = some (.bool cb) ∧ w'.cell? ⟨w.heap.size + 1, 1, none⟩ = some (.slice co cm cc) ∧ w'.cell? ⟨w.heap.size + 1, 2, none⟩ = some (.bool db) ∧ w'.cell? ⟨w.heap.size + 1, 3, none⟩ = some (.slice d_o dm dc)) := hid (fun w' hb => by
    refine ⟨?_, ?_, ?_, ?_, ?_, ?_, ?_, ?_⟩ <;> (rw [hb.cell (by simp <;> omega), hW0]; simp [go_sem]))
  have HT : Hid (∀ w', Below (w.heap.size + 3) W0 w' → (w'.cell? ⟨w.heap.size + 2, 0, none⟩ = some (.bool false) ∧ w'.cell? ⟨w.heap.size + 2, 1, none⟩ = some (.slice none 0 0) ∧ w'.cell? ⟨w.heap.size + 2, 2, none⟩ = some (.bool false) ∧ w'.cell? ⟨w.heap.size + 2, 3, none⟩ = some (.slice none 0 0)) ∧ (w'.frozen? ⟨w.heap.size + 2, 0, none⟩ = false ∧ w'.frozen? ⟨w.heap.size + 2, 1, none⟩ = false ∧ w'.frozen? ⟨w.heap.size + 2, 2, none⟩ = false ∧ w'.frozen? ⟨w.heap.size + 2, 3, none⟩ = false)) := hid (fun w' hb => by
    refine ⟨⟨?_, ?_, ?_, ?_⟩, ?_, ?_, ?_, ?_⟩ <;> (first | (rw [hb.cell (by simp <;> omega), hW0]; simp [go_sem]; done) | (rw [hb.frozen (by simp <;> omega), hW0]; simp [go_sem]; done)))
  have HB0 := hid hB0; have Hz0 := hid hz0; have HW := hid hW0; have Hd1 := hid hd1; have Hd2 := hid hd2
  clear hW0 hB0 hz0 hd1 hd2
  go_enter Tryz.func37, Tryz.ntmps37
  go_upto_region 1 with (fail)
  rw [← HW.out]
  go_region_held3 (fun w' => w'.cell? ⟨w.heap.size, 0, none⟩ = some (.bool ab) ∧ w'.cell? ⟨w.heap.size, 1, none⟩ = some (.slice ao am ac) ∧ w'.cell? ⟨w.heap.size, 2, none⟩ = some (.bool bb) ∧ w'.cell? ⟨w.heap.size, 3, none⟩ = some (.slice bo bm bc) ∧ w'.cell? ⟨w.heap.size + 1, 0, none⟩ = some (.bool cb) ∧ w'.cell? ⟨w.heap.size + 1, 1, none⟩ = some (.slice co cm cc) ∧ w'.cell? ⟨w.heap.size + 1, 2, none⟩ = some (.bool db) ∧ w'.cell? ⟨w.heap.size + 1, 3, none⟩ = some (.slice d_o dm dc)) ((refine HS.out _ ?_; repeat (first | assumption | exact Below.refl _ _ | exact (Below.refl _ _).drew | exact Below.drew (by assumption) | (refine Below.setCell ?_ (by simp) _)))) (first
    | (go_at_call_of 53 (ao); refine (HR1.out _ HB0.out.drew).mono ?_; rintro e w1 ⟨_, rfl, hf1, hb1⟩; obtain ⟨e1, o1, m1, c1, p1, n1, k1, rfl, H1, H1s, H1b⟩ := Ft.opened hf1; have hX1 : Below W0.heap.size W0 w1 := (Below.refl _ _).drew.trans hb1; have hY1 : Below (w.heap.size + 2) W0 w1 := hX1.mono (by have := Hz0.out; omega))
    | (go_at_call_of 53 (co); refine (HR2.out _ (HB0.out.trans (hX1.mono HB0.out.size))).mono ?_; rintro e w2 ⟨_, rfl, hf2, hb2⟩; obtain ⟨e2, o2, m2, c2, p2, n2, k2, rfl, H2, H2s, H2b⟩ := Ft.opened hf2; have hX2 : Below W0.heap.size W0 w2 := hX1.trans (hb2.mono hX1.size); have hY2 : Below (w.heap.size + 2) W0 w2 := hX2.mono (by have := Hz0.out; omega))
    | (go_at_call 87; refine (fneg_any _ _ _ _ _ hf2).mono ?_; rintro e w5 ⟨_, rfl, hf5, hb5⟩; obtain ⟨e5', o5', m5', c5', p5', n5', k5', rfl, _, _, _⟩ := Ft.opened hf5; have hX5 : Below W0.heap.size W0 w5 := hX2.trans (hb5.mono hX2.size); have hY5 : Below (w.heap.size + 2) W0 w5 := hX5.mono (by have := Hz0.out; omega))
    | (go_at_call 92; refine (fplus_any _ _ z1 (-z2) e1' e2' _ _ (Ft.below (Ft.below hf1 hb2 (Nat.le_refl _)) hb5 (Nat.le_refl _)) hf5 Hd1.out Hd2.out (by omega)).mono ?_; rintro e w3 ⟨_, z, d, rfl, hf3, hd3, hv3, hb3⟩; have HD3 := hid hd3; have HV3 := hid hv3; clear hd3 hv3; obtain ⟨e3, o3, m3, c3, p3, n3, k3, rfl, H3, H3s, H3b⟩ := Ft.opened hf3; have hX3 : Below W0.heap.size W0 w3 := hX5.trans (hb3.mono hX5.size); have hY3 : Below (w.heap.size + 2) W0 w3 := hX3.mono (by have := Hz0.out; omega))
    | (go_at_call 67; refine (fracValue_any _ _ _ _ _ hf3 HD3.out (by omega)).mono ?_; rintro e w4 ⟨_, rfl, hr4, hb4⟩; obtain ⟨e4, o4, m4, c4, e5, o5, m5, c5, rfl, H4, H5⟩ := FrR.opened hr4; have hX4 : Below W0.heap.size W0 w4 := hX3.trans (hb4.mono hX3.size); have hY4 : Below (w.heap.size + 2) W0 w4 := hX4.mono (by have := Hz0.out; omega); obtain ⟨⟨hr0, hr1, hr2, hr3⟩, hf0, hf1', hf2', hf3'⟩ := HT.out _ (hX4.mono (by have := Hz0.out; omega))))
  go_wp2
  have hz0 := Hz0.out; have hs3 := hX3.size
  have hw4 : Below w.heap.size w w4 := HB0.out.trans (hX4.mono HB0.out.size)
  have hlt : w.heap.size + 2 < w3.heap.size := by omega
  refine bodyPost_ret (v := .agg #[.bool e4, .slice o4 m4 c4, .bool e5, .slice o5 m5 c5]) (by simp [results, Tryz.results37, go_sem, hr0, hr1, hr2, hr3]) rfl ⟨_, _, _, rfl, ?_, HD3.out, by have h := HV3.out; rw [Int.neg_mul] at h; exact h, (((hw4.setCell (by simp <;> omega) _).setCell (by simp <;> omega) _).setCell (by simp <;> omega) _).setCell (by simp <;> omega) _⟩
  refine ⟨_, _, _, _, rfl, ?_, ?_⟩
  · exact ((((H4.out.set hlt _).set hlt _).set hlt _).set hlt _).base (by omega)
  · exact ((((H5.out.set hlt _).set hlt _).set hlt _).set hlt _).base (by omega)



theorem rn_pos {y : Int} (x : Int) (hy : 0 < y) : rn x y = x ∧ rd y = y := by
  unfold rn rd
  rw [if_neg (by omega), if_neg (by omega), decide_eq_false (show ¬ y < 0 by omega)]
  refine ⟨?_, by omega⟩
  by_cases hx : x < 0
  · rw [decide_eq_true hx]
    show sgn true _ = x
    unfold sgn
    simp
    omega
  · rw [decide_eq_false hx]
    show sgn false _ = x
    unfold sgn
    simp
    omega
theorem low_val (z : Int) {d : Int} (hd : 0 < d) : lowN z d * d = z * lowD z d ∧ 0 < lowD z d := by
  have hg : (0 : Int) < (Int.gcd (z.natAbs : Int) d : Int) := by
    have : Int.gcd (z.natAbs : Int) d ≠ 0 := fun h => by have := (Int.gcd_eq_zero_iff.1 h).2; omega
    omega
  unfold lowN lowD
  obtain ⟨g, eg⟩ : ∃ g, g = (Int.gcd (z.natAbs : Int) d : Int) := ⟨_, rfl⟩
  have e1 : (z.natAbs : Int) / g * g = (z.natAbs : Int) := Int.ediv_mul_cancel (by rw [eg]; exact Int.gcd_dvd_left _ _)
  have e2 : d / g * g = d := Int.ediv_mul_cancel (by rw [eg]; exact Int.gcd_dvd_right _ _)
  rw [← eg] at hg ⊢
  obtain ⟨a, ea⟩ : ∃ a, a = (z.natAbs : Int) / g := ⟨_, rfl⟩
  obtain ⟨b, eb⟩ : ∃ b, b = d / g := ⟨_, rfl⟩
  rw [← ea] at e1 ⊢
  rw [← eb] at e2 ⊢
  have hb : 0 < b := by
    rcases Int.lt_or_le 0 b with h | h
    · exact h
    · exfalso
      have := Int.mul_nonneg (show 0 ≤ -b by omega) (Int.le_of_lt hg)
      rw [Int.neg_mul, e2] at this
      omega
  refine ⟨?_, hb⟩
  by_cases hz : z < 0
  · rw [decide_eq_true hz]
    have ez : z = -(a * g) := by omega
    have es : sgn true a = -a := rfl
    rw [es, ez, ← e2, Int.neg_mul, Int.neg_mul, Int.mul_comm b g, Int.mul_assoc]
  · rw [decide_eq_false hz]
    have ez : z = a * g := by omega
    have es : sgn false a = a := rfl
    rw [es, ez, ← e2, Int.mul_comm b g, Int.mul_assoc]

/-- The value v is a ratio of the value n over d. -/
def Rv (w : World) (v : Value) (n d : Int) (K : Nat) : Prop := 0 < d ∧ ∃ x y, Ra w v x y K ∧ rn x y * d = n * rd y
theorem Rv.below {w w' : World} {v : Value} {n d : Int} {K B : Nat} (h : Rv w v n d K) (hb : Below B w w') (hB : w.heap.size ≤ B) : Rv w' v n d K := by
  obtain ⟨h0, x, y, h1, h2⟩ := h
  exact ⟨h0, x, y, h1.below hb hB, h2⟩
theorem val_cut {N L z d n e : Int} (hd : 0 < d) (h1 : N * d = z * L) (h2 : z * e = n * d) : N * e = n * L := by
  have h : (N * e) * d = (n * L) * d := by
    calc (N * e) * d = (N * d) * e := by rw [Int.mul_assoc, Int.mul_comm e d, ← Int.mul_assoc]
      _ = z * L * e := by rw [h1]
      _ = (z * e) * L := by rw [Int.mul_assoc, Int.mul_comm L e, ← Int.mul_assoc]
      _ = n * d * L := by rw [h2]
      _ = (n * L) * d := by rw [Int.mul_assoc, Int.mul_comm d L, ← Int.mul_assoc]
  exact Int.eq_of_mul_eq_mul_right (by omega) h
theorem FrR.rv {w0 w : World} {f : Value} {z d n e : Int} {K : Nat} (h : FrR w0 w f (lowN z d) (lowD z d) K) (hd : 0 < d) (he : 0 < e) (hv : z * e = n * d) : Rv w f n e K := by
  have hl := low_val z hd
  have hp := rn_pos (lowN z d) hl.2
  refine ⟨he, _, _, FrR.ra h, ?_⟩
  rw [hp.1, hp.2]
  exact val_cut hd hl.1 hv
end Go.Proofs.YtilpkocmdpofpaaGreatDoor

/- The contracts of the ratios' operations by values: Plus, Minus, Times, Signum. -/
namespace Go.Proofs.YtilpkocmdpofpaaGreatDoor
open Go.RowKit

theorem Rv.mono {w : World} {v : Value} {n d : Int} {K K' : Nat} (h : Rv w v n d K) (hK : K ≤ K') : Rv w v n d K' := by
  obtain ⟨h0, x, y, ⟨b1, o1, m1, c1, b2, o2, m2, c2, e, ⟨na, ao, ac, WA, ea, ha⟩, ⟨nb, bo, bc, WB, eb, hb⟩⟩, h2⟩ := h
  exact ⟨h0, x, y, ⟨b1, o1, m1, c1, b2, o2, m2, c2, e, ⟨na, ao, ac, WA, ea, ha.rd, ha.dig, Nat.le_trans ha.le hK, ha.eq⟩, ⟨nb, bo, bc, WB, eb, hb.rd, hb.dig, Nat.le_trans hb.le hK, hb.eq⟩⟩, h2⟩
/-- The call hands back a ratio of the value n over d, open. -/
def RetV (w : World) (n d : Int) (R : Nat) (e : Ending) (w' : World) : Prop := ∃ b1 o1 m1 c1 b2 o2 m2 c2, e = .returned (.agg #[.bool b1, .slice o1 m1 c1, .bool b2, .slice o2 m2 c2]) ∧ Hid (Rv w' (.agg #[.bool b1, .slice o1 m1 c1, .bool b2, .slice o2 m2 c2]) n d R) ∧ Below w.heap.size w w'
theorem retV {w w' : World} {f : Value} {z d n e : Int} {K R : Nat} (h : FrR w w' f (lowN z d) (lowD z d) K) (hd : 0 < d) (he : 0 < e) (hv : z * e = n * d) (hK : K ≤ R) (hb : Below w.heap.size w w') : RetV w n e R (.returned f) w' := by
  have hr := (h.rv hd he hv).mono hK
  obtain ⟨b1, o1, m1, c1, b2, o2, m2, c2, rfl, _, _⟩ := FrR.opened h
  exact ⟨b1, o1, m1, c1, b2, o2, m2, c2, rfl, hid hr, hb⟩

theorem alg_minus {z d r1 e1 d1 n1 r2 e2 d2 n2 : Int} (p1 : 0 < e1) (p2 : 0 < e2) (h : z * (e1 * e2) = (r1 * e2 - r2 * e1) * d) (h1 : r1 * d1 = n1 * e1) (h2 : r2 * d2 = n2 * e2) : z * (d1 * d2) = (n1 * d2 - n2 * d1) * d := by
  have hp : (0 : Int) < e1 * e2 := Int.mul_pos p1 p2
  have h3 : (e1 * e2) * (z * (d1 * d2)) = (e1 * e2) * ((n1 * d2 - n2 * d1) * d) := by grind
  exact Int.eq_of_mul_eq_mul_left (by omega) h3
theorem alg_times {r1 e1 d1 n1 r2 e2 d2 n2 : Int} (h1 : r1 * d1 = n1 * e1) (h2 : r2 * d2 = n2 * e2) : (r1 * r2) * (d1 * d2) = (n1 * n2) * (e1 * e2) := by grind

theorem Minus_rv (u v : Value) (n1 d1 n2 d2 : Int) (K R : Nat) (w : World) (hu : Rv w u n1 d1 K) (hv : Rv w v n2 d2 K) (hK : K ≤ 70) (hR : 2 * K + 8 ≤ R) :
    Calls Tryz.prog 37 #[u, v] w (RetV w (n1 * d2 - n2 * d1) (d1 * d2) R) := by
  obtain ⟨p1, x1, y1, hu, h1⟩ := hu
  obtain ⟨p2, x2, y2, hv, h2⟩ := hv
  refine (Minus_val u v x1 y1 x2 y2 K w hu hv hK).mono ?_
  rintro e w' ⟨f, z, d, rfl, hf, hd, hz, hb⟩
  exact retV hf hd (Int.mul_pos p1 p2) (alg_minus (rd_pos y1) (rd_pos y2) hz h1 h2) (by omega) hb
theorem Times_rv (u v : Value) (n1 d1 n2 d2 : Int) (K R : Nat) (w : World) (hu : Rv w u n1 d1 K) (hv : Rv w v n2 d2 K) (hK : K ≤ 150) (hR : 2 * K + 6 ≤ R) :
    Calls Tryz.prog 36 #[u, v] w (RetV w (n1 * n2) (d1 * d2) R) := by
  obtain ⟨p1, x1, y1, hu, h1⟩ := hu
  obtain ⟨p2, x2, y2, hv, h2⟩ := hv
  refine (Times_any u v x1 y1 x2 y2 K w hu hv hK).mono ?_
  rintro e w' ⟨f, rfl, hf, hb⟩
  exact retV hf (Int.mul_pos (rd_pos y1) (rd_pos y2)) (Int.mul_pos p1 p2) (alg_times h1 h2) (by omega) hb
theorem cmp_lt'' {x y : Int} (h : x < y) : cmpI x y = -1 := by unfold cmpI; (repeat' split) <;> omega
theorem cmp_gt'' {x y : Int} (h : y < x) : cmpI x y = 1 := by unfold cmpI; (repeat' split) <;> omega
theorem cmp_scale {r d n e : Int} (hd : 0 < d) (he : 0 < e) (h : r * d = n * e) : cmpI r 0 = cmpI n 0 := by
  rcases Int.lt_trichotomy r 0 with hr | hr | hr
  · have h1 : r * d < 0 := Int.mul_neg_of_neg_of_pos hr hd
    have h2 : n < 0 := by
      rcases Int.lt_or_le n 0 with h' | h'
      · exact h'
      · exfalso; have := Int.mul_nonneg h' (Int.le_of_lt he); omega
    rw [cmp_lt'' hr, cmp_lt'' h2]
  · subst hr
    rw [Int.zero_mul] at h
    rcases Int.mul_eq_zero.1 h.symm with h' | h'
    · rw [h']
    · omega
  · have h1 : 0 < r * d := Int.mul_pos hr hd
    have h2 : 0 < n := by
      rcases Int.lt_or_le 0 n with h' | h'
      · exact h'
      · exfalso
        have := Int.mul_nonneg (show 0 ≤ -n by omega) (Int.le_of_lt he)
        rw [Int.neg_mul] at this
        omega
    rw [cmp_gt'' hr, cmp_gt'' h2]
end Go.Proofs.YtilpkocmdpofpaaGreatDoor

/- (exact.integer).text and exact.Text of any number. -/
namespace Go.Proofs.YtilpkocmdpofpaaGreatDoor
open Go.RowKit

theorem gls_len : ∀ (m n : Nat), n < 10000000000000000000 ^ m → (gls n).length ≤ m
  | 0, n, h => by
    obtain rfl : n = 0 := by simpa using h
    simp [gls_zero]
  | m + 1, n, h => by
    by_cases hn : n = 0
    · subst hn; simp [gls_zero]
    · rw [gls_pos hn, List.length_cons]
      have := gls_len m (n / 10000000000000000000) (by
        rw [Nat.pow_succ] at h
        exact Nat.div_lt_of_lt_mul (by rw [Nat.mul_comm]; exact h))
      omega
theorem decs_len : ∀ (m n : Nat), n < 10 ^ m → (Lib.decDigits n).length ≤ m + 1
  | 0, n, h => by
    obtain rfl : n = 0 := by simpa using h
    simp [dec_small]
  | m + 1, n, h => by
    by_cases hn : n < 10
    · simp [dec_small hn]
    · rw [dec_big hn, List.length_append]
      have := decs_len m (n / 10) (by rw [Nat.pow_succ] at h; omega)
      simp
      omega
theorem b64_pow (K : Nat) : B64 ^ K ≤ ((10000000000000000000 ^ (2 * K) : Nat) : Int) := by
  induction K with
  | zero => simp
  | succ K ih =>
    rw [Int.pow_succ, show 2 * (K + 1) = 2 * K + 1 + 1 by omega, Nat.pow_succ, Nat.pow_succ, Int.natCast_mul, Int.natCast_mul, Int.mul_assoc]
    refine Int.mul_le_mul ih (by unfold B64; decide) (Int.le_of_lt B64_pos) (Int.natCast_nonneg _)
theorem b32_pow (K : Nat) : B32 ^ K ≤ ((10 ^ (10 * K) : Nat) : Int) := by
  induction K with
  | zero => simp
  | succ K ih =>
    rw [Int.pow_succ, show 10 * (K + 1) = 10 * K + 10 by omega, Nat.pow_add, Int.natCast_mul]
    refine Int.mul_le_mul ih (by unfold B32; decide) (by unfold B32; decide) (Int.natCast_nonneg _)
theorem pow_le {B : Int} (hB : 1 ≤ B) : ∀ {a b : Nat}, a ≤ b → B ^ a ≤ B ^ b := by
  intro a b h
  obtain ⟨c, rfl⟩ := Nat.exists_eq_add_of_le h
  clear h
  induction c with
  | zero => exact Int.le_refl _
  | succ c ih =>
    rw [← Nat.add_assoc, Int.pow_succ]
    have h0 : 0 ≤ B ^ (a + c) := Int.le_of_lt (Int.pow_pos (by omega))
    have := Int.mul_le_mul_of_nonneg_left hB h0
    omega
theorem nt_gls {w : World} {v : Value} {y K : Nat} (h : Nt w v (y : Int) K) : (gls y).length ≤ 2 * K := by
  obtain ⟨ao, c, L, rfl, h⟩ := h
  have h1 := val_lt B64_pos h.dig
  have h2 := pow_le (B := B64) (by unfold B64; decide) h.le
  have h3 := b64_pow K
  rw [h.eq] at h1
  exact gls_len _ _ (by omega)
theorem ai_lt {w : World} {v : Value} {z : Int} {K : Nat} (h : Ai w v z K) : z.natAbs < 10 ^ (10 * K) := by
  obtain ⟨neg, ao, c, W, rfl, h⟩ := h
  have h1 := val_lt (by unfold B32; decide) h.dig
  have h0 := val_nonneg (by unfold B32; decide) h.dig
  have h2 := pow_le (B := B32) (by unfold B32; decide) h.le
  have h3 := b32_pow K
  have h4 : (z.natAbs : Int) = val B32 W := by
    rw [h.eq]
    unfold sgn
    split <;> omega
  omega
theorem tx_size {z : Int} {m : Nat} (h : z.natAbs < 10 ^ m) : (tx z).size ≤ m + 2 := by
  have := decs_len m z.natAbs h
  unfold tx
  split
  · simp [ByteArray.size_append]; show 1 + (Lib.decDigits z.natAbs).length ≤ m + 2; omega
  · show (Lib.decDigits z.natAbs).length ≤ m + 2; omega

theorem decimals_nt (y K : Nat) (v : Value) (w : World) (hA : Nt w v (y : Int) K) (hK : K ≤ 40000) (hT : Tab w) :
    Calls Tryz.prog 59 #[v] w fun e w' => e = .returned (.string ⟨(Lib.decDigits y).toArray⟩) ∧ Below w.heap.size w w' :=
  decimals_any y K v w hA (by omega) (by have := nt_gls hA; omega) hT

set_option maxRecDepth 100000 in
set_option maxHeartbeats 1000000 in
theorem text_all (z : Int) (K : Nat) (v : Value) (w : World) (h : It w v z K) (hK : K ≤ 40000) (hs : (tx z).size ≤ 1000000) (hT : Tab w) :
    Calls Tryz.prog 83 #[v] w fun e w' => e = .returned (.string (tx z)) ∧ Below w.heap.size w w' := by
  obtain ⟨xb, xo, xm, xc, rfl, Hx, Hxs, Hxb⟩ := It.opened h
  clear h
  obtain ⟨s, hs0⟩ : ∃ s : ByteArray, s = ⟨(Lib.decDigits z.natAbs).toArray⟩ := ⟨_, rfl⟩
  have HD := hid (fun (w' : World) (hb : Below w.heap.size w w') => by have := decimals_nt z.natAbs K _ w' (by simpa using Hxs.out w' hb) hK (hT.below hb); rw [← hs0] at this; exact this)
  by_cases hz : z < 0
  · obtain rfl : xb = true := by rw [Hxb.out]; exact decide_eq_true hz
    have e : tx z = ⟨#[45]⟩ ++ s := by unfold tx; rw [if_pos hz, hs0]
    rw [e] at hs ⊢
    have hsz : ¬ 9223372036854775807 < 1 + s.size := by
      rw [ByteArray.size_append] at hs
      have : (⟨#[45]⟩ : ByteArray).size = 1 := rfl
      omega
    clear hs0 e hs hT
    have hB0 : Below w.heap.size w (w.alloc (.cells #[.bool true, .slice xo xm xc] 84)) := (Below.refl _ _).alloc (Nat.le_refl _) _
    have HB0 := hid hB0
    clear hB0 hz
    go_enter Tryz.func83, Tryz.ntmps83
    go_wp2_with fail
    refine (HD.out _ HB0.out).mono ?_
    rintro e w1 ⟨rfl, hb1⟩
    go_wp2
    go_ret
    exact ⟨rfl, HB0.out.trans (hb1.mono (by simp))⟩
  · obtain rfl : xb = false := by rw [Hxb.out]; exact decide_eq_false hz
    have e : tx z = s := by unfold tx; rw [if_neg hz, hs0]
    rw [e]
    clear hs0 e hs hT
    have hB0 : Below w.heap.size w (w.alloc (.cells #[.bool false, .slice xo xm xc] 84)) := (Below.refl _ _).alloc (Nat.le_refl _) _
    have HB0 := hid hB0
    clear hB0 hz
    go_enter Tryz.func83, Tryz.ntmps83
    go_wp2_with fail
    refine (HD.out _ HB0.out).mono ?_
    rintro e w1 ⟨rfl, hb1⟩
    go_wp2
    go_ret
    exact ⟨rfl, HB0.out.trans (hb1.mono (by simp))⟩

set_option maxRecDepth 100000 in
set_option maxHeartbeats 1000000 in
theorem Text_all (z : Int) (K : Nat) (v : Value) (w : World) (h : Ai w v z K) (hK : K ≤ 40000) (hT : Tab w) :
    Calls Tryz.prog 23 #[v] w fun e w' => e = .returned (.string (tx z)) ∧ Below w.heap.size w w' := by
  have hs : (tx z).size ≤ 1000000 := by have := tx_size (ai_lt h); omega
  obtain ⟨xb, xo, xm, xc, rfl, Hx⟩ := Ai.opened h
  clear h
  have H0 := hid hs; have HT := hid hT
  obtain ⟨s, hs0⟩ : ∃ s, s = tx z := ⟨_, rfl⟩
  have HX := hid (fun (v' : Value) (w' : World) (hv : It w' v' z ((K + 1) / 2)) (hb : Below w.heap.size w w') => by have := text_all z _ v' w' hv (by omega) H0.out (HT.out.below hb); rw [← hs0] at this; exact this)
  rw [← hs0]
  clear hs hT hs0
  go_enter Tryz.func23, Tryz.ntmps23
  go_wp2_with fail
  refine (read_any _ z K _ (Hx.out _ ((Below.refl _ _).alloc (Nat.le_refl _) _)) (by omega)).mono ?_
  rintro e w1 ⟨v1, rfl, hv1, hb1⟩
  have HB1 := hid (show Below w.heap.size w w1 from ((Below.refl w.heap.size w).alloc (Nat.le_refl _) _).trans (hb1.mono (by simp)))
  clear hb1
  go_wp2_with fail
  refine (HX.out _ _ hv1 HB1.out).mono ?_
  rintro e w2 ⟨rfl, hb2⟩
  go_wp2
  go_ret
  exact ⟨rfl, HB1.out.trans (hb2.mono HB1.out.size)⟩

/-- A value has one fraction in lowest terms. -/
theorem low_uniq {z d n e : Int} (hd : 0 < d) (he : 0 < e) (h : z * e = n * d) : lowN z d = lowN n e ∧ lowD z d = lowD n e := by
  have hD : lowD z d = lowD n e := by
    obtain ⟨D, rfl⟩ : ∃ D : Nat, d = D := ⟨d.toNat, by omega⟩
    obtain ⟨E, rfl⟩ : ∃ E : Nat, e = E := ⟨e.toNat, by omega⟩
    have hn : z.natAbs * E = n.natAbs * D := by
      have := congrArg Int.natAbs h
      simpa [Int.natAbs_mul] using this
    have hg : Nat.gcd z.natAbs D * E = Nat.gcd n.natAbs E * D := by
      rw [← Nat.gcd_mul_right, ← Nat.gcd_mul_right, hn, Nat.mul_comm D E]
    have e1 : Int.gcd (z.natAbs : Int) (D : Int) = Nat.gcd z.natAbs D := rfl
    have e2 : Int.gcd (n.natAbs : Int) (E : Int) = Nat.gcd n.natAbs E := rfl
    unfold lowD
    rw [e1, e2]
    obtain ⟨a, ha⟩ := Nat.gcd_dvd_right z.natAbs D
    obtain ⟨b, hb⟩ := Nat.gcd_dvd_right n.natAbs E
    have g1 : 0 < Nat.gcd z.natAbs D := Nat.gcd_pos_of_pos_right _ (by omega)
    have g2 : 0 < Nat.gcd n.natAbs E := Nat.gcd_pos_of_pos_right _ (by omega)
    have hab : a = b := by
      generalize Nat.gcd z.natAbs D = p at *
      generalize Nat.gcd n.natAbs E = q at *
      have h1 : p * (q * b) = q * (p * a) := by rw [← hb, ← ha]; exact hg
      have h2 : (p * q) * b = (p * q) * a := by rw [Nat.mul_assoc, h1, ← Nat.mul_assoc, Nat.mul_comm q p]
      exact (Nat.eq_of_mul_eq_mul_left (Nat.mul_pos g1 g2) h2).symm
    have q1 : (D : Int) / (Nat.gcd z.natAbs D : Int) = (a : Int) := by
      rw [← Int.natCast_ediv]
      exact congrArg _ (Nat.div_eq_of_eq_mul_right g1 ha)
    have q2 : (E : Int) / (Nat.gcd n.natAbs E : Int) = (b : Int) := by
      rw [← Int.natCast_ediv]
      exact congrArg _ (Nat.div_eq_of_eq_mul_right g2 hb)
    rw [q1, q2, hab]
  refine ⟨?_, hD⟩
  have h1 := (low_val z hd).1
  have h2 := (low_val n he).1
  rw [← hD] at h2
  have h3 : lowN z d * (d * e) = lowN n e * (d * e) := by
    calc lowN z d * (d * e) = (lowN z d * d) * e := by rw [Int.mul_assoc]
      _ = z * e * lowD z d := by rw [h1, Int.mul_assoc, Int.mul_comm (lowD z d) e, ← Int.mul_assoc]
      _ = n * lowD z d * d := by rw [h, Int.mul_assoc, Int.mul_comm d, ← Int.mul_assoc]
      _ = lowN n e * (d * e) := by rw [← h2, Int.mul_assoc, Int.mul_comm e d]
  exact Int.eq_of_mul_eq_mul_right (by have := Int.mul_pos hd he; omega) h3
end Go.Proofs.YtilpkocmdpofpaaGreatDoor

/- exact.Show of ratios whose lowest form has numbers closer to 0 than 100; over and shows of the laws. -/
namespace Go.Proofs.YtilpkocmdpofpaaGreatDoor
open Go.RowKit

theorem tx_len (z : Int) (h : z.natAbs < 100) : (tx z).size ≤ 3 := by
  have := dec_len z.natAbs h
  unfold tx
  split
  · simp [ByteArray.size_append]; show 1 + (Lib.decDigits z.natAbs).length ≤ 3; omega
  · show (Lib.decDigits z.natAbs).length ≤ 3; omega

set_option maxRecDepth 100000 in
set_option maxHeartbeats 1000000 in
theorem Show_whole (v : Value) (x y N : Int) (K : Nat) (w : World) (hv : Ra w v x y K) (hy : y ≠ 0) (hK : K ≤ 1073741820)
    (hN : lowN (sgn (decide (x < 0) != decide (y < 0)) (x.natAbs : Int)) (y.natAbs : Int) = N) (hD : lowD (sgn (decide (x < 0) != decide (y < 0)) (x.natAbs : Int)) (y.natAbs : Int) = 1) (h0 : N ≠ 0) (h1 : N.natAbs < 100) :
    Calls Tryz.prog 17 #[v] w fun e w' => e = .returned (.string (tx N)) ∧ Below w.heap.size w w' := by
  have hRR := fun (w' : World) (hb : Below w.heap.size w w') => readRatio_ne v x y K w' (hv.below hb (Nat.le_refl _)) hy (by omega)
  obtain ⟨xb, xo, xm, xc, yb, yo, ym, yc, rfl, _, _⟩ := Ra.opened hv
  have HRR := hid hRR
  obtain ⟨s1, hs1⟩ : ∃ s1, s1 = tx N := ⟨_, rfl⟩
  have hz1 : s1.size ≤ 3 := by rw [hs1]; exact tx_len N h1
  have HT := hid (fun (v' : Value) (w' : World) (h : Ai w' v' N (2 * ((K + 1) / 2))) => by have := Text_any N _ v' w' h (by omega) h0 h1; rw [← hs1] at this; exact this)
  have H1 := hid (fun (z d : Int) (Kz : Nat) (f : Value) (w' : World) (h : Ft w' f z d Kz) (hd : 0 < d) (hk : Kz ≤ 1073741823) => fracValue_any f z d Kz w' h hd hk)
  rw [← hs1]
  have HO1 := hid (show decide (((1 : Int).natAbs : Int) = 1) = true from rfl)
  have HN := hid hN; have HD := hid hD; have Hy := hid hy
  clear hs1 hRR hv hN hD hy h0
  have hB0 : Below w.heap.size w (w.alloc (.cells #[.bool xb, .slice xo xm xc, .bool yb, .slice yo ym yc] 26)) := (Below.refl _ _).alloc (Nat.le_refl _) _
  have HB0 := hid hB0
  clear hB0
  go_enter Tryz.func17, Tryz.ntmps17
  go_wp2_with fail
  refine (HRR.out _ HB0.out).mono ?_
  rintro e w1 ⟨f, rfl, hf, hb1⟩
  have HB1 := hid (show Below w.heap.size w w1 from HB0.out.trans (hb1.mono (by simp)))
  clear hb1
  go_wp2_with fail
  refine (H1.out _ _ _ _ _ hf (by have := Hy.out; omega) (by omega)).mono ?_
  rintro e w2 ⟨_, rfl, hr, hb2⟩
  rw [HN.out, HD.out] at hr
  obtain ⟨b1, o1, m1, c1, b2, o2, m2, c2, rfl, HR1, HR2⟩ := FrR.opened hr
  have HB2 := hid (show Below w.heap.size w w2 from HB1.out.trans (hb2.mono HB1.out.size))
  clear hr hf hb2
  obtain ⟨W3, hW3⟩ : ∃ W3, W3 = w2.alloc (.cells #[.bool b1, .slice o1 m1 c1, .bool b2, .slice o2 m2 c2] 26) := ⟨_, rfl⟩
  have hal : Below w2.heap.size w2 W3 := by rw [hW3]; exact (Below.refl _ _).alloc (Nat.le_refl _) _
  have HS : Hid (∀ w', Below W3.heap.size W3 w' → w'.cell? ⟨w2.heap.size, 0, none⟩ = some (.bool b1) ∧ w'.cell? ⟨w2.heap.size, 1, none⟩ = some (.slice o1 m1 c1) ∧ w'.cell? ⟨w2.heap.size, 2, none⟩ = some (.bool b2) ∧ w'.cell? ⟨w2.heap.size, 3, none⟩ = some (.slice o2 m2 c2)) := hid (fun w' hb => by
    refine ⟨?_, ?_, ?_, ?_⟩ <;> (rw [hb.cell (by rw [hW3]; simp), hW3]; simp [go_sem]))
  have HAL := hid hal; have HW3 := hid hW3
  clear hal hW3
  go_wp2_with fail
  rw [← HW3.out]
  refine (HT.out _ _ (HR1.out.ai.below HAL.out (Nat.le_refl _))).mono ?_
  rintro e w4 ⟨rfl, hb4⟩
  obtain ⟨k0, k1, k2, k3⟩ := HS.out _ hb4
  have HB4 := hid (show Below w2.heap.size w2 w4 from HAL.out.trans (hb4.mono HAL.out.size))
  clear hb4
  go_wp2_with fail
  refine (read_any _ 1 _ _ (HR2.out.ai.below HB4.out (Nat.le_refl _)) (by omega)).mono ?_
  rintro e w5 ⟨_, rfl, hv5, hb5⟩
  obtain ⟨b5, o5, m5, c5, rfl, H5, H5s, H5b⟩ := It.opened hv5
  have HI := hid (fun w' hb => isOne_any _ _ _ w' (H5s.out w' hb))
  have HB5 := hid (show Below w2.heap.size w2 w5 from HB4.out.trans (hb5.mono HB4.out.size))
  clear hb5 hv5
  have hfld : ∀ w : World, (Instr.field 84 (.agg #[.bool b5, .slice o5 m5 c5]) 1).run Tryz.prog w = .ok (.slice o5 m5 c5) w := fun w => by kernel_rfl
  go_wp2_with fail
  refine (HI.out _ (Below.refl _ _)).mono ?_
  rintro e w6 ⟨rfl, h6⟩
  obtain rfl : w5 = w6 := h6.symm
  rw [HO1.out]
  go_wp2
  go_ret
  exact ⟨rfl, HB2.out.trans (HB5.out.mono HB2.out.size)⟩

set_option maxRecDepth 100000 in
set_option maxHeartbeats 1000000 in
theorem Show_quot (v : Value) (x y N D : Int) (K : Nat) (w : World) (hv : Ra w v x y K) (hy : y ≠ 0) (hK : K ≤ 1073741820)
    (hN : lowN (sgn (decide (x < 0) != decide (y < 0)) (x.natAbs : Int)) (y.natAbs : Int) = N) (hD : lowD (sgn (decide (x < 0) != decide (y < 0)) (x.natAbs : Int)) (y.natAbs : Int) = D) (h0 : N ≠ 0) (h1 : N.natAbs < 100) (d0 : 1 < D) (d1 : D < 100) :
    Calls Tryz.prog 17 #[v] w fun e w' => e = .returned (.string (tx N ++ ⟨#[47]⟩ ++ ⟨(Lib.decDigits D.natAbs).toArray⟩)) ∧ Below w.heap.size w w' := by
  have hRR := fun (w' : World) (hb : Below w.heap.size w w') => readRatio_ne v x y K w' (hv.below hb (Nat.le_refl _)) hy (by omega)
  obtain ⟨xb, xo, xm, xc, yb, yo, ym, yc, rfl, _, _⟩ := Ra.opened hv
  have HRR := hid hRR
  obtain ⟨s1, hs1⟩ : ∃ s1, s1 = tx N := ⟨_, rfl⟩
  have hz1 : s1.size ≤ 3 := by rw [hs1]; exact tx_len N h1
  have HT := hid (fun (v' : Value) (w' : World) (h : Ai w' v' N (2 * ((K + 1) / 2))) => by have := Text_any N _ v' w' h (by omega) h0 h1; rw [← hs1] at this; exact this)
  have H1 := hid (fun (z d : Int) (Kz : Nat) (f : Value) (w' : World) (h : Ft w' f z d Kz) (hd : 0 < d) (hk : Kz ≤ 1073741823) => fracValue_any f z d Kz w' h hd hk)
  rw [← hs1]
  obtain ⟨s2, hs2⟩ : ∃ s2 : ByteArray, s2 = ⟨(Lib.decDigits D.natAbs).toArray⟩ := ⟨_, rfl⟩
  have hz2 : s2.size ≤ 2 := by rw [hs2]; exact dec_len D.natAbs (by omega)
  have hq1 : ¬ 9223372036854775807 < s1.size + 1 := by omega
  have hq2 : ¬ 9223372036854775807 < s1.size + 1 + s2.size := by omega
  have HDD := hid (fun (v' : Value) (w' : World) (Kd : Nat) (h : Nt w' v' (D.natAbs : Int) Kd) => by have := decimals_one D.natAbs Kd v' w' h (by omega) (by omega); rw [← hs2] at this; exact this)
  rw [← hs2]
  have HO1 := hid (show decide ((D.natAbs : Int) = 1) = false from decide_eq_false (by omega))
  have HN := hid hN; have HD := hid hD; have Hy := hid hy
  clear hs1 hs2 hRR hv hN hD hy h0
  have hB0 : Below w.heap.size w (w.alloc (.cells #[.bool xb, .slice xo xm xc, .bool yb, .slice yo ym yc] 26)) := (Below.refl _ _).alloc (Nat.le_refl _) _
  have HB0 := hid hB0
  clear hB0
  go_enter Tryz.func17, Tryz.ntmps17
  go_wp2_with fail
  refine (HRR.out _ HB0.out).mono ?_
  rintro e w1 ⟨f, rfl, hf, hb1⟩
  have HB1 := hid (show Below w.heap.size w w1 from HB0.out.trans (hb1.mono (by simp)))
  clear hb1
  go_wp2_with fail
  refine (H1.out _ _ _ _ _ hf (by have := Hy.out; omega) (by omega)).mono ?_
  rintro e w2 ⟨_, rfl, hr, hb2⟩
  rw [HN.out, HD.out] at hr
  obtain ⟨b1, o1, m1, c1, b2, o2, m2, c2, rfl, HR1, HR2⟩ := FrR.opened hr
  have HB2 := hid (show Below w.heap.size w w2 from HB1.out.trans (hb2.mono HB1.out.size))
  clear hr hf hb2
  obtain ⟨W3, hW3⟩ : ∃ W3, W3 = w2.alloc (.cells #[.bool b1, .slice o1 m1 c1, .bool b2, .slice o2 m2 c2] 26) := ⟨_, rfl⟩
  have hal : Below w2.heap.size w2 W3 := by rw [hW3]; exact (Below.refl _ _).alloc (Nat.le_refl _) _
  have HS : Hid (∀ w', Below W3.heap.size W3 w' → w'.cell? ⟨w2.heap.size, 0, none⟩ = some (.bool b1) ∧ w'.cell? ⟨w2.heap.size, 1, none⟩ = some (.slice o1 m1 c1) ∧ w'.cell? ⟨w2.heap.size, 2, none⟩ = some (.bool b2) ∧ w'.cell? ⟨w2.heap.size, 3, none⟩ = some (.slice o2 m2 c2)) := hid (fun w' hb => by
    refine ⟨?_, ?_, ?_, ?_⟩ <;> (rw [hb.cell (by rw [hW3]; simp), hW3]; simp [go_sem]))
  have HAL := hid hal; have HW3 := hid hW3
  clear hal hW3
  go_wp2_with fail
  rw [← HW3.out]
  refine (HT.out _ _ (HR1.out.ai.below HAL.out (Nat.le_refl _))).mono ?_
  rintro e w4 ⟨rfl, hb4⟩
  obtain ⟨k0, k1, k2, k3⟩ := HS.out _ hb4
  have HB4 := hid (show Below w2.heap.size w2 w4 from HAL.out.trans (hb4.mono HAL.out.size))
  clear hb4
  go_wp2_with fail
  refine (read_any _ D _ _ (HR2.out.ai.below HB4.out (Nat.le_refl _)) (by omega)).mono ?_
  rintro e w5 ⟨_, rfl, hv5, hb5⟩
  obtain ⟨b5, o5, m5, c5, rfl, H5, H5s, H5b⟩ := It.opened hv5
  have HI := hid (fun w' hb => isOne_any _ _ _ w' (H5s.out w' hb))
  have HB5 := hid (show Below w2.heap.size w2 w5 from HB4.out.trans (hb5.mono HB4.out.size))
  clear hb5 hv5
  have hfld : ∀ w : World, (Instr.field 84 (.agg #[.bool b5, .slice o5 m5 c5]) 1).run Tryz.prog w = .ok (.slice o5 m5 c5) w := fun w => by kernel_rfl
  go_wp2_with fail
  refine (HI.out _ (Below.refl _ _)).mono ?_
  rintro e w6 ⟨rfl, h6⟩
  obtain rfl : w5 = w6 := h6.symm
  rw [HO1.out]
  go_wp2_with fail
  refine (HDD.out _ _ _ (H5s.out _ (Below.refl _ _))).mono ?_
  rintro e w7 ⟨rfl, hb7⟩
  go_wp2
  go_ret
  exact ⟨rfl, (HB2.out.trans (HB5.out.mono HB2.out.size)).trans (hb7.mono (HB2.out.trans (HB5.out.mono HB2.out.size)).size)⟩
end Go.Proofs.YtilpkocmdpofpaaGreatDoor
