/- exact.Floor, Fixed, FromFixed, RootFixed by values. Written by gen_nearv.py. -/
import Derived.Test.YtbapeilpkhbbeaaGreatRn31
import Derived.Test.YtbapeilpkhbbeaaGreatRn30
import Derived.Test.YtbapeilpkhbbeaaGreatRn28
/- exact.Floor, Fixed, FromFixed, RootFixed by values. Written by gen_nearv.py. -/
namespace Go.Proofs.YtbapeilpkhbbeaaGreat
open Go.RowKit

theorem nonneg_of {r d n e : Int} (hd : 0 < d) (he : 0 < e) (h : r * d = n * e) (hn : 0 ≤ n) : 0 ≤ r := by
  rcases Int.lt_or_le r 0 with hr | hr
  · have h1 : r * d < 0 := Int.mul_neg_of_neg_of_pos hr hd
    have h2 := Int.mul_nonneg hn (Int.le_of_lt he)
    omega
  · exact hr
theorem neg_of {r d n e : Int} (hd : 0 < d) (he : 0 < e) (h : r * d = n * e) (hn : n < 0) : r < 0 := by
  rcases Int.lt_or_le r 0 with hr | hr
  · exact hr
  · have h1 := Int.mul_nonneg hr (Int.le_of_lt hd)
    have h2 := Int.mul_neg_of_neg_of_pos hn he
    omega
theorem pow_pos2 (k : Nat) : (0 : Int) < 2 ^ k := Int.pow_pos (by decide)
theorem root_tight {r a : Int} {K m : Nat} (h0 : 0 ≤ r) (h : r * r ≤ a) (ha : a < B64 ^ K) (hm : K ≤ 2 * m) : r < B64 ^ m := by
  rcases Int.lt_or_le r (B64 ^ m) with h1 | h1
  · exact h1
  · exfalso
    have h2 : B64 ^ m * B64 ^ m ≤ r * r := Int.mul_le_mul h1 h1 (Int.le_of_lt (Int.pow_pos B64_pos)) h0
    rw [← Int.pow_add] at h2
    have h3 := pow_mono B64_pos (show K ≤ m + m by omega)
    omega

set_option maxRecDepth 100000 in
set_option maxHeartbeats 1000000 in
theorem Floor_an (v : Value) (n d : Int) (K R : Nat) (w : World) (hv : Rv w v n d K) (hK : K ≤ 1000) (hR : 2 * ((K + 1) / 2 + 1 + 2) ≤ R) :
    Calls Tryz.prog 41 #[v] w (RetZN w (n.fdiv d) R) := by
  obtain ⟨pd, x, y, hv, h⟩ := hv
  have HRR := hid (fun (w' : World) (hb : Below w.heap.size w w') => readRatio_any v x y K w' (hv.below hb (Nat.le_refl _)) (by omega))
  obtain ⟨xb, xo, xm, xc, yb, yo, ym, yc, rfl, _, _⟩ := Ra.opened hv
  have hD := rd_pos y
  obtain ⟨z, hz⟩ : ∃ z, z = rn x y := ⟨_, rfl⟩
  obtain ⟨q, hq'⟩ : ∃ q, q = rd y := ⟨_, rfl⟩
  rw [← hz, ← hq'] at h HRR
  rw [← hq'] at hD
  clear hz hq' hv
  rw [show n.fdiv d = z.fdiv q from (fdiv_ratio (by omega) (by omega) (by grind)).symm]
  have HD0 := hid hD; have HR := hid hR; have HK := hid hK
  clear h hD hR pd
  obtain ⟨W0, hW0⟩ : ∃ W0, W0 = ((w.alloc (.cells #[.bool xb, .slice xo xm xc, .bool yb, .slice yo ym yc] 26)).alloc (.cells #[.bool false, .slice none 0 0] 24)) := ⟨_, rfl⟩
  have hB0 : Below w.heap.size w W0 := by rw [hW0]; exact ((Below.refl _ _).alloc (Nat.le_refl _) _).alloc (by simp <;> omega) _
  have hz0 : W0.heap.size = w.heap.size + 2 := by rw [hW0]; simp
  have HS : Hid (∀ w', Below (w.heap.size + 1) W0 w' → w'.cell? ⟨w.heap.size, 0, none⟩ = some (.bool xb) ∧ w'.cell? ⟨w.heap.size, 1, none⟩ = some (.slice xo xm xc) ∧ w'.cell? ⟨w.heap.size, 2, none⟩ = some (.bool yb) ∧ w'.cell? ⟨w.heap.size, 3, none⟩ = some (.slice yo ym yc)) := hid (fun w' hb => by
    refine ⟨?_, ?_, ?_, ?_⟩ <;> (first | (rw [hb.cell (by simp <;> omega), hW0]; simp [go_sem]; done) | (rw [hb.frozen (by simp <;> omega), hW0]; simp [go_sem]; done)))
  have HT : Hid (∀ w', Below (w.heap.size + 2) W0 w' → (w'.cell? ⟨w.heap.size + 1, 0, none⟩ = some (.bool false) ∧ w'.cell? ⟨w.heap.size + 1, 1, none⟩ = some (.slice none 0 0)) ∧ (w'.frozen? ⟨w.heap.size + 1, 0, none⟩ = false ∧ w'.frozen? ⟨w.heap.size + 1, 1, none⟩ = false)) := hid (fun w' hb => by
    refine ⟨⟨?_, ?_⟩, ?_, ?_⟩ <;> (first | (rw [hb.cell (by simp <;> omega), hW0]; simp [go_sem]; done) | (rw [hb.frozen (by simp <;> omega), hW0]; simp [go_sem]; done)))
  have HB0 := hid hB0; have Hz0 := hid hz0; have HW := hid hW0
  clear hW0 hB0 hz0
  go_enter Tryz.func41, Tryz.ntmps41
  go_upto_region 1 with (fail)
  rw [← HW.out]
  obtain ⟨k0, k1, k2, k3⟩ := HS.out W0 (Below.refl _ _)
  go_wp2_with fail
  refine (HRR.out _ HB0.out).mono ?_
  rintro e w1 ⟨f1, rfl, hf1, hb1⟩
  clear k0 k1 k2 k3
  go_wp2_with fail
  refine (floor_any _ z q _ _ hf1 (by have := HD0.out; omega) (by have := HK.out; omega)).mono ?_
  rintro e w3 ⟨v3, rfl, hv3, hb3⟩
  have hX3 : Below W0.heap.size W0 w3 := bl_tr hb1 hb3
  go_wp2_with fail
  refine (value_any _ _ _ _ hv3 (by have := HK.out;  omega)).mono ?_
  rintro e w4 ⟨_, rfl, hv4, hb4⟩
  obtain ⟨b4, o4, m4, c4, rfl, H4⟩ := FrA.opened hv4
  have hX4 : Below W0.heap.size W0 w4 := bl_tr hX3 hb4
  obtain ⟨⟨hr0, hr1⟩, hf0, hf1⟩ := HT.out _ (hX4.mono (by have := Hz0.out; omega))
  go_wp2
  have hz0 := Hz0.out; have hs3 := hX3.size
  have hw4 : Below w.heap.size w w4 := HB0.out.trans (hX4.mono HB0.out.size)
  have hlt : w.heap.size + 1 < w3.heap.size := by omega
  refine bodyPost_ret (v := .agg #[.bool b4, .slice o4 m4 c4]) (by simp [results, Tryz.results41, go_sem, hr0, hr1]) rfl ⟨b4, o4, m4, c4, rfl, hid ((((H4.out.set hlt _).set hlt _).an).mono (by have := HR.out; omega)), ((hw4.setCell (by simp <;> omega) _).setCell (by simp <;> omega) _)⟩

set_option maxRecDepth 100000 in
set_option maxHeartbeats 1000000 in
theorem Fixed_an (v : Value) (n d : Int) (k K R : Nat) (w : World) (hv : Rv w v n d K) (hk : k ≤ 256) (hK : K ≤ 1000) (hR : 2 * ((K + 1) / 2 + 1 + k / 64 + 1 + 4) ≤ R) :
    Calls Tryz.prog 33 #[v, .int .i64 (k : Int)] w (RetZEN w ((n * 2 ^ k * 2 + d).fdiv (d * 2)) R 0) := by
  obtain ⟨pd, x, y, hv, h⟩ := hv
  have HRR := hid (fun (w' : World) (hb : Below w.heap.size w w') => readRatio_any v x y K w' (hv.below hb (Nat.le_refl _)) (by omega))
  obtain ⟨xb, xo, xm, xc, yb, yo, ym, yc, rfl, _, _⟩ := Ra.opened hv
  have hD := rd_pos y
  obtain ⟨z, hz⟩ : ∃ z, z = rn x y := ⟨_, rfl⟩
  obtain ⟨q, hq'⟩ : ∃ q, q = rd y := ⟨_, rfl⟩
  rw [← hz, ← hq'] at h HRR
  rw [← hq'] at hD
  clear hz hq' hv
  rw [show (n * 2 ^ k * 2 + d).fdiv (d * 2) = (z * 2 ^ k * 2 + q).fdiv (q * 2) from (fdiv_ratio (by omega) (by omega) (by grind)).symm]
  have HD0 := hid hD; have HR := hid hR; have HK := hid hK
  clear h hD hR pd
  have Hk := hid hk
  clear hk
  obtain ⟨W0, hW0⟩ : ∃ W0, W0 = ((w.alloc (.cells #[.bool xb, .slice xo xm xc, .bool yb, .slice yo ym yc] 26)).alloc (.cells #[.bool false, .slice none 0 0] 24)) := ⟨_, rfl⟩
  have hB0 : Below w.heap.size w W0 := by rw [hW0]; exact ((Below.refl _ _).alloc (Nat.le_refl _) _).alloc (by simp <;> omega) _
  have hz0 : W0.heap.size = w.heap.size + 2 := by rw [hW0]; simp
  have HS : Hid (∀ w', Below (w.heap.size + 1) W0 w' → w'.cell? ⟨w.heap.size, 0, none⟩ = some (.bool xb) ∧ w'.cell? ⟨w.heap.size, 1, none⟩ = some (.slice xo xm xc) ∧ w'.cell? ⟨w.heap.size, 2, none⟩ = some (.bool yb) ∧ w'.cell? ⟨w.heap.size, 3, none⟩ = some (.slice yo ym yc)) := hid (fun w' hb => by
    refine ⟨?_, ?_, ?_, ?_⟩ <;> (first | (rw [hb.cell (by simp <;> omega), hW0]; simp [go_sem]; done) | (rw [hb.frozen (by simp <;> omega), hW0]; simp [go_sem]; done)))
  have HT : Hid (∀ w', Below (w.heap.size + 2) W0 w' → (w'.cell? ⟨w.heap.size + 1, 0, none⟩ = some (.bool false) ∧ w'.cell? ⟨w.heap.size + 1, 1, none⟩ = some (.slice none 0 0)) ∧ (w'.frozen? ⟨w.heap.size + 1, 0, none⟩ = false ∧ w'.frozen? ⟨w.heap.size + 1, 1, none⟩ = false)) := hid (fun w' hb => by
    refine ⟨⟨?_, ?_⟩, ?_, ?_⟩ <;> (first | (rw [hb.cell (by simp <;> omega), hW0]; simp [go_sem]; done) | (rw [hb.frozen (by simp <;> omega), hW0]; simp [go_sem]; done)))
  have HB0 := hid hB0; have Hz0 := hid hz0; have HW := hid hW0
  clear hW0 hB0 hz0
  go_enter Tryz.func33, Tryz.ntmps33
  go_upto_region 1 with (fail)
  rw [← HW.out]
  go_wp2_with fail
  refine (validBits_any k _ Hk.out).mono ?_
  rintro e wv ⟨rfl, rfl⟩
  go_upto_region 3 with (fail)
  obtain ⟨k0, k1, k2, k3⟩ := HS.out W0 (Below.refl _ _)
  go_wp2_with fail
  refine (HRR.out _ HB0.out).mono ?_
  rintro e w1 ⟨f1, rfl, hf1, hb1⟩
  clear k0 k1 k2 k3
  go_wp2_with fail
  refine (shifted_any _ z q k _ ((K + 1) / 2 + 1 + k / 64 + 1) _ hf1 (by have := HK.out; omega) (by have := Hk.out; omega) (by omega)).mono ?_
  rintro e w2 ⟨f2, rfl, hf2, hb2⟩
  go_wp2_with fail
  refine (nearest_any _ _ q _ _ hf2 HD0.out (by have := HK.out; have := Hk.out; omega)).mono ?_
  rintro e w3 ⟨v3, rfl, hv3, hb3⟩
  have hX3 : Below W0.heap.size W0 w3 := bl_tr (bl_tr hb1 hb2) hb3
  go_wp2_with fail
  refine (value_any _ _ _ _ hv3 (by have := HK.out; have := Hk.out; omega)).mono ?_
  rintro e w4 ⟨_, rfl, hv4, hb4⟩
  obtain ⟨b4, o4, m4, c4, rfl, H4⟩ := FrA.opened hv4
  have hX4 : Below W0.heap.size W0 w4 := bl_tr hX3 hb4
  obtain ⟨⟨hr0, hr1⟩, hf0, hf1⟩ := HT.out _ (hX4.mono (by have := Hz0.out; omega))
  go_wp2
  have hz0 := Hz0.out; have hs3 := hX3.size
  have hw4 : Below w.heap.size w w4 := HB0.out.trans (hX4.mono HB0.out.size)
  have hlt : w.heap.size + 1 < w3.heap.size := by omega
  refine bodyPost_ret (v := .tuple #[.agg #[.bool b4, .slice o4 m4 c4], .int .i64 0]) (by simp [results, Tryz.results33, go_sem, hr0, hr1]) rfl ⟨b4, o4, m4, c4, rfl, hid ((((H4.out.set hlt _).set hlt _).an).mono (by have := HR.out; omega)), ((hw4.setCell (by simp <;> omega) _).setCell (by simp <;> omega) _)⟩

set_option maxRecDepth 100000 in
set_option maxHeartbeats 1000000 in
theorem FromFixed_fr (v : Value) (z : Int) (k K M R : Nat) (w : World) (hv : Ai w v z K) (hk : k ≤ 256) (hK : K ≤ 1000) (h1 : (K + 1) / 2 ≤ M) (h2 : 1 + k / 64 + 1 ≤ M) (hM : M ≤ 1000) (hR : 2 * M ≤ R) :
    Calls Tryz.prog 35 #[v, .int .i64 (k : Int)] w fun e w' => ∃ f w2, e = .returned (.tuple #[f, .int .i64 0]) ∧ w.heap.size ≤ w2.heap.size ∧ FrR w2 w' f (lowN z (2 ^ k)) (lowD z (2 ^ k)) (2 * M) ∧ Below w.heap.size w w' := by
  obtain ⟨xb, xo, xm, xc, rfl, Hx⟩ := Ai.opened hv
  clear hv
  have Hk := hid hk; have HK := hid hK; have Hl1 := hid h1; have Hl2 := hid h2; have HM := hid hM; have HR := hid hR
  clear hk hK h1 h2 hM hR
  obtain ⟨P, hP⟩ : ∃ P : Int, P = 2 ^ k := ⟨_, rfl⟩
  have HSh := hid (fun (wx : World) (o : Option Addr) (m c : Nat) (hu : Nt wx (.slice o m c) 1 1) => by have h := shiftLeft_any _ 1 k 1 wx hu (by decide) (by have := Hk.out; omega); rw [Int.one_mul, ← hP] at h; exact h)
  have HP0 := hid (show 0 < P by rw [hP]; exact pow_pos2 k)
  rw [← hP]
  clear hP
  obtain ⟨W0, hW0⟩ : ∃ W0, W0 = ((w.alloc (.cells #[.bool xb, .slice xo xm xc] 24)).alloc (.cells #[.bool false, .slice none 0 0, .bool false, .slice none 0 0] 26)) := ⟨_, rfl⟩
  have hB0 : Below w.heap.size w W0 := by rw [hW0]; exact ((Below.refl _ _).alloc (Nat.le_refl _) _).alloc (by simp <;> omega) _
  have hz0 : W0.heap.size = w.heap.size + 2 := by rw [hW0]; simp
  have HS : Hid (∀ w', Below (w.heap.size + 1) W0 w' → w'.cell? ⟨w.heap.size, 0, none⟩ = some (.bool xb) ∧ w'.cell? ⟨w.heap.size, 1, none⟩ = some (.slice xo xm xc)) := hid (fun w' hb => by
    refine ⟨?_, ?_⟩ <;> (first | (rw [hb.cell (by simp <;> omega), hW0]; simp [go_sem]; done) | (rw [hb.frozen (by simp <;> omega), hW0]; simp [go_sem]; done)))
  have HT : Hid (∀ w', Below (w.heap.size + 2) W0 w' → (w'.cell? ⟨w.heap.size + 1, 0, none⟩ = some (.bool false) ∧ w'.cell? ⟨w.heap.size + 1, 1, none⟩ = some (.slice none 0 0) ∧ w'.cell? ⟨w.heap.size + 1, 2, none⟩ = some (.bool false) ∧ w'.cell? ⟨w.heap.size + 1, 3, none⟩ = some (.slice none 0 0)) ∧ (w'.frozen? ⟨w.heap.size + 1, 0, none⟩ = false ∧ w'.frozen? ⟨w.heap.size + 1, 1, none⟩ = false ∧ w'.frozen? ⟨w.heap.size + 1, 2, none⟩ = false ∧ w'.frozen? ⟨w.heap.size + 1, 3, none⟩ = false)) := hid (fun w' hb => by
    refine ⟨⟨?_, ?_, ?_, ?_⟩, ?_, ?_, ?_, ?_⟩ <;> (first | (rw [hb.cell (by simp <;> omega), hW0]; simp [go_sem]; done) | (rw [hb.frozen (by simp <;> omega), hW0]; simp [go_sem]; done)))
  have HB0 := hid hB0; have Hz0 := hid hz0; have HW := hid hW0
  clear hW0 hB0 hz0
  have hbld : ∀ (b : Bool) (o o2 : Option Addr) (m c m2 c2 : Nat) (w : World), (Instr.build 80 #[(0, .agg #[.bool b, .slice o m c]), (1, .slice o2 m2 c2)]).run Tryz.prog w = .ok (.agg #[.bool b, .slice o m c, .slice o2 m2 c2]) w := fun b o o2 m c m2 c2 w => by kernel_rfl
  go_enter Tryz.func35, Tryz.ntmps35
  go_upto_region 1 with (fail)
  rw [← HW.out]
  go_wp2_with fail
  refine (validBits_any k _ Hk.out).mono ?_
  rintro e wv ⟨rfl, rfl⟩
  go_upto_region 3 with (fail)
  obtain ⟨k0, k1⟩ := HS.out W0 (Below.refl _ _)
  go_wp2_with fail
  refine (read_any _ z K _ (Hx.out _ HB0.out) (by have := HK.out; omega)).mono ?_
  rintro e w1 ⟨_, rfl, hv1, hb1⟩
  obtain ⟨b1, o1, m1, c1, rfl, H1, H1s, H1b⟩ := It.opened hv1
  clear k0 k1
  go_wp2_with fail
  refine (HSh.out _ _ _ _ (one_row w1)).mono ?_
  rintro e w2 ⟨_, rfl, hv2, hb2⟩
  obtain ⟨o2, m2, c2, rfl, H2⟩ := Nt.opened hv2
  have hb12 : Below w1.heap.size w1 w2 := bl_tr (bl_new _) hb2
  have hX2 : Below W0.heap.size W0 w2 := bl_tr hb1 hb12
  go_wp2_with fail
  refine (fracValue_any _ z P M _ ⟨_, _, by rw [H1b.out], (H1s.out _ hb12).mono Hl1.out, hv2.mono Hl2.out⟩ HP0.out (by have := HM.out; omega)).mono ?_
  rintro e w4 ⟨_, rfl, hr4, hb4⟩
  obtain ⟨b4, o4, m4, c4, b5, o5, m5, c5, rfl, H4, H5⟩ := FrR.opened hr4
  have hX4 : Below W0.heap.size W0 w4 := bl_tr hX2 hb4
  obtain ⟨⟨hr0, hr1, hr2, hr3⟩, hf0, hf1, hf2, hf3⟩ := HT.out _ (hX4.mono (by have := Hz0.out; omega))
  go_wp2
  have hz0 := Hz0.out; have hs3 := hX2.size
  have hw4 : Below w.heap.size w w4 := HB0.out.trans (hX4.mono HB0.out.size)
  have hlt : w.heap.size + 1 < w2.heap.size := by omega
  have hfr : FrR w2 ((((w4.setCell ⟨w.heap.size + 1, 0, none⟩ (.bool b4)).setCell ⟨w.heap.size + 1, 1, none⟩ (.slice o4 m4 c4)).setCell ⟨w.heap.size + 1, 2, none⟩ (.bool b5)).setCell ⟨w.heap.size + 1, 3, none⟩ (.slice o5 m5 c5)) (.agg #[.bool b4, .slice o4 m4 c4, .bool b5, .slice o5 m5 c5]) (lowN z P) (lowD z P) (2 * M) := ⟨_, _, _, _, rfl, (((H4.out.set hlt _).set hlt _).set hlt _).set hlt _, (((H5.out.set hlt _).set hlt _).set hlt _).set hlt _⟩
  refine bodyPost_ret (v := .tuple #[.agg #[.bool b4, .slice o4 m4 c4, .bool b5, .slice o5 m5 c5], .int .i64 0]) (by simp [results, Tryz.results35, go_sem, hr0, hr1, hr2, hr3]) rfl ⟨_, w2, rfl, by omega, hfr, ((((hw4.setCell (by simp <;> omega) _).setCell (by simp <;> omega) _).setCell (by simp <;> omega) _).setCell (by simp <;> omega) _)⟩

set_option maxRecDepth 100000 in
set_option maxHeartbeats 1000000 in
theorem RootFixed_neg (v : Value) (n d : Int) (k K : Nat) (w : World) (hv : Rv w v n d K) (hn : n < 0) (hk : k ≤ 256) (hK : K ≤ 1000) :
    Calls Tryz.prog 38 #[v, .int .i64 (k : Int)] w fun e w' => e = .returned (.tuple #[.agg #[.bool false, .slice none 0 0], .int .i64 2]) ∧ Below w.heap.size w w' := by
  obtain ⟨pd, x, y, hv, h⟩ := hv
  have HRR := hid (fun (w' : World) (hb : Below w.heap.size w w') => readRatio_any v x y K w' (hv.below hb (Nat.le_refl _)) (by omega))
  obtain ⟨xb, xo, xm, xc, yb, yo, ym, yc, rfl, _, _⟩ := Ra.opened hv
  have hD := rd_pos y
  obtain ⟨z, hz⟩ : ∃ z, z = rn x y := ⟨_, rfl⟩
  obtain ⟨q, hq'⟩ : ∃ q, q = rd y := ⟨_, rfl⟩
  rw [← hz, ← hq'] at h HRR
  rw [← hq'] at hD
  clear hz hq' hv
  have Hz := hid (neg_of pd hD h hn); have Hk := hid hk
  clear h hD hn pd hK hk
  obtain ⟨W0, hW0⟩ : ∃ W0, W0 = ((w.alloc (.cells #[.bool xb, .slice xo xm xc, .bool yb, .slice yo ym yc] 26)).alloc (.cells #[.bool false, .slice none 0 0] 24)) := ⟨_, rfl⟩
  have hB0 : Below w.heap.size w W0 := by rw [hW0]; exact ((Below.refl _ _).alloc (Nat.le_refl _) _).alloc (by simp <;> omega) _
  have hz0 : W0.heap.size = w.heap.size + 2 := by rw [hW0]; simp
  have HS : Hid (∀ w', Below (w.heap.size + 1) W0 w' → w'.cell? ⟨w.heap.size, 0, none⟩ = some (.bool xb) ∧ w'.cell? ⟨w.heap.size, 1, none⟩ = some (.slice xo xm xc) ∧ w'.cell? ⟨w.heap.size, 2, none⟩ = some (.bool yb) ∧ w'.cell? ⟨w.heap.size, 3, none⟩ = some (.slice yo ym yc)) := hid (fun w' hb => by
    refine ⟨?_, ?_, ?_, ?_⟩ <;> (first | (rw [hb.cell (by simp <;> omega), hW0]; simp [go_sem]; done) | (rw [hb.frozen (by simp <;> omega), hW0]; simp [go_sem]; done)))
  have HT : Hid (∀ w', Below (w.heap.size + 2) W0 w' → (w'.cell? ⟨w.heap.size + 1, 0, none⟩ = some (.bool false) ∧ w'.cell? ⟨w.heap.size + 1, 1, none⟩ = some (.slice none 0 0)) ∧ (w'.frozen? ⟨w.heap.size + 1, 0, none⟩ = false ∧ w'.frozen? ⟨w.heap.size + 1, 1, none⟩ = false)) := hid (fun w' hb => by
    refine ⟨⟨?_, ?_⟩, ?_, ?_⟩ <;> (first | (rw [hb.cell (by simp <;> omega), hW0]; simp [go_sem]; done) | (rw [hb.frozen (by simp <;> omega), hW0]; simp [go_sem]; done)))
  have HB0 := hid hB0; have Hz0 := hid hz0; have HW := hid hW0
  clear hW0 hB0 hz0
  go_enter Tryz.func38, Tryz.ntmps38
  go_upto_region 1 with (fail)
  rw [← HW.out]
  obtain ⟨k0, k1, k2, k3⟩ := HS.out W0 (Below.refl _ _)
  go_wp2_with fail
  refine (HRR.out _ HB0.out).mono ?_
  rintro e w1 ⟨_, rfl, hf1, hb1⟩
  obtain ⟨fb, fo, fm, fc, go, gm, gc, rfl, HF, _, HFb⟩ := Ft.opened hf1
  clear k0 k1 k2 k3
  obtain rfl : fb = true := by rw [HFb.out]; exact decide_eq_true Hz.out
  obtain ⟨W2, hW2⟩ : ∃ W2, W2 = w1.alloc (.cells #[.bool true, .slice fo fm fc, .slice go gm gc] 80) := ⟨_, rfl⟩
  have hal : Below w1.heap.size w1 W2 := by rw [hW2]; exact bl_new _
  have hX2 : Below W0.heap.size W0 W2 := bl_tr hb1 hal
  obtain ⟨k0, k1, k2⟩ : W2.cell? ⟨w1.heap.size, 0, none⟩ = some (.bool true) ∧ W2.cell? ⟨w1.heap.size, 1, none⟩ = some (.slice fo fm fc) ∧ W2.cell? ⟨w1.heap.size, 2, none⟩ = some (.slice go gm gc) := by rw [hW2]; simp [go_sem]
  have HW2 := hid hW2; have HX2 := hid hX2; have HF2 := hid (hf1.below hal (Nat.le_refl _))
  clear hW2 hX2 hal hf1 hb1
  go_upto_region 2 with (fail)
  rw [← HW2.out]
  go_wp2_with fail
  refine (validBits_any k _ Hk.out).mono ?_
  rintro e wv ⟨rfl, rfl⟩
  obtain ⟨⟨hr0, hr1⟩, hf0, hf1⟩ := HT.out _ (HX2.out.mono (by have := Hz0.out; omega))
  have hw4 := hid (HB0.out.trans (HX2.out.mono HB0.out.size))
  have hz0 := Hz0.out
  go_wp2
  refine bodyPost_ret (v := .tuple #[.agg #[.bool false, .slice none 0 0], .int .i64 2]) (by simp [results, Tryz.results38, go_sem, hr0, hr1]) rfl ⟨rfl, ((hw4.out.setCell (by simp <;> omega) _).setCell (by simp <;> omega) _)⟩

set_option maxRecDepth 100000 in
set_option maxHeartbeats 1000000 in
theorem RootFixed_an (v : Value) (n d : Int) (k K R : Nat) (w : World) (hv : Rv w v n d K) (hn : 0 ≤ n) (hk : k ≤ 256) (hK : K ≤ 1000) (hR : 2 * (((K + 1) / 2 + 13) / 2) ≤ R) :
    Calls Tryz.prog 38 #[v, .int .i64 (k : Int)] w fun e w' => ∃ r : Int, (0 ≤ r ∧ r * r ≤ (n * 2 ^ (2 * k)).fdiv d ∧ (n * 2 ^ (2 * k)).fdiv d < (r + 1) * (r + 1)) ∧ RetZEN w r R 0 e w' := by
  obtain ⟨pd, x, y, hv, h⟩ := hv
  have HRR := hid (fun (w' : World) (hb : Below w.heap.size w w') => readRatio_any v x y K w' (hv.below hb (Nat.le_refl _)) (by omega))
  obtain ⟨xb, xo, xm, xc, yb, yo, ym, yc, rfl, _, _⟩ := Ra.opened hv
  have hD := rd_pos y
  obtain ⟨z, hz⟩ : ∃ z, z = rn x y := ⟨_, rfl⟩
  obtain ⟨q, hq'⟩ : ∃ q, q = rd y := ⟨_, rfl⟩
  rw [← hz, ← hq'] at h HRR
  rw [← hq'] at hD
  clear hz hq' hv
  have hz0 := nonneg_of pd hD h hn
  rw [show (n * 2 ^ (2 * k)).fdiv d = (z * 2 ^ (2 * k)).fdiv q from (fdiv_ratio (by omega) (by omega) (by grind)).symm]
  have Hz := hid hz0; have Hk := hid hk; have HD0 := hid hD; have HK := hid hK; have HR := hid hR
  have HFn := hid (show 0 ≤ (z * 2 ^ (2 * k)).fdiv q by
    have h1 := (fdiv_le (z * 2 ^ (2 * k)) hD).2
    have h2 := Int.mul_nonneg hz0 (Int.le_of_lt (pow_pos2 (2 * k)))
    rcases Int.lt_or_le ((z * 2 ^ (2 * k)).fdiv q) 0 with h3 | h3
    · have := Int.mul_nonneg (show 0 ≤ -((z * 2 ^ (2 * k)).fdiv q + 1) by omega) (Int.le_of_lt hD)
      rw [Int.neg_mul] at this
      omega
    · exact h3)
  clear h hD hn pd hK hk hR hz0
  obtain ⟨F, hF⟩ : ∃ F : Int, F = (z * 2 ^ (2 * k)).fdiv q := ⟨_, rfl⟩
  rw [← hF]
  rw [← hF] at HFn
  have HFl := hid (fun (wx : World) (u : Value) (hu : Ft wx u (z * 2 ^ (2 * k)) q ((K + 1) / 2 + 1 + 9)) => by have hs := floor_any u _ q _ wx hu (by have := HD0.out; omega) (by have := HK.out; omega); rw [← hF] at hs; exact hs)
  clear hF
  obtain ⟨W0, hW0⟩ : ∃ W0, W0 = ((w.alloc (.cells #[.bool xb, .slice xo xm xc, .bool yb, .slice yo ym yc] 26)).alloc (.cells #[.bool false, .slice none 0 0] 24)) := ⟨_, rfl⟩
  have hB0 : Below w.heap.size w W0 := by rw [hW0]; exact ((Below.refl _ _).alloc (Nat.le_refl _) _).alloc (by simp <;> omega) _
  have hz0 : W0.heap.size = w.heap.size + 2 := by rw [hW0]; simp
  have HS : Hid (∀ w', Below (w.heap.size + 1) W0 w' → w'.cell? ⟨w.heap.size, 0, none⟩ = some (.bool xb) ∧ w'.cell? ⟨w.heap.size, 1, none⟩ = some (.slice xo xm xc) ∧ w'.cell? ⟨w.heap.size, 2, none⟩ = some (.bool yb) ∧ w'.cell? ⟨w.heap.size, 3, none⟩ = some (.slice yo ym yc)) := hid (fun w' hb => by
    refine ⟨?_, ?_, ?_, ?_⟩ <;> (first | (rw [hb.cell (by simp <;> omega), hW0]; simp [go_sem]; done) | (rw [hb.frozen (by simp <;> omega), hW0]; simp [go_sem]; done)))
  have HT : Hid (∀ w', Below (w.heap.size + 2) W0 w' → (w'.cell? ⟨w.heap.size + 1, 0, none⟩ = some (.bool false) ∧ w'.cell? ⟨w.heap.size + 1, 1, none⟩ = some (.slice none 0 0)) ∧ (w'.frozen? ⟨w.heap.size + 1, 0, none⟩ = false ∧ w'.frozen? ⟨w.heap.size + 1, 1, none⟩ = false)) := hid (fun w' hb => by
    refine ⟨⟨?_, ?_⟩, ?_, ?_⟩ <;> (first | (rw [hb.cell (by simp <;> omega), hW0]; simp [go_sem]; done) | (rw [hb.frozen (by simp <;> omega), hW0]; simp [go_sem]; done)))
  have HB0 := hid hB0; have Hz0 := hid hz0; have HW := hid hW0
  clear hW0 hB0 hz0
  go_enter Tryz.func38, Tryz.ntmps38
  go_upto_region 1 with (fail)
  rw [← HW.out]
  obtain ⟨k0, k1, k2, k3⟩ := HS.out W0 (Below.refl _ _)
  go_wp2_with fail
  refine (HRR.out _ HB0.out).mono ?_
  rintro e w1 ⟨_, rfl, hf1, hb1⟩
  obtain ⟨fb, fo, fm, fc, go, gm, gc, rfl, HF, _, HFb⟩ := Ft.opened hf1
  clear k0 k1 k2 k3
  obtain rfl : fb = false := by rw [HFb.out]; exact decide_eq_false (by have := Hz.out; omega)
  obtain ⟨W2, hW2⟩ : ∃ W2, W2 = w1.alloc (.cells #[.bool false, .slice fo fm fc, .slice go gm gc] 80) := ⟨_, rfl⟩
  have hal : Below w1.heap.size w1 W2 := by rw [hW2]; exact bl_new _
  have hX2 : Below W0.heap.size W0 W2 := bl_tr hb1 hal
  obtain ⟨k0, k1, k2⟩ : W2.cell? ⟨w1.heap.size, 0, none⟩ = some (.bool false) ∧ W2.cell? ⟨w1.heap.size, 1, none⟩ = some (.slice fo fm fc) ∧ W2.cell? ⟨w1.heap.size, 2, none⟩ = some (.slice go gm gc) := by rw [hW2]; simp [go_sem]
  have HW2 := hid hW2; have HX2 := hid hX2; have HF2 := hid (hf1.below hal (Nat.le_refl _))
  clear hW2 hX2 hal hf1 hb1
  go_upto_region 2 with (fail)
  rw [← HW2.out]
  go_wp2_with fail
  refine (validBits_any k _ Hk.out).mono ?_
  rintro e wv ⟨rfl, rfl⟩
  have HSh := hid (fun (wx : World) (u : Value) (hu : Ft wx u z q ((K + 1) / 2 + 1)) => by have hs := shifted_any u z q (2 * k) _ ((K + 1) / 2 + 1 + 9) wx hu (by have := HK.out; omega) (by have := Hk.out; omega) (by have := Hk.out; omega); rw [show ((2 * k : Nat) : Int) = 2 * (k : Int) by omega] at hs; exact hs)
  have hk1 : (0 : Int) ≤ (k : Int) := by omega
  have hk2 : (k : Int) ≤ 256 := by have := Hk.out; omega
  go_upto_region 4 with (fail)
  go_wp2_with fail
  refine (HSh.out _ _ HF2.out).mono ?_
  rintro e w3 ⟨f3, rfl, hf3, hb3⟩
  clear k0 k1 k2
  go_wp2_with fail
  refine (HFl.out _ _ hf3).mono ?_
  rintro e w4 ⟨_, rfl, hv4, hb4⟩
  obtain ⟨b4, o4, m4, c4, rfl, H4, H4s, H4b⟩ := It.opened hv4
  have hfld : ∀ w : World, (Instr.field 78 (.agg #[.bool b4, .slice o4 m4 c4]) 1).run Tryz.prog w = .ok (.slice o4 m4 c4) w := fun w => by kernel_rfl
  have hN4 := H4s.out _ (Below.refl _ _)
  rw [show (F.natAbs : Int) = F by have := HFn.out; omega] at hN4
  go_wp2_with fail
  refine (root_any _ F _ _ hN4 (by have := HK.out; omega)).mono ?_
  rintro e w5 ⟨r, hr0, hr1, hr2, _, rfl, hv5, hb5⟩
  have hv5' := hv5.tight (K' := ((K + 1) / 2 + 13) / 2) (root_tight hr0 hr1 hN4.lt (by omega))
  have Hr := hid (show 0 ≤ r ∧ r * r ≤ F ∧ F < (r + 1) * (r + 1) from ⟨hr0, hr1, hr2⟩)
  clear hr0 hr1 hr2 hv5
  obtain ⟨o5, m5, c5, rfl, H5⟩ := Nt.opened hv5'
  have hX5 : Below W0.heap.size W0 w5 := bl_tr (bl_tr (bl_tr HX2.out hb3) hb4) hb5
  clear hfld
  go_wp2_with fail
  refine (signed_eq false _ r r _ _ hv5' rfl).mono ?_
  rintro e w6 ⟨v6, rfl, hv6, hb6⟩
  have hX6 : Below W0.heap.size W0 w6 := bl_tr hX5 hb6
  go_wp2_with fail
  refine (value_any _ _ _ _ hv6 (by have := HK.out; omega)).mono ?_
  rintro e w7 ⟨_, rfl, hv7, hb7⟩
  obtain ⟨b7, o7, m7, c7, rfl, H7⟩ := FrA.opened hv7
  have hX7 : Below W0.heap.size W0 w7 := bl_tr hX6 hb7
  obtain ⟨⟨hr0, hr1⟩, hf0, hf1⟩ := HT.out _ (hX7.mono (by have := Hz0.out; omega))
  go_wp2
  have hz0 := Hz0.out; have hs3 := hX6.size
  have hw4 : Below w.heap.size w w7 := HB0.out.trans (hX7.mono HB0.out.size)
  have hlt : w.heap.size + 1 < w6.heap.size := by omega
  refine bodyPost_ret (v := .tuple #[.agg #[.bool b7, .slice o7 m7 c7], .int .i64 0]) (by simp [results, Tryz.results38, go_sem, hr0, hr1]) rfl ⟨r, Hr.out, b7, o7, m7, c7, rfl, hid ((((H7.out.set hlt _).set hlt _).an).mono (by have := HR.out; omega)), ((hw4.setCell (by simp <;> omega) _).setCell (by simp <;> omega) _)⟩

end Go.Proofs.YtbapeilpkhbbeaaGreat
