/- exact.Floor, Fixed, FromFixed, RootFixed by values. Written by gen_nearv.py. The simplest fraction between two: plain mathematics, nothing of the program. -/
import Derived.Test.YtilpkocmdpofpaaGreatDoorNb32
import Derived.Test.YtilpkocmdpofpaaGreatDoorNb33
import Derived.Test.YtilpkocmdpofpaaGreatDoorNb01
/- exact.Floor, Fixed, FromFixed, RootFixed by values. Written by gen_nearv.py. -/
namespace Go.Proofs.YtilpkocmdpofpaaGreatDoor
open Go.RowKit

theorem nonneg_of {r d n e : Int} (hd : 0 < d) (he : 0 < e) (h : r * d = n * e) (hn : 0 ≤ n) : 0 ≤ r := by
  rcases Int.lt_or_le r 0 with hr | hr
  · have h1 : r * d < 0 := Int.mul_neg_of_neg_of_pos hr hd
    have h2 := Int.mul_nonneg hn (Int.le_of_lt he)
    omega
  · exact hr
theorem pow_pos2 (k : Nat) : (0 : Int) < 2 ^ k := Int.pow_pos (by decide)
theorem root_tight {r a : Int} {K m : Nat} (h0 : 0 ≤ r) (h : r * r ≤ a) (ha : a < B64 ^ K) (hm : K ≤ 2 * m) : r < B64 ^ m := by
  rcases Int.lt_or_le r (B64 ^ m) with h1 | h1
  · exact h1
  · exfalso
    have h2 : B64 ^ m * B64 ^ m ≤ r * r := Int.mul_le_mul h1 h1 (Int.le_of_lt (Int.pow_pos B64_pos)) h0
    rw [← Int.pow_add] at h2
    have h3 := pow_mono B64_pos (show K ≤ m + m by omega)
    omega

/-- The call hands back an integer, open, and an error. -/
def RetZEI (w : World) (z : Int) (R : Nat) (err : Int) (e : Ending) (w' : World) : Prop := ∃ b o m c, e = .returned (.tuple #[.agg #[.bool b, .slice o m c], .int .i64 err]) ∧ Hid (Ai w' (.agg #[.bool b, .slice o m c]) z R) ∧ Below w.heap.size w w'

set_option maxRecDepth 100000 in
set_option maxHeartbeats 1000000 in
theorem Floor_rv (v : Value) (n d : Int) (K R : Nat) (w : World) (hv : Rv w v n d K) (hK : K ≤ 1000) (hR : 2 * ((K + 1) / 2 + 1 + 2) ≤ R) :
    Calls Tryz.prog 28 #[v] w (RetZI w (n.fdiv d) R) := by
  obtain ⟨pd, x, y, hv, h⟩ := hv
  have HRR := hid (fun (w' : World) (hb : Below w.heap.size w w') => readRatio_any v x y K w' (hv.below hb (Nat.le_refl _)) (by omega))
  obtain ⟨xb, xo, xm, xc, yb, yo, ym, yc, rfl, _, _⟩ := Ra.opened hv
  have hD := rd_pos y
  obtain ⟨z, hz⟩ : ∃ z, z = rn x y := ⟨_, rfl⟩
  obtain ⟨q, hq'⟩ : ∃ q, q = rd y := ⟨_, rfl⟩
  rw [← hz, ← hq'] at h HRR
  rw [← hq'] at hD
  clear hz hq' hv
  rw [show n.fdiv d = z.fdiv q from (fdiv_ratio (by omega) (by omega) (by grind)).symm]
  have HD0 := hid hD; have HR := hid hR; have HK := hid hK
  clear h hD hR pd
  obtain ⟨W0, hW0⟩ : ∃ W0, W0 = ((w.alloc (.cells #[.bool xb, .slice xo xm xc, .bool yb, .slice yo ym yc] 26)).alloc (.cells #[.bool false, .slice none 0 0] 24)) := ⟨_, rfl⟩
  have hB0 : Below w.heap.size w W0 := by rw [hW0]; exact ((Below.refl _ _).alloc (Nat.le_refl _) _).alloc (by simp <;> omega) _
  have hz0 : W0.heap.size = w.heap.size + 2 := by rw [hW0]; simp
  have HS : Hid (∀ w', Below (w.heap.size + 1) W0 w' → w'.cell? ⟨w.heap.size, 0, none⟩ = some (.bool xb) ∧ w'.cell? ⟨w.heap.size, 1, none⟩ = some (.slice xo xm xc) ∧ w'.cell? ⟨w.heap.size, 2, none⟩ = some (.bool yb) ∧ w'.cell? ⟨w.heap.size, 3, none⟩ = some (.slice yo ym yc)) := hid (fun w' hb => by
    refine ⟨?_, ?_, ?_, ?_⟩ <;> (first | (rw [hb.cell (by simp <;> omega), hW0]; simp [go_sem]; done) | (rw [hb.frozen (by simp <;> omega), hW0]; simp [go_sem]; done)))
  have HT : Hid (∀ w', Below (w.heap.size + 2) W0 w' → (w'.cell? ⟨w.heap.size + 1, 0, none⟩ = some (.bool false) ∧ w'.cell? ⟨w.heap.size + 1, 1, none⟩ = some (.slice none 0 0)) ∧ (w'.frozen? ⟨w.heap.size + 1, 0, none⟩ = false ∧ w'.frozen? ⟨w.heap.size + 1, 1, none⟩ = false)) := hid (fun w' hb => by
    refine ⟨⟨?_, ?_⟩, ?_, ?_⟩ <;> (first | (rw [hb.cell (by simp <;> omega), hW0]; simp [go_sem]; done) | (rw [hb.frozen (by simp <;> omega), hW0]; simp [go_sem]; done)))
  have HB0 := hid hB0; have Hz0 := hid hz0; have HW := hid hW0
  clear hW0 hB0 hz0
  go_enter Tryz.func28, Tryz.ntmps28
  go_upto_region 1 with (fail)
  rw [← HW.out]
  obtain ⟨k0, k1, k2, k3⟩ := HS.out W0 (Below.refl _ _)
  go_wp2_with fail
  refine (HRR.out _ HB0.out).mono ?_
  rintro e w1 ⟨f1, rfl, hf1, hb1⟩
  clear k0 k1 k2 k3
  go_wp2_with fail
  refine (floor_any _ z q _ _ hf1 (by have := HD0.out; omega) (by have := HK.out; omega)).mono ?_
  rintro e w3 ⟨v3, rfl, hv3, hb3⟩
  have hX3 : Below W0.heap.size W0 w3 := bl_tr hb1 hb3
  go_wp2_with fail
  refine (value_any _ _ _ _ hv3 (by have := HK.out;  omega)).mono ?_
  rintro e w4 ⟨_, rfl, hv4, hb4⟩
  obtain ⟨b4, o4, m4, c4, rfl, H4⟩ := FrA.opened hv4
  have hX4 : Below W0.heap.size W0 w4 := bl_tr hX3 hb4
  obtain ⟨⟨hr0, hr1⟩, hf0, hf1⟩ := HT.out _ (hX4.mono (by have := Hz0.out; omega))
  go_wp2
  have hz0 := Hz0.out; have hs3 := hX3.size
  have hw4 : Below w.heap.size w w4 := HB0.out.trans (hX4.mono HB0.out.size)
  have hlt : w.heap.size + 1 < w3.heap.size := by omega
  refine bodyPost_ret (v := .agg #[.bool b4, .slice o4 m4 c4]) (by simp [results, Tryz.results28, go_sem, hr0, hr1]) rfl ⟨b4, o4, m4, c4, rfl, hid ((((H4.out.set hlt _).set hlt _).ai).mono (by have := HR.out; omega)), ((hw4.setCell (by simp <;> omega) _).setCell (by simp <;> omega) _)⟩

set_option maxRecDepth 100000 in
set_option maxHeartbeats 1000000 in
theorem RootFixed_rv (v : Value) (n d : Int) (k K R : Nat) (w : World) (hv : Rv w v n d K) (hn : 0 ≤ n) (hk : k ≤ 256) (hK : K ≤ 1000) (hR : 2 * (((K + 1) / 2 + 13) / 2) ≤ R) :
    Calls Tryz.prog 30 #[v, .int .i64 (k : Int)] w fun e w' => ∃ r : Int, (0 ≤ r ∧ r * r ≤ (n * 2 ^ (2 * k)).fdiv d ∧ (n * 2 ^ (2 * k)).fdiv d < (r + 1) * (r + 1)) ∧ RetZEI w r R 0 e w' := by
  obtain ⟨pd, x, y, hv, h⟩ := hv
  have HRR := hid (fun (w' : World) (hb : Below w.heap.size w w') => readRatio_any v x y K w' (hv.below hb (Nat.le_refl _)) (by omega))
  obtain ⟨xb, xo, xm, xc, yb, yo, ym, yc, rfl, _, _⟩ := Ra.opened hv
  have hD := rd_pos y
  obtain ⟨z, hz⟩ : ∃ z, z = rn x y := ⟨_, rfl⟩
  obtain ⟨q, hq'⟩ : ∃ q, q = rd y := ⟨_, rfl⟩
  rw [← hz, ← hq'] at h HRR
  rw [← hq'] at hD
  clear hz hq' hv
  have hz0 := nonneg_of pd hD h hn
  rw [show (n * 2 ^ (2 * k)).fdiv d = (z * 2 ^ (2 * k)).fdiv q from (fdiv_ratio (by omega) (by omega) (by grind)).symm]
  have Hz := hid hz0; have Hk := hid hk; have HD0 := hid hD; have HK := hid hK; have HR := hid hR
  have HFn := hid (show 0 ≤ (z * 2 ^ (2 * k)).fdiv q by
    have h1 := (fdiv_le (z * 2 ^ (2 * k)) hD).2
    have h2 := Int.mul_nonneg hz0 (Int.le_of_lt (pow_pos2 (2 * k)))
    rcases Int.lt_or_le ((z * 2 ^ (2 * k)).fdiv q) 0 with h3 | h3
    · have := Int.mul_nonneg (show 0 ≤ -((z * 2 ^ (2 * k)).fdiv q + 1) by omega) (Int.le_of_lt hD)
      rw [Int.neg_mul] at this
      omega
    · exact h3)
  clear h hD hn pd hK hk hR hz0
  obtain ⟨F, hF⟩ : ∃ F : Int, F = (z * 2 ^ (2 * k)).fdiv q := ⟨_, rfl⟩
  rw [← hF]
  rw [← hF] at HFn
  have HFl := hid (fun (wx : World) (u : Value) (hu : Ft wx u (z * 2 ^ (2 * k)) q ((K + 1) / 2 + 1 + 9)) => by have hs := floor_any u _ q _ wx hu (by have := HD0.out; omega) (by have := HK.out; omega); rw [← hF] at hs; exact hs)
  clear hF
  obtain ⟨W0, hW0⟩ : ∃ W0, W0 = ((w.alloc (.cells #[.bool xb, .slice xo xm xc, .bool yb, .slice yo ym yc] 26)).alloc (.cells #[.bool false, .slice none 0 0] 24)) := ⟨_, rfl⟩
  have hB0 : Below w.heap.size w W0 := by rw [hW0]; exact ((Below.refl _ _).alloc (Nat.le_refl _) _).alloc (by simp <;> omega) _
  have hz0 : W0.heap.size = w.heap.size + 2 := by rw [hW0]; simp
  have HS : Hid (∀ w', Below (w.heap.size + 1) W0 w' → w'.cell? ⟨w.heap.size, 0, none⟩ = some (.bool xb) ∧ w'.cell? ⟨w.heap.size, 1, none⟩ = some (.slice xo xm xc) ∧ w'.cell? ⟨w.heap.size, 2, none⟩ = some (.bool yb) ∧ w'.cell? ⟨w.heap.size, 3, none⟩ = some (.slice yo ym yc)) := hid (fun w' hb => by
    refine ⟨?_, ?_, ?_, ?_⟩ <;> (first | (rw [hb.cell (by simp <;> omega), hW0]; simp [go_sem]; done) | (rw [hb.frozen (by simp <;> omega), hW0]; simp [go_sem]; done)))
  have HT : Hid (∀ w', Below (w.heap.size + 2) W0 w' → (w'.cell? ⟨w.heap.size + 1, 0, none⟩ = some (.bool false) ∧ w'.cell? ⟨w.heap.size + 1, 1, none⟩ = some (.slice none 0 0)) ∧ (w'.frozen? ⟨w.heap.size + 1, 0, none⟩ = false ∧ w'.frozen? ⟨w.heap.size + 1, 1, none⟩ = false)) := hid (fun w' hb => by
    refine ⟨⟨?_, ?_⟩, ?_, ?_⟩ <;> (first | (rw [hb.cell (by simp <;> omega), hW0]; simp [go_sem]; done) | (rw [hb.frozen (by simp <;> omega), hW0]; simp [go_sem]; done)))
  have HB0 := hid hB0; have Hz0 := hid hz0; have HW := hid hW0
  clear hW0 hB0 hz0
  go_enter Tryz.func30, Tryz.ntmps30
  go_upto_region 1 with (fail)
  rw [← HW.out]
  obtain ⟨k0, k1, k2, k3⟩ := HS.out W0 (Below.refl _ _)
  go_wp2_with fail
  refine (HRR.out _ HB0.out).mono ?_
  rintro e w1 ⟨_, rfl, hf1, hb1⟩
  obtain ⟨fb, fo, fm, fc, go, gm, gc, rfl, HF, _, HFb⟩ := Ft.opened hf1
  clear k0 k1 k2 k3
  obtain rfl : fb = false := by rw [HFb.out]; exact decide_eq_false (by have := Hz.out; omega)
  obtain ⟨W2, hW2⟩ : ∃ W2, W2 = w1.alloc (.cells #[.bool false, .slice fo fm fc, .slice go gm gc] 86) := ⟨_, rfl⟩
  have hal : Below w1.heap.size w1 W2 := by rw [hW2]; exact bl_new _
  have hX2 : Below W0.heap.size W0 W2 := bl_tr hb1 hal
  obtain ⟨k0, k1, k2⟩ : W2.cell? ⟨w1.heap.size, 0, none⟩ = some (.bool false) ∧ W2.cell? ⟨w1.heap.size, 1, none⟩ = some (.slice fo fm fc) ∧ W2.cell? ⟨w1.heap.size, 2, none⟩ = some (.slice go gm gc) := by rw [hW2]; simp [go_sem]
  have HW2 := hid hW2; have HX2 := hid hX2; have HF2 := hid (hf1.below hal (Nat.le_refl _))
  clear hW2 hX2 hal hf1 hb1
  go_upto_region 2 with (fail)
  rw [← HW2.out]
  go_wp2_with fail
  refine (validBits_any k _ Hk.out).mono ?_
  rintro e wv ⟨rfl, rfl⟩
  have HSh := hid (fun (wx : World) (u : Value) (hu : Ft wx u z q ((K + 1) / 2 + 1)) => by have hs := shifted_any u z q (2 * k) _ ((K + 1) / 2 + 1 + 9) wx hu (by have := HK.out; omega) (by have := Hk.out; omega) (by have := Hk.out; omega); rw [show ((2 * k : Nat) : Int) = 2 * (k : Int) by omega] at hs; exact hs)
  have hk1 : (0 : Int) ≤ (k : Int) := by omega
  have hk2 : (k : Int) ≤ 256 := by have := Hk.out; omega
  go_upto_region 4 with (fail)
  go_wp2_with fail
  refine (HSh.out _ _ HF2.out).mono ?_
  rintro e w3 ⟨f3, rfl, hf3, hb3⟩
  clear k0 k1 k2
  go_wp2_with fail
  refine (HFl.out _ _ hf3).mono ?_
  rintro e w4 ⟨_, rfl, hv4, hb4⟩
  obtain ⟨b4, o4, m4, c4, rfl, H4, H4s, H4b⟩ := It.opened hv4
  have hfld : ∀ w : World, (Instr.field 84 (.agg #[.bool b4, .slice o4 m4 c4]) 1).run Tryz.prog w = .ok (.slice o4 m4 c4) w := fun w => by kernel_rfl
  have hN4 := H4s.out _ (Below.refl _ _)
  rw [show (F.natAbs : Int) = F by have := HFn.out; omega] at hN4
  go_wp2_with fail
  refine (root_any _ F _ _ hN4 (by have := HK.out; omega)).mono ?_
  rintro e w5 ⟨r, hr0, hr1, hr2, _, rfl, hv5, hb5⟩
  have hv5' := hv5.tight (K' := ((K + 1) / 2 + 13) / 2) (root_tight hr0 hr1 hN4.lt (by omega))
  have Hr := hid (show 0 ≤ r ∧ r * r ≤ F ∧ F < (r + 1) * (r + 1) from ⟨hr0, hr1, hr2⟩)
  clear hr0 hr1 hr2 hv5
  obtain ⟨o5, m5, c5, rfl, H5⟩ := Nt.opened hv5'
  have hX5 : Below W0.heap.size W0 w5 := bl_tr (bl_tr (bl_tr HX2.out hb3) hb4) hb5
  clear hfld
  go_wp2_with fail
  refine (signed_eq false _ r r _ _ hv5' rfl).mono ?_
  rintro e w6 ⟨v6, rfl, hv6, hb6⟩
  have hX6 : Below W0.heap.size W0 w6 := bl_tr hX5 hb6
  go_wp2_with fail
  refine (value_any _ _ _ _ hv6 (by have := HK.out; omega)).mono ?_
  rintro e w7 ⟨_, rfl, hv7, hb7⟩
  obtain ⟨b7, o7, m7, c7, rfl, H7⟩ := FrA.opened hv7
  have hX7 : Below W0.heap.size W0 w7 := bl_tr hX6 hb7
  obtain ⟨⟨hr0, hr1⟩, hf0, hf1⟩ := HT.out _ (hX7.mono (by have := Hz0.out; omega))
  go_wp2
  have hz0 := Hz0.out; have hs3 := hX6.size
  have hw4 : Below w.heap.size w w7 := HB0.out.trans (hX7.mono HB0.out.size)
  have hlt : w.heap.size + 1 < w6.heap.size := by omega
  refine bodyPost_ret (v := .tuple #[.agg #[.bool b7, .slice o7 m7 c7], .int .i64 0]) (by simp [results, Tryz.results30, go_sem, hr0, hr1]) rfl ⟨r, Hr.out, b7, o7, m7, c7, rfl, hid ((((H7.out.set hlt _).set hlt _).ai).mono (by have := HR.out; omega)), ((hw4.setCell (by simp <;> omega) _).setCell (by simp <;> omega) _)⟩

end Go.Proofs.YtilpkocmdpofpaaGreatDoor

/- The simplest fraction between two: plain mathematics, nothing of the program. -/
namespace Go.Proofs.YtilpkocmdpofpaaGreatDoor

/-- Of the fractions from a / b to c / d (all above 0) n / m is the simplest one: each has a denominator and a numerator at least as great. -/
structure Smp (a b c d n m : Int) : Prop where
  n0 : 0 < n
  m0 : 0 < m
  lo : a * m ≤ n * b
  hi : n * d ≤ c * m
  least : ∀ p q, 0 < q → a * q ≤ p * b → p * d ≤ c * q → m ≤ q ∧ n ≤ p

theorem smp_whole {a b c d q : Int} (ha : 0 < a) (hb : 0 < b) (hle : a * d ≤ c * b) (e : a = q * b) : Smp a b c d q 1 := by
  have hq : 0 < q := by
    rcases Int.lt_or_le 0 q with h | h
    · exact h
    · have := Int.mul_nonneg (show 0 ≤ -q by omega) (Int.le_of_lt hb)
      rw [Int.neg_mul] at this
      omega
  refine ⟨hq, by decide, by omega, ?_, fun p s hs h1 h2 => ⟨by omega, ?_⟩⟩
  · rw [Int.mul_one]
    refine Int.le_of_mul_le_mul_right (a := b) ?_ hb
    rw [e] at hle
    grind
  · have h3 : q * s * b ≤ p * b := by rw [e] at h1; grind
    have h4 : q * s ≤ p := Int.le_of_mul_le_mul_right h3 hb
    have h5 : q * 1 ≤ q * s := Int.mul_le_mul_of_nonneg_left (by omega) (Int.le_of_lt hq)
    omega
theorem smp_next {a b c d q r : Int} (hb : 0 < b) (e : a = q * b + r) (hq : 0 ≤ q) (hr : 0 < r) (hrb : r < b) (hc : (q + 1) * d ≤ c) : Smp a b c d (q + 1) 1 := by
  refine ⟨by omega, by decide, ?_, by omega, fun p s hs h1 h2 => ⟨by omega, ?_⟩⟩
  · rw [Int.add_mul]; omega
  · rcases Int.lt_or_le q p with h | h
    · omega
    · exfalso
      have ha : 0 < a := by have := Int.mul_nonneg hq (Int.le_of_lt hb); omega
      have h3 : p * b ≤ q * b := Int.mul_le_mul_of_nonneg_right h (Int.le_of_lt hb)
      have h4 : a * 1 ≤ a * s := Int.mul_le_mul_of_nonneg_left (by omega) (Int.le_of_lt ha)
      omega
theorem smp_rest {a b c d q r : Int} (hb : 0 < b) (hd : 0 < d) (e : a = q * b + r) (hr : 0 < r) (hle : a * d ≤ c * b) : 0 < c - q * d ∧ d * r ≤ b * (c - q * d) := by
  have h1 : r * d ≤ (c - q * d) * b := by rw [e] at hle; grind
  refine ⟨?_, by grind⟩
  rcases Int.lt_or_le 0 (c - q * d) with h | h
  · exact h
  · have h2 := Int.mul_pos hr hd
    have h3 := Int.mul_nonneg (show 0 ≤ -(c - q * d) by omega) (Int.le_of_lt hb)
    rw [Int.neg_mul] at h3
    omega
theorem smp_step {a b c d q r n m : Int} (hb : 0 < b) (e : a = q * b + r) (hq : 0 ≤ q) (hr : 0 < r) (h : Smp d (c - q * d) b r n m) : Smp a b c d (q * n + m) n := by
  have hm := h.m0
  have hn := h.n0
  refine ⟨?_, h.n0, ?_, ?_, fun p s hs h1 h2 => ?_⟩
  · have := Int.mul_nonneg hq (Int.le_of_lt hn); omega
  · have := h.hi; rw [e]; grind
  · have := h.lo; grind
  · have h3 : r * s ≤ (p - q * s) * b := by rw [e] at h1; grind
    have h4 : 0 < p - q * s := by
      rcases Int.lt_or_le 0 (p - q * s) with h5 | h5
      · exact h5
      · have h6 := Int.mul_pos hr hs
        have h7 := Int.mul_nonneg (show 0 ≤ -(p - q * s) by omega) (Int.le_of_lt hb)
        rw [Int.neg_mul] at h7
        omega
    obtain ⟨h8, h9⟩ := h.least s (p - q * s) h4 (by grind) (by grind)
    refine ⟨h9, ?_⟩
    have h10 : q * n ≤ q * s := Int.mul_le_mul_of_nonneg_left h9 hq
    omega
theorem smp_ex : ∀ (k : Nat) (a b c d : Int), 0 < a → 0 < b → 0 < c → 0 < d → a * d ≤ c * b → (b + d).toNat ≤ k → ∃ n m, Smp a b c d n m
  | 0, _, b, _, d, _, hb, _, hd, _, hk => by omega
  | k + 1, a, b, c, d, ha, hb, hc, hd, hle, hk => by
    have e : a = a / b * b + a % b := (Int.ediv_mul_add_emod a b).symm
    have hr0 := Int.emod_nonneg a (show b ≠ 0 by omega)
    have hrb := Int.emod_lt_of_pos a hb
    have hq : 0 ≤ a / b := Int.ediv_nonneg (Int.le_of_lt ha) (Int.le_of_lt hb)
    rcases Int.lt_or_le 0 (a % b) with hr | hr
    · rcases Int.lt_or_le c ((a / b + 1) * d) with hcc | hcc
      · obtain ⟨h1, h2⟩ := smp_rest hb hd e hr hle
        have h3 : c - a / b * d < d := by rw [Int.add_mul] at hcc; omega
        obtain ⟨n, m, h⟩ := smp_ex k d (c - a / b * d) b (a % b) hd h1 hb hr h2 (by omega)
        exact ⟨_, _, smp_step hb e hq hr h⟩
      · exact ⟨_, _, smp_next hb e hq hr hrb hcc⟩
    · exact ⟨_, _, smp_whole (q := a / b) ha hb hle (by omega)⟩
/-- What a round keeps: what is simplest for what is left makes what is simplest for all. -/
def SmpC (A B C D a b c d n l e m : Int) : Prop := ∀ x y, Smp a b c d x y → Smp A B C D (n * x + l * y) (e * x + m * y)
theorem smpC_begin (A B C D : Int) : SmpC A B C D A B C D 1 0 0 1 := fun x y h => by
  rw [Int.one_mul, Int.zero_mul, Int.zero_mul, Int.one_mul, Int.add_zero, Int.zero_add]; exact h
theorem smpC_step {A B C D a b c d n l e m q r : Int} (hb : 0 < b) (eq : a = q * b + r) (hq : 0 ≤ q) (hr : 0 < r) (h : SmpC A B C D a b c d n l e m) : SmpC A B C D d (c - q * d) b r (q * n + l) n (q * e + m) e := fun x y hs => by
  have := h _ _ (smp_step hb eq hq hr hs)
  rw [show (q * n + l) * x + n * y = n * (q * x + y) + l * x by grind, show (q * e + m) * x + e * y = e * (q * x + y) + m * x by grind]
  exact this
theorem smpC_stop {A B C D a b c d n l e m t : Int} (h : SmpC A B C D a b c d n l e m) (hs : Smp a b c d t 1) : Smp A B C D (t * n + l) (t * e + m) := by
  have := h _ _ hs
  rw [show t * n + l = n * t + l * 1 by grind, show t * e + m = e * t + m * 1 by grind]
  exact this
/-- The answer is no greater than the lower end's parts. -/
theorem Smp.small {A B C D n m : Int} (h : Smp A B C D n m) (hB : 0 < B) (hle : A * D ≤ C * B) : n ≤ A ∧ m ≤ B := by
  obtain ⟨h1, h2⟩ := h.least A B hB (Int.le_refl _) hle
  exact ⟨h2, h1⟩
/-- Nor are the parts of a round's four numbers. -/
theorem smpC_small {A B C D a b c d n l e m : Int} (hB : 0 < B) (hle : A * D ≤ C * B) (n0 : 0 ≤ n) (l0 : 0 ≤ l) (e0 : 0 ≤ e) (m0 : 0 ≤ m) (ha : 0 < a) (hb : 0 < b) (hc : 0 < c) (hd : 0 < d) (hl : a * d ≤ c * b) (h : SmpC A B C D a b c d n l e m) : n ≤ A ∧ l ≤ A ∧ e ≤ B ∧ m ≤ B := by
  obtain ⟨x, y, hs⟩ := smp_ex _ a b c d ha hb hc hd hl (Nat.le_refl _)
  obtain ⟨h1, h2⟩ := (h _ _ hs).small hB hle
  have hx := hs.n0
  have hy := hs.m0
  have a1 : n * 1 ≤ n * x := Int.mul_le_mul_of_nonneg_left (by omega) n0
  have a2 : l * 1 ≤ l * y := Int.mul_le_mul_of_nonneg_left (by omega) l0
  have a3 : e * 1 ≤ e * x := Int.mul_le_mul_of_nonneg_left (by omega) e0
  have a4 : m * 1 ≤ m * y := Int.mul_le_mul_of_nonneg_left (by omega) m0
  omega
end Go.Proofs.YtilpkocmdpofpaaGreatDoor
