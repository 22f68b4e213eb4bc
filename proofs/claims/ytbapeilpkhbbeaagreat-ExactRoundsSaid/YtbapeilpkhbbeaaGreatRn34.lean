/- exact.Nearest by values. exact.Fixed, FromFixed, RootFixed with bits out of range, and with any bits. Written by gen_nearb.py. How the arguments of the laws are opened (an api.Int reads as its sign and its list of words), and the last step of a row whose law returns true and leaves all that was there before. The law ExactField, its walk. Written by gen_field.py. An api.Ratio argument of a law, opened. Written by gen_fieldrow.py. -/
import Derived.Test.YtbapeilpkhbbeaaGreatRn32
import Derived.Test.YtbapeilpkhbbeaaGreatRn28
import Derived.Test.YtbapeilpkhbbeaaGreatRn29
import Derived.Test.YtbapeilpkhbbeaaGreatRn25
import Derived.ProofKit
import Derived.Below
import Derived.Lib.SmallJoins
import Derived.Deep.Slices
import Derived.Test.YtbapeilpkhbbeaaGreatRn30
/- exact.Nearest by values. -/
namespace Go.Proofs.YtbapeilpkhbbeaaGreat
open Go.RowKit

set_option maxRecDepth 100000 in
set_option maxHeartbeats 1000000 in
theorem Nearest_an (v : Value) (n d : Int) (K R : Nat) (w : World) (hv : Rv w v n d K) (hK : K ≤ 1000) (hR : 2 * ((K + 1) / 2 + 1 + 4) ≤ R) :
    Calls Tryz.prog 43 #[v] w (RetZN w ((n * 2 + d).fdiv (d * 2)) R) := by
  obtain ⟨pd, x, y, hv, h⟩ := hv
  have HRR := hid (fun (w' : World) (hb : Below w.heap.size w w') => readRatio_any v x y K w' (hv.below hb (Nat.le_refl _)) (by omega))
  obtain ⟨xb, xo, xm, xc, yb, yo, ym, yc, rfl, _, _⟩ := Ra.opened hv
  have hD := rd_pos y
  obtain ⟨z, hz⟩ : ∃ z, z = rn x y := ⟨_, rfl⟩
  obtain ⟨q, hq'⟩ : ∃ q, q = rd y := ⟨_, rfl⟩
  rw [← hz, ← hq'] at h HRR
  rw [← hq'] at hD
  clear hz hq' hv
  rw [show (n * 2 + d).fdiv (d * 2) = (z * 2 + q).fdiv (q * 2) from (fdiv_ratio (by omega) (by omega) (by grind)).symm]
  have HD0 := hid hD; have HR := hid hR; have HK := hid hK
  clear h hD hR pd
  obtain ⟨W0, hW0⟩ : ∃ W0, W0 = ((w.alloc (.cells #[.bool xb, .slice xo xm xc, .bool yb, .slice yo ym yc] 26)).alloc (.cells #[.bool false, .slice none 0 0] 24)) := ⟨_, rfl⟩
  have hB0 : Below w.heap.size w W0 := by rw [hW0]; exact ((Below.refl _ _).alloc (Nat.le_refl _) _).alloc (by simp <;> omega) _
  have hz0 : W0.heap.size = w.heap.size + 2 := by rw [hW0]; simp
  have HS : Hid (∀ w', Below (w.heap.size + 1) W0 w' → w'.cell? ⟨w.heap.size, 0, none⟩ = some (.bool xb) ∧ w'.cell? ⟨w.heap.size, 1, none⟩ = some (.slice xo xm xc) ∧ w'.cell? ⟨w.heap.size, 2, none⟩ = some (.bool yb) ∧ w'.cell? ⟨w.heap.size, 3, none⟩ = some (.slice yo ym yc)) := hid (fun w' hb => by
    refine ⟨?_, ?_, ?_, ?_⟩ <;> (first | (rw [hb.cell (by simp <;> omega), hW0]; simp [go_sem]; done) | (rw [hb.frozen (by simp <;> omega), hW0]; simp [go_sem]; done)))
  have HT : Hid (∀ w', Below (w.heap.size + 2) W0 w' → (w'.cell? ⟨w.heap.size + 1, 0, none⟩ = some (.bool false) ∧ w'.cell? ⟨w.heap.size + 1, 1, none⟩ = some (.slice none 0 0)) ∧ (w'.frozen? ⟨w.heap.size + 1, 0, none⟩ = false ∧ w'.frozen? ⟨w.heap.size + 1, 1, none⟩ = false)) := hid (fun w' hb => by
    refine ⟨⟨?_, ?_⟩, ?_, ?_⟩ <;> (first | (rw [hb.cell (by simp <;> omega), hW0]; simp [go_sem]; done) | (rw [hb.frozen (by simp <;> omega), hW0]; simp [go_sem]; done)))
  have HB0 := hid hB0; have Hz0 := hid hz0; have HW := hid hW0
  clear hW0 hB0 hz0
  go_enter Tryz.func43, Tryz.ntmps43
  go_upto_region 1 with (fail)
  rw [← HW.out]
  obtain ⟨k0, k1, k2, k3⟩ := HS.out W0 (Below.refl _ _)
  go_wp2_with fail
  refine (HRR.out _ HB0.out).mono ?_
  rintro e w1 ⟨f1, rfl, hf1, hb1⟩
  clear k0 k1 k2 k3
  go_wp2_with fail
  refine (nearest_any _ z q _ _ hf1 HD0.out (by have := HK.out; omega)).mono ?_
  rintro e w3 ⟨v3, rfl, hv3, hb3⟩
  have hX3 : Below W0.heap.size W0 w3 := bl_tr hb1 hb3
  go_wp2_with fail
  refine (value_any _ _ _ _ hv3 (by have := HK.out;  omega)).mono ?_
  rintro e w4 ⟨_, rfl, hv4, hb4⟩
  obtain ⟨b4, o4, m4, c4, rfl, H4⟩ := FrA.opened hv4
  have hX4 : Below W0.heap.size W0 w4 := bl_tr hX3 hb4
  obtain ⟨⟨hr0, hr1⟩, hf0, hf1⟩ := HT.out _ (hX4.mono (by have := Hz0.out; omega))
  go_wp2
  have hz0 := Hz0.out; have hs3 := hX3.size
  have hw4 : Below w.heap.size w w4 := HB0.out.trans (hX4.mono HB0.out.size)
  have hlt : w.heap.size + 1 < w3.heap.size := by omega
  refine bodyPost_ret (v := .agg #[.bool b4, .slice o4 m4 c4]) (by simp [results, Tryz.results43, go_sem, hr0, hr1]) rfl ⟨b4, o4, m4, c4, rfl, hid ((((H4.out.set hlt _).set hlt _).an).mono (by have := HR.out; omega)), ((hw4.setCell (by simp <;> omega) _).setCell (by simp <;> omega) _)⟩

end Go.Proofs.YtbapeilpkhbbeaaGreat

/- exact.Fixed, FromFixed, RootFixed with bits out of range, and with any bits. Written by gen_nearb.py. -/
namespace Go.Proofs.YtbapeilpkhbbeaaGreat
open Go.RowKit

theorem validBits_bad (i : Int) (w : World) (h : i < 0 ∨ 256 < i) : Calls Tryz.prog 73 #[.int .i64 i] w fun e w' => e = .returned (.bool false) ∧ w = w' := by
  by_cases h0 : (0 : Int) ≤ i
  · have h1 : ¬ i ≤ 256 := by omega
    clear h
    go_enter Tryz.func73, Tryz.ntmps73
    go_wp2
    go_ret
    exact ⟨rfl, rfl⟩
  · clear h
    go_enter Tryz.func73, Tryz.ntmps73
    go_wp2
    go_ret
    exact ⟨rfl, rfl⟩

set_option maxRecDepth 100000 in
set_option maxHeartbeats 1000000 in
theorem Fixed_bad (i : Int) (xb yb : Bool) (xo yo : Option Addr) (xm xc ym yc : Nat) (w : World) (h : i < 0 ∨ 256 < i) :
    Calls Tryz.prog 33 #[.agg #[.bool xb, .slice xo xm xc, .bool yb, .slice yo ym yc], .int .i64 i] w fun e w' => e = .returned (.tuple #[.agg #[.bool false, .slice none 0 0], .int .i64 2]) ∧ Below w.heap.size w w' := by
  obtain ⟨W0, hW0⟩ : ∃ W0, W0 = ((w.alloc (.cells #[.bool xb, .slice xo xm xc, .bool yb, .slice yo ym yc] 26)).alloc (.cells #[.bool false, .slice none 0 0] 24)) := ⟨_, rfl⟩
  have hB0 : Below w.heap.size w W0 := by rw [hW0]; exact ((Below.refl _ _).alloc (Nat.le_refl _) _).alloc (by simp <;> omega) _
  have hz0 : W0.heap.size = w.heap.size + 2 := by rw [hW0]; simp
  have HS : Hid (∀ w', Below (w.heap.size + 1) W0 w' → w'.cell? ⟨w.heap.size, 0, none⟩ = some (.bool xb) ∧ w'.cell? ⟨w.heap.size, 1, none⟩ = some (.slice xo xm xc) ∧ w'.cell? ⟨w.heap.size, 2, none⟩ = some (.bool yb) ∧ w'.cell? ⟨w.heap.size, 3, none⟩ = some (.slice yo ym yc)) := hid (fun w' hb => by
    refine ⟨?_, ?_, ?_, ?_⟩ <;> (first | (rw [hb.cell (by simp <;> omega), hW0]; simp [go_sem]; done) | (rw [hb.frozen (by simp <;> omega), hW0]; simp [go_sem]; done)))
  have HT : Hid (∀ w', Below (w.heap.size + 2) W0 w' → (w'.cell? ⟨w.heap.size + 1, 0, none⟩ = some (.bool false) ∧ w'.cell? ⟨w.heap.size + 1, 1, none⟩ = some (.slice none 0 0)) ∧ (w'.frozen? ⟨w.heap.size + 1, 0, none⟩ = false ∧ w'.frozen? ⟨w.heap.size + 1, 1, none⟩ = false)) := hid (fun w' hb => by
    refine ⟨⟨?_, ?_⟩, ?_, ?_⟩ <;> (first | (rw [hb.cell (by simp <;> omega), hW0]; simp [go_sem]; done) | (rw [hb.frozen (by simp <;> omega), hW0]; simp [go_sem]; done)))
  have HB0 := hid hB0; have Hz0 := hid hz0; have HW := hid hW0
  clear hW0 hB0 hz0
  have HV := hid (fun (w' : World) => validBits_bad i w' h)
  clear h
  go_enter Tryz.func33, Tryz.ntmps33
  go_upto_region 1 with (fail)
  rw [← HW.out]
  go_wp2_with fail
  refine (HV.out _).mono ?_
  rintro e wv ⟨rfl, rfl⟩
  obtain ⟨⟨hr0, hr1⟩, hf0, hf1⟩ := HT.out _ (Below.refl _ _)
  have hw4 := hid HB0.out
  have hz0 := Hz0.out
  go_wp2
  refine bodyPost_ret (v := .tuple #[.agg #[.bool false, .slice none 0 0], .int .i64 2]) (by simp [results, Tryz.results33, go_sem, hr0, hr1]) rfl ⟨rfl, ((hw4.out.setCell (by simp <;> omega) _).setCell (by simp <;> omega) _)⟩

set_option maxRecDepth 100000 in
set_option maxHeartbeats 1000000 in
theorem FromFixed_bad (i : Int) (xb : Bool) (xo : Option Addr) (xm xc : Nat) (w : World) (h : i < 0 ∨ 256 < i) :
    Calls Tryz.prog 35 #[.agg #[.bool xb, .slice xo xm xc], .int .i64 i] w fun e w' => e = .returned (.tuple #[.agg #[.bool false, .slice none 0 0, .bool false, .slice none 0 0], .int .i64 2]) ∧ Below w.heap.size w w' := by
  obtain ⟨W0, hW0⟩ : ∃ W0, W0 = ((w.alloc (.cells #[.bool xb, .slice xo xm xc] 24)).alloc (.cells #[.bool false, .slice none 0 0, .bool false, .slice none 0 0] 26)) := ⟨_, rfl⟩
  have hB0 : Below w.heap.size w W0 := by rw [hW0]; exact ((Below.refl _ _).alloc (Nat.le_refl _) _).alloc (by simp <;> omega) _
  have hz0 : W0.heap.size = w.heap.size + 2 := by rw [hW0]; simp
  have HS : Hid (∀ w', Below (w.heap.size + 1) W0 w' → w'.cell? ⟨w.heap.size, 0, none⟩ = some (.bool xb) ∧ w'.cell? ⟨w.heap.size, 1, none⟩ = some (.slice xo xm xc)) := hid (fun w' hb => by
    refine ⟨?_, ?_⟩ <;> (first | (rw [hb.cell (by simp <;> omega), hW0]; simp [go_sem]; done) | (rw [hb.frozen (by simp <;> omega), hW0]; simp [go_sem]; done)))
  have HT : Hid (∀ w', Below (w.heap.size + 2) W0 w' → (w'.cell? ⟨w.heap.size + 1, 0, none⟩ = some (.bool false) ∧ w'.cell? ⟨w.heap.size + 1, 1, none⟩ = some (.slice none 0 0) ∧ w'.cell? ⟨w.heap.size + 1, 2, none⟩ = some (.bool false) ∧ w'.cell? ⟨w.heap.size + 1, 3, none⟩ = some (.slice none 0 0)) ∧ (w'.frozen? ⟨w.heap.size + 1, 0, none⟩ = false ∧ w'.frozen? ⟨w.heap.size + 1, 1, none⟩ = false ∧ w'.frozen? ⟨w.heap.size + 1, 2, none⟩ = false ∧ w'.frozen? ⟨w.heap.size + 1, 3, none⟩ = false)) := hid (fun w' hb => by
    refine ⟨⟨?_, ?_, ?_, ?_⟩, ?_, ?_, ?_, ?_⟩ <;> (first | (rw [hb.cell (by simp <;> omega), hW0]; simp [go_sem]; done) | (rw [hb.frozen (by simp <;> omega), hW0]; simp [go_sem]; done)))
  have HB0 := hid hB0; have Hz0 := hid hz0; have HW := hid hW0
  clear hW0 hB0 hz0
  have HV := hid (fun (w' : World) => validBits_bad i w' h)
  clear h
  go_enter Tryz.func35, Tryz.ntmps35
  go_upto_region 1 with (fail)
  rw [← HW.out]
  go_wp2_with fail
  refine (HV.out _).mono ?_
  rintro e wv ⟨rfl, rfl⟩
  obtain ⟨⟨hr0, hr1, hr2, hr3⟩, hf0, hf1, hf2, hf3⟩ := HT.out _ (Below.refl _ _)
  have hw4 := hid HB0.out
  have hz0 := Hz0.out
  go_wp2
  refine bodyPost_ret (v := .tuple #[.agg #[.bool false, .slice none 0 0, .bool false, .slice none 0 0], .int .i64 2]) (by simp [results, Tryz.results35, go_sem, hr0, hr1, hr2, hr3]) rfl ⟨rfl, ((((hw4.out.setCell (by simp <;> omega) _).setCell (by simp <;> omega) _).setCell (by simp <;> omega) _).setCell (by simp <;> omega) _)⟩

set_option maxRecDepth 100000 in
set_option maxHeartbeats 1000000 in
theorem RootFixed_bad (v : Value) (n d i : Int) (K : Nat) (w : World) (hv : Rv w v n d K) (hi : i < 0 ∨ 256 < i) (hK : K ≤ 1000) :
    Calls Tryz.prog 38 #[v, .int .i64 i] w fun e w' => e = .returned (.tuple #[.agg #[.bool false, .slice none 0 0], .int .i64 2]) ∧ Below w.heap.size w w' := by
  obtain ⟨pd, x, y, hv, h⟩ := hv
  have HRR := hid (fun (w' : World) (hb : Below w.heap.size w w') => readRatio_any v x y K w' (hv.below hb (Nat.le_refl _)) (by omega))
  obtain ⟨xb, xo, xm, xc, yb, yo, ym, yc, rfl, _, _⟩ := Ra.opened hv
  have HV := hid (fun (w' : World) => validBits_bad i w' hi)
  clear h hv hi pd hK
  obtain ⟨W0, hW0⟩ : ∃ W0, W0 = ((w.alloc (.cells #[.bool xb, .slice xo xm xc, .bool yb, .slice yo ym yc] 26)).alloc (.cells #[.bool false, .slice none 0 0] 24)) := ⟨_, rfl⟩
  have hB0 : Below w.heap.size w W0 := by rw [hW0]; exact ((Below.refl _ _).alloc (Nat.le_refl _) _).alloc (by simp <;> omega) _
  have hz0 : W0.heap.size = w.heap.size + 2 := by rw [hW0]; simp
  have HS : Hid (∀ w', Below (w.heap.size + 1) W0 w' → w'.cell? ⟨w.heap.size, 0, none⟩ = some (.bool xb) ∧ w'.cell? ⟨w.heap.size, 1, none⟩ = some (.slice xo xm xc) ∧ w'.cell? ⟨w.heap.size, 2, none⟩ = some (.bool yb) ∧ w'.cell? ⟨w.heap.size, 3, none⟩ = some (.slice yo ym yc)) := hid (fun w' hb => by
    refine ⟨?_, ?_, ?_, ?_⟩ <;> (first | (rw [hb.cell (by simp <;> omega), hW0]; simp [go_sem]; done) | (rw [hb.frozen (by simp <;> omega), hW0]; simp [go_sem]; done)))
  have HT : Hid (∀ w', Below (w.heap.size + 2) W0 w' → (w'.cell? ⟨w.heap.size + 1, 0, none⟩ = some (.bool false) ∧ w'.cell? ⟨w.heap.size + 1, 1, none⟩ = some (.slice none 0 0)) ∧ (w'.frozen? ⟨w.heap.size + 1, 0, none⟩ = false ∧ w'.frozen? ⟨w.heap.size + 1, 1, none⟩ = false)) := hid (fun w' hb => by
    refine ⟨⟨?_, ?_⟩, ?_, ?_⟩ <;> (first | (rw [hb.cell (by simp <;> omega), hW0]; simp [go_sem]; done) | (rw [hb.frozen (by simp <;> omega), hW0]; simp [go_sem]; done)))
  have HB0 := hid hB0; have Hz0 := hid hz0; have HW := hid hW0
  clear hW0 hB0 hz0
  go_enter Tryz.func38, Tryz.ntmps38
  go_upto_region 1 with (fail)
  rw [← HW.out]
  obtain ⟨k0, k1, k2, k3⟩ := HS.out W0 (Below.refl _ _)
  go_wp2_with fail
  refine (HRR.out _ HB0.out).mono ?_
  rintro e w1 ⟨_, rfl, hf1, hb1⟩
  obtain ⟨fb, fo, fm, fc, go, gm, gc, rfl, HF, _, HFb⟩ := Ft.opened hf1
  clear k0 k1 k2 k3
  obtain ⟨W2, hW2⟩ : ∃ W2, W2 = w1.alloc (.cells #[.bool fb, .slice fo fm fc, .slice go gm gc] 80) := ⟨_, rfl⟩
  have hal : Below w1.heap.size w1 W2 := by rw [hW2]; exact bl_new _
  have hX2 : Below W0.heap.size W0 W2 := bl_tr hb1 hal
  obtain ⟨k0, k1, k2⟩ : W2.cell? ⟨w1.heap.size, 0, none⟩ = some (.bool fb) ∧ W2.cell? ⟨w1.heap.size, 1, none⟩ = some (.slice fo fm fc) ∧ W2.cell? ⟨w1.heap.size, 2, none⟩ = some (.slice go gm gc) := by rw [hW2]; simp [go_sem]
  have HW2 := hid hW2; have HX2 := hid hX2
  clear hW2 hX2 hal hf1 hb1
  go_upto_region 2 with (fail)
  rw [← HW2.out]
  go_wp2_with fail
  refine (HV.out _).mono ?_
  rintro e wv ⟨rfl, rfl⟩
  obtain ⟨⟨hr0, hr1⟩, hf0, hf1⟩ := HT.out _ (HX2.out.mono (by have := Hz0.out; omega))
  have hw4 := hid (HB0.out.trans (HX2.out.mono HB0.out.size))
  have hz0 := Hz0.out
  go_wp2
  refine bodyPost_ret (v := .tuple #[.agg #[.bool false, .slice none 0 0], .int .i64 2]) (by simp [results, Tryz.results38, go_sem, hr0, hr1]) rfl ⟨rfl, ((hw4.out.setCell (by simp <;> omega) _).setCell (by simp <;> omega) _)⟩

/-- The error of bits out of range. -/
def fixErr (i : Int) : Int := if i < 0 ∨ 256 < i then 2 else 0
def rfxErr (n i : Int) : Int := if (i < 0 ∨ 256 < i) ∨ n < 0 then 2 else 0
def RetIE (w : World) (E z : Int) (e : Ending) (w' : World) : Prop := ∃ b o m c, e = .returned (.tuple #[.agg #[.bool b, .slice o m c], .int .i64 E]) ∧ Hid (IntE w' (.agg #[.bool b, .slice o m c]) E z) ∧ Below w.heap.size w w'
def RetZZE (w : World) (E z : Int) (e : Ending) (w' : World) : Prop := ∃ b o m c, e = .returned (.tuple #[.agg #[.bool b, .slice o m c], .int .i64 E]) ∧ Hid (ZE w' (.agg #[.bool b, .slice o m c]) E z) ∧ Below w.heap.size w w'
theorem RetZEN.ie {w : World} {z : Int} {R : Nat} {e : Ending} {w' : World} (h : RetZEN w z R 0 e w') : RetIE w 0 z e w' := by
  obtain ⟨b, o, m, c, rfl, H, hb⟩ := h
  exact ⟨b, o, m, c, rfl, hid ⟨b, o, m, c, rfl, Or.inl ⟨rfl, _, H.out⟩⟩, hb⟩
theorem retIE_bad {w w' : World} {err : Int} (z : Int) (he : err ≠ 0) (hb : Below w.heap.size w w') : RetIE w err z (.returned (.tuple #[.agg #[.bool false, .slice none 0 0], .int .i64 err])) w' := ⟨_, _, _, _, rfl, hid (intE_zero w' he z), hb⟩
theorem retZZE_bad {w w' : World} {err : Int} (z : Int) (he : err ≠ 0) (hb : Below w.heap.size w w') : RetZZE w err z (.returned (.tuple #[.agg #[.bool false, .slice none 0 0], .int .i64 err])) w' := ⟨_, _, _, _, rfl, hid (ze_zero w' he z), hb⟩
theorem RetZtE.ze {w : World} {z : Int} {R : Nat} {e : Ending} {w' : World} (h : RetZtE w z R 0 e w') (hR : R ≤ 268435456) : RetZZE w 0 z e w' := by
  obtain ⟨v, rfl, H, hb⟩ := h
  obtain ⟨b, o, m, c, rfl, _⟩ := Zt.opened H
  exact ⟨b, o, m, c, rfl, hid (H.ze hR), hb⟩
theorem Fixed_res (v : Value) (n d i : Int) (w : World) (hv : Rv w v n d 12) :
    Calls Tryz.prog 33 #[v, .int .i64 i] w (RetIE w (fixErr i) ((n * 2 ^ i.toNat * 2 + d).fdiv (d * 2))) := by
  by_cases h : i < 0 ∨ 256 < i
  · rw [show fixErr i = 2 from if_pos h]
    obtain ⟨b1, o1, m1, c1, b2, o2, m2, c2, rfl, _⟩ := Rv.opened hv
    refine (Fixed_bad i _ _ _ _ _ _ _ _ w h).mono ?_
    rintro e w' ⟨rfl, hb⟩
    exact retIE_bad _ (by decide) hb
  · rw [show fixErr i = 0 from if_neg h]
    obtain ⟨k, rfl⟩ : ∃ k : Nat, i = k := ⟨i.toNat, by omega⟩
    rw [show ((k : Nat) : Int).toNat = k from rfl]
    exact (Fixed_an v n d k 12 (2 * ((12 + 1) / 2 + 1 + k / 64 + 1 + 4)) w hv (by omega) (by decide) (Nat.le_refl _)).mono fun _ _ h => h.ie
theorem FromFixed_res (v : Value) (z i : Int) (w : World) (B : Nat) (hB : B ≤ w.heap.size) (hv : Ai w v z 24) :
    Calls Tryz.prog 35 #[v, .int .i64 i] w (RetPE w B (fixErr i) z (2 ^ i.toNat)) := by
  by_cases h : i < 0 ∨ 256 < i
  · rw [show fixErr i = 2 from if_pos h]
    obtain ⟨b1, o1, m1, c1, rfl, _⟩ := Ai.opened hv
    refine (FromFixed_bad i _ _ _ _ w h).mono ?_
    rintro e w' ⟨rfl, hb⟩
    exact retPE_bad _ _ _ (by decide) hb
  · rw [show fixErr i = 0 from if_neg h]
    obtain ⟨k, rfl⟩ : ∃ k : Nat, i = k := ⟨i.toNat, by omega⟩
    rw [show ((k : Nat) : Int).toNat = k from rfl]
    refine (FromFixed_fr v z k 24 16 32 w hv (by omega) (by decide) (by decide) (by omega) (by decide) (by decide)).mono ?_
    rintro e w' ⟨f, w2, rfl, hw, hf, hb⟩
    exact (hf.pv (n := z) (e := 2 ^ k) (pow_pos2 k) (pow_pos2 k) rfl (by decide) (Nat.le_trans hB hw)).retE hb
theorem RootFixed_res (v : Value) (n d i : Int) (w : World) (hv : Rv w v n d 12) :
    Calls Tryz.prog 38 #[v, .int .i64 i] w (RetIE w (rfxErr n i) (rootZ ((n * 2 ^ (2 * i.toNat)).fdiv d))) := by
  by_cases h : i < 0 ∨ 256 < i
  · rw [show rfxErr n i = 2 from if_pos (Or.inl h)]
    refine (RootFixed_bad v n d i 12 w hv h (by decide)).mono ?_
    rintro e w' ⟨rfl, hb⟩
    exact retIE_bad _ (by decide) hb
  · obtain ⟨k, rfl⟩ : ∃ k : Nat, i = k := ⟨i.toNat, by omega⟩
    by_cases hn : n < 0
    · rw [show rfxErr n k = 2 from if_pos (Or.inr hn)]
      refine (RootFixed_neg v n d k 12 w hv hn (by omega) (by decide)).mono ?_
      rintro e w' ⟨rfl, hb⟩
      exact retIE_bad _ (by decide) hb
    · rw [show rfxErr n k = 0 from if_neg (by omega), show ((k : Nat) : Int).toNat = k from rfl]
      refine (RootFixed_an v n d k 12 (2 * (((12 + 1) / 2 + 13) / 2)) w hv (by omega) (by omega) (by decide) (Nat.le_refl _)).mono ?_
      rintro e w' ⟨r, hr, h⟩
      rw [rootZ_eq hr]
      exact h.ie
end Go.Proofs.YtbapeilpkhbbeaaGreat

/- How the arguments of the laws are opened (an api.Int reads as its sign and its list of words), and the last step of a row whose law returns true and leaves all that was there before. -/
namespace Go.Proofs.YtbapeilpkhbbeaaGreat
open Go.ChangeShapes Go.WideShapes Go.ChangeAt Go.RowKit Go.Joins

theorem Tryz.ownKnobNone : ownKnob Tryz.prog.godebug = none := by kernel_rfl
theorem Tryz.laidOutAll : laidOutB Tryz.prog = true := by kernel_rfl

/-- The number that a value is. -/
def intOf : Value → Int | .int _ x => x | _ => 0

set_option maxRecDepth 100000 in
theorem openInt {H : Type} {enc : TypeId × Value → H} {r : Reach} {b0 : Nat} {W : World} {sp : Nat → Bool} {v : Value} {d : DataW H} {p : List MemPlace}
    (hv : Value.okWide Tryz.prog W r b0 24 v) (h : DataW.Trod enc Tryz.prog W 0 sp true 24 v d p) : ∃ neg L, Lk W v neg L ∧ Dig B32 L := by
  obtain ⟨c0, c1, y0, y1, m, rfl, rfl, rfl, hy0, hy1⟩ := open_agg2 Tryz.underlying24 (by kernel_rfl) (by kernel_rfl) hv h
  obtain ⟨b, e0, _⟩ := DataW.trod_bool Tryz.underlying4 hy0
  simp at e0
  subst e0
  rcases Go.Deep.open_slice1 Tryz.underlying22 (by kernel_rfl) hy1 with ⟨e1, _⟩ | ⟨a, len, cap, k, n, V, D, Pl, e1, hb, hl, hm, hmm, _, hx⟩
  · simp at e1
    subst e1
    exact ⟨b, [], ⟨none, 0, rfl, Rd.nil _ _⟩, fun x hx => by cases hx⟩
  · simp at e1
    subst e1
    have hk : len ≤ k := by rw [hmm]; split <;> omega
    have hw : ∀ i, i < len → ∃ x, V i = .int .u32 x ∧ 0 ≤ x ∧ x < B32 ∧ W.cell? (a.add i) = some (.int .u32 x) := by
      intro i hi
      obtain ⟨hc, ht⟩ := hx i (by omega)
      obtain ⟨x, ex, _, hwf⟩ := DataW.trod_int Tryz.underlying107 ht
      simp at ex
      simp [Lit.wf, IntKind.min, IntKind.max, IntKind.signed, IntKind.bits] at hwf
      refine ⟨x, ex, by omega, by unfold B32; omega, by rw [hc, ex]⟩
    have hget : ∀ i, i < len → (((List.range len).map fun i => intOf (V i))[i]?.getD 0) = intOf (V i) := by
      intro i hi
      simp [hi]
    refine ⟨b, (List.range len).map fun i => intOf (V i), ⟨some a, cap, by simp, ?_⟩, ?_⟩
    · refine ⟨by simpa using hl, by unfold maxLen at hm; omega, fun hp => ?_, fun b off e i hi => ?_⟩
      · obtain ⟨x, _, _, _, hc⟩ := hw 0 (by simpa using hp)
        have hs := World.cell?_spot hc
        obtain ⟨ab, aoff, asp⟩ := a
        have : asp = none := by simpa [Addr.add] using hs
        exact ⟨ab, aoff, by rw [this]⟩
      · simp at hi
        obtain rfl := Option.some.inj e
        obtain ⟨x, ex, _, _, hc⟩ := hw i hi
        rw [hget i hi, ex]
        have ea : Addr.add ⟨b, off, none⟩ i = ⟨b, off + i, none⟩ := by
          by_cases h0 : i = 0 <;> simp [Addr.add, h0]
        rw [ea] at hc
        simpa [intOf] using hc
    · intro x hx
      obtain ⟨i, hi, rfl⟩ := List.mem_map.1 hx
      obtain ⟨y, ey, y0, y1, _⟩ := hw i (by simpa using hi)
      rw [ey]
      exact ⟨y0, y1⟩

/-- What lies below a bound reads as it did, whatever was made above it. -/
theorem allStays {H : Type} {enc : TypeId × Value → H} {P : Program} (hl : laidOutB P = true) {W W' : World} {sp' : Nat → Bool} : ∀ {ts : List TypeId} {vs : List Value} {ds : List (DataW H)} {ps : List MemPlace},
    (∀ t ∈ ts, P.readableRec t = true ∧ t < P.types.size) → DataW.TrodAll enc P W 0 (fun _ => true) true ts vs ds ps → (∀ p ∈ ps, W.sameAt W' p) → (∀ p ∈ ps, sp' p.block = true) → DataW.TrodAll enc P W' 0 sp' true ts vs ds ps
  | [], _, _, _, _, h, _, _ => by
    obtain ⟨rfl, rfl, rfl⟩ := trodAll_nil h
    exact trodAll_mk0
  | t :: ts, _, _, _, ht, h, hs, hp => by
    obtain ⟨v, vs1, d, ds1, a, b, rfl, rfl, rfl, h1, h2⟩ := trodAll_cons h
    refine ⟨a, b, ?_, ?_, rfl⟩
    · exact WideElems.Trod_stays hl (ht t (by simp)).1 (ht t (by simp)).2 h1 (fun p k => hs p (by simp [k])) (fun p k => hp p (by simp [k]))
    · exact allStays hl (fun u k => ht u (by simp [k])) h2 (fun p k => hs p (by simp [k])) (fun p k => hp p (by simp [k]))

/-- The last step of a row: the law returns true, its arguments read as they did. -/
theorem lawTrue {H : Type} {enc : TypeId × Value → H} {P : Program} {f : Func} {s : ChangeSpec} {apart fresh handsOn : Bool} {W W' : World} {args : Array Value} {ds gs : List (DataW H)} {before : List MemPlace} {tb : TypeId}
    (hl : laidOutB P = true) (hr : ∀ t ∈ f.params.toList, P.readableRec t = true ∧ t < P.types.size) (hv : s.vars = []) (hres : f.resultTypes = #[tb]) (hb : P.underlying tb = some .bool)
    (hfn : s.fn H (ds ++ gs) = { results := [.lit (.bool true)], args := ds })
    (hW : DataW.Whole enc P f.params.toList s.vars apart W args.toList ds gs before) (hlow : Below W.heap.size W W') :
    s.post enc P f apart fresh handsOn false W args (.bool true) W' := by
  have hW' := hW
  obtain ⟨p, q, hA, hV, hpq, _, _⟩ := hW
  rw [hv] at hV
  obtain ⟨rfl, rfl⟩ := trodVars_none hV
  have hlt := hW'.lt
  have e0 : before = p := by rw [hpq]; simp
  subst e0
  refine ⟨ds, [], before, [], before, [], hW', ?_, ?_, ?_, ?_, fun h => by cases h⟩
  · rw [hfn, hres]
    exact trodAll_mk1 (shut_bool hb _)
  · rw [hfn]
    exact allStays hl hr hA (fun p k => hlow.same (hlt p k)) (fun p k => by simpa using hlt p k)
  · rw [hfn, hv]
    rfl
  · exact World.keptBut_mono (fun p k => ⟨k, Or.inr (Or.inl k)⟩) (hlow.frame (· ∈ before))
end Go.Proofs.YtbapeilpkhbbeaaGreat

/- The law ExactField, its walk. Written by gen_field.py. -/
namespace Go.Proofs.YtbapeilpkhbbeaaGreat
open Go.RowKit

theorem wide_t (b1 b2 : Bool) (o1 o2 : Option Addr) (m1 c1 m2 c2 : Nat) (t : Int) (w : World) (ht : max (m1 : Int) (m2 : Int) = t) :
    Calls Tryz.prog 6 #[.agg #[.bool b1, .slice o1 m1 c1, .bool b2, .slice o2 m2 c2]] w fun e w' => e = .returned (.int .i64 t) ∧ Below w.heap.size w w' := by
  rw [← ht]; exact wide_any b1 b2 o1 o2 m1 c1 m2 c2 w
end Go.Proofs.YtbapeilpkhbbeaaGreat

/- An api.Ratio argument of a law, opened. Written by gen_fieldrow.py. -/
namespace Go.Proofs.YtbapeilpkhbbeaaGreat
open Go.ChangeShapes Go.WideShapes Go.ChangeAt Go.RowKit Go.Joins

set_option maxRecDepth 100000 in
theorem openIntT {H : Type} {enc : TypeId × Value → H} {W : World} {sp : Nat → Bool} {c0 c1 : Value} {y : DataW H × List MemPlace} {fuel : Nat}
    (h : DataW.trod enc Tryz.prog W 0 sp true fuel 24 [c0, c1] = some y) : ∃ neg L, Lk W (.agg #[c0, c1]) neg L ∧ Dig B32 L := by
  obtain ⟨y0, y1, m, _, _, h0, h1⟩ := trod_struct2 Tryz.underlying24 h
  have k0 : Tryz.prog.cellsOf 4 = 1 := by kernel_rfl
  have k1 : Tryz.prog.cellsOf 22 = 1 := by kernel_rfl
  have hy0 : DataW.trod enc Tryz.prog W 0 sp true m 4 [c0] = some y0 := by simpa [k0] using h0
  have hy1 : DataW.trod enc Tryz.prog W 0 sp true m 22 [c1] = some y1 := by simpa [k1] using h1
  clear h0 h1
  obtain ⟨b, e0, _⟩ := DataW.trod_bool Tryz.underlying4 hy0
  simp at e0
  subst e0
  rcases Go.Deep.open_slice1 Tryz.underlying22 (by kernel_rfl) hy1 with ⟨e1, _⟩ | ⟨a, len, cap, k, n, V, D, Pl, e1, hb, hl, hm, hmm, _, hx⟩
  · simp at e1
    subst e1
    exact ⟨b, [], ⟨none, 0, rfl, Rd.nil _ _⟩, fun x hx => by cases hx⟩
  · simp at e1
    subst e1
    have hk : len ≤ k := by rw [hmm]; split <;> omega
    have hw : ∀ i, i < len → ∃ x, V i = .int .u32 x ∧ 0 ≤ x ∧ x < B32 ∧ W.cell? (a.add i) = some (.int .u32 x) := by
      intro i hi
      obtain ⟨hc, ht⟩ := hx i (by omega)
      obtain ⟨x, ex, _, hwf⟩ := DataW.trod_int Tryz.underlying107 ht
      simp at ex
      simp [Lit.wf, IntKind.min, IntKind.max, IntKind.signed, IntKind.bits] at hwf
      refine ⟨x, ex, by omega, by unfold B32; omega, by rw [hc, ex]⟩
    have hget : ∀ i, i < len → (((List.range len).map fun i => intOf (V i))[i]?.getD 0) = intOf (V i) := by
      intro i hi
      simp [hi]
    refine ⟨b, (List.range len).map fun i => intOf (V i), ⟨some a, cap, by simp, ?_⟩, ?_⟩
    · refine ⟨by simpa using hl, by unfold maxLen at hm; omega, fun hp => ?_, fun b off e i hi => ?_⟩
      · obtain ⟨x, _, _, _, hc⟩ := hw 0 (by simpa using hp)
        have hs := World.cell?_spot hc
        obtain ⟨ab, aoff, asp⟩ := a
        have : asp = none := by simpa [Addr.add] using hs
        exact ⟨ab, aoff, by rw [this]⟩
      · simp at hi
        obtain rfl := Option.some.inj e
        obtain ⟨x, ex, _, _, hc⟩ := hw i hi
        rw [hget i hi, ex]
        have ea : Addr.add ⟨b, off, none⟩ i = ⟨b, off + i, none⟩ := by
          by_cases h0 : i = 0 <;> simp [Addr.add, h0]
        rw [ea] at hc
        simpa [intOf] using hc
    · intro x hx
      obtain ⟨i, hi, rfl⟩ := List.mem_map.1 hx
      obtain ⟨y, ey, y0, y1, _⟩ := hw i (by simpa using hi)
      rw [ey]
      exact ⟨y0, y1⟩


set_option maxRecDepth 100000 in
theorem openRatio {H : Type} {enc : TypeId × Value → H} {r : Reach} {b0 : Nat} {W : World} {sp : Nat → Bool} {v : Value} {d : DataW H} {p : List MemPlace}
    (hv : Value.okWide Tryz.prog W r b0 26 v) (h : DataW.Trod enc Tryz.prog W 0 sp true 26 v d p) : ∃ c0 c1 c2 c3 na LA nb LB, v = .agg #[c0, c1, c2, c3] ∧ Lk W (.agg #[c0, c1]) na LA ∧ Dig B32 LA ∧ Lk W (.agg #[c2, c3]) nb LB ∧ Dig B32 LB := by
  obtain ⟨cs, rfl, hsz⟩ := okWide_struct Tryz.underlying26 hv
  obtain ⟨c0, c1, c2, c3, rfl⟩ := array4 (hsz.trans (show Tryz.prog.cellsOf 26 = 4 by kernel_rfl))
  obtain ⟨fuel, hf⟩ := h
  obtain ⟨y0, y1, n, _, _, h0, h1⟩ := trod_struct2 Tryz.underlying26 hf
  have k : Tryz.prog.cellsOf 24 = 2 := by kernel_rfl
  obtain ⟨na, LA, hA, dA⟩ := openIntT (enc := enc) (c0 := c0) (c1 := c1) (by simpa [k, Value.cells] using h0)
  obtain ⟨nb, LB, hB, dB⟩ := openIntT (enc := enc) (c0 := c2) (c1 := c3) (by simpa [k, Value.cells] using h1)
  exact ⟨c0, c1, c2, c3, na, LA, nb, LB, rfl, hA, dA, hB, dB⟩

/-- The four cells of a ratio whose words are these. -/
def Lr (w : World) (v : Value) (na : Bool) (LA : List Int) (nb : Bool) (LB : List Int) : Prop := ∃ ao ca bo cb, v = .agg #[.bool na, .slice ao LA.length ca, .bool nb, .slice bo LB.length cb] ∧ Rd w .u32 ao ca LA ∧ Rd w .u32 bo cb LB ∧ Dig B32 LA ∧ Dig B32 LB
set_option maxRecDepth 100000 in
theorem openLr {H : Type} {enc : TypeId × Value → H} {r : Reach} {b0 : Nat} {W : World} {sp : Nat → Bool} {v : Value} {d : DataW H} {p : List MemPlace}
    (hv : Value.okWide Tryz.prog W r b0 26 v) (h : DataW.Trod enc Tryz.prog W 0 sp true 26 v d p) : ∃ na LA nb LB, Lr W v na LA nb LB := by
  obtain ⟨c0, c1, c2, c3, na, LA, nb, LB, rfl, ⟨ao, ca, e1, hA⟩, dA, ⟨bo, cb, e2, hB⟩, dB⟩ := openRatio hv h
  simp only [Value.agg.injEq, Array.mk.injEq, List.cons.injEq, and_true] at e1 e2
  obtain ⟨rfl, rfl⟩ := e1
  obtain ⟨rfl, rfl⟩ := e2
  exact ⟨na, LA, nb, LB, ao, ca, bo, cb, rfl, hA, hB, dA, dB⟩
end Go.Proofs.YtbapeilpkhbbeaaGreat
