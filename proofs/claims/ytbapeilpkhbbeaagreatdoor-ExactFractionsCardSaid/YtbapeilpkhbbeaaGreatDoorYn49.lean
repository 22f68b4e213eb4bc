/- The document's ParseRatio of any text. Written by gen_rpr2.py. -/
import Derived.Test.YtbapeilpkhbbeaaGreatDoorYn47
import Derived.Test.YtbapeilpkhbbeaaGreatDoorYn48
/- The document's ParseRatio of any text. Written by gen_rpr2.py. -/
namespace Go.Proofs.YtbapeilpkhbbeaaGreatDoor
open Go.RowKit

/-- Parse of a short text, open: the error, and the integer if there is none. -/
theorem rParse_o (t : List UInt8) (htl : t.length ≤ 4096) (p : Bool) (E z : Int) (hp : p = prsB t) (hE : E = if p then 0 else 5) (hz : z = prsZ t) (w : World) :
    Calls Tryz.prog 35 #[.string ⟨t.toArray⟩] w fun e w2 => ∃ b o m c, e = .returned (.tuple #[.agg #[.bool b, .slice o m c], .int .i64 E]) ∧ Hid (p = true → Zt w2 (.agg #[.bool b, .slice o m c]) z 30000) ∧ Below w.heap.size w w2 :=
  (rParse_any t (by omega) w).mono (by
    rintro e w2 ⟨b, o, m, c, rfl, h1, h2⟩
    refine ⟨b, o, m, c, by rw [bytes_short htl, ← hp, hE], hid (fun hpt => ?_), h2⟩
    rw [hz]
    exact (h1 (by rw [bytes_short htl, ← hp, hpt]; rfl)).mono (by omega))
theorem cmpI_pos0 {x : Int} : 0 < cmpI x 0 ↔ 0 < x := by unfold cmpI; (repeat' split) <;> omega
theorem qvE_keeps {w w' : World} {v : Value} {err n d : Int} (hk : Keeps .i64 w w') (h : QvE w v err n d) : QvE w' v err n d := by
  obtain ⟨b1, o1, m1, c1, b2, o2, m2, c2, rfl, h⟩ := h
  refine ⟨b1, o1, m1, c1, b2, o2, m2, c2, rfl, ?_⟩
  rcases h with ⟨h1, K, hK, h2⟩ | h
  · exact Or.inl ⟨h1, K, hK, Qv.keeps hk h2⟩
  · exact Or.inr h
/-- A ratio in normal form, or none, beside its error. -/
def RtE (w : World) (v : Value) (err n d : Int) : Prop := ∃ b1 o1 m1 c1 b2 o2 m2 c2, v = .agg #[.bool b1, .slice o1 m1 c1, .bool b2, .slice o2 m2 c2] ∧ ((err = 0 ∧ ∃ K, Rt w (.agg #[.bool b1, .slice o1 m1 c1, .bool b2, .slice o2 m2 c2]) (lowN n d) (lowD n d) K) ∨ (err ≠ 0 ∧ b1 = false ∧ o1 = none ∧ m1 = 0 ∧ c1 = 0 ∧ b2 = false ∧ o2 = none ∧ m2 = 0 ∧ c2 = 0))
theorem RtE.below {w w' : World} {v : Value} {err n d : Int} {B : Nat} (h : RtE w v err n d) (hb : Below B w w') (hB : w.heap.size ≤ B) : RtE w' v err n d := by
  obtain ⟨b1, o1, m1, c1, b2, o2, m2, c2, e, h⟩ := h
  refine ⟨b1, o1, m1, c1, b2, o2, m2, c2, e, ?_⟩
  rcases h with ⟨h1, K, h2⟩ | h
  · exact Or.inl ⟨h1, K, h2.below hb hB⟩
  · exact Or.inr h
theorem isRatio_rt (v q : Value) (err n d : Int) (w : World) (hv : RtE w v err n d) (hq : QvE w q err n d) :
    Calls Tryz.prog 13 #[v, .int .i64 err, q, .int .i64 err] w fun e w' => e = .returned (.bool true) ∧ Below w.heap.size w w' := by
  obtain ⟨b1, o1, m1, c1, b2, o2, m2, c2, rfl, h⟩ := hv
  obtain ⟨p1, q1, n1, d1, p2, q2, n2, d2, rfl, g⟩ := hq
  rcases h with ⟨rfl, K1, h⟩ | ⟨he, rfl, rfl, rfl, rfl, rfl, rfl, rfl, rfl⟩
  · rcases g with ⟨_, K, hK, g⟩ | g
    · exact isRatio_same _ _ _ _ K1 K w h g.2 hK
    · exact absurd rfl g
  · exact isRatio_none _ _ _ _ err w he _ ⟨_, _, _, _, _, _, _, _, rfl⟩
theorem fiI_no {c : UInt8} {l : List UInt8} (h : c ∉ l) : fiI c l = -1 := if_neg h
theorem fiI_yes {c : UInt8} {l : List UInt8} (h : c ∈ l) : fiI c l = ((cutA c l).length : Int) := if_pos h

set_option maxRecDepth 100000 in
set_option maxHeartbeats 4000000 in
theorem rPR_long (l : List UInt8) (hl : 4096 < l.length) (w : World) :
    Calls Tryz.prog 10 #[.string ⟨l.toArray⟩] w (fun e w' => e = .returned (.tuple #[.agg #[.bool false, .slice none 0 0, .bool false, .slice none 0 0], .int .i64 3]) ∧ Below w.heap.size w w') := by
  obtain ⟨W0, hW0⟩ : ∃ W0, W0 = (w.alloc (.cells #[.bool false, .slice none 0 0, .bool false, .slice none 0 0] 33)) := ⟨_, rfl⟩
  have hB0 : Below w.heap.size w W0 := by rw [hW0]; exact (Below.refl _ _).alloc (Nat.le_refl _) _
  have hz0 : W0.heap.size = w.heap.size + 1 := by rw [hW0]; simp
  have HN0 := hid (show w.heap.size < W0.heap.size by rw [hz0]; omega)
  have HS0 : Hid (∀ w', Kp W0.heap.size (w.heap.size) W0 w' → True) := hid (fun _ _ => trivial)
  have HT : Hid (∀ w', Below W0.heap.size W0 w' → (w'.cell? ⟨w.heap.size, 0, none⟩ = some (.bool false) ∧ w'.cell? ⟨w.heap.size, 1, none⟩ = some (.slice none 0 0) ∧ w'.cell? ⟨w.heap.size, 2, none⟩ = some (.bool false) ∧ w'.cell? ⟨w.heap.size, 3, none⟩ = some (.slice none 0 0)) ∧ (w'.frozen? ⟨w.heap.size, 0, none⟩ = false ∧ w'.frozen? ⟨w.heap.size, 1, none⟩ = false ∧ w'.frozen? ⟨w.heap.size, 2, none⟩ = false ∧ w'.frozen? ⟨w.heap.size, 3, none⟩ = false)) := hid (fun w' hb => by
    refine ⟨⟨?_, ?_, ?_, ?_⟩, ?_, ?_, ?_, ?_⟩ <;> (first | (rw [hb.cell (by rw [hz0]; simp), hW0]; simp [go_sem]; done) | (rw [hb.frozen (by rw [hz0]; simp), hW0]; simp [go_sem]; done)))
  have hbq0 : ∀ w : World, (Instr.build 33 #[]).run Tryz.prog w = .ok (.agg #[.bool false, .slice none 0 0, .bool false, .slice none 0 0]) w := fun w => by kernel_rfl
  have hlI : (4096 : Int) < (l.length : Int) := by omega
  have HB0 := hid hB0; have HW0 := hid hW0
  clear hW0 hB0 hz0 hl
  go_enter Tryz.func10, Tryz.ntmps10
  go_upto_region 1 with (fail)
  rw [← HW0.out]
  obtain ⟨⟨hr0, hr1, hr2, hr3⟩, hf0, hf1, hf2, hf3⟩ := HT.out _ (Below.refl _ _)
  have hY := Below.refl W0.heap.size W0
  have hn0 := HN0.out
  have hbel : Below w.heap.size w W0 := HB0.out.trans (hY.mono HB0.out.size)
  go_wp2
  refine bodyPost_ret (v := .tuple #[.agg #[.bool false, .slice none 0 0, .bool false, .slice none 0 0], .int .i64 3]) (by simp [results, Tryz.results10, go_sem, hr0, hr1, hr2, hr3]) rfl ⟨rfl, ((((hbel.setCell (by simp <;> omega) _).setCell (by simp <;> omega) _).setCell (by simp <;> omega) _).setCell (by simp <;> omega) _)⟩

set_option maxRecDepth 100000 in
set_option maxHeartbeats 4000000 in
theorem rPR_plain_bad (l : List UInt8) (hl : l.length ≤ 4096) (h1 : (47 : UInt8) ∉ l) (h2 : (46 : UInt8) ∉ l) (hp : prsB l = false) (w : World) :
    Calls Tryz.prog 10 #[.string ⟨l.toArray⟩] w (fun e w' => e = .returned (.tuple #[.agg #[.bool false, .slice none 0 0, .bool false, .slice none 0 0], .int .i64 5]) ∧ Below w.heap.size w w') := by
  obtain ⟨W0, hW0⟩ : ∃ W0, W0 = (w.alloc (.cells #[.bool false, .slice none 0 0, .bool false, .slice none 0 0] 33)) := ⟨_, rfl⟩
  have hB0 : Below w.heap.size w W0 := by rw [hW0]; exact (Below.refl _ _).alloc (Nat.le_refl _) _
  have hz0 : W0.heap.size = w.heap.size + 1 := by rw [hW0]; simp
  have HN0 := hid (show w.heap.size < W0.heap.size by rw [hz0]; omega)
  have HS0 : Hid (∀ w', Kp W0.heap.size (w.heap.size) W0 w' → True) := hid (fun _ _ => trivial)
  have HT : Hid (∀ w', Below W0.heap.size W0 w' → (w'.cell? ⟨w.heap.size, 0, none⟩ = some (.bool false) ∧ w'.cell? ⟨w.heap.size, 1, none⟩ = some (.slice none 0 0) ∧ w'.cell? ⟨w.heap.size, 2, none⟩ = some (.bool false) ∧ w'.cell? ⟨w.heap.size, 3, none⟩ = some (.slice none 0 0)) ∧ (w'.frozen? ⟨w.heap.size, 0, none⟩ = false ∧ w'.frozen? ⟨w.heap.size, 1, none⟩ = false ∧ w'.frozen? ⟨w.heap.size, 2, none⟩ = false ∧ w'.frozen? ⟨w.heap.size, 3, none⟩ = false)) := hid (fun w' hb => by
    refine ⟨⟨?_, ?_, ?_, ?_⟩, ?_, ?_, ?_, ?_⟩ <;> (first | (rw [hb.cell (by rw [hz0]; simp), hW0]; simp [go_sem]; done) | (rw [hb.frozen (by rw [hz0]; simp), hW0]; simp [go_sem]; done)))
  have hbq0 : ∀ w : World, (Instr.build 33 #[]).run Tryz.prog w = .ok (.agg #[.bool false, .slice none 0 0, .bool false, .slice none 0 0]) w := fun w => by kernel_rfl
  have HF1 := hid (fun w' => rfind_any 47 l (-1) w' (by omega) (fiI_no h1))
  have HF2 := hid (fun w' => rfind_any 46 l (-1) w' (by omega) (fiI_no h2))
  obtain ⟨z, hz⟩ : ∃ z, z = prsZ l := ⟨_, rfl⟩
  have HPa := hid (fun w' => rParse_o l hl false 5 z hp.symm rfl hz w')
  have hlI : ¬ (4096 : Int) < (l.length : Int) := by omega
  have HB0 := hid hB0; have HW0 := hid hW0
  clear hW0 hB0 hz0 hl h1 h2 hp hz
  go_enter Tryz.func10, Tryz.ntmps10
  go_upto_region 3 with (fail)
  rw [← HW0.out]
  go_wp2_with fail
  refine (HF1.out _).mono ?_
  rintro e w1 ⟨rfl, hw⟩
  obtain rfl : W0 = w1 := hw.symm
  go_wp2_with fail
  refine (HF2.out _).mono ?_
  rintro e w1 ⟨rfl, hw⟩
  obtain rfl : W0 = w1 := hw.symm
  clear HF1 HF2
  go_upto_region 6 with (fail)
  go_wp2_with fail
  refine (HPa.out _).mono ?_
  rintro e wq6 ⟨bn, on, mn, cn, rfl, Hn, hbq⟩
  have hXq : Below W0.heap.size W0 wq6 := hbq
  obtain ⟨W1, hW1⟩ : ∃ W, W = wq6.alloc (.cells #[.bool bn, .slice on mn cn] 31) := ⟨_, rfl⟩
  have hal1 : Below wq6.heap.size wq6 W1 := by rw [hW1]; exact bl_new _
  have hXn1 : Below W0.heap.size W0 W1 := bl_tr hXq hal1
  have hsz1 : w.heap.size < wq6.heap.size := Nat.lt_of_lt_of_le HN0.out hXq.size
  have HS1 : Hid (∀ w', Kp W1.heap.size (w.heap.size) W1 w' → w'.cell? ⟨wq6.heap.size, 0, none⟩ = some (.bool bn) ∧ w'.cell? ⟨wq6.heap.size, 1, none⟩ = some (.slice on mn cn)) := hid (fun w' hb => by
    refine ⟨?_, ?_⟩ <;> (rw [hb.cell _ (by rw [hW1]; simp) (by simp <;> omega), hW1]; simp [go_sem]))
  replace HT := hid (fun w' hb => HT.out w' (bl_tr hXn1 hb))
  have HN1 := hid (show w.heap.size < W1.heap.size from Nat.lt_of_lt_of_le HN0.out hXn1.size)
  have HB1 := hid (HB0.out.trans (hXn1.mono HB0.out.size)); have HW1 := hid hW1
  clear hW1 hal1 hXn1 hsz1 HS0 HB0 HW0 HN0 hXq
  clear hbq Hn HPa
  go_upto_region 7 with (fail)
  rw [← HW1.out]
  obtain ⟨k0, k1⟩ := HS1.out _ (Kp.of_below (Below.refl _ _))
  obtain ⟨⟨hr0, hr1, hr2, hr3⟩, hf0, hf1, hf2, hf3⟩ := HT.out _ (Below.refl _ _)
  have hY := Below.refl W1.heap.size W1
  have hn0 := HN1.out
  have hbel : Below w.heap.size w W1 := HB1.out.trans (hY.mono HB1.out.size)
  go_wp2
  refine bodyPost_ret (v := .tuple #[.agg #[.bool false, .slice none 0 0, .bool false, .slice none 0 0], .int .i64 5]) (by simp [results, Tryz.results10, go_sem, hr0, hr1, hr2, hr3]) rfl ⟨rfl, ((((hbel.setCell (by simp <;> omega) _).setCell (by simp <;> omega) _).setCell (by simp <;> omega) _).setCell (by simp <;> omega) _)⟩

set_option maxRecDepth 100000 in
set_option maxHeartbeats 4000000 in
theorem rPR_plain_good (l : List UInt8) (hl : l.length ≤ 4096) (h1 : (47 : UInt8) ∉ l) (h2 : (46 : UInt8) ∉ l) (hp : prsB l = true) (w : World) :
    Calls Tryz.prog 10 #[.string ⟨l.toArray⟩] w (RetQvE w 0 (prsZ l) 1) := by
  obtain ⟨W0, hW0⟩ : ∃ W0, W0 = (w.alloc (.cells #[.bool false, .slice none 0 0, .bool false, .slice none 0 0] 33)) := ⟨_, rfl⟩
  have hB0 : Below w.heap.size w W0 := by rw [hW0]; exact (Below.refl _ _).alloc (Nat.le_refl _) _
  have hz0 : W0.heap.size = w.heap.size + 1 := by rw [hW0]; simp
  have HN0 := hid (show w.heap.size < W0.heap.size by rw [hz0]; omega)
  have HS0 : Hid (∀ w', Kp W0.heap.size (w.heap.size) W0 w' → True) := hid (fun _ _ => trivial)
  have HT : Hid (∀ w', Below W0.heap.size W0 w' → (w'.cell? ⟨w.heap.size, 0, none⟩ = some (.bool false) ∧ w'.cell? ⟨w.heap.size, 1, none⟩ = some (.slice none 0 0) ∧ w'.cell? ⟨w.heap.size, 2, none⟩ = some (.bool false) ∧ w'.cell? ⟨w.heap.size, 3, none⟩ = some (.slice none 0 0)) ∧ (w'.frozen? ⟨w.heap.size, 0, none⟩ = false ∧ w'.frozen? ⟨w.heap.size, 1, none⟩ = false ∧ w'.frozen? ⟨w.heap.size, 2, none⟩ = false ∧ w'.frozen? ⟨w.heap.size, 3, none⟩ = false)) := hid (fun w' hb => by
    refine ⟨⟨?_, ?_, ?_, ?_⟩, ?_, ?_, ?_, ?_⟩ <;> (first | (rw [hb.cell (by rw [hz0]; simp), hW0]; simp [go_sem]; done) | (rw [hb.frozen (by rw [hz0]; simp), hW0]; simp [go_sem]; done)))
  have hbq0 : ∀ w : World, (Instr.build 33 #[]).run Tryz.prog w = .ok (.agg #[.bool false, .slice none 0 0, .bool false, .slice none 0 0]) w := fun w => by kernel_rfl
  have HF1 := hid (fun w' => rfind_any 47 l (-1) w' (by omega) (fiI_no h1))
  have HF2 := hid (fun w' => rfind_any 46 l (-1) w' (by omega) (fiI_no h2))
  obtain ⟨z, hz⟩ : ∃ z, z = prsZ l := ⟨_, rfl⟩
  rw [← hz]
  have HPa := hid (fun w' => rParse_o l hl true 0 z hp.symm rfl hz w')
  have hlI : ¬ (4096 : Int) < (l.length : Int) := by omega
  have HB0 := hid hB0; have HW0 := hid hW0
  clear hW0 hB0 hz0 hl h1 h2 hp hz
  go_enter Tryz.func10, Tryz.ntmps10
  go_upto_region 3 with (fail)
  rw [← HW0.out]
  go_wp2_with fail
  refine (HF1.out _).mono ?_
  rintro e w1 ⟨rfl, hw⟩
  obtain rfl : W0 = w1 := hw.symm
  go_wp2_with fail
  refine (HF2.out _).mono ?_
  rintro e w1 ⟨rfl, hw⟩
  obtain rfl : W0 = w1 := hw.symm
  clear HF1 HF2
  go_upto_region 6 with (fail)
  go_wp2_with fail
  refine (HPa.out _).mono ?_
  rintro e wq6 ⟨bn, on, mn, cn, rfl, Hn, hbq⟩
  have hXq : Below W0.heap.size W0 wq6 := hbq
  obtain ⟨W1, hW1⟩ : ∃ W, W = wq6.alloc (.cells #[.bool bn, .slice on mn cn] 31) := ⟨_, rfl⟩
  have hal1 : Below wq6.heap.size wq6 W1 := by rw [hW1]; exact bl_new _
  have hXn1 : Below W0.heap.size W0 W1 := bl_tr hXq hal1
  have hsz1 : w.heap.size < wq6.heap.size := Nat.lt_of_lt_of_le HN0.out hXq.size
  have HS1 : Hid (∀ w', Kp W1.heap.size (w.heap.size) W1 w' → w'.cell? ⟨wq6.heap.size, 0, none⟩ = some (.bool bn) ∧ w'.cell? ⟨wq6.heap.size, 1, none⟩ = some (.slice on mn cn)) := hid (fun w' hb => by
    refine ⟨?_, ?_⟩ <;> (rw [hb.cell _ (by rw [hW1]; simp) (by simp <;> omega), hW1]; simp [go_sem]))
  replace HT := hid (fun w' hb => HT.out w' (bl_tr hXn1 hb))
  have V6 : Hid (∀ w', Below W1.heap.size W1 w' → Zt w' (.agg #[.bool bn, .slice on mn cn]) z 30000) := hid (fun w' hb => (Hn.out (by simp)).below (bl_tr hal1 hb) (Nat.le_refl _))
  have HN1 := hid (show w.heap.size < W1.heap.size from Nat.lt_of_lt_of_le HN0.out hXn1.size)
  have HB1 := hid (HB0.out.trans (hXn1.mono HB0.out.size)); have HW1 := hid hW1
  clear hW1 hal1 hXn1 hsz1 HS0 HB0 HW0 HN0 hXq
  clear hbq Hn HPa
  go_upto_region 7 with (fail)
  rw [← HW1.out]
  obtain ⟨k0, k1⟩ := HS1.out _ (Kp.of_below (Below.refl _ _))
  go_upto_region 9 with (fail)
  go_wp2_with fail
  refine (rwhole_v _ z 30000 _ (V6.out _ (Below.refl _ _)) (by decide)).mono ?_
  rintro e wq9 ⟨br, or, mr, cr, bbr, oor, mmr, ccr, rfl, Hr, hbq⟩
  have hX9 : Below W1.heap.size W1 wq9 := hbq
  obtain ⟨⟨hr0, hr1, hr2, hr3⟩, hf0, hf1, hf2, hf3⟩ := HT.out _ hX9
  clear k0 k1
  have hn0 := HN1.out
  have hbel : Below w.heap.size w wq9 := HB1.out.trans (hX9.mono HB1.out.size)
  go_wp2
  refine bodyPost_ret (v := .tuple #[(.agg #[.bool br, .slice or mr cr, .bool bbr, .slice oor mmr ccr]), .int .i64 0]) (by simp [results, Tryz.results10, go_sem, hr0, hr1, hr2, hr3]) rfl ⟨_, _, _, _, _, _, _, _, rfl, hid ⟨_, _, _, _, _, _, _, _, rfl, Or.inl ⟨rfl, 30000, by decide, Qv.keeps (((((Keeps.refl _ _).setCell (u := .bool false) hr0 (fun x h => (by cases h)) _).setCell (u := .slice none 0 0) (by simp [go_sem, hr1]) (fun x h => (by cases h)) _).setCell (u := .bool false) (by simp [go_sem, hr2]) (fun x h => (by cases h)) _).setCell (u := .slice none 0 0) (by simp [go_sem, hr3]) (fun x h => (by cases h)) _) Hr.out⟩⟩, ((((hbel.setCell (by simp <;> omega) _).setCell (by simp <;> omega) _).setCell (by simp <;> omega) _).setCell (by simp <;> omega) _)⟩

set_option maxRecDepth 100000 in
set_option maxHeartbeats 4000000 in
theorem rPR_frac_bad (l : List UInt8) (hl : l.length ≤ 4096) (h1 : (47 : UInt8) ∉ l) (h2 : (46 : UInt8) ∈ l) (hp : frcB (cutA 46 l) (cutZ 46 l) = false) (w : World) :
    Calls Tryz.prog 10 #[.string ⟨l.toArray⟩] w (fun e w' => e = .returned (.tuple #[.agg #[.bool false, .slice none 0 0, .bool false, .slice none 0 0], .int .i64 5]) ∧ Below w.heap.size w w') := by
  obtain ⟨W0, hW0⟩ : ∃ W0, W0 = (w.alloc (.cells #[.bool false, .slice none 0 0, .bool false, .slice none 0 0] 33)) := ⟨_, rfl⟩
  have hB0 : Below w.heap.size w W0 := by rw [hW0]; exact (Below.refl _ _).alloc (Nat.le_refl _) _
  have hz0 : W0.heap.size = w.heap.size + 1 := by rw [hW0]; simp
  have HN0 := hid (show w.heap.size < W0.heap.size by rw [hz0]; omega)
  have HS0 : Hid (∀ w', Kp W0.heap.size (w.heap.size) W0 w' → True) := hid (fun _ _ => trivial)
  have HT : Hid (∀ w', Below W0.heap.size W0 w' → (w'.cell? ⟨w.heap.size, 0, none⟩ = some (.bool false) ∧ w'.cell? ⟨w.heap.size, 1, none⟩ = some (.slice none 0 0) ∧ w'.cell? ⟨w.heap.size, 2, none⟩ = some (.bool false) ∧ w'.cell? ⟨w.heap.size, 3, none⟩ = some (.slice none 0 0)) ∧ (w'.frozen? ⟨w.heap.size, 0, none⟩ = false ∧ w'.frozen? ⟨w.heap.size, 1, none⟩ = false ∧ w'.frozen? ⟨w.heap.size, 2, none⟩ = false ∧ w'.frozen? ⟨w.heap.size, 3, none⟩ = false)) := hid (fun w' hb => by
    refine ⟨⟨?_, ?_, ?_, ?_⟩, ?_, ?_, ?_, ?_⟩ <;> (first | (rw [hb.cell (by rw [hz0]; simp), hW0]; simp [go_sem]; done) | (rw [hb.frozen (by rw [hz0]; simp), hW0]; simp [go_sem]; done)))
  have hbq0 : ∀ w : World, (Instr.build 33 #[]).run Tryz.prog w = .ok (.agg #[.bool false, .slice none 0 0, .bool false, .slice none 0 0]) w := fun w => by kernel_rfl
  obtain ⟨e1, _, _⟩ := cut_parts h2
  have hab : (cutA 46 l).length + (cutZ 46 l).length ≤ 4096 := by have := cut_len 46 l; omega
  have HF1 := hid (fun w' => rfind_any 47 l (-1) w' (by omega) (fiI_no h1))
  have HF2 := hid (fun w' => rfind_any 46 l (((cutA 46 l).length : Int)) w' (by omega) (fiI_yes h2))
  have HFr := hid (fun w' => by have h := rfraction_bad (cutA 46 l) (cutZ 46 l) hab hp w'; rw [← e1] at h; exact h)
  obtain ⟨A, hA⟩ : ∃ A, A = (cutA 46 l).length := ⟨_, rfl⟩
  rw [← hA] at HF2 HFr
  have hA0 : ¬ (A : Int) < 0 := by omega
  have hlI : ¬ (4096 : Int) < (l.length : Int) := by omega
  have HB0 := hid hB0; have HW0 := hid hW0
  clear hW0 hB0 hz0 hl h1 h2 hp e1 hab hA
  go_enter Tryz.func10, Tryz.ntmps10
  go_upto_region 3 with (fail)
  rw [← HW0.out]
  go_wp2_with fail
  refine (HF1.out _).mono ?_
  rintro e w1 ⟨rfl, hw⟩
  obtain rfl : W0 = w1 := hw.symm
  go_wp2_with fail
  refine (HF2.out _).mono ?_
  rintro e w1 ⟨rfl, hw⟩
  obtain rfl : W0 = w1 := hw.symm
  clear HF1 HF2
  go_upto_region 11 with (fail)
  go_wp2_with fail
  refine (HFr.out _).mono ?_
  rintro e wq9 ⟨rfl, hbq⟩
  have hX9 : Below W0.heap.size W0 wq9 := hbq
  obtain ⟨⟨hr0, hr1, hr2, hr3⟩, hf0, hf1, hf2, hf3⟩ := HT.out _ hX9
  have hn0 := HN0.out
  have hbel : Below w.heap.size w wq9 := HB0.out.trans (hX9.mono HB0.out.size)
  go_wp2
  refine bodyPost_ret (v := .tuple #[.agg #[.bool false, .slice none 0 0, .bool false, .slice none 0 0], .int .i64 5]) (by simp [results, Tryz.results10, go_sem, hr0, hr1, hr2, hr3]) rfl ⟨rfl, ((((hbel.setCell (by simp <;> omega) _).setCell (by simp <;> omega) _).setCell (by simp <;> omega) _).setCell (by simp <;> omega) _)⟩

set_option maxRecDepth 100000 in
set_option maxHeartbeats 4000000 in
theorem rPR_frac_good (l : List UInt8) (hl : l.length ≤ 4096) (h1 : (47 : UInt8) ∉ l) (h2 : (46 : UInt8) ∈ l) (hp : frcB (cutA 46 l) (cutZ 46 l) = true) (w : World) :
    Calls Tryz.prog 10 #[.string ⟨l.toArray⟩] w (RetQvE w 0 (decZ (cutA 46 l) (cutZ 46 l)) (10 ^ (cutZ 46 l).length)) := by
  obtain ⟨W0, hW0⟩ : ∃ W0, W0 = (w.alloc (.cells #[.bool false, .slice none 0 0, .bool false, .slice none 0 0] 33)) := ⟨_, rfl⟩
  have hB0 : Below w.heap.size w W0 := by rw [hW0]; exact (Below.refl _ _).alloc (Nat.le_refl _) _
  have hz0 : W0.heap.size = w.heap.size + 1 := by rw [hW0]; simp
  have HN0 := hid (show w.heap.size < W0.heap.size by rw [hz0]; omega)
  have HS0 : Hid (∀ w', Kp W0.heap.size (w.heap.size) W0 w' → True) := hid (fun _ _ => trivial)
  have HT : Hid (∀ w', Below W0.heap.size W0 w' → (w'.cell? ⟨w.heap.size, 0, none⟩ = some (.bool false) ∧ w'.cell? ⟨w.heap.size, 1, none⟩ = some (.slice none 0 0) ∧ w'.cell? ⟨w.heap.size, 2, none⟩ = some (.bool false) ∧ w'.cell? ⟨w.heap.size, 3, none⟩ = some (.slice none 0 0)) ∧ (w'.frozen? ⟨w.heap.size, 0, none⟩ = false ∧ w'.frozen? ⟨w.heap.size, 1, none⟩ = false ∧ w'.frozen? ⟨w.heap.size, 2, none⟩ = false ∧ w'.frozen? ⟨w.heap.size, 3, none⟩ = false)) := hid (fun w' hb => by
    refine ⟨⟨?_, ?_, ?_, ?_⟩, ?_, ?_, ?_, ?_⟩ <;> (first | (rw [hb.cell (by rw [hz0]; simp), hW0]; simp [go_sem]; done) | (rw [hb.frozen (by rw [hz0]; simp), hW0]; simp [go_sem]; done)))
  have hbq0 : ∀ w : World, (Instr.build 33 #[]).run Tryz.prog w = .ok (.agg #[.bool false, .slice none 0 0, .bool false, .slice none 0 0]) w := fun w => by kernel_rfl
  obtain ⟨e1, _, _⟩ := cut_parts h2
  have hab : (cutA 46 l).length + (cutZ 46 l).length ≤ 4096 := by have := cut_len 46 l; omega
  have HF1 := hid (fun w' => rfind_any 47 l (-1) w' (by omega) (fiI_no h1))
  have HF2 := hid (fun w' => rfind_any 46 l (((cutA 46 l).length : Int)) w' (by omega) (fiI_yes h2))
  have HFr := hid (fun w' => by have h := rfraction_good (cutA 46 l) (cutZ 46 l) hab hp w'; rw [← e1] at h; exact h)
  obtain ⟨N, hN⟩ : ∃ N, N = decZ (cutA 46 l) (cutZ 46 l) := ⟨_, rfl⟩
  obtain ⟨P, hP⟩ : ∃ P : Int, P = 10 ^ (cutZ 46 l).length := ⟨_, rfl⟩
  rw [← hN, ← hP] at HFr ⊢
  obtain ⟨A, hA⟩ : ∃ A, A = (cutA 46 l).length := ⟨_, rfl⟩
  rw [← hA] at HF2 HFr
  have hA0 : ¬ (A : Int) < 0 := by omega
  have hlI : ¬ (4096 : Int) < (l.length : Int) := by omega
  have HB0 := hid hB0; have HW0 := hid hW0
  clear hW0 hB0 hz0 hl h1 h2 hp e1 hab hA hN hP
  go_enter Tryz.func10, Tryz.ntmps10
  go_upto_region 3 with (fail)
  rw [← HW0.out]
  go_wp2_with fail
  refine (HF1.out _).mono ?_
  rintro e w1 ⟨rfl, hw⟩
  obtain rfl : W0 = w1 := hw.symm
  go_wp2_with fail
  refine (HF2.out _).mono ?_
  rintro e w1 ⟨rfl, hw⟩
  obtain rfl : W0 = w1 := hw.symm
  clear HF1 HF2
  go_upto_region 11 with (fail)
  go_wp2_with fail
  refine (HFr.out _).mono ?_
  rintro e wq9 ⟨br, or, mr, cr, bbr, oor, mmr, ccr, rfl, Hr, hbq⟩
  have hX9 : Below W0.heap.size W0 wq9 := hbq
  obtain ⟨⟨hr0, hr1, hr2, hr3⟩, hf0, hf1, hf2, hf3⟩ := HT.out _ hX9
  have hn0 := HN0.out
  have hbel : Below w.heap.size w wq9 := HB0.out.trans (hX9.mono HB0.out.size)
  go_wp2
  refine bodyPost_ret (v := .tuple #[(.agg #[.bool br, .slice or mr cr, .bool bbr, .slice oor mmr ccr]), .int .i64 0]) (by simp [results, Tryz.results10, go_sem, hr0, hr1, hr2, hr3]) rfl ⟨_, _, _, _, _, _, _, _, rfl, hid (qvE_keeps (((((Keeps.refl _ _).setCell (u := .bool false) hr0 (fun x h => (by cases h)) _).setCell (u := .slice none 0 0) (by simp [go_sem, hr1]) (fun x h => (by cases h)) _).setCell (u := .bool false) (by simp [go_sem, hr2]) (fun x h => (by cases h)) _).setCell (u := .slice none 0 0) (by simp [go_sem, hr3]) (fun x h => (by cases h)) _) Hr.out), ((((hbel.setCell (by simp <;> omega) _).setCell (by simp <;> omega) _).setCell (by simp <;> omega) _).setCell (by simp <;> omega) _)⟩

set_option maxRecDepth 100000 in
set_option maxHeartbeats 4000000 in
theorem rPR_quo_bad (l : List UInt8) (hl : l.length ≤ 4096) (h1 : (47 : UInt8) ∈ l) (hq : quoB (cutA 47 l) (cutZ 47 l) = false) (w : World) :
    Calls Tryz.prog 10 #[.string ⟨l.toArray⟩] w (fun e w' => e = .returned (.tuple #[.agg #[.bool false, .slice none 0 0, .bool false, .slice none 0 0], .int .i64 5]) ∧ Below w.heap.size w w') := by
  obtain ⟨e1, _, _⟩ := cut_parts h1
  obtain ⟨a, ha⟩ : ∃ a, a = cutA 47 l := ⟨_, rfl⟩
  obtain ⟨b, hb⟩ : ∃ b, b = cutZ 47 l := ⟨_, rfl⟩
  have hF := fiI_yes h1
  rw [← ha, ← hb] at e1 hq
  rw [← ha] at hF
  have hll : l.length = a.length + 1 + b.length := by
    have h := congrArg List.length e1
    simp at h
    omega
  have hx1 : (⟨l.toArray⟩ : ByteArray).extract 0 a.length = ⟨a.toArray⟩ := by rw [ba_take]; congr 2; rw [e1]; simp
  have hx2 : (⟨l.toArray⟩ : ByteArray).extract (a.length + 1) l.length = ⟨b.toArray⟩ := by
    have h := ba_drop l (a.length + 1)
    rw [show l.drop (a.length + 1) = b by rw [e1, List.drop_append]; simp] at h
    exact h
  obtain ⟨pa, hpa⟩ : ∃ p, p = prsB a := ⟨_, rfl⟩
  obtain ⟨pb, hpb⟩ : ∃ p, p = prsB b := ⟨_, rfl⟩
  obtain ⟨za, hza⟩ : ∃ z, z = prsZ a := ⟨_, rfl⟩
  obtain ⟨zb, hzb⟩ : ∃ z, z = prsZ b := ⟨_, rfl⟩
  obtain ⟨Ea, hEa⟩ : ∃ E : Int, E = if pa then 0 else 5 := ⟨_, rfl⟩
  obtain ⟨Eb, hEb⟩ : ∃ E : Int, E = if pb then 0 else 5 := ⟨_, rfl⟩
  obtain ⟨x, hx⟩ : ∃ x, cmpI zb 0 = x := ⟨_, rfl⟩
  have hx0 : 0 < x ↔ 0 < zb := by rw [← hx]; exact cmpI_pos0
  have HPa := hid (fun w' => rParse_o a (by omega) pa Ea za hpa hEa hza w')
  have HPb := hid (fun w' => rParse_o b (by omega) pb Eb zb hpb hEb hzb w')
  have HF1 := hid (fun w' => rfind_any 47 l (a.length : Int) w' (by omega) hF)
  have HF2 := hid (fun w' => rfind_any 46 l (fiI 46 l) w' (by omega) rfl)
  obtain ⟨i2, hi2⟩ : ∃ i, i = fiI 46 l := ⟨_, rfl⟩
  rw [← hi2] at HF2
  unfold quoB at hq
  rw [← hpa, ← hpb, ← hzb] at hq
  obtain ⟨A, hA⟩ : ∃ A, A = a.length := ⟨_, rfl⟩
  rw [← hA] at hll hx1 hx2 HF1
  obtain ⟨S, hS⟩ : ∃ S : ByteArray, S = ⟨l.toArray⟩ := ⟨_, rfl⟩
  have hSs : S.size = l.length := by rw [hS]; rfl
  rw [← hS] at hx1 hx2 HF1 HF2 ⊢
  rw [← hSs] at hx2
  have hlI : ¬ (4096 : Int) < (S.size : Int) := by omega
  have hA0 : (0 : Int) ≤ (A : Int) := by omega
  have hAn : ¬ (A : Int) < 0 := by omega
  have hA1 : (A : Int) ≤ (S.size : Int) := by omega
  have hA2 : (A : Int) + 1 ≤ (S.size : Int) := by omega
  have hw1 : wrap64 ((A : Int) + 1) = (A : Int) + 1 := by unfold wrap64; omega
  obtain ⟨W0, hW0⟩ : ∃ W0, W0 = (w.alloc (.cells #[.bool false, .slice none 0 0, .bool false, .slice none 0 0] 33)) := ⟨_, rfl⟩
  have hB0 : Below w.heap.size w W0 := by rw [hW0]; exact (Below.refl _ _).alloc (Nat.le_refl _) _
  have hz0 : W0.heap.size = w.heap.size + 1 := by rw [hW0]; simp
  have HN0 := hid (show w.heap.size < W0.heap.size by rw [hz0]; omega)
  have HS0 : Hid (∀ w', Kp W0.heap.size (w.heap.size) W0 w' → True) := hid (fun _ _ => trivial)
  have HT : Hid (∀ w', Below W0.heap.size W0 w' → (w'.cell? ⟨w.heap.size, 0, none⟩ = some (.bool false) ∧ w'.cell? ⟨w.heap.size, 1, none⟩ = some (.slice none 0 0) ∧ w'.cell? ⟨w.heap.size, 2, none⟩ = some (.bool false) ∧ w'.cell? ⟨w.heap.size, 3, none⟩ = some (.slice none 0 0)) ∧ (w'.frozen? ⟨w.heap.size, 0, none⟩ = false ∧ w'.frozen? ⟨w.heap.size, 1, none⟩ = false ∧ w'.frozen? ⟨w.heap.size, 2, none⟩ = false ∧ w'.frozen? ⟨w.heap.size, 3, none⟩ = false)) := hid (fun w' hb => by
    refine ⟨⟨?_, ?_, ?_, ?_⟩, ?_, ?_, ?_, ?_⟩ <;> (first | (rw [hb.cell (by rw [hz0]; simp), hW0]; simp [go_sem]; done) | (rw [hb.frozen (by rw [hz0]; simp), hW0]; simp [go_sem]; done)))
  have hbq0 : ∀ w : World, (Instr.build 33 #[]).run Tryz.prog w = .ok (.agg #[.bool false, .slice none 0 0, .bool false, .slice none 0 0]) w := fun w => by kernel_rfl
  have HQ := hid hq; clear hq
  have HXx := hid hx; have HX0 := hid hx0; have HEa := hid hEa; have HEb := hid hEb
  have HB0 := hid hB0; have HW0 := hid hW0
  clear hW0 hB0 hz0 hl h1 e1 ha hb hF hll hpa hpb hza hzb hEa hEb hx hx0 hA hS hSs hi2
  go_enter Tryz.func10, Tryz.ntmps10
  go_upto_region 3 with (fail)
  rw [← HW0.out]
  go_wp2_with fail
  refine (HF1.out _).mono ?_
  rintro e w1 ⟨rfl, hw⟩
  obtain rfl : W0 = w1 := hw.symm
  go_wp2_with fail
  refine (HF2.out _).mono ?_
  rintro e w1 ⟨rfl, hw⟩
  obtain rfl : W0 = w1 := hw.symm
  clear HF1 HF2
  go_upto_region 12 with (fail)
  go_wp2_with fail
  try rw [hx1]
  refine (HPa.out _).mono ?_
  rintro e wq8 ⟨bn, on, mn, cn, rfl, Hn, hbq⟩
  have hXq : Below W0.heap.size W0 wq8 := hbq
  obtain ⟨W1, hW1⟩ : ∃ W, W = wq8.alloc (.cells #[.bool bn, .slice on mn cn] 31) := ⟨_, rfl⟩
  have hal1 : Below wq8.heap.size wq8 W1 := by rw [hW1]; exact bl_new _
  have hXn1 : Below W0.heap.size W0 W1 := bl_tr hXq hal1
  have hsz1 : w.heap.size < wq8.heap.size := Nat.lt_of_lt_of_le HN0.out hXq.size
  have HS1 : Hid (∀ w', Kp W1.heap.size (w.heap.size) W1 w' → w'.cell? ⟨wq8.heap.size, 0, none⟩ = some (.bool bn) ∧ w'.cell? ⟨wq8.heap.size, 1, none⟩ = some (.slice on mn cn)) := hid (fun w' hb => by
    refine ⟨?_, ?_⟩ <;> (rw [hb.cell _ (by rw [hW1]; simp) (by simp <;> omega), hW1]; simp [go_sem]))
  replace HT := hid (fun w' hb => HT.out w' (bl_tr hXn1 hb))
  have V8 : Hid (∀ w', Below W1.heap.size W1 w' → (pa = true → Zt w' (.agg #[.bool bn, .slice on mn cn]) za 30000)) := hid (fun w' hb => fun hp => (Hn.out hp).below (bl_tr hal1 hb) (Nat.le_refl _))
  have HN1 := hid (show w.heap.size < W1.heap.size from Nat.lt_of_lt_of_le HN0.out hXn1.size)
  have HB1 := hid (HB0.out.trans (hXn1.mono HB0.out.size)); have HW1 := hid hW1
  clear hW1 hal1 hXn1 hsz1 HS0 HB0 HW0 HN0 hXq
  clear hbq Hn HPa
  go_upto_region 13 with (fail)
  rw [← HW1.out]
  obtain ⟨k0, k1⟩ := HS1.out _ (Kp.of_below (Below.refl _ _))
  go_wp2_with fail
  try rw [hx2]
  refine (HPb.out _).mono ?_
  rintro e wq10 ⟨bk, ok, mk, ck, rfl, Hk, hbq⟩
  have hXq : Below W1.heap.size W1 wq10 := hbq
  clear k0 k1
  obtain ⟨W2, hW2⟩ : ∃ W, W = wq10.alloc (.cells #[.bool bk, .slice ok mk ck] 31) := ⟨_, rfl⟩
  have hal2 : Below wq10.heap.size wq10 W2 := by rw [hW2]; exact bl_new _
  have hXn2 : Below W1.heap.size W1 W2 := bl_tr hXq hal2
  have hsz2 : w.heap.size < wq10.heap.size := Nat.lt_of_lt_of_le HN1.out hXq.size
  have HS2 : Hid (∀ w', Kp W2.heap.size (w.heap.size) W2 w' → (w'.cell? ⟨wq8.heap.size, 0, none⟩ = some (.bool bn) ∧ w'.cell? ⟨wq8.heap.size, 1, none⟩ = some (.slice on mn cn)) ∧ w'.cell? ⟨wq10.heap.size, 0, none⟩ = some (.bool bk) ∧ w'.cell? ⟨wq10.heap.size, 1, none⟩ = some (.slice ok mk ck)) := hid (fun w' hb => by
    refine ⟨HS1.out _ (hb.trans_below hXn2), ?_, ?_⟩ <;> (rw [hb.cell _ (by rw [hW2]; simp) (by simp <;> omega), hW2]; simp [go_sem]))
  replace HT := hid (fun w' hb => HT.out w' (bl_tr hXn2 hb))
  replace V8 := hid (fun w' hb => V8.out w' (bl_tr hXn2 hb))
  have V10 : Hid (∀ w', Below W2.heap.size W2 w' → (pb = true → Zt w' (.agg #[.bool bk, .slice ok mk ck]) zb 30000)) := hid (fun w' hb => fun hp => (Hk.out (by simp_all)).below (bl_tr hal2 hb) (Nat.le_refl _))
  have HN2 := hid (show w.heap.size < W2.heap.size from Nat.lt_of_lt_of_le HN1.out hXn2.size)
  have HB2 := hid (HB1.out.trans (hXn2.mono HB1.out.size)); have HW2 := hid hW2
  clear hW2 hal2 hXn2 hsz2 HS1 HB1 HW1 HN1 hXq
  clear hbq Hk HPb
  go_upto_region 14 with (fail)
  rw [← HW2.out]
  cases pa with
  | false =>
    have he : Ea = 5 := HEa.out
    subst he
    obtain ⟨⟨k0, k1⟩, k2, k3⟩ := HS2.out _ (Kp.of_below (Below.refl _ _))
    obtain ⟨⟨hr0, hr1, hr2, hr3⟩, hf0, hf1, hf2, hf3⟩ := HT.out _ (Below.refl _ _)
    have hY := Below.refl W2.heap.size W2
    have hn0 := HN2.out
    have hbel : Below w.heap.size w W2 := HB2.out.trans (hY.mono HB2.out.size)
    go_wp2
    refine bodyPost_ret (v := .tuple #[.agg #[.bool false, .slice none 0 0, .bool false, .slice none 0 0], .int .i64 5]) (by simp [results, Tryz.results10, go_sem, hr0, hr1, hr2, hr3]) rfl ⟨rfl, ((((hbel.setCell (by simp <;> omega) _).setCell (by simp <;> omega) _).setCell (by simp <;> omega) _).setCell (by simp <;> omega) _)⟩
  | true =>
    have he : Ea = 0 := HEa.out
    subst he
    cases pb with
    | false =>
      have he2 : Eb = 5 := HEb.out
      subst he2
      obtain ⟨⟨k0, k1⟩, k2, k3⟩ := HS2.out _ (Kp.of_below (Below.refl _ _))
      obtain ⟨⟨hr0, hr1, hr2, hr3⟩, hf0, hf1, hf2, hf3⟩ := HT.out _ (Below.refl _ _)
      have hY := Below.refl W2.heap.size W2
      have hn0 := HN2.out
      have hbel : Below w.heap.size w W2 := HB2.out.trans (hY.mono HB2.out.size)
      go_wp2
      refine bodyPost_ret (v := .tuple #[.agg #[.bool false, .slice none 0 0, .bool false, .slice none 0 0], .int .i64 5]) (by simp [results, Tryz.results10, go_sem, hr0, hr1, hr2, hr3]) rfl ⟨rfl, ((((hbel.setCell (by simp <;> omega) _).setCell (by simp <;> omega) _).setCell (by simp <;> omega) _).setCell (by simp <;> omega) _)⟩
    | true =>
      have he2 : Eb = 0 := HEb.out
      subst he2
      have hxl : x ≤ 0 := by have := HX0.out; have hq := HQ.out; simp at hq; omega
      obtain ⟨⟨k0, k1⟩, k2, k3⟩ := HS2.out _ (Kp.of_below (Below.refl _ _))
      go_wp2_with fail
      refine (rsign_t _ zb x 30000 _ (V10.out _ (Below.refl _ _) (by simp)) HXx.out).mono ?_
      rintro e wz ⟨rfl, hbz⟩
      have hXz : Below W2.heap.size W2 wz := hbz
      clear k0 k1 k2 k3
      obtain ⟨⟨hr0, hr1, hr2, hr3⟩, hf0, hf1, hf2, hf3⟩ := HT.out _ hXz
      have hn0 := HN2.out
      have hbel : Below w.heap.size w wz := HB2.out.trans (hXz.mono HB2.out.size)
      go_wp2
      refine bodyPost_ret (v := .tuple #[.agg #[.bool false, .slice none 0 0, .bool false, .slice none 0 0], .int .i64 5]) (by simp [results, Tryz.results10, go_sem, hr0, hr1, hr2, hr3]) rfl ⟨rfl, ((((hbel.setCell (by simp <;> omega) _).setCell (by simp <;> omega) _).setCell (by simp <;> omega) _).setCell (by simp <;> omega) _)⟩

set_option maxRecDepth 100000 in
set_option maxHeartbeats 4000000 in
theorem rPR_quo_good (l : List UInt8) (hl : l.length ≤ 4096) (h1 : (47 : UInt8) ∈ l) (hq : quoB (cutA 47 l) (cutZ 47 l) = true) (w : World) :
    Calls Tryz.prog 10 #[.string ⟨l.toArray⟩] w (RetQvE w 0 (prsZ (cutA 47 l)) (prsZ (cutZ 47 l))) := by
  obtain ⟨e1, _, _⟩ := cut_parts h1
  obtain ⟨a, ha⟩ : ∃ a, a = cutA 47 l := ⟨_, rfl⟩
  obtain ⟨b, hb⟩ : ∃ b, b = cutZ 47 l := ⟨_, rfl⟩
  have hF := fiI_yes h1
  rw [← ha, ← hb] at e1 hq
  rw [← ha] at hF
  have hll : l.length = a.length + 1 + b.length := by
    have h := congrArg List.length e1
    simp at h
    omega
  have hx1 : (⟨l.toArray⟩ : ByteArray).extract 0 a.length = ⟨a.toArray⟩ := by rw [ba_take]; congr 2; rw [e1]; simp
  have hx2 : (⟨l.toArray⟩ : ByteArray).extract (a.length + 1) l.length = ⟨b.toArray⟩ := by
    have h := ba_drop l (a.length + 1)
    rw [show l.drop (a.length + 1) = b by rw [e1, List.drop_append]; simp] at h
    exact h
  obtain ⟨pa, hpa⟩ : ∃ p, p = prsB a := ⟨_, rfl⟩
  obtain ⟨pb, hpb⟩ : ∃ p, p = prsB b := ⟨_, rfl⟩
  obtain ⟨za, hza⟩ : ∃ z, z = prsZ a := ⟨_, rfl⟩
  obtain ⟨zb, hzb⟩ : ∃ z, z = prsZ b := ⟨_, rfl⟩
  obtain ⟨Ea, hEa⟩ : ∃ E : Int, E = if pa then 0 else 5 := ⟨_, rfl⟩
  obtain ⟨Eb, hEb⟩ : ∃ E : Int, E = if pb then 0 else 5 := ⟨_, rfl⟩
  obtain ⟨x, hx⟩ : ∃ x, cmpI zb 0 = x := ⟨_, rfl⟩
  have hx0 : 0 < x ↔ 0 < zb := by rw [← hx]; exact cmpI_pos0
  have HPa := hid (fun w' => rParse_o a (by omega) pa Ea za hpa hEa hza w')
  have HPb := hid (fun w' => rParse_o b (by omega) pb Eb zb hpb hEb hzb w')
  have HF1 := hid (fun w' => rfind_any 47 l (a.length : Int) w' (by omega) hF)
  have HF2 := hid (fun w' => rfind_any 46 l (fiI 46 l) w' (by omega) rfl)
  obtain ⟨i2, hi2⟩ : ∃ i, i = fiI 46 l := ⟨_, rfl⟩
  rw [← hi2] at HF2
  unfold quoB at hq
  rw [← hpa, ← hpb, ← hzb] at hq
  obtain ⟨A, hA⟩ : ∃ A, A = a.length := ⟨_, rfl⟩
  rw [← hA] at hll hx1 hx2 HF1
  obtain ⟨S, hS⟩ : ∃ S : ByteArray, S = ⟨l.toArray⟩ := ⟨_, rfl⟩
  have hSs : S.size = l.length := by rw [hS]; rfl
  rw [← hS] at hx1 hx2 HF1 HF2 ⊢
  rw [← hSs] at hx2
  have hlI : ¬ (4096 : Int) < (S.size : Int) := by omega
  have hA0 : (0 : Int) ≤ (A : Int) := by omega
  have hAn : ¬ (A : Int) < 0 := by omega
  have hA1 : (A : Int) ≤ (S.size : Int) := by omega
  have hA2 : (A : Int) + 1 ≤ (S.size : Int) := by omega
  have hw1 : wrap64 ((A : Int) + 1) = (A : Int) + 1 := by unfold wrap64; omega
  obtain ⟨W0, hW0⟩ : ∃ W0, W0 = (w.alloc (.cells #[.bool false, .slice none 0 0, .bool false, .slice none 0 0] 33)) := ⟨_, rfl⟩
  have hB0 : Below w.heap.size w W0 := by rw [hW0]; exact (Below.refl _ _).alloc (Nat.le_refl _) _
  have hz0 : W0.heap.size = w.heap.size + 1 := by rw [hW0]; simp
  have HN0 := hid (show w.heap.size < W0.heap.size by rw [hz0]; omega)
  have HS0 : Hid (∀ w', Kp W0.heap.size (w.heap.size) W0 w' → True) := hid (fun _ _ => trivial)
  have HT : Hid (∀ w', Below W0.heap.size W0 w' → (w'.cell? ⟨w.heap.size, 0, none⟩ = some (.bool false) ∧ w'.cell? ⟨w.heap.size, 1, none⟩ = some (.slice none 0 0) ∧ w'.cell? ⟨w.heap.size, 2, none⟩ = some (.bool false) ∧ w'.cell? ⟨w.heap.size, 3, none⟩ = some (.slice none 0 0)) ∧ (w'.frozen? ⟨w.heap.size, 0, none⟩ = false ∧ w'.frozen? ⟨w.heap.size, 1, none⟩ = false ∧ w'.frozen? ⟨w.heap.size, 2, none⟩ = false ∧ w'.frozen? ⟨w.heap.size, 3, none⟩ = false)) := hid (fun w' hb => by
    refine ⟨⟨?_, ?_, ?_, ?_⟩, ?_, ?_, ?_, ?_⟩ <;> (first | (rw [hb.cell (by rw [hz0]; simp), hW0]; simp [go_sem]; done) | (rw [hb.frozen (by rw [hz0]; simp), hW0]; simp [go_sem]; done)))
  have hbq0 : ∀ w : World, (Instr.build 33 #[]).run Tryz.prog w = .ok (.agg #[.bool false, .slice none 0 0, .bool false, .slice none 0 0]) w := fun w => by kernel_rfl
  simp only [Bool.and_eq_true, decide_eq_true_eq] at hq
  obtain ⟨⟨hq1, hq2⟩, hq3⟩ := hq
  subst hq1; subst hq2
  have he : Ea = 0 := hEa
  have he2 : Eb = 0 := hEb
  subst he; subst he2
  rw [← ha, ← hb, ← hza, ← hzb]
  have hxl : ¬ x ≤ 0 := by omega
  have HQ3 := hid hq3; clear hq3
  have HXx := hid hx; have HX0 := hid hx0; have HEa := hid hEa; have HEb := hid hEb
  have HB0 := hid hB0; have HW0 := hid hW0
  clear hW0 hB0 hz0 hl h1 e1 ha hb hF hll hpa hpb hza hzb hEa hEb hx hx0 hA hS hSs hi2
  go_enter Tryz.func10, Tryz.ntmps10
  go_upto_region 3 with (fail)
  rw [← HW0.out]
  go_wp2_with fail
  refine (HF1.out _).mono ?_
  rintro e w1 ⟨rfl, hw⟩
  obtain rfl : W0 = w1 := hw.symm
  go_wp2_with fail
  refine (HF2.out _).mono ?_
  rintro e w1 ⟨rfl, hw⟩
  obtain rfl : W0 = w1 := hw.symm
  clear HF1 HF2
  go_upto_region 12 with (fail)
  go_wp2_with fail
  try rw [hx1]
  refine (HPa.out _).mono ?_
  rintro e wq8 ⟨bn, on, mn, cn, rfl, Hn, hbq⟩
  have hXq : Below W0.heap.size W0 wq8 := hbq
  obtain ⟨W1, hW1⟩ : ∃ W, W = wq8.alloc (.cells #[.bool bn, .slice on mn cn] 31) := ⟨_, rfl⟩
  have hal1 : Below wq8.heap.size wq8 W1 := by rw [hW1]; exact bl_new _
  have hXn1 : Below W0.heap.size W0 W1 := bl_tr hXq hal1
  have hsz1 : w.heap.size < wq8.heap.size := Nat.lt_of_lt_of_le HN0.out hXq.size
  have HS1 : Hid (∀ w', Kp W1.heap.size (w.heap.size) W1 w' → w'.cell? ⟨wq8.heap.size, 0, none⟩ = some (.bool bn) ∧ w'.cell? ⟨wq8.heap.size, 1, none⟩ = some (.slice on mn cn)) := hid (fun w' hb => by
    refine ⟨?_, ?_⟩ <;> (rw [hb.cell _ (by rw [hW1]; simp) (by simp <;> omega), hW1]; simp [go_sem]))
  replace HT := hid (fun w' hb => HT.out w' (bl_tr hXn1 hb))
  have V8 : Hid (∀ w', Below W1.heap.size W1 w' → Zt w' (.agg #[.bool bn, .slice on mn cn]) za 30000) := hid (fun w' hb => (Hn.out (by simp)).below (bl_tr hal1 hb) (Nat.le_refl _))
  have HN1 := hid (show w.heap.size < W1.heap.size from Nat.lt_of_lt_of_le HN0.out hXn1.size)
  have HB1 := hid (HB0.out.trans (hXn1.mono HB0.out.size)); have HW1 := hid hW1
  clear hW1 hal1 hXn1 hsz1 HS0 HB0 HW0 HN0 hXq
  clear hbq Hn HPa
  go_upto_region 13 with (fail)
  rw [← HW1.out]
  obtain ⟨k0, k1⟩ := HS1.out _ (Kp.of_below (Below.refl _ _))
  go_wp2_with fail
  try rw [hx2]
  refine (HPb.out _).mono ?_
  rintro e wq10 ⟨bk, ok, mk, ck, rfl, Hk, hbq⟩
  have hXq : Below W1.heap.size W1 wq10 := hbq
  clear k0 k1
  obtain ⟨W2, hW2⟩ : ∃ W, W = wq10.alloc (.cells #[.bool bk, .slice ok mk ck] 31) := ⟨_, rfl⟩
  have hal2 : Below wq10.heap.size wq10 W2 := by rw [hW2]; exact bl_new _
  have hXn2 : Below W1.heap.size W1 W2 := bl_tr hXq hal2
  have hsz2 : w.heap.size < wq10.heap.size := Nat.lt_of_lt_of_le HN1.out hXq.size
  have HS2 : Hid (∀ w', Kp W2.heap.size (w.heap.size) W2 w' → (w'.cell? ⟨wq8.heap.size, 0, none⟩ = some (.bool bn) ∧ w'.cell? ⟨wq8.heap.size, 1, none⟩ = some (.slice on mn cn)) ∧ w'.cell? ⟨wq10.heap.size, 0, none⟩ = some (.bool bk) ∧ w'.cell? ⟨wq10.heap.size, 1, none⟩ = some (.slice ok mk ck)) := hid (fun w' hb => by
    refine ⟨HS1.out _ (hb.trans_below hXn2), ?_, ?_⟩ <;> (rw [hb.cell _ (by rw [hW2]; simp) (by simp <;> omega), hW2]; simp [go_sem]))
  replace HT := hid (fun w' hb => HT.out w' (bl_tr hXn2 hb))
  replace V8 := hid (fun w' hb => V8.out w' (bl_tr hXn2 hb))
  have V10 : Hid (∀ w', Below W2.heap.size W2 w' → Zt w' (.agg #[.bool bk, .slice ok mk ck]) zb 30000) := hid (fun w' hb => (Hk.out (by simp)).below (bl_tr hal2 hb) (Nat.le_refl _))
  have HN2 := hid (show w.heap.size < W2.heap.size from Nat.lt_of_lt_of_le HN1.out hXn2.size)
  have HB2 := hid (HB1.out.trans (hXn2.mono HB1.out.size)); have HW2 := hid hW2
  clear hW2 hal2 hXn2 hsz2 HS1 HB1 HW1 HN1 hXq
  clear hbq Hk HPb
  go_upto_region 14 with (fail)
  rw [← HW2.out]
  obtain ⟨⟨k0, k1⟩, k2, k3⟩ := HS2.out _ (Kp.of_below (Below.refl _ _))
  go_wp2_with fail
  refine (rsign_t _ zb x 30000 _ (V10.out _ (Below.refl _ _)) HXx.out).mono ?_
  rintro e wz ⟨rfl, hbz⟩
  have hXz : Below W2.heap.size W2 wz := hbz
  clear k0 k1 k2 k3
  obtain ⟨⟨k0, k1⟩, k2, k3⟩ := HS2.out _ (Kp.of_below hXz)
  go_upto_region 16 with (fail)
  go_wp2_with fail
  refine (rlowest_v _ _ za zb 30000 30003 _ (V8.out _ hXz) (V10.out _ hXz) HQ3.out (by decide) (by decide) (by decide)).mono ?_
  rintro e wy ⟨br, or, mr, cr, bbr, oor, mmr, ccr, rfl, Hr, hbq⟩
  have hXy : Below W2.heap.size W2 wy := bl_tr hXz hbq
  clear k0 k1 k2 k3
  obtain ⟨⟨hr0, hr1, hr2, hr3⟩, hf0, hf1, hf2, hf3⟩ := HT.out _ hXy
  have hn0 := HN2.out
  have hbel : Below w.heap.size w wy := HB2.out.trans (hXy.mono HB2.out.size)
  go_wp2
  refine bodyPost_ret (v := .tuple #[(.agg #[.bool br, .slice or mr cr, .bool bbr, .slice oor mmr ccr]), .int .i64 0]) (by simp [results, Tryz.results10, go_sem, hr0, hr1, hr2, hr3]) rfl ⟨_, _, _, _, _, _, _, _, rfl, hid ⟨_, _, _, _, _, _, _, _, rfl, Or.inl ⟨rfl, 30003, by decide, Qv.keeps (((((Keeps.refl _ _).setCell (u := .bool false) hr0 (fun x h => (by cases h)) _).setCell (u := .slice none 0 0) (by simp [go_sem, hr1]) (fun x h => (by cases h)) _).setCell (u := .bool false) (by simp [go_sem, hr2]) (fun x h => (by cases h)) _).setCell (u := .slice none 0 0) (by simp [go_sem, hr3]) (fun x h => (by cases h)) _) Hr.out⟩⟩, ((((hbel.setCell (by simp <;> omega) _).setCell (by simp <;> omega) _).setCell (by simp <;> omega) _).setCell (by simp <;> omega) _)⟩

theorem rParseRatio_res (l : List UInt8) (w : World) : Calls Tryz.prog 10 #[.string ⟨l.toArray⟩] w (RetQvE w (prfE l) (prfN l) (prfD l)) := by
  have bad : ∀ (E : Int), prfE l = E → E ≠ 0 → Calls Tryz.prog 10 #[.string ⟨l.toArray⟩] w (fun e w' => e = .returned (.tuple #[.agg #[.bool false, .slice none 0 0, .bool false, .slice none 0 0], .int .i64 E]) ∧ Below w.heap.size w w') → Calls Tryz.prog 10 #[.string ⟨l.toArray⟩] w (RetQvE w (prfE l) (prfN l) (prfD l)) := fun E h1 h2 h => h.mono (by
    rintro e w' ⟨rfl, hb⟩
    rw [h1]
    exact retQvE_bad _ _ h2 hb)
  by_cases hl : 4096 < l.length
  · exact bad 3 (if_pos hl) (by decide) (rPR_long l hl w)
  have hE : prfE l = if prfB l then 0 else 5 := if_neg hl
  have hl' : l.length ≤ 4096 := by omega
  by_cases h1 : (47 : UInt8) ∈ l
  · have c1 := (cut_parts h1).2.2
    have eB : prfB l = quoB (cutA 47 l) (cutZ 47 l) := if_pos c1
    have eN : prfN l = prsZ (cutA 47 l) := if_pos c1
    have eD : prfD l = prsZ (cutZ 47 l) := if_pos c1
    cases hq : quoB (cutA 47 l) (cutZ 47 l) with
    | false => exact bad 5 (by rw [hE, eB, hq]; rfl) (by decide) (rPR_quo_bad l hl' h1 hq w)
    | true => rw [hE, eB, hq, eN, eD]; exact rPR_quo_good l hl' h1 hq w
  · have n1 : ¬ cutB 47 l = true := by rw [cut_none h1]; exact Bool.false_ne_true
    by_cases h2 : (46 : UInt8) ∈ l
    · have c2 := (cut_parts h2).2.2
      have eB : prfB l = decB (cutA 46 l) (cutZ 46 l) := (if_neg n1).trans (if_pos c2)
      have eN : prfN l = decZ (cutA 46 l) (cutZ 46 l) := (if_neg n1).trans (if_pos c2)
      have eD : prfD l = 10 ^ (cutZ 46 l).length := (if_neg n1).trans (if_pos c2)
      rw [← frc_dec] at eB
      cases hq : frcB (cutA 46 l) (cutZ 46 l) with
      | false => exact bad 5 (by rw [hE, eB, hq]; rfl) (by decide) (rPR_frac_bad l hl' h1 h2 hq w)
      | true => rw [hE, eB, hq, eN, eD]; exact rPR_frac_good l hl' h1 h2 hq w
    · have n2 : ¬ cutB 46 l = true := by rw [cut_none h2]; exact Bool.false_ne_true
      have eB : prfB l = prsB l := (if_neg n1).trans (if_neg n2)
      have eN : prfN l = prsZ l := (if_neg n1).trans (if_neg n2)
      have eD : prfD l = 1 := (if_neg n1).trans (if_neg n2)
      cases hq : prsB l with
      | false => exact bad 5 (by rw [hE, eB, hq]; rfl) (by decide) (rPR_plain_bad l hl' h1 h2 hq w)
      | true => rw [hE, eB, hq, eN, eD]; exact rPR_plain_good l hl' h1 h2 hq w
/-- The program's. -/
theorem ParseRatio_res (l : List UInt8) (hl : l.length ≤ 5000) (w : World) (hm : Mx w) : Calls Tryz.prog 9 #[.string ⟨l.toArray⟩] w fun e w' => ∃ b1 o1 m1 c1 b2 o2 m2 c2, e = .returned (.tuple #[.agg #[.bool b1, .slice o1 m1 c1, .bool b2, .slice o2 m2 c2], .int .i64 (prfE l)]) ∧ Hid (RtE w' (.agg #[.bool b1, .slice o1 m1 c1, .bool b2, .slice o2 m2 c2]) (prfE l) (prfN l) (prfD l)) ∧ Below w.heap.size w w' := by
  refine (ParseRatioZ_any l (by omega) w hm).mono ?_
  rintro e w' ⟨b1, o1, m1, c1, b2, o2, m2, c2, rfl, h1, h2, hb⟩
  refine ⟨b1, o1, m1, c1, b2, o2, m2, c2, rfl, hid ⟨b1, o1, m1, c1, b2, o2, m2, c2, rfl, ?_⟩, hb⟩
  by_cases h : prfE l = 0
  · refine Or.inl ⟨h, ?_⟩
    obtain ⟨p1, q1, n1, d1, p2, q2, n2, d2, e, H1, H2⟩ := FrR.opened (h1 h)
    cases e
    exact ⟨_, _, _, _, _, _, _, _, _, rfl, H1.out.an, H2.out.an⟩
  · exact Or.inr ⟨h, h2 h⟩
end Go.Proofs.YtbapeilpkhbbeaaGreatDoor
