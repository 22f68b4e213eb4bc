/- The document's ratios: FromRatio, Half, Times, Plus, Floor, Nearest, Twos by values. Written by gen_rq.py. -/
import Derived.Test.YtbapeilpkhbbeaaGreatDoorYn42
import Derived.Test.YtbapeilpkhbbeaaGreatDoorYn32
import Derived.Test.YtbapeilpkhbbeaaGreatDoorYn16
import Derived.Test.YtbapeilpkhbbeaaGreatDoorYn43
/- The document's ratios: FromRatio, Half, Times, Plus, Floor, Nearest, Twos by values. Written by gen_rq.py. -/
namespace Go.Proofs.YtbapeilpkhbbeaaGreatDoor
open Go.RowKit

theorem Kp.trans_below {g : Nat} {a b w' : World} (h : Kp b.heap.size g b w') (hx : Below a.heap.size a b) : Kp a.heap.size g a w' :=
  ⟨fun p hp hne => (h.cell p (Nat.lt_of_lt_of_le hp hx.size) hne).trans (hx.cell hp)⟩
/-- The call hands back the document's integer, open. -/
def RetZo (w : World) (z : Int) (R : Nat) (e : Ending) (w' : World) : Prop := ∃ b o m c, e = .returned (.agg #[.bool b, .slice o m c]) ∧ Hid (Zt w' (.agg #[.bool b, .slice o m c]) z R) ∧ Below w.heap.size w w'
theorem RetZ.op {w : World} {z : Int} {K R : Nat} {e : Ending} {w' : World} (h : RetZ w z K e w') (hK : K ≤ R) : RetZo w z R e w' := by
  obtain ⟨v, rfl, hv, hb⟩ := h
  obtain ⟨b, o, m, c, rfl, _⟩ := Zt.opened hv
  exact ⟨b, o, m, c, rfl, hid (hv.mono hK), hb⟩
theorem Qv.keeps {w w' : World} {v : Value} {n d : Int} {K : Nat} (hk : Keeps .i64 w w') (h : Qv w v n d K) : Qv w' v n d K := by
  obtain ⟨h0, b1, o1, m1, c1, b2, o2, m2, c2, rfl, h1, h2⟩ := h
  exact ⟨h0, b1, o1, m1, c1, b2, o2, m2, c2, rfl, zt_keeps hk h1, zt_keeps hk h2⟩
theorem qvV (n d : Int) (K : Nat) : KeepV (fun w v => Qv w v n d K) := fun _ _ _ hk h => Qv.keeps (hk .i64) h
theorem ztV (z : Int) (K : Nat) : KeepV (fun w v => Zt w v z K) := fun _ _ _ hk h => zt_keeps (hk .i64) h
theorem rfrom_o (v : Value) (z : Int) (K R : Nat) (w : World) (h : Ai w v z K) (hK : K ≤ 268435456) (hR : 2 * K ≤ R) : Calls Tryz.prog 16 #[v] w (RetZo w z R) :=
  (rfrom_any v z K w h hK).mono fun _ _ h => h.op hR
theorem rmul_o (u v : Value) (x y : Int) (K R : Nat) (w : World) (hu : Zt w u x K) (hv : Zt w v y K) (hK : K ≤ 268435456) (hR : K + K + 1 ≤ R) : Calls Tryz.prog 65 #[u, v] w (RetZo w (x * y) R) :=
  (rmul_any u v x y K K w hu hv hK hK).mono fun _ _ h => h.op hR
theorem radd_o (u v : Value) (x y : Int) (K R : Nat) (w : World) (hu : Zt w u x K) (hv : Zt w v y K) (hK : K ≤ 1073741823) (hR : K + 1 ≤ R) : Calls Tryz.prog 77 #[u, v] w (RetZo w (x + y) R) :=
  (radd_any u v x y K w hu hv hK).mono fun _ _ h => h.op hR
theorem rof_o (n : Int) (w : World) (n0 : -9223372036854775808 ≤ n) (n1 : n < 9223372036854775808) : Calls Tryz.prog 17 #[.int .i64 n] w (RetZo w n 4) :=
  (rof_any n w n0 n1).mono fun _ _ h => h.op (Nat.le_refl _)
theorem qv_zero {w : World} {b : Bool} {o : Option Addr} {m c : Nat} {K : Nat} (h : Zt w (.agg #[.bool b, .slice o m c]) 1 K) : Qv w (.agg #[.bool false, .slice none 0 0, .bool b, .slice o m c]) 0 1 K := by
  refine ⟨by decide, ?_⟩
  rw [(low_one 0).1, (low_one 0).2]
  exact ⟨_, _, _, _, _, _, _, _, rfl, (zt_zero w).mono (by omega), h⟩
theorem qv_of {w : World} {b1 b2 : Bool} {o1 o2 : Option Addr} {m1 c1 m2 c2 : Nat} {x y : Int} {K : Nat} (hy : 0 < y) (hx : lowN x y = x) (hd : lowD x y = y) (h1 : Zt w (.agg #[.bool b1, .slice o1 m1 c1]) x K) (h2 : Zt w (.agg #[.bool b2, .slice o2 m2 c2]) y K) : Qv w (.agg #[.bool b1, .slice o1 m1 c1, .bool b2, .slice o2 m2 c2]) x y K := by
  refine ⟨hy, ?_⟩
  rw [hx, hd]
  exact ⟨_, _, _, _, _, _, _, _, rfl, h1, h2⟩
theorem low_pos {n d : Int} (hd : 0 < d) : 0 < lowD n d := (low_val n hd).2
/-- Two fractions in lowest terms, with the numbers' names hidden. -/
theorem low_open (n : Int) {d : Int} (hd : 0 < d) : ∃ N E, N = lowN n d ∧ E = lowD n d ∧ 0 < E ∧ N * d = n * E := ⟨_, _, rfl, rfl, low_pos hd, (low_val n hd).1⟩

set_option maxRecDepth 100000 in
set_option maxHeartbeats 2000000 in
theorem rfromRatio_ra (v : Value) (x y : Int) (K R : Nat) (w : World) (hv : Ra w v x y K) (hK2 : 2 ≤ K) (hK : K ≤ 1000000) (hR : 2 * K + 3 ≤ R) :
    Calls Tryz.prog 6 #[v] w (RetQ w (rn x y) (rd y) R) := by
  obtain ⟨xb, xo, xm, xc, yb, yo, ym, yc, rfl, Hx, Hy⟩ := Ra.opened hv
  have HR := hid hR; have HK := hid hK; have HK2 := hid hK2
  obtain ⟨W0, hW0⟩ : ∃ W0, W0 = ((w.alloc (.cells #[.bool xb, .slice xo xm xc, .bool yb, .slice yo ym yc] 26)).alloc (.cells #[.bool false, .slice none 0 0, .bool false, .slice none 0 0] 33)) := ⟨_, rfl⟩
  have hB0 : Below w.heap.size w W0 := by rw [hW0]; exact ((Below.refl _ _).alloc (Nat.le_refl _) _).alloc (by simp <;> omega) _
  have hz0 : W0.heap.size = w.heap.size + 2 := by rw [hW0]; simp
  have HN0 := hid (show w.heap.size + 1 < W0.heap.size by rw [hz0]; omega)
  have HS0 : Hid (∀ w', Kp W0.heap.size (w.heap.size + 1) W0 w' → w'.cell? ⟨w.heap.size, 0, none⟩ = some (.bool xb) ∧ w'.cell? ⟨w.heap.size, 1, none⟩ = some (.slice xo xm xc) ∧ w'.cell? ⟨w.heap.size, 2, none⟩ = some (.bool yb) ∧ w'.cell? ⟨w.heap.size, 3, none⟩ = some (.slice yo ym yc)) := hid (fun w' hb => by
    refine ⟨?_, ?_, ?_, ?_⟩ <;> (rw [hb.cell _ (by rw [hz0]; simp <;> omega) (by simp <;> omega), hW0]; simp [go_sem]))
  have HT : Hid (∀ w', Below W0.heap.size W0 w' → (w'.cell? ⟨w.heap.size + 1, 0, none⟩ = some (.bool false) ∧ w'.cell? ⟨w.heap.size + 1, 1, none⟩ = some (.slice none 0 0) ∧ w'.cell? ⟨w.heap.size + 1, 2, none⟩ = some (.bool false) ∧ w'.cell? ⟨w.heap.size + 1, 3, none⟩ = some (.slice none 0 0)) ∧ (w'.frozen? ⟨w.heap.size + 1, 0, none⟩ = false ∧ w'.frozen? ⟨w.heap.size + 1, 1, none⟩ = false ∧ w'.frozen? ⟨w.heap.size + 1, 2, none⟩ = false ∧ w'.frozen? ⟨w.heap.size + 1, 3, none⟩ = false)) := hid (fun w' hb => by
    refine ⟨⟨?_, ?_, ?_, ?_⟩, ?_, ?_, ?_, ?_⟩ <;> (first | (rw [hb.cell (by rw [hz0]; simp), hW0]; simp [go_sem]; done) | (rw [hb.frozen (by rw [hz0]; simp), hW0]; simp [go_sem]; done)))
  have VX : Hid (∀ w', Below W0.heap.size W0 w' → Ai w' (.agg #[.bool xb, .slice xo xm xc]) x K) := hid (fun w' hb => Hx.out w' (hB0.trans (hb.mono hB0.size)))
  have VY : Hid (∀ w', Below W0.heap.size W0 w' → Ai w' (.agg #[.bool yb, .slice yo ym yc]) y K) := hid (fun w' hb => Hy.out w' (hB0.trans (hb.mono hB0.size)))
  have hbld : ∀ (b : Bool) (o : Option Addr) (m c : Nat) (w : World), (Instr.build 33 #[(1, .agg #[.bool b, .slice o m c])]).run Tryz.prog w = .ok (.agg #[.bool false, .slice none 0 0, .bool b, .slice o m c]) w := fun b o m c w => by kernel_rfl
  have HB0 := hid hB0; have HW0 := hid hW0
  clear hW0 hB0 hz0 hv hK hK2 hR Hx Hy
  go_enter Tryz.func6, Tryz.ntmps6
  go_upto_region 1 with (fail)
  rw [← HW0.out]
  obtain ⟨k0, k1, k2, k3⟩ := HS0.out _ (Kp.of_below (Below.refl _ _))
  go_wp2_with fail
  refine (rfrom_o _ x K (2 * K) _ (VX.out _ (Below.refl _ _)) (by have := HK.out; omega) (Nat.le_refl _)).mono ?_
  rintro e wq1 ⟨b1, o1, m1, c1, rfl, H1, hbq⟩
  have hXq : Below W0.heap.size W0 wq1 := hbq
  clear k0 k1 k2 k3
  obtain ⟨W1, hW1⟩ : ∃ W, W = wq1.alloc (.cells #[.bool b1, .slice o1 m1 c1] 31) := ⟨_, rfl⟩
  have hal1 : Below wq1.heap.size wq1 W1 := by rw [hW1]; exact bl_new _
  have hXn1 : Below W0.heap.size W0 W1 := bl_tr hXq hal1
  have hsz1 : w.heap.size + 1 < wq1.heap.size := Nat.lt_of_lt_of_le HN0.out hXq.size
  have HS1 : Hid (∀ w', Kp W1.heap.size (w.heap.size + 1) W1 w' → (w'.cell? ⟨w.heap.size, 0, none⟩ = some (.bool xb) ∧ w'.cell? ⟨w.heap.size, 1, none⟩ = some (.slice xo xm xc) ∧ w'.cell? ⟨w.heap.size, 2, none⟩ = some (.bool yb) ∧ w'.cell? ⟨w.heap.size, 3, none⟩ = some (.slice yo ym yc)) ∧ w'.cell? ⟨wq1.heap.size, 0, none⟩ = some (.bool b1) ∧ w'.cell? ⟨wq1.heap.size, 1, none⟩ = some (.slice o1 m1 c1)) := hid (fun w' hb => by
    refine ⟨HS0.out _ (hb.trans_below hXn1), ?_, ?_⟩ <;> (rw [hb.cell _ (by rw [hW1]; simp) (by simp <;> omega), hW1]; simp [go_sem]))
  replace HT := hid (fun w' hb => HT.out w' (bl_tr hXn1 hb))
  replace VX := hid (fun w' hb => VX.out w' (bl_tr hXn1 hb))
  replace VY := hid (fun w' hb => VY.out w' (bl_tr hXn1 hb))
  have V1 : Hid (∀ w', Below W1.heap.size W1 w' → Zt w' (.agg #[.bool b1, .slice o1 m1 c1]) x (2 * K)) := hid (fun w' hb => H1.out.below (bl_tr hal1 hb) (Nat.le_refl _))
  have HN1 := hid (show w.heap.size + 1 < W1.heap.size from Nat.lt_of_lt_of_le HN0.out hXn1.size)
  have HB1 := hid (HB0.out.trans (hXn1.mono HB0.out.size)); have HW1 := hid hW1
  clear hW1 hal1 hXn1 hsz1 HS0 HB0 HW0 HN0 hXq
  go_upto_region 2 with (fail)
  rw [← HW1.out]
  obtain ⟨⟨k0, k1, k2, k3⟩, k4, k5⟩ := HS1.out _ (Kp.of_below (Below.refl _ _))
  go_wp2_with fail
  refine (rfrom_o _ y K (2 * K) _ (VY.out _ (Below.refl _ _)) (by have := HK.out; omega) (Nat.le_refl _)).mono ?_
  rintro e wq2 ⟨b2, o2, m2, c2, rfl, H2, hbq⟩
  have hXq : Below W1.heap.size W1 wq2 := hbq
  clear k0 k1 k2 k3 k4 k5
  have hlen := zt_len H2.out
  obtain ⟨W2, hW2⟩ : ∃ W, W = wq2.alloc (.cells #[.bool b2, .slice o2 m2 c2] 31) := ⟨_, rfl⟩
  have hal2 : Below wq2.heap.size wq2 W2 := by rw [hW2]; exact bl_new _
  have hXn2 : Below W1.heap.size W1 W2 := bl_tr hXq hal2
  have hsz2 : w.heap.size + 1 < wq2.heap.size := Nat.lt_of_lt_of_le HN1.out hXq.size
  have HS2 : Hid (∀ w', Kp W2.heap.size (w.heap.size + 1) W2 w' → ((w'.cell? ⟨w.heap.size, 0, none⟩ = some (.bool xb) ∧ w'.cell? ⟨w.heap.size, 1, none⟩ = some (.slice xo xm xc) ∧ w'.cell? ⟨w.heap.size, 2, none⟩ = some (.bool yb) ∧ w'.cell? ⟨w.heap.size, 3, none⟩ = some (.slice yo ym yc)) ∧ w'.cell? ⟨wq1.heap.size, 0, none⟩ = some (.bool b1) ∧ w'.cell? ⟨wq1.heap.size, 1, none⟩ = some (.slice o1 m1 c1)) ∧ w'.cell? ⟨wq2.heap.size, 0, none⟩ = some (.bool b2) ∧ w'.cell? ⟨wq2.heap.size, 1, none⟩ = some (.slice o2 m2 c2)) := hid (fun w' hb => by
    refine ⟨HS1.out _ (hb.trans_below hXn2), ?_, ?_⟩ <;> (rw [hb.cell _ (by rw [hW2]; simp) (by simp <;> omega), hW2]; simp [go_sem]))
  replace HT := hid (fun w' hb => HT.out w' (bl_tr hXn2 hb))
  replace VX := hid (fun w' hb => VX.out w' (bl_tr hXn2 hb))
  replace VY := hid (fun w' hb => VY.out w' (bl_tr hXn2 hb))
  replace V1 := hid (fun w' hb => V1.out w' (bl_tr hXn2 hb))
  have V2 : Hid (∀ w', Below W2.heap.size W2 w' → Zt w' (.agg #[.bool b2, .slice o2 m2 c2]) y (2 * K)) := hid (fun w' hb => H2.out.below (bl_tr hal2 hb) (Nat.le_refl _))
  have HN2 := hid (show w.heap.size + 1 < W2.heap.size from Nat.lt_of_lt_of_le HN1.out hXn2.size)
  have HB2 := hid (HB1.out.trans (hXn2.mono HB1.out.size)); have HW2 := hid hW2
  clear hW2 hal2 hXn2 hsz2 HS1 HB1 HW1 HN1 hXq
  by_cases hy0 : y = 0
  · obtain rfl : m2 = 0 := hlen.2 hy0
    have HY0 := hid hy0
    clear hlen hy0
    go_upto_region 3 with (fail)
    rw [← HW2.out]
    obtain ⟨⟨⟨k0, k1, k2, k3⟩, k4, k5⟩, k6, k7⟩ := HS2.out _ (Kp.of_below (Below.refl _ _))
    go_upto_region 4 with (fail)
    go_wp2_with fail
    refine (rof_o 1 _ (by decide) (by decide)).mono ?_
    rintro e wq3 ⟨b3, o3, m3, c3, rfl, H3, hbq⟩
    have hY : Below W2.heap.size W2 wq3 := hbq
    obtain ⟨⟨hr0, hr1, hr2, hr3⟩, hf0, hf1, hf2, hf3⟩ := HT.out _ hY
    clear k0 k1 k2 k3 k4 k5 k6 k7
    have hn0 := HN2.out
    have hbel : Below w.heap.size w wq3 := HB2.out.trans (hY.mono HB2.out.size)
    go_wp2
    refine bodyPost_ret (v := .agg #[.bool false, .slice none 0 0, .bool b3, .slice o3 m3 c3]) (by simp [results, Tryz.results6, go_sem, hr0, hr1, hr2, hr3]) rfl ⟨_, _, _, _, _, _, _, _, rfl, hid (Qv.keeps (((((Keeps.refl _ _).setCell (u := .bool false) hr0 (fun x h => (by cases h)) _).setCell (u := .slice none 0 0) (by simp [go_sem, hr1]) (fun x h => (by cases h)) _).setCell (u := .bool false) (by simp [go_sem, hr2]) (fun x h => (by cases h)) _).setCell (u := .slice none 0 0) (by simp [go_sem, hr3]) (fun x h => (by cases h)) _) (by rw [HY0.out, show rn x 0 = 0 from if_pos rfl, show rd 0 = 1 from if_pos rfl]; exact (qv_zero H3.out).mono (by have := HR.out; have := HK2.out; omega))), ((((hbel.setCell (by simp <;> omega) _).setCell (by simp <;> omega) _).setCell (by simp <;> omega) _).setCell (by simp <;> omega) _)⟩
  · have hm : ¬ (m2 : Int) = 0 := fun h => hy0 (hlen.1 (by omega))
    have HY0 := hid hy0
    clear hlen hy0
    go_upto_region 3 with (fail)
    rw [← HW2.out]
    obtain ⟨⟨⟨k0, k1, k2, k3⟩, k4, k5⟩, k6, k7⟩ := HS2.out _ (Kp.of_below (Below.refl _ _))
    go_upto_region 5 with (fail)
    go_wp2_with fail
    refine (rlowest_r _ _ x y (2 * K) R _ (V1.out _ (Below.refl _ _)) (V2.out _ (Below.refl _ _)) HY0.out (by have := HK.out; omega) (by have := HK2.out; omega) HR.out).mono ?_
    rintro e wq3 ⟨b3, o3, m3, c3, bb3, oo3, mm3, cc3, rfl, H3, hbq⟩
    have hY : Below W2.heap.size W2 wq3 := hbq
    obtain ⟨⟨hr0, hr1, hr2, hr3⟩, hf0, hf1, hf2, hf3⟩ := HT.out _ hY
    clear k0 k1 k2 k3 k4 k5 k6 k7
    have hn0 := HN2.out
    have hbel : Below w.heap.size w wq3 := HB2.out.trans (hY.mono HB2.out.size)
    go_wp2
    refine bodyPost_ret (v := (.agg #[.bool b3, .slice o3 m3 c3, .bool bb3, .slice oo3 mm3 cc3])) (by simp [results, Tryz.results6, go_sem, hr0, hr1, hr2, hr3]) rfl ⟨b3, o3, m3, c3, bb3, oo3, mm3, cc3, rfl, hid (Qv.keeps (((((Keeps.refl _ _).setCell (u := .bool false) hr0 (fun x h => (by cases h)) _).setCell (u := .slice none 0 0) (by simp [go_sem, hr1]) (fun x h => (by cases h)) _).setCell (u := .bool false) (by simp [go_sem, hr2]) (fun x h => (by cases h)) _).setCell (u := .slice none 0 0) (by simp [go_sem, hr3]) (fun x h => (by cases h)) _) H3.out), ((((hbel.setCell (by simp <;> omega) _).setCell (by simp <;> omega) _).setCell (by simp <;> omega) _).setCell (by simp <;> omega) _)⟩

theorem rfromRatio_v (v : Value) (n d : Int) (K R : Nat) (w : World) (hv : Rv w v n d K) (hK2 : 2 ≤ K) (hK : K ≤ 1000000) (hR : 2 * K + 3 ≤ R) :
    Calls Tryz.prog 6 #[v] w (RetQ w n d R) := by
  obtain ⟨hd, x, y, hr, he⟩ := hv
  exact (rfromRatio_ra v x y K R w hr hK2 hK hR).mono fun _ _ h => h.conv hd he (Nat.le_refl _)

set_option maxRecDepth 100000 in
set_option maxHeartbeats 2000000 in
theorem rhalf_v (w : World) : Calls Tryz.prog 63 #[] w (RetQ w 1 2 4) := by
  obtain ⟨W0, hW0⟩ : ∃ W0, W0 = (w.alloc (.cells #[.bool false, .slice none 0 0, .bool false, .slice none 0 0] 33)) := ⟨_, rfl⟩
  have hB0 : Below w.heap.size w W0 := by rw [hW0]; exact (Below.refl _ _).alloc (Nat.le_refl _) _
  have hz0 : W0.heap.size = w.heap.size + 1 := by rw [hW0]; simp
  have HN0 := hid (show w.heap.size < W0.heap.size by rw [hz0]; omega)
  have HS0 : Hid (∀ w', Kp W0.heap.size (w.heap.size) W0 w' → True) := hid (fun _ _ => trivial)
  have HT : Hid (∀ w', Below W0.heap.size W0 w' → (w'.cell? ⟨w.heap.size, 0, none⟩ = some (.bool false) ∧ w'.cell? ⟨w.heap.size, 1, none⟩ = some (.slice none 0 0) ∧ w'.cell? ⟨w.heap.size, 2, none⟩ = some (.bool false) ∧ w'.cell? ⟨w.heap.size, 3, none⟩ = some (.slice none 0 0)) ∧ (w'.frozen? ⟨w.heap.size, 0, none⟩ = false ∧ w'.frozen? ⟨w.heap.size, 1, none⟩ = false ∧ w'.frozen? ⟨w.heap.size, 2, none⟩ = false ∧ w'.frozen? ⟨w.heap.size, 3, none⟩ = false)) := hid (fun w' hb => by
    refine ⟨⟨?_, ?_, ?_, ?_⟩, ?_, ?_, ?_, ?_⟩ <;> (first | (rw [hb.cell (by rw [hz0]; simp), hW0]; simp [go_sem]; done) | (rw [hb.frozen (by rw [hz0]; simp), hW0]; simp [go_sem]; done)))
  have hbld : ∀ (b b2 : Bool) (o o2 : Option Addr) (m c m2 c2 : Nat) (w : World), (Instr.build 33 #[(0, .agg #[.bool b, .slice o m c]), (1, .agg #[.bool b2, .slice o2 m2 c2])]).run Tryz.prog w = .ok (.agg #[.bool b, .slice o m c, .bool b2, .slice o2 m2 c2]) w := fun b b2 o o2 m c m2 c2 w => by kernel_rfl
  have HB0 := hid hB0; have HW0 := hid hW0
  clear hW0 hB0 hz0 
  go_enter Tryz.func63, Tryz.ntmps63
  go_upto_region 1 with (fail)
  rw [← HW0.out]
  go_wp2_with fail
  refine (rof_o 1 _ (by decide) (by decide)).mono ?_
  rintro e wq1 ⟨b1, o1, m1, c1, rfl, H1, hbq⟩
  have hY1 : Below W0.heap.size W0 wq1 := hbq
  go_wp2_with fail
  refine (rof_o 2 _ (by decide) (by decide)).mono ?_
  rintro e wq2 ⟨b2, o2, m2, c2, rfl, H2, hbq⟩
  have hY2 : Below W0.heap.size W0 wq2 := bl_tr hY1 hbq
  obtain ⟨⟨hr0, hr1, hr2, hr3⟩, hf0, hf1, hf2, hf3⟩ := HT.out _ hY2
  have hn0 := HN0.out
  have hbel : Below w.heap.size w wq2 := HB0.out.trans (hY2.mono HB0.out.size)
  go_wp2
  refine bodyPost_ret (v := .agg #[.bool b1, .slice o1 m1 c1, .bool b2, .slice o2 m2 c2]) (by simp [results, Tryz.results63, go_sem, hr0, hr1, hr2, hr3]) rfl ⟨_, _, _, _, _, _, _, _, rfl, hid (Qv.keeps (((((Keeps.refl _ _).setCell (u := .bool false) hr0 (fun x h => (by cases h)) _).setCell (u := .slice none 0 0) (by simp [go_sem, hr1]) (fun x h => (by cases h)) _).setCell (u := .bool false) (by simp [go_sem, hr2]) (fun x h => (by cases h)) _).setCell (u := .slice none 0 0) (by simp [go_sem, hr3]) (fun x h => (by cases h)) _) (qv_of (by decide) (by decide) (by decide) (H1.out.below hbq (Nat.le_refl _)) H2.out)), ((((hbel.setCell (by simp <;> omega) _).setCell (by simp <;> omega) _).setCell (by simp <;> omega) _).setCell (by simp <;> omega) _)⟩

set_option maxRecDepth 100000 in
set_option maxHeartbeats 2000000 in
theorem rtimes_v (u v : Value) (n1 d1 n2 d2 : Int) (K R : Nat) (w : World) (hu : Qv w u n1 d1 K) (hv : Qv w v n2 d2 K) (hK4 : 4 ≤ K) (hK : K ≤ 1000000) (hR : 2 * K + 5 ≤ R) :
    Calls Tryz.prog 27 #[u, v] w (RetQ w (n1 * n2) (d1 * d2) R) := by
  obtain ⟨N1, E1, hN1, hE1, p1, e1⟩ := low_open n1 hu.1
  obtain ⟨N2, E2, hN2, hE2, p2, e2⟩ := low_open n2 hv.1
  have hdd : 0 < d1 * d2 := Int.mul_pos hu.1 hv.1
  have hpp : 0 < E1 * E2 := Int.mul_pos p1 p2
  have hal : (N1 * N2) * (d1 * d2) = (n1 * n2) * (E1 * E2) := alg_times e1 e2
  obtain ⟨b1, o1, m1, c1, bb1, oo1, mm1, cc1, rfl, Hu⟩ := Qv.opened hu
  obtain ⟨b2, o2, m2, c2, bb2, oo2, mm2, cc2, rfl, Hv⟩ := Qv.opened hv
  have HA := hid hal; have HD := hid hdd; have HP := hid hpp; have HR := hid hR; have HK := hid hK; have HK4 := hid hK4
  obtain ⟨W0, hW0⟩ : ∃ W0, W0 = (((w.alloc (.cells #[.bool b1, .slice o1 m1 c1, .bool bb1, .slice oo1 mm1 cc1] 33)).alloc (.cells #[.bool b2, .slice o2 m2 c2, .bool bb2, .slice oo2 mm2 cc2] 33)).alloc (.cells #[.bool false, .slice none 0 0, .bool false, .slice none 0 0] 33)) := ⟨_, rfl⟩
  have hB0 : Below w.heap.size w W0 := by rw [hW0]; exact (((Below.refl _ _).alloc (Nat.le_refl _) _).alloc (by simp <;> omega) _).alloc (by simp <;> omega) _
  have hz0 : W0.heap.size = w.heap.size + 3 := by rw [hW0]; simp
  have HN0 := hid (show w.heap.size + 2 < W0.heap.size by rw [hz0]; omega)
  have HS0 : Hid (∀ w', Kp W0.heap.size (w.heap.size + 2) W0 w' → w'.cell? ⟨w.heap.size, 0, none⟩ = some (.bool b1) ∧ w'.cell? ⟨w.heap.size, 1, none⟩ = some (.slice o1 m1 c1) ∧ w'.cell? ⟨w.heap.size, 2, none⟩ = some (.bool bb1) ∧ w'.cell? ⟨w.heap.size, 3, none⟩ = some (.slice oo1 mm1 cc1) ∧ w'.cell? ⟨w.heap.size + 1, 0, none⟩ = some (.bool b2) ∧ w'.cell? ⟨w.heap.size + 1, 1, none⟩ = some (.slice o2 m2 c2) ∧ w'.cell? ⟨w.heap.size + 1, 2, none⟩ = some (.bool bb2) ∧ w'.cell? ⟨w.heap.size + 1, 3, none⟩ = some (.slice oo2 mm2 cc2)) := hid (fun w' hb => by
    refine ⟨?_, ?_, ?_, ?_, ?_, ?_, ?_, ?_⟩ <;> (rw [hb.cell _ (by rw [hz0]; simp <;> omega) (by simp <;> omega), hW0]; simp [go_sem]))
  have HT : Hid (∀ w', Below W0.heap.size W0 w' → (w'.cell? ⟨w.heap.size + 2, 0, none⟩ = some (.bool false) ∧ w'.cell? ⟨w.heap.size + 2, 1, none⟩ = some (.slice none 0 0) ∧ w'.cell? ⟨w.heap.size + 2, 2, none⟩ = some (.bool false) ∧ w'.cell? ⟨w.heap.size + 2, 3, none⟩ = some (.slice none 0 0)) ∧ (w'.frozen? ⟨w.heap.size + 2, 0, none⟩ = false ∧ w'.frozen? ⟨w.heap.size + 2, 1, none⟩ = false ∧ w'.frozen? ⟨w.heap.size + 2, 2, none⟩ = false ∧ w'.frozen? ⟨w.heap.size + 2, 3, none⟩ = false)) := hid (fun w' hb => by
    refine ⟨⟨?_, ?_, ?_, ?_⟩, ?_, ?_, ?_, ?_⟩ <;> (first | (rw [hb.cell (by rw [hz0]; simp), hW0]; simp [go_sem]; done) | (rw [hb.frozen (by rw [hz0]; simp), hW0]; simp [go_sem]; done)))
  have A1 : Hid (∀ w', Below W0.heap.size W0 w' → Zt w' (.agg #[.bool b1, .slice o1 m1 c1]) N1 K ∧ Zt w' (.agg #[.bool bb1, .slice oo1 mm1 cc1]) E1 K) := hid (fun w' hb => by rw [hN1, hE1]; exact (Hu.out w' (hB0.trans (hb.mono hB0.size))).num)
  have A2 : Hid (∀ w', Below W0.heap.size W0 w' → Zt w' (.agg #[.bool b2, .slice o2 m2 c2]) N2 K ∧ Zt w' (.agg #[.bool bb2, .slice oo2 mm2 cc2]) E2 K) := hid (fun w' hb => by rw [hN2, hE2]; exact (Hv.out w' (hB0.trans (hb.mono hB0.size))).num)
  have HB0 := hid hB0; have HW0 := hid hW0
  clear hW0 hB0 hz0 hu hv hK hK4 hR hal hdd hpp hN1 hE1 hN2 hE2 e1 e2 p1 p2 Hu Hv
  go_enter Tryz.func27, Tryz.ntmps27
  go_upto_region 1 with (fail)
  rw [← HW0.out]
  have hY0 := Below.refl W0.heap.size W0
  have tk1 := hid trivial
  have tk2 := hid trivial
  have tk3 := hid trivial
  go_region_held3 (fun w' => w'.cell? ⟨w.heap.size, 0, none⟩ = some (.bool b1) ∧ w'.cell? ⟨w.heap.size, 1, none⟩ = some (.slice o1 m1 c1) ∧ w'.cell? ⟨w.heap.size, 2, none⟩ = some (.bool bb1) ∧ w'.cell? ⟨w.heap.size, 3, none⟩ = some (.slice oo1 mm1 cc1) ∧ w'.cell? ⟨w.heap.size + 1, 0, none⟩ = some (.bool b2) ∧ w'.cell? ⟨w.heap.size + 1, 1, none⟩ = some (.slice o2 m2 c2) ∧ w'.cell? ⟨w.heap.size + 1, 2, none⟩ = some (.bool bb2) ∧ w'.cell? ⟨w.heap.size + 1, 3, none⟩ = some (.slice oo2 mm2 cc2)) ((refine HS0.out _ ?_; (repeat (first | assumption | exact Kp.of_below (by assumption) | exact Kp.of_below (Below.drew (by assumption)) | exact Kp.of_below (Below.refl _ _) | exact Kp.of_below (Below.refl _ _).drew | (refine Kp.set ?_ (by simp) _))))) (first
    | (clear tk1; go_at_call 65; refine (rmul_o _ _ _ _ K (2 * K + 1) _ (A1.out _ hY0.drew).1 (A2.out _ hY0.drew).1 (by have := HK.out; omega) (by omega)).mono ?_; rintro e v1 ⟨b4, o4, m4, c4, rfl, H4, hbq⟩; have hY1 : Below W0.heap.size W0 v1 := (hY0.drew).trans (hbq.mono (hY0.drew).size))
    | (clear tk2; go_at_call 65; refine (rmul_o _ _ _ _ K (2 * K + 1) _ (A1.out _ hY1).2 (A2.out _ hY1).2 (by have := HK.out; omega) (by omega)).mono ?_; rintro e v2 ⟨b5, o5, m5, c5, rfl, H5, hbq⟩; have hY2 : Below W0.heap.size W0 v2 := (hY1).trans (hbq.mono (hY1).size); have H4b := Zt.mono (K' := 2 * K + 2) (H4.out.below hbq (Nat.le_refl _)) (by omega))
    | (clear tk3; go_at_call 18; refine (rlowest_v _ _ (N1 * N2) (E1 * E2) (2 * K + 2) R _ H4b (Zt.mono (H5.out) (by omega)) HP.out (by have := HK.out; omega) (by have := HK4.out; omega) (by have := HR.out; omega)).mono ?_; rintro e v3 ⟨b7, o7, m7, c7, bb7, oo7, mm7, cc7, rfl, H7, hbq⟩; have hY3 : Below W0.heap.size W0 v3 := (hY2).trans (hbq.mono (hY2).size); obtain ⟨⟨hr0, hr1, hr2, hr3⟩, hf0, hf1, hf2, hf3⟩ := HT.out _ hY3))
  have hn0 := HN0.out
  have hbel : Below w.heap.size w v3 := HB0.out.trans (hY3.mono HB0.out.size)
  go_wp2
  refine bodyPost_ret (v := (.agg #[.bool b7, .slice o7 m7 c7, .bool bb7, .slice oo7 mm7 cc7])) (by simp [results, Tryz.results27, go_sem, hr0, hr1, hr2, hr3]) rfl ⟨b7, o7, m7, c7, bb7, oo7, mm7, cc7, rfl, hid (Qv.keeps (((((Keeps.refl _ _).setCell (u := .bool false) hr0 (fun x h => (by cases h)) _).setCell (u := .slice none 0 0) (by simp [go_sem, hr1]) (fun x h => (by cases h)) _).setCell (u := .bool false) (by simp [go_sem, hr2]) (fun x h => (by cases h)) _).setCell (u := .slice none 0 0) (by simp [go_sem, hr3]) (fun x h => (by cases h)) _) (H7.out.conv HD.out HA.out)), ((((hbel.setCell (by simp <;> omega) _).setCell (by simp <;> omega) _).setCell (by simp <;> omega) _).setCell (by simp <;> omega) _)⟩

set_option maxRecDepth 100000 in
set_option maxHeartbeats 2000000 in
theorem rplus_v (u v : Value) (n1 d1 n2 d2 : Int) (K R : Nat) (w : World) (hu : Qv w u n1 d1 K) (hv : Qv w v n2 d2 K) (hK4 : 4 ≤ K) (hK : K ≤ 1000000) (hR : 2 * K + 5 ≤ R) :
    Calls Tryz.prog 62 #[u, v] w (RetQ w (n1 * d2 + n2 * d1) (d1 * d2) R) := by
  obtain ⟨N1, E1, hN1, hE1, p1, e1⟩ := low_open n1 hu.1
  obtain ⟨N2, E2, hN2, hE2, p2, e2⟩ := low_open n2 hv.1
  have hdd : 0 < d1 * d2 := Int.mul_pos hu.1 hv.1
  have hpp : 0 < E1 * E2 := Int.mul_pos p1 p2
  have hal : (N1 * E2 + N2 * E1) * (d1 * d2) = (n1 * d2 + n2 * d1) * (E1 * E2) := by grind
  obtain ⟨b1, o1, m1, c1, bb1, oo1, mm1, cc1, rfl, Hu⟩ := Qv.opened hu
  obtain ⟨b2, o2, m2, c2, bb2, oo2, mm2, cc2, rfl, Hv⟩ := Qv.opened hv
  have HA := hid hal; have HD := hid hdd; have HP := hid hpp; have HR := hid hR; have HK := hid hK; have HK4 := hid hK4
  obtain ⟨W0, hW0⟩ : ∃ W0, W0 = (((w.alloc (.cells #[.bool b1, .slice o1 m1 c1, .bool bb1, .slice oo1 mm1 cc1] 33)).alloc (.cells #[.bool b2, .slice o2 m2 c2, .bool bb2, .slice oo2 mm2 cc2] 33)).alloc (.cells #[.bool false, .slice none 0 0, .bool false, .slice none 0 0] 33)) := ⟨_, rfl⟩
  have hB0 : Below w.heap.size w W0 := by rw [hW0]; exact (((Below.refl _ _).alloc (Nat.le_refl _) _).alloc (by simp <;> omega) _).alloc (by simp <;> omega) _
  have hz0 : W0.heap.size = w.heap.size + 3 := by rw [hW0]; simp
  have HN0 := hid (show w.heap.size + 2 < W0.heap.size by rw [hz0]; omega)
  have HS0 : Hid (∀ w', Kp W0.heap.size (w.heap.size + 2) W0 w' → w'.cell? ⟨w.heap.size, 0, none⟩ = some (.bool b1) ∧ w'.cell? ⟨w.heap.size, 1, none⟩ = some (.slice o1 m1 c1) ∧ w'.cell? ⟨w.heap.size, 2, none⟩ = some (.bool bb1) ∧ w'.cell? ⟨w.heap.size, 3, none⟩ = some (.slice oo1 mm1 cc1) ∧ w'.cell? ⟨w.heap.size + 1, 0, none⟩ = some (.bool b2) ∧ w'.cell? ⟨w.heap.size + 1, 1, none⟩ = some (.slice o2 m2 c2) ∧ w'.cell? ⟨w.heap.size + 1, 2, none⟩ = some (.bool bb2) ∧ w'.cell? ⟨w.heap.size + 1, 3, none⟩ = some (.slice oo2 mm2 cc2)) := hid (fun w' hb => by
    refine ⟨?_, ?_, ?_, ?_, ?_, ?_, ?_, ?_⟩ <;> (rw [hb.cell _ (by rw [hz0]; simp <;> omega) (by simp <;> omega), hW0]; simp [go_sem]))
  have HT : Hid (∀ w', Below W0.heap.size W0 w' → (w'.cell? ⟨w.heap.size + 2, 0, none⟩ = some (.bool false) ∧ w'.cell? ⟨w.heap.size + 2, 1, none⟩ = some (.slice none 0 0) ∧ w'.cell? ⟨w.heap.size + 2, 2, none⟩ = some (.bool false) ∧ w'.cell? ⟨w.heap.size + 2, 3, none⟩ = some (.slice none 0 0)) ∧ (w'.frozen? ⟨w.heap.size + 2, 0, none⟩ = false ∧ w'.frozen? ⟨w.heap.size + 2, 1, none⟩ = false ∧ w'.frozen? ⟨w.heap.size + 2, 2, none⟩ = false ∧ w'.frozen? ⟨w.heap.size + 2, 3, none⟩ = false)) := hid (fun w' hb => by
    refine ⟨⟨?_, ?_, ?_, ?_⟩, ?_, ?_, ?_, ?_⟩ <;> (first | (rw [hb.cell (by rw [hz0]; simp), hW0]; simp [go_sem]; done) | (rw [hb.frozen (by rw [hz0]; simp), hW0]; simp [go_sem]; done)))
  have A1 : Hid (∀ w', Below W0.heap.size W0 w' → Zt w' (.agg #[.bool b1, .slice o1 m1 c1]) N1 K ∧ Zt w' (.agg #[.bool bb1, .slice oo1 mm1 cc1]) E1 K) := hid (fun w' hb => by rw [hN1, hE1]; exact (Hu.out w' (hB0.trans (hb.mono hB0.size))).num)
  have A2 : Hid (∀ w', Below W0.heap.size W0 w' → Zt w' (.agg #[.bool b2, .slice o2 m2 c2]) N2 K ∧ Zt w' (.agg #[.bool bb2, .slice oo2 mm2 cc2]) E2 K) := hid (fun w' hb => by rw [hN2, hE2]; exact (Hv.out w' (hB0.trans (hb.mono hB0.size))).num)
  have HB0 := hid hB0; have HW0 := hid hW0
  clear hW0 hB0 hz0 hu hv hK hK4 hR hal hdd hpp hN1 hE1 hN2 hE2 e1 e2 p1 p2 Hu Hv
  go_enter Tryz.func62, Tryz.ntmps62
  go_upto_region 1 with (fail)
  rw [← HW0.out]
  obtain ⟨k0, k1, k2, k3, k4, k5, k6, k7⟩ := HS0.out _ (Kp.of_below (Below.refl _ _))
  go_wp2_with fail
  refine (rmul_o _ _ _ _ K (2 * K + 1) _ (A1.out _ (Below.refl _ _)).1 (A2.out _ (Below.refl _ _)).2 (by have := HK.out; omega) (by omega)).mono ?_
  rintro e wq1 ⟨b3, o3, m3, c3, rfl, H3, hbq⟩
  have hXq : Below W0.heap.size W0 wq1 := hbq
  clear k0 k1 k2 k3 k4 k5 k6 k7
  obtain ⟨W1, hW1⟩ : ∃ W, W = wq1.alloc (.cells #[.bool b3, .slice o3 m3 c3] 31) := ⟨_, rfl⟩
  have hal1 : Below wq1.heap.size wq1 W1 := by rw [hW1]; exact bl_new _
  have hXn1 : Below W0.heap.size W0 W1 := bl_tr hXq hal1
  have hsz1 : w.heap.size + 2 < wq1.heap.size := Nat.lt_of_lt_of_le HN0.out hXq.size
  have HS1 : Hid (∀ w', Kp W1.heap.size (w.heap.size + 2) W1 w' → (w'.cell? ⟨w.heap.size, 0, none⟩ = some (.bool b1) ∧ w'.cell? ⟨w.heap.size, 1, none⟩ = some (.slice o1 m1 c1) ∧ w'.cell? ⟨w.heap.size, 2, none⟩ = some (.bool bb1) ∧ w'.cell? ⟨w.heap.size, 3, none⟩ = some (.slice oo1 mm1 cc1) ∧ w'.cell? ⟨w.heap.size + 1, 0, none⟩ = some (.bool b2) ∧ w'.cell? ⟨w.heap.size + 1, 1, none⟩ = some (.slice o2 m2 c2) ∧ w'.cell? ⟨w.heap.size + 1, 2, none⟩ = some (.bool bb2) ∧ w'.cell? ⟨w.heap.size + 1, 3, none⟩ = some (.slice oo2 mm2 cc2)) ∧ w'.cell? ⟨wq1.heap.size, 0, none⟩ = some (.bool b3) ∧ w'.cell? ⟨wq1.heap.size, 1, none⟩ = some (.slice o3 m3 c3)) := hid (fun w' hb => by
    refine ⟨HS0.out _ (hb.trans_below hXn1), ?_, ?_⟩ <;> (rw [hb.cell _ (by rw [hW1]; simp) (by simp <;> omega), hW1]; simp [go_sem]))
  replace HT := hid (fun w' hb => HT.out w' (bl_tr hXn1 hb))
  replace A1 := hid (fun w' hb => A1.out w' (bl_tr hXn1 hb))
  replace A2 := hid (fun w' hb => A2.out w' (bl_tr hXn1 hb))
  have VX : Hid (∀ w', Below W1.heap.size W1 w' → Zt w' (.agg #[.bool b3, .slice o3 m3 c3]) (N1 * E2) (2 * K + 1)) := hid (fun w' hb => H3.out.below (bl_tr hal1 hb) (Nat.le_refl _))
  have HN1 := hid (show w.heap.size + 2 < W1.heap.size from Nat.lt_of_lt_of_le HN0.out hXn1.size)
  have HB1 := hid (HB0.out.trans (hXn1.mono HB0.out.size)); have HW1 := hid hW1
  clear hW1 hal1 hXn1 hsz1 HS0 HB0 HW0 HN0 hXq
  go_upto_region 2 with (fail)
  rw [← HW1.out]
  obtain ⟨⟨k0, k1, k2, k3, k4, k5, k6, k7⟩, k8, k9⟩ := HS1.out _ (Kp.of_below (Below.refl _ _))
  go_wp2_with fail
  refine (rmul_o _ _ _ _ K (2 * K + 1) _ (A2.out _ (Below.refl _ _)).1 (A1.out _ (Below.refl _ _)).2 (by have := HK.out; omega) (by omega)).mono ?_
  rintro e wq2 ⟨b6, o6, m6, c6, rfl, H6, hbq⟩
  have hXq : Below W1.heap.size W1 wq2 := hbq
  clear k0 k1 k2 k3 k4 k5 k6 k7 k8 k9
  obtain ⟨W2, hW2⟩ : ∃ W, W = wq2.alloc (.cells #[.bool b6, .slice o6 m6 c6] 31) := ⟨_, rfl⟩
  have hal2 : Below wq2.heap.size wq2 W2 := by rw [hW2]; exact bl_new _
  have hXn2 : Below W1.heap.size W1 W2 := bl_tr hXq hal2
  have hsz2 : w.heap.size + 2 < wq2.heap.size := Nat.lt_of_lt_of_le HN1.out hXq.size
  have HS2 : Hid (∀ w', Kp W2.heap.size (w.heap.size + 2) W2 w' → ((w'.cell? ⟨w.heap.size, 0, none⟩ = some (.bool b1) ∧ w'.cell? ⟨w.heap.size, 1, none⟩ = some (.slice o1 m1 c1) ∧ w'.cell? ⟨w.heap.size, 2, none⟩ = some (.bool bb1) ∧ w'.cell? ⟨w.heap.size, 3, none⟩ = some (.slice oo1 mm1 cc1) ∧ w'.cell? ⟨w.heap.size + 1, 0, none⟩ = some (.bool b2) ∧ w'.cell? ⟨w.heap.size + 1, 1, none⟩ = some (.slice o2 m2 c2) ∧ w'.cell? ⟨w.heap.size + 1, 2, none⟩ = some (.bool bb2) ∧ w'.cell? ⟨w.heap.size + 1, 3, none⟩ = some (.slice oo2 mm2 cc2)) ∧ w'.cell? ⟨wq1.heap.size, 0, none⟩ = some (.bool b3) ∧ w'.cell? ⟨wq1.heap.size, 1, none⟩ = some (.slice o3 m3 c3)) ∧ w'.cell? ⟨wq2.heap.size, 0, none⟩ = some (.bool b6) ∧ w'.cell? ⟨wq2.heap.size, 1, none⟩ = some (.slice o6 m6 c6)) := hid (fun w' hb => by
    refine ⟨HS1.out _ (hb.trans_below hXn2), ?_, ?_⟩ <;> (rw [hb.cell _ (by rw [hW2]; simp) (by simp <;> omega), hW2]; simp [go_sem]))
  replace HT := hid (fun w' hb => HT.out w' (bl_tr hXn2 hb))
  replace A1 := hid (fun w' hb => A1.out w' (bl_tr hXn2 hb))
  replace A2 := hid (fun w' hb => A2.out w' (bl_tr hXn2 hb))
  replace VX := hid (fun w' hb => VX.out w' (bl_tr hXn2 hb))
  have VY : Hid (∀ w', Below W2.heap.size W2 w' → Zt w' (.agg #[.bool b6, .slice o6 m6 c6]) (N2 * E1) (2 * K + 1)) := hid (fun w' hb => H6.out.below (bl_tr hal2 hb) (Nat.le_refl _))
  have HN2 := hid (show w.heap.size + 2 < W2.heap.size from Nat.lt_of_lt_of_le HN1.out hXn2.size)
  have HB2 := hid (HB1.out.trans (hXn2.mono HB1.out.size)); have HW2 := hid hW2
  clear hW2 hal2 hXn2 hsz2 HS1 HB1 HW1 HN1 hXq
  go_upto_region 3 with (fail)
  rw [← HW2.out]
  have hY0 := Below.refl W2.heap.size W2
  have tk1 := hid trivial
  have tk2 := hid trivial
  have tk3 := hid trivial
  go_region_held3 (fun w' => ((w'.cell? ⟨w.heap.size, 0, none⟩ = some (.bool b1) ∧ w'.cell? ⟨w.heap.size, 1, none⟩ = some (.slice o1 m1 c1) ∧ w'.cell? ⟨w.heap.size, 2, none⟩ = some (.bool bb1) ∧ w'.cell? ⟨w.heap.size, 3, none⟩ = some (.slice oo1 mm1 cc1) ∧ w'.cell? ⟨w.heap.size + 1, 0, none⟩ = some (.bool b2) ∧ w'.cell? ⟨w.heap.size + 1, 1, none⟩ = some (.slice o2 m2 c2) ∧ w'.cell? ⟨w.heap.size + 1, 2, none⟩ = some (.bool bb2) ∧ w'.cell? ⟨w.heap.size + 1, 3, none⟩ = some (.slice oo2 mm2 cc2)) ∧ w'.cell? ⟨wq1.heap.size, 0, none⟩ = some (.bool b3) ∧ w'.cell? ⟨wq1.heap.size, 1, none⟩ = some (.slice o3 m3 c3)) ∧ w'.cell? ⟨wq2.heap.size, 0, none⟩ = some (.bool b6) ∧ w'.cell? ⟨wq2.heap.size, 1, none⟩ = some (.slice o6 m6 c6)) ((refine HS2.out _ ?_; (repeat (first | assumption | exact Kp.of_below (by assumption) | exact Kp.of_below (Below.drew (by assumption)) | exact Kp.of_below (Below.refl _ _) | exact Kp.of_below (Below.refl _ _).drew | (refine Kp.set ?_ (by simp) _))))) (first
    | (clear tk1; go_at_call 77; refine (radd_o _ _ (N1 * E2) (N2 * E1) (2 * K + 1) (2 * K + 2) _ (VX.out _ hY0.drew) (VY.out _ hY0.drew) (by have := HK.out; omega) (Nat.le_refl _)).mono ?_; rintro e v1 ⟨b4, o4, m4, c4, rfl, H4, hbq⟩; have hY1 : Below W2.heap.size W2 v1 := (hY0.drew).trans (hbq.mono (hY0.drew).size))
    | (clear tk2; go_at_call 65; refine (rmul_o _ _ _ _ K (2 * K + 1) _ (A1.out _ hY1).2 (A2.out _ hY1).2 (by have := HK.out; omega) (by omega)).mono ?_; rintro e v2 ⟨b5, o5, m5, c5, rfl, H5, hbq⟩; have hY2 : Below W2.heap.size W2 v2 := (hY1).trans (hbq.mono (hY1).size); have H4b := H4.out.below hbq (Nat.le_refl _))
    | (clear tk3; go_at_call 18; refine (rlowest_v _ _ (N1 * E2 + N2 * E1) (E1 * E2) (2 * K + 2) R _ H4b (Zt.mono (H5.out) (by omega)) HP.out (by have := HK.out; omega) (by have := HK4.out; omega) (by have := HR.out; omega)).mono ?_; rintro e v3 ⟨b7, o7, m7, c7, bb7, oo7, mm7, cc7, rfl, H7, hbq⟩; have hY3 : Below W2.heap.size W2 v3 := (hY2).trans (hbq.mono (hY2).size); obtain ⟨⟨hr0, hr1, hr2, hr3⟩, hf0, hf1, hf2, hf3⟩ := HT.out _ hY3))
  have hn0 := HN2.out
  have hbel : Below w.heap.size w v3 := HB2.out.trans (hY3.mono HB2.out.size)
  go_wp2
  refine bodyPost_ret (v := (.agg #[.bool b7, .slice o7 m7 c7, .bool bb7, .slice oo7 mm7 cc7])) (by simp [results, Tryz.results62, go_sem, hr0, hr1, hr2, hr3]) rfl ⟨b7, o7, m7, c7, bb7, oo7, mm7, cc7, rfl, hid (Qv.keeps (((((Keeps.refl _ _).setCell (u := .bool false) hr0 (fun x h => (by cases h)) _).setCell (u := .slice none 0 0) (by simp [go_sem, hr1]) (fun x h => (by cases h)) _).setCell (u := .bool false) (by simp [go_sem, hr2]) (fun x h => (by cases h)) _).setCell (u := .slice none 0 0) (by simp [go_sem, hr3]) (fun x h => (by cases h)) _) (H7.out.conv HD.out HA.out)), ((((hbel.setCell (by simp <;> omega) _).setCell (by simp <;> omega) _).setCell (by simp <;> omega) _).setCell (by simp <;> omega) _)⟩

set_option maxRecDepth 100000 in
set_option maxHeartbeats 2000000 in
theorem rfloor_v (u : Value) (n d : Int) (K R : Nat) (w : World) (hu : Qv w u n d K) (hK : K ≤ 1000000) (hR : K + 2 ≤ R) :
    Calls Tryz.prog 64 #[u] w (RetZo w (n.fdiv d) R) := by
  obtain ⟨N1, E1, hN1, hE1, p1, e1⟩ := low_open n hu.1
  rw [show n.fdiv d = N1.fdiv E1 from (fdiv_ratio p1 hu.1 e1).symm]
  obtain ⟨b1, o1, m1, c1, bb1, oo1, mm1, cc1, rfl, Hu⟩ := Qv.opened hu
  have HP := hid p1; have HR := hid hR; have HK := hid hK
  obtain ⟨W0, hW0⟩ : ∃ W0, W0 = ((w.alloc (.cells #[.bool b1, .slice o1 m1 c1, .bool bb1, .slice oo1 mm1 cc1] 33)).alloc (.cells #[.bool false, .slice none 0 0] 31)) := ⟨_, rfl⟩
  have hB0 : Below w.heap.size w W0 := by rw [hW0]; exact ((Below.refl _ _).alloc (Nat.le_refl _) _).alloc (by simp <;> omega) _
  have hz0 : W0.heap.size = w.heap.size + 2 := by rw [hW0]; simp
  have HN0 := hid (show w.heap.size + 1 < W0.heap.size by rw [hz0]; omega)
  have HS0 : Hid (∀ w', Kp W0.heap.size (w.heap.size + 1) W0 w' → w'.cell? ⟨w.heap.size, 0, none⟩ = some (.bool b1) ∧ w'.cell? ⟨w.heap.size, 1, none⟩ = some (.slice o1 m1 c1) ∧ w'.cell? ⟨w.heap.size, 2, none⟩ = some (.bool bb1) ∧ w'.cell? ⟨w.heap.size, 3, none⟩ = some (.slice oo1 mm1 cc1)) := hid (fun w' hb => by
    refine ⟨?_, ?_, ?_, ?_⟩ <;> (rw [hb.cell _ (by rw [hz0]; simp <;> omega) (by simp <;> omega), hW0]; simp [go_sem]))
  have HT : Hid (∀ w', Below W0.heap.size W0 w' → (w'.cell? ⟨w.heap.size + 1, 0, none⟩ = some (.bool false) ∧ w'.cell? ⟨w.heap.size + 1, 1, none⟩ = some (.slice none 0 0)) ∧ (w'.frozen? ⟨w.heap.size + 1, 0, none⟩ = false ∧ w'.frozen? ⟨w.heap.size + 1, 1, none⟩ = false)) := hid (fun w' hb => by
    refine ⟨⟨?_, ?_⟩, ?_, ?_⟩ <;> (first | (rw [hb.cell (by rw [hz0]; simp), hW0]; simp [go_sem]; done) | (rw [hb.frozen (by rw [hz0]; simp), hW0]; simp [go_sem]; done)))
  have A1 : Hid (∀ w', Below W0.heap.size W0 w' → Zt w' (.agg #[.bool b1, .slice o1 m1 c1]) N1 K ∧ Zt w' (.agg #[.bool bb1, .slice oo1 mm1 cc1]) E1 K) := hid (fun w' hb => by rw [hN1, hE1]; exact (Hu.out w' (hB0.trans (hb.mono hB0.size))).num)
  have HB0 := hid hB0; have HW0 := hid hW0
  clear hW0 hB0 hz0 hu hK hR hN1 hE1 e1 p1 Hu
  go_enter Tryz.func64, Tryz.ntmps64
  go_upto_region 1 with (fail)
  rw [← HW0.out]
  obtain ⟨k0, k1, k2, k3⟩ := HS0.out _ (Kp.of_below (Below.refl _ _))
  go_wp2_with fail
  refine (rdiv_any _ _ N1 E1 K _ (A1.out _ (Below.refl _ _)).1 (A1.out _ (Below.refl _ _)).2 (by have := HP.out; omega) (by have := HK.out; omega)).mono ?_
  rintro e wq1 ⟨_, _, rfl, hv1, hv2, hbq⟩
  obtain ⟨b3, o3, m3, c3, rfl, H3, _, _⟩ := Zt.opened hv1
  obtain ⟨b4, o4, m4, c4, rfl, H4, _, _⟩ := Zt.opened hv2
  have hn0 := HN0.out
  have hY1 : Below W0.heap.size W0 ((wq1.alloc (.cells #[.bool b3, .slice o3 m3 c3] 31)).alloc (.cells #[.bool b4, .slice o4 m4 c4] 31)) := bl_tr hbq (bl_tr (bl_new _) (bl_new _))
  have hY1s := hY1.size
  have hqs := hbq.size
  obtain ⟨⟨hr0, hr1⟩, hf0, hf1⟩ := HT.out _ hY1
  clear k0 k1 k2 k3 hv1 hv2
  have hbel : Below w.heap.size w ((wq1.alloc (.cells #[.bool b3, .slice o3 m3 c3] 31)).alloc (.cells #[.bool b4, .slice o4 m4 c4] 31)) := HB0.out.trans (hY1.mono HB0.out.size)
  have h3b := H3.out _ (show Below wq1.heap.size wq1 ((wq1.alloc (.cells #[.bool b3, .slice o3 m3 c3] 31)).alloc (.cells #[.bool b4, .slice o4 m4 c4] 31)) from bl_tr (bl_new _) (bl_new _))
  go_wp2
  refine bodyPost_ret (v := .agg #[.bool b3, .slice o3 m3 c3]) (by simp [results, Tryz.results64, go_sem, hr0, hr1]) rfl ⟨b3, o3, m3, c3, rfl, hid (zt_keeps (((Keeps.refl _ _).setCell (u := .bool false) hr0 (fun x h => (by cases h)) _).setCell (u := .slice none 0 0) (by simp [go_sem, hr1]) (fun x h => (by cases h)) _) (Zt.mono h3b HR.out)), ((hbel.setCell (by simp <;> omega) _).setCell (by simp <;> omega) _)⟩

set_option maxRecDepth 100000 in
set_option maxHeartbeats 2000000 in
theorem rnearest_v (u : Value) (n d : Int) (K R : Nat) (w : World) (hu : Qv w u n d K) (hK4 : 4 ≤ K) (hK : K ≤ 100000) (hR : 2 * K + 7 ≤ R) :
    Calls Tryz.prog 26 #[u] w (RetZo w ((n * 2 + d).fdiv (d * 2)) R) := by
  rw [show n * 2 + d = n * 2 + 1 * d by omega]
  obtain ⟨b1, o1, m1, c1, bb1, oo1, mm1, cc1, rfl, _⟩ := Qv.opened hu
  have HR := hid hR; have HK := hid hK; have HK4 := hid hK4
  obtain ⟨W0, hW0⟩ : ∃ W0, W0 = ((w.alloc (.cells #[.bool b1, .slice o1 m1 c1, .bool bb1, .slice oo1 mm1 cc1] 33)).alloc (.cells #[.bool false, .slice none 0 0] 31)) := ⟨_, rfl⟩
  have hB0 : Below w.heap.size w W0 := by rw [hW0]; exact ((Below.refl _ _).alloc (Nat.le_refl _) _).alloc (by simp <;> omega) _
  have hz0 : W0.heap.size = w.heap.size + 2 := by rw [hW0]; simp
  have HN0 := hid (show w.heap.size + 1 < W0.heap.size by rw [hz0]; omega)
  have HS0 : Hid (∀ w', Kp W0.heap.size (w.heap.size + 1) W0 w' → w'.cell? ⟨w.heap.size, 0, none⟩ = some (.bool b1) ∧ w'.cell? ⟨w.heap.size, 1, none⟩ = some (.slice o1 m1 c1) ∧ w'.cell? ⟨w.heap.size, 2, none⟩ = some (.bool bb1) ∧ w'.cell? ⟨w.heap.size, 3, none⟩ = some (.slice oo1 mm1 cc1)) := hid (fun w' hb => by
    refine ⟨?_, ?_, ?_, ?_⟩ <;> (rw [hb.cell _ (by rw [hz0]; simp <;> omega) (by simp <;> omega), hW0]; simp [go_sem]))
  have HT : Hid (∀ w', Below W0.heap.size W0 w' → (w'.cell? ⟨w.heap.size + 1, 0, none⟩ = some (.bool false) ∧ w'.cell? ⟨w.heap.size + 1, 1, none⟩ = some (.slice none 0 0)) ∧ (w'.frozen? ⟨w.heap.size + 1, 0, none⟩ = false ∧ w'.frozen? ⟨w.heap.size + 1, 1, none⟩ = false)) := hid (fun w' hb => by
    refine ⟨⟨?_, ?_⟩, ?_, ?_⟩ <;> (first | (rw [hb.cell (by rw [hz0]; simp), hW0]; simp [go_sem]; done) | (rw [hb.frozen (by rw [hz0]; simp), hW0]; simp [go_sem]; done)))
  have VU : Hid (∀ w', Below W0.heap.size W0 w' → Qv w' (.agg #[.bool b1, .slice o1 m1 c1, .bool bb1, .slice oo1 mm1 cc1]) n d K) := hid (fun w' hb => (hu.below hB0 (Nat.le_refl _)).below hb (Nat.le_refl _))
  have HB0 := hid hB0; have HW0 := hid hW0
  clear hW0 hB0 hz0 hu hK hK4 hR
  go_enter Tryz.func26, Tryz.ntmps26
  go_upto_region 1 with (fail)
  rw [← HW0.out]
  have hX0 := Below.refl W0.heap.size W0
  have HKG : Hid (AllKeep [(false, (fun wq vq => vq = (.agg #[.bool b1, .slice o1 m1 c1, .bool bb1, .slice oo1 mm1 cc1])), undef), (false, (fun wq vq => Qv wq vq (1) (2) (4)), undef), (false, (fun wq vq => Qv wq vq (n * 2 + 1 * d) (d * 2) (2 * K + 5)), undef)]) := hid ⟨kcV _, qvV _ _ _, qvV _ _ _, trivial⟩
  refine region_inv (by kernel_rfl) (fun L act w' => ∃ f0 f1 f2 f3 f4, L = #[f0, f1, f2, f3, f4] ∧ (f4 = true → f3 = true ∧ f2 = true) ∧ ∃ s4 s5 s6 s3, act = { tmps := #[(.agg #[.bool b1, .slice o1 m1 c1, .bool bb1, .slice oo1 mm1 cc1]), .pointer (some ⟨w.heap.size, 0, none⟩), .pointer (some ⟨w.heap.size + 1, 0, none⟩), s3, s4, s5, s6, undef, undef], defers := [] } ∧ RX W0.heap.size W0 [(f0, (fun wq vq => vq = (.agg #[.bool b1, .slice o1 m1 c1, .bool bb1, .slice oo1 mm1 cc1])), s4), (f1, (fun wq vq => Qv wq vq (1) (2) (4)), s5), (f2, (fun wq vq => Qv wq vq (n * 2 + 1 * d) (d * 2) (2 * K + 5)), s6)] [(4, f3, f4, s3, s6)] w') ?_ ?_ ?_
  · exact ⟨_, _, _, _, _, rfl, nofun, _, _, _, _, rfl, hX0.drew, hX0.size, ⟨nofun, nofun, nofun, trivial⟩, ⟨nofun, trivial⟩, ⟨trivial, trivial⟩⟩
  · rintro L act w' i hs ⟨f0, f1, f2, f3, f4, rfl, d0, s4, s5, s6, s3, rfl, J⟩ hi
    obtain ⟨hi, hn, hd⟩ := waits_spec (dep := [[], [], [0, 1], [], [3, 2]]) (by kernel_rfl) hi
    have hiN : i < 5 := hi
    obtain ⟨k0, k1, k2, k3⟩ := (hid (fun w' hb => HS0.out w' (Kp.of_below hb))).out w' J.bel
    have HJ := hid J
    rcases (show i = 0 ∨ i = 1 ∨ i = 2 ∨ i = 3 ∨ i = 4 by omega) with rfl | rfl | rfl | rfl | rfl
    · clear J hd hi hiN hn
      refine wpOp_step rfl (fun kq hKq => ?_)
      go_simp
      exact hKq _ _ ⟨true, f1, f2, f3, f4, rfl, d0, _, _, _, _, rfl, HJ.out.bel, HJ.out.siz, ⟨fun _ => rfl, HJ.out.vals.2.1, HJ.out.vals.2.2.1, trivial⟩, ⟨HJ.out.boxes.1, trivial⟩, HJ.out.ne⟩
    · obtain rfl : f1 = false := hn
      have hw := J.bel
      clear J hd hi hiN
      refine wpOp_step rfl (fun kq hKq => ?_)
      go_simp
      refine (rhalf_v _).mono ?_
      rintro e wz ⟨ub, uo, um, uc, vb, vo, vm, vc, rfl, HZq, hb⟩
      have J2 := RX.step HJ.out HKG.out hb
      exact hKq _ _ ⟨f0, true, f2, f3, f4, rfl, d0, _, _, _, _, rfl, J2.bel, J2.siz, ⟨J2.vals.1, fun _ => HZq.out, J2.vals.2.2.1, trivial⟩, ⟨J2.boxes.1, trivial⟩, J2.ne⟩
    · obtain rfl : f2 = false := hn
      obtain rfl : f4 = false := by cases f4 with | false => rfl | true => exact absurd (d0 rfl).2 (by simp)
      have e4 : s4 = (.agg #[.bool b1, .slice o1 m1 c1, .bool bb1, .slice oo1 mm1 cc1]) := J.vals.1 (hd 0 (by simp))
      subst e4
      have h5 : (fun wq vq => Qv wq vq (1) (2) (4)) w' s5 := J.vals.2.1 (hd 1 (by simp))
      have hw := J.bel
      clear J hd hi hiN d0
      refine wpOp_step rfl (fun kq hKq => ?_)
      go_simp
      refine (rplus_v _ _ n d 1 2 K (2 * K + 5) _ (VU.out _ hw) (Qv.mono h5 HK4.out) HK4.out (by have := HK.out; omega) (Nat.le_refl _)).mono ?_
      rintro e wz ⟨ub, uo, um, uc, vb, vo, vm, vc, rfl, HZq, hb⟩
      have J2 := RX.step HJ.out HKG.out hb
      exact hKq _ _ ⟨f0, f1, true, f3, false, rfl, nofun, _, _, _, _, rfl, J2.bel, J2.siz, ⟨J2.vals.1, J2.vals.2.1, fun _ => HZq.out, trivial⟩, ⟨fun e => (J2.boxes.1 e).fresh, trivial⟩, J2.ne⟩
    · obtain rfl : f3 = false := hn
      obtain rfl : f4 = false := by cases f4 with | false => rfl | true => exact absurd (d0 rfl).1 (by simp)
      clear J hd hi hiN d0
      refine wpOp_step rfl (fun kq hKq => ?_)
      go_simp
      have J2 := RX.step HJ.out HKG.out (bl_new (w := w') (.cells #[.bool false, .slice none 0 0, .bool false, .slice none 0 0] 33))
      exact hKq _ _ ⟨f0, f1, f2, true, false, rfl, nofun, _, _, _, _, rfl, J2.bel, J2.siz, J2.vals, ⟨fun _ => boxn_new _ w' _ _ [.bool false, .slice none 0 0, .bool false, .slice none 0 0] (by intro i k x hi; match i, hi with | 0, _ => nofun | 1, _ => nofun | 2, _ => nofun | 3, _ => nofun) HJ.out.siz, trivial⟩, ⟨trivial, trivial⟩⟩
    · obtain rfl : f3 = true := hd 3 (by simp)
      obtain rfl : f2 = true := hd 2 (by simp)
      obtain ⟨sb, so, sm, sc, tb, tp, tm, tc, rfl, _⟩ := Qv.opened (J.vals.2.2.1 rfl)
      have HBX : Hid _ := hid (J.boxes.1 rfl)
      obtain ⟨p, vs, rfl, hp, hl, hnn, hc, hf, _⟩ := J.boxes.1 rfl
      have cc0 := hc 0 (by decide)
      have ff0 := hf 0 (by decide)
      have cc1 := hc 1 (by decide)
      have ff1 := hf 1 (by decide)
      have cc2 := hc 2 (by decide)
      have ff2 := hf 2 (by decide)
      have cc3 := hc 3 (by decide)
      have ff3 := hf 3 (by decide)
      clear J hd hi hiN hn hc hf hnn hl
      refine wpOp_step rfl (fun kq hKq => ?_)
      go_simp
      exact hKq _ _ ⟨f0, f1, true, true, true, rfl, fun _ => ⟨rfl, rfl⟩, _, _, _, _, rfl, below_setCells hp [.bool sb, .slice so sm sc, .bool tb, .slice tp tm tc] 0 HJ.out.bel, Nat.le_trans HJ.out.siz (Nat.le_of_eq (size_setCells p [.bool sb, .slice so sm sc, .bool tb, .slice tp tm tc] 0 w').symm), Vals.keep HKG.out (BoxN.keeps HBX.out (us := [.bool sb, .slice so sm sc, .bool tb, .slice tp tm tc]) rfl) HJ.out.vals, ⟨fun _ => BoxN.store HBX.out [.bool sb, .slice so sm sc, .bool tb, .slice tp tm tc] rfl (by intro i k x hi; match i, hi with | 0, _ => nofun | 1, _ => nofun | 2, _ => nofun | 3, _ => nofun), trivial⟩, HJ.out.ne⟩
  rintro L act w' hs ⟨f0, f1, f2, f3, f4, rfl, _, s4, s5, s6, s3, rfl, J⟩ hr
  have hd := early_done (by kernel_rfl) hs hr 5
  obtain rfl : f0 = true := hd 0 (by omega) (by simp)
  obtain rfl : f1 = true := hd 1 (by omega) (by simp)
  obtain rfl : f2 = true := hd 2 (by omega) (by simp)
  obtain rfl : f3 = true := hd 3 (by omega) (by simp)
  obtain rfl : f4 = true := hd 4 (by omega) (by simp)
  have e4 : s4 = (.agg #[.bool b1, .slice o1 m1 c1, .bool bb1, .slice oo1 mm1 cc1]) := J.vals.1 rfl
  subst e4
  have hg3 : (fun wq vq => Qv wq vq (n * 2 + 1 * d) (d * 2) (2 * K + 5)) w' s6 := J.vals.2.2.1 rfl
  obtain ⟨sb, so, sm, sc, tb, tp, tm, tc, rfl, _⟩ := Qv.opened hg3
  obtain ⟨p3, rfl, hp3, hl3, hc3⟩ := BoxN.done (us := [.bool sb, .slice so sm sc, .bool tb, .slice tp tm tc]) (J.boxes.1 rfl)
  have k3_0 : w'.cell? ⟨p3, 0, none⟩ = some (.bool sb) := (hc3 0 (by decide)).1
  have k3_1 : w'.cell? ⟨p3, 1, none⟩ = some (.slice so sm sc) := (hc3 1 (by decide)).1
  have k3_2 : w'.cell? ⟨p3, 2, none⟩ = some (.bool tb) := (hc3 2 (by decide)).1
  have k3_3 : w'.cell? ⟨p3, 3, none⟩ = some (.slice tp tm tc) := (hc3 3 (by decide)).1
  clear hc3
  have hbel := J.bel
  have hsiz := J.siz
  have hv5 : (fun wq vq => Qv wq vq (1) (2) (4)) w' s5 := J.vals.2.1 rfl
  clear hd hr hs J
  obtain ⟨W1, hW1⟩ : ∃ W, W = w' := ⟨_, rfl⟩
  rw [← hW1] at hbel hg3 hl3 k3_0 k3_1 k3_2 k3_3
  have hsz1 : w.heap.size + 1 < p3 := Nat.lt_of_lt_of_le HN0.out hp3
  have HS1 : Hid (∀ w', Kp W1.heap.size (w.heap.size + 1) W1 w' → (w'.cell? ⟨w.heap.size, 0, none⟩ = some (.bool b1) ∧ w'.cell? ⟨w.heap.size, 1, none⟩ = some (.slice o1 m1 c1) ∧ w'.cell? ⟨w.heap.size, 2, none⟩ = some (.bool bb1) ∧ w'.cell? ⟨w.heap.size, 3, none⟩ = some (.slice oo1 mm1 cc1)) ∧ w'.cell? ⟨p3, 0, none⟩ = some (.bool sb) ∧ w'.cell? ⟨p3, 1, none⟩ = some (.slice so sm sc) ∧ w'.cell? ⟨p3, 2, none⟩ = some (.bool tb) ∧ w'.cell? ⟨p3, 3, none⟩ = some (.slice tp tm tc)) := hid (fun w' hb => by
    refine ⟨HS0.out _ (hb.trans_below hbel), (hb.cell _ (by simpa using hl3) (by simp <;> omega)).trans k3_0, (hb.cell _ (by simpa using hl3) (by simp <;> omega)).trans k3_1, (hb.cell _ (by simpa using hl3) (by simp <;> omega)).trans k3_2, (hb.cell _ (by simpa using hl3) (by simp <;> omega)).trans k3_3⟩)
  replace HT := hid (fun w' hb => HT.out w' (bl_tr hbel hb))
  replace VU := hid (fun w' hb => VU.out w' (bl_tr hbel hb))
  have VB : Hid (∀ w', Below W1.heap.size W1 w' → Qv w' (.agg #[.bool sb, .slice so sm sc, .bool tb, .slice tp tm tc]) (n * 2 + 1 * d) (d * 2) (2 * K + 5)) := hid (fun w' hb => hg3.below hb (Nat.le_refl _))
  have HN1 := hid (show w.heap.size + 1 < W1.heap.size from Nat.lt_of_lt_of_le HN0.out hbel.size)
  have HB1 := hid (HB0.out.trans (hbel.mono HB0.out.size)); have HW1 := hid hW1
  clear hW1 hsz1 HS0 HB0 HW0 HN0 hbel hsiz hX0 hg3 hl3 hp3 k3_0 k3_1 k3_2 k3_3
  go_upto_region 2 with (fail)
  rw [← HW1.out]
  obtain ⟨⟨k0, k1, k2, k3⟩, k4, k5, k6, k7⟩ := HS1.out _ (Kp.of_below (Below.refl _ _))
  go_wp2_with fail
  refine (rfloor_v _ _ _ (2 * K + 5) R _ (VB.out _ (Below.refl _ _)) (by have := HK.out; omega) HR.out).mono ?_
  rintro e wq4 ⟨b4, o4, m4, c4, rfl, H4, hbq⟩
  have hXq : Below W1.heap.size W1 wq4 := hbq
  clear k0 k1 k2 k3 k4 k5 k6 k7
  obtain ⟨⟨hr0, hr1⟩, hf0, hf1⟩ := HT.out _ hXq
  have hn0 := HN1.out
  have hbel : Below w.heap.size w wq4 := HB1.out.trans (hXq.mono HB1.out.size)
  go_wp2
  refine bodyPost_ret (v := (.agg #[.bool b4, .slice o4 m4 c4])) (by simp [results, Tryz.results26, go_sem, hr0, hr1]) rfl ⟨b4, o4, m4, c4, rfl, hid (zt_keeps (((Keeps.refl _ _).setCell (u := .bool false) hr0 (fun x h => (by cases h)) _).setCell (u := .slice none 0 0) (by simp [go_sem, hr1]) (fun x h => (by cases h)) _) H4.out), ((hbel.setCell (by simp <;> omega) _).setCell (by simp <;> omega) _)⟩

end Go.Proofs.YtbapeilpkhbbeaaGreatDoor
