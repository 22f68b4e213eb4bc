/- The document's ratios: Twos, Fixed, FromFixed, RootFixed by values; Like; the law's ownRatio. Written by gen_rq2.py. -/
import Derived.Test.YtbapeilpkhbbeaaGreatRn33
import Derived.Test.YtbapeilpkhbbeaaGreatRn34
/- The document's ratios: Twos, Fixed, FromFixed, RootFixed by values; Like; the law's ownRatio. Written by gen_rq2.py. -/
namespace Go.Proofs.YtbapeilpkhbbeaaGreat
open Go.RowKit

theorem rtimes_w (u v : Value) (n d x : Int) (K R : Nat) (w : World) (hu : Qv w u n d K) (hv : Qv w v x 1 K) (hK4 : 4 ≤ K) (hK : K ≤ 1000000) (hR : 2 * K + 5 ≤ R) :
    Calls Tryz.prog 16 #[u, v] w (RetQ w (n * x) d R) := by
  have h := rtimes_v u v n d x 1 K R w hu hv hK4 hK hR
  rw [Int.mul_one] at h
  exact h
theorem rpow_t (u : Value) (x P : Int) (n K R : Nat) (w : World) (hn : n ≤ 1024) (hu : Zt w u x K) (hK : K ≤ 100000) (hP : x ^ n = P) (hR : 4 + n * (K + 1) ≤ R) :
    Calls Tryz.prog 113 #[u, .int .i64 n] w fun e w' => ∃ b o m c, e = .returned (.tuple #[.agg #[.bool b, .slice o m c], .int .i64 0]) ∧ Hid (Zt w' (.agg #[.bool b, .slice o m c]) P R) ∧ Below w.heap.size w w' := by
  subst hP
  refine (rpow_any u x n K w hn hu hK).mono ?_
  rintro e w' ⟨v, rfl, hv, hb⟩
  obtain ⟨b, o, m, c, rfl, _⟩ := Zt.opened hv
  exact ⟨b, o, m, c, rfl, hid (hv.mono hR), hb⟩

set_option maxRecDepth 100000 in
set_option maxHeartbeats 2000000 in
theorem rtwos_v (k : Nat) (P : Int) (R : Nat) (w : World) (hk : k ≤ 1024) (hP : (2 : Int) ^ k = P) (hR : 4 + k * 5 ≤ R) : Calls Tryz.prog 78 #[.int .i64 (k : Int)] w (RetZo w P R) := by
  have HPW := hid (fun (w' : World) (u : Value) (hu : Zt w' u 2 4) => rpow_t u 2 P k 4 R w' hk hu (by decide) hP hR)
  clear hk hP hR
  obtain ⟨W0, hW0⟩ : ∃ W0, W0 = (w.alloc (.cells #[.bool false, .slice none 0 0] 33)) := ⟨_, rfl⟩
  have hB0 : Below w.heap.size w W0 := by rw [hW0]; exact (Below.refl _ _).alloc (Nat.le_refl _) _
  have hz0 : W0.heap.size = w.heap.size + 1 := by rw [hW0]; simp
  have HN0 := hid (show w.heap.size < W0.heap.size by rw [hz0]; omega)
  have HS0 : Hid (∀ w', Kp W0.heap.size (w.heap.size) W0 w' → True) := hid (fun _ _ => trivial)
  have HT : Hid (∀ w', Below W0.heap.size W0 w' → (w'.cell? ⟨w.heap.size, 0, none⟩ = some (.bool false) ∧ w'.cell? ⟨w.heap.size, 1, none⟩ = some (.slice none 0 0)) ∧ (w'.frozen? ⟨w.heap.size, 0, none⟩ = false ∧ w'.frozen? ⟨w.heap.size, 1, none⟩ = false)) := hid (fun w' hb => by
    refine ⟨⟨?_, ?_⟩, ?_, ?_⟩ <;> (first | (rw [hb.cell (by rw [hz0]; simp), hW0]; simp [go_sem]; done) | (rw [hb.frozen (by rw [hz0]; simp), hW0]; simp [go_sem]; done)))
  have HB0 := hid hB0; have HW0 := hid hW0
  clear hW0 hB0 hz0 
  go_enter Tryz.func78, Tryz.ntmps78
  go_upto_region 1 with (fail)
  rw [← HW0.out]
  go_wp2_with fail
  refine (rof_o 2 _ (by decide) (by decide)).mono ?_
  rintro e wq1 ⟨b1, o1, m1, c1, rfl, H1, hbq⟩
  have hY1 : Below W0.heap.size W0 wq1 := hbq
  go_wp2_with fail
  refine (HPW.out _ _ H1.out).mono ?_
  rintro e wq2 ⟨b2, o2, m2, c2, rfl, H2, hbq⟩
  have hY2 : Below W0.heap.size W0 wq2 := bl_tr hY1 hbq
  have hY3 : Below W0.heap.size W0 (wq2.alloc (.cells #[.bool b2, .slice o2 m2 c2] 33)) := bl_tr hY2 (bl_new _)
  obtain ⟨⟨hr0, hr1⟩, hf0, hf1⟩ := HT.out _ hY3
  have hn0 := HN0.out; have hs2 := hY2.size
  have hbel : Below w.heap.size w (wq2.alloc (.cells #[.bool b2, .slice o2 m2 c2] 33)) := HB0.out.trans (hY3.mono HB0.out.size)
  have h3b := H2.out.below (show Below wq2.heap.size wq2 (wq2.alloc (.cells #[.bool b2, .slice o2 m2 c2] 33)) from bl_new _) (Nat.le_refl _)
  go_wp2
  refine bodyPost_ret (v := .agg #[.bool b2, .slice o2 m2 c2]) (by simp [results, Tryz.results78, go_sem, hr0, hr1]) rfl ⟨b2, o2, m2, c2, rfl, hid (zt_keeps (((Keeps.refl _ _).setCell (u := .bool false) hr0 (fun x h => (by cases h)) _).setCell (u := .slice none 0 0) (by simp [go_sem, hr1]) (fun x h => (by cases h)) _) h3b), ((hbel.setCell (by simp <;> omega) _).setCell (by simp <;> omega) _)⟩

set_option maxRecDepth 100000 in
set_option maxHeartbeats 2000000 in
theorem rFixed_bad (i : Int) (b1 bb1 : Bool) (o1 oo1 : Option Addr) (m1 c1 mm1 cc1 : Nat) (w : World) (h : i < 0 ∨ 256 < i) :
    Calls Tryz.prog 34 #[.agg #[.bool b1, .slice o1 m1 c1, .bool bb1, .slice oo1 mm1 cc1], .int .i64 i] w fun e w' => e = .returned (.tuple #[.agg #[.bool false, .slice none 0 0], .int .i64 2]) ∧ Below w.heap.size w w' := by
  obtain ⟨W0, hW0⟩ : ∃ W0, W0 = ((w.alloc (.cells #[.bool b1, .slice o1 m1 c1, .bool bb1, .slice oo1 mm1 cc1] 35)).alloc (.cells #[.bool false, .slice none 0 0] 33)) := ⟨_, rfl⟩
  have hB0 : Below w.heap.size w W0 := by rw [hW0]; exact ((Below.refl _ _).alloc (Nat.le_refl _) _).alloc (by simp <;> omega) _
  have hz0 : W0.heap.size = w.heap.size + 2 := by rw [hW0]; simp
  have HN0 := hid (show w.heap.size + 1 < W0.heap.size by rw [hz0]; omega)
  have HS0 : Hid (∀ w', Kp W0.heap.size (w.heap.size + 1) W0 w' → w'.cell? ⟨w.heap.size, 0, none⟩ = some (.bool b1) ∧ w'.cell? ⟨w.heap.size, 1, none⟩ = some (.slice o1 m1 c1) ∧ w'.cell? ⟨w.heap.size, 2, none⟩ = some (.bool bb1) ∧ w'.cell? ⟨w.heap.size, 3, none⟩ = some (.slice oo1 mm1 cc1)) := hid (fun w' hb => by
    refine ⟨?_, ?_, ?_, ?_⟩ <;> (rw [hb.cell _ (by rw [hz0]; simp <;> omega) (by simp <;> omega), hW0]; simp [go_sem]))
  have HT : Hid (∀ w', Below W0.heap.size W0 w' → (w'.cell? ⟨w.heap.size + 1, 0, none⟩ = some (.bool false) ∧ w'.cell? ⟨w.heap.size + 1, 1, none⟩ = some (.slice none 0 0)) ∧ (w'.frozen? ⟨w.heap.size + 1, 0, none⟩ = false ∧ w'.frozen? ⟨w.heap.size + 1, 1, none⟩ = false)) := hid (fun w' hb => by
    refine ⟨⟨?_, ?_⟩, ?_, ?_⟩ <;> (first | (rw [hb.cell (by rw [hz0]; simp), hW0]; simp [go_sem]; done) | (rw [hb.frozen (by rw [hz0]; simp), hW0]; simp [go_sem]; done)))
  have hbld : ∀ w : World, (Instr.build 33 #[]).run Tryz.prog w = .ok (.agg #[.bool false, .slice none 0 0]) w := fun w => by kernel_rfl
  by_cases h0 : i < 0
  · have HB0 := hid hB0; have HW0 := hid hW0
    clear hW0 hB0 hz0 h
    go_enter Tryz.func34, Tryz.ntmps34
    go_upto_region 1 with (fail)
    rw [← HW0.out]
    obtain ⟨k0, k1, k2, k3⟩ := HS0.out _ (Kp.of_below (Below.refl _ _))
    obtain ⟨⟨hr0, hr1⟩, hf0, hf1⟩ := HT.out _ (Below.refl _ _)
    have hY := Below.refl W0.heap.size W0
    have hn0 := HN0.out
    have hbel : Below w.heap.size w W0 := HB0.out.trans (hY.mono HB0.out.size)
    go_wp2
    refine bodyPost_ret (v := .tuple #[.agg #[.bool false, .slice none 0 0], .int .i64 2]) (by simp [results, Tryz.results34, go_sem, hr0, hr1]) rfl ⟨rfl, ((hbel.setCell (by simp <;> omega) _).setCell (by simp <;> omega) _)⟩
  · have h1 : 256 < i := by omega
    have HB0 := hid hB0; have HW0 := hid hW0
    clear hW0 hB0 hz0 h
    go_enter Tryz.func34, Tryz.ntmps34
    go_upto_region 1 with (fail)
    rw [← HW0.out]
    obtain ⟨k0, k1, k2, k3⟩ := HS0.out _ (Kp.of_below (Below.refl _ _))
    obtain ⟨⟨hr0, hr1⟩, hf0, hf1⟩ := HT.out _ (Below.refl _ _)
    have hY := Below.refl W0.heap.size W0
    have hn0 := HN0.out
    have hbel : Below w.heap.size w W0 := HB0.out.trans (hY.mono HB0.out.size)
    go_wp2
    refine bodyPost_ret (v := .tuple #[.agg #[.bool false, .slice none 0 0], .int .i64 2]) (by simp [results, Tryz.results34, go_sem, hr0, hr1]) rfl ⟨rfl, ((hbel.setCell (by simp <;> omega) _).setCell (by simp <;> omega) _)⟩

set_option maxRecDepth 100000 in
set_option maxHeartbeats 2000000 in
theorem rFromFixed_bad (i : Int) (b1 : Bool) (o1 : Option Addr) (m1 c1 : Nat) (w : World) (h : i < 0 ∨ 256 < i) :
    Calls Tryz.prog 36 #[.agg #[.bool b1, .slice o1 m1 c1], .int .i64 i] w fun e w' => e = .returned (.tuple #[.agg #[.bool false, .slice none 0 0, .bool false, .slice none 0 0], .int .i64 2]) ∧ Below w.heap.size w w' := by
  obtain ⟨W0, hW0⟩ : ∃ W0, W0 = ((w.alloc (.cells #[.bool b1, .slice o1 m1 c1] 33)).alloc (.cells #[.bool false, .slice none 0 0, .bool false, .slice none 0 0] 35)) := ⟨_, rfl⟩
  have hB0 : Below w.heap.size w W0 := by rw [hW0]; exact ((Below.refl _ _).alloc (Nat.le_refl _) _).alloc (by simp <;> omega) _
  have hz0 : W0.heap.size = w.heap.size + 2 := by rw [hW0]; simp
  have HN0 := hid (show w.heap.size + 1 < W0.heap.size by rw [hz0]; omega)
  have HS0 : Hid (∀ w', Kp W0.heap.size (w.heap.size + 1) W0 w' → w'.cell? ⟨w.heap.size, 0, none⟩ = some (.bool b1) ∧ w'.cell? ⟨w.heap.size, 1, none⟩ = some (.slice o1 m1 c1)) := hid (fun w' hb => by
    refine ⟨?_, ?_⟩ <;> (rw [hb.cell _ (by rw [hz0]; simp <;> omega) (by simp <;> omega), hW0]; simp [go_sem]))
  have HT : Hid (∀ w', Below W0.heap.size W0 w' → (w'.cell? ⟨w.heap.size + 1, 0, none⟩ = some (.bool false) ∧ w'.cell? ⟨w.heap.size + 1, 1, none⟩ = some (.slice none 0 0) ∧ w'.cell? ⟨w.heap.size + 1, 2, none⟩ = some (.bool false) ∧ w'.cell? ⟨w.heap.size + 1, 3, none⟩ = some (.slice none 0 0)) ∧ (w'.frozen? ⟨w.heap.size + 1, 0, none⟩ = false ∧ w'.frozen? ⟨w.heap.size + 1, 1, none⟩ = false ∧ w'.frozen? ⟨w.heap.size + 1, 2, none⟩ = false ∧ w'.frozen? ⟨w.heap.size + 1, 3, none⟩ = false)) := hid (fun w' hb => by
    refine ⟨⟨?_, ?_, ?_, ?_⟩, ?_, ?_, ?_, ?_⟩ <;> (first | (rw [hb.cell (by rw [hz0]; simp), hW0]; simp [go_sem]; done) | (rw [hb.frozen (by rw [hz0]; simp), hW0]; simp [go_sem]; done)))
  have hbld : ∀ w : World, (Instr.build 35 #[]).run Tryz.prog w = .ok (.agg #[.bool false, .slice none 0 0, .bool false, .slice none 0 0]) w := fun w => by kernel_rfl
  by_cases h0 : i < 0
  · have HB0 := hid hB0; have HW0 := hid hW0
    clear hW0 hB0 hz0 h
    go_enter Tryz.func36, Tryz.ntmps36
    go_upto_region 1 with (fail)
    rw [← HW0.out]
    obtain ⟨k0, k1⟩ := HS0.out _ (Kp.of_below (Below.refl _ _))
    obtain ⟨⟨hr0, hr1, hr2, hr3⟩, hf0, hf1, hf2, hf3⟩ := HT.out _ (Below.refl _ _)
    have hY := Below.refl W0.heap.size W0
    have hn0 := HN0.out
    have hbel : Below w.heap.size w W0 := HB0.out.trans (hY.mono HB0.out.size)
    go_wp2
    refine bodyPost_ret (v := .tuple #[.agg #[.bool false, .slice none 0 0, .bool false, .slice none 0 0], .int .i64 2]) (by simp [results, Tryz.results36, go_sem, hr0, hr1, hr2, hr3]) rfl ⟨rfl, ((((hbel.setCell (by simp <;> omega) _).setCell (by simp <;> omega) _).setCell (by simp <;> omega) _).setCell (by simp <;> omega) _)⟩
  · have h1 : 256 < i := by omega
    have HB0 := hid hB0; have HW0 := hid hW0
    clear hW0 hB0 hz0 h
    go_enter Tryz.func36, Tryz.ntmps36
    go_upto_region 1 with (fail)
    rw [← HW0.out]
    obtain ⟨k0, k1⟩ := HS0.out _ (Kp.of_below (Below.refl _ _))
    obtain ⟨⟨hr0, hr1, hr2, hr3⟩, hf0, hf1, hf2, hf3⟩ := HT.out _ (Below.refl _ _)
    have hY := Below.refl W0.heap.size W0
    have hn0 := HN0.out
    have hbel : Below w.heap.size w W0 := HB0.out.trans (hY.mono HB0.out.size)
    go_wp2
    refine bodyPost_ret (v := .tuple #[.agg #[.bool false, .slice none 0 0, .bool false, .slice none 0 0], .int .i64 2]) (by simp [results, Tryz.results36, go_sem, hr0, hr1, hr2, hr3]) rfl ⟨rfl, ((((hbel.setCell (by simp <;> omega) _).setCell (by simp <;> omega) _).setCell (by simp <;> omega) _).setCell (by simp <;> omega) _)⟩

set_option maxRecDepth 100000 in
set_option maxHeartbeats 2000000 in
theorem rRootFixed_bad (i : Int) (b1 bb1 : Bool) (o1 oo1 : Option Addr) (m1 c1 mm1 cc1 : Nat) (w : World) (h : i < 0 ∨ 256 < i) :
    Calls Tryz.prog 39 #[.agg #[.bool b1, .slice o1 m1 c1, .bool bb1, .slice oo1 mm1 cc1], .int .i64 i] w fun e w' => e = .returned (.tuple #[.agg #[.bool false, .slice none 0 0], .int .i64 2]) ∧ Below w.heap.size w w' := by
  obtain ⟨W0, hW0⟩ : ∃ W0, W0 = ((w.alloc (.cells #[.bool b1, .slice o1 m1 c1, .bool bb1, .slice oo1 mm1 cc1] 35)).alloc (.cells #[.bool false, .slice none 0 0] 33)) := ⟨_, rfl⟩
  have hB0 : Below w.heap.size w W0 := by rw [hW0]; exact ((Below.refl _ _).alloc (Nat.le_refl _) _).alloc (by simp <;> omega) _
  have hz0 : W0.heap.size = w.heap.size + 2 := by rw [hW0]; simp
  have HN0 := hid (show w.heap.size + 1 < W0.heap.size by rw [hz0]; omega)
  have HS0 : Hid (∀ w', Kp W0.heap.size (w.heap.size + 1) W0 w' → w'.cell? ⟨w.heap.size, 0, none⟩ = some (.bool b1) ∧ w'.cell? ⟨w.heap.size, 1, none⟩ = some (.slice o1 m1 c1) ∧ w'.cell? ⟨w.heap.size, 2, none⟩ = some (.bool bb1) ∧ w'.cell? ⟨w.heap.size, 3, none⟩ = some (.slice oo1 mm1 cc1)) := hid (fun w' hb => by
    refine ⟨?_, ?_, ?_, ?_⟩ <;> (rw [hb.cell _ (by rw [hz0]; simp <;> omega) (by simp <;> omega), hW0]; simp [go_sem]))
  have HT : Hid (∀ w', Below W0.heap.size W0 w' → (w'.cell? ⟨w.heap.size + 1, 0, none⟩ = some (.bool false) ∧ w'.cell? ⟨w.heap.size + 1, 1, none⟩ = some (.slice none 0 0)) ∧ (w'.frozen? ⟨w.heap.size + 1, 0, none⟩ = false ∧ w'.frozen? ⟨w.heap.size + 1, 1, none⟩ = false)) := hid (fun w' hb => by
    refine ⟨⟨?_, ?_⟩, ?_, ?_⟩ <;> (first | (rw [hb.cell (by rw [hz0]; simp), hW0]; simp [go_sem]; done) | (rw [hb.frozen (by rw [hz0]; simp), hW0]; simp [go_sem]; done)))
  have hbld : ∀ w : World, (Instr.build 33 #[]).run Tryz.prog w = .ok (.agg #[.bool false, .slice none 0 0]) w := fun w => by kernel_rfl
  by_cases h0 : i < 0
  · have HB0 := hid hB0; have HW0 := hid hW0
    clear hW0 hB0 hz0 h
    go_enter Tryz.func39, Tryz.ntmps39
    go_upto_region 1 with (fail)
    rw [← HW0.out]
    obtain ⟨k0, k1, k2, k3⟩ := HS0.out _ (Kp.of_below (Below.refl _ _))
    obtain ⟨⟨hr0, hr1⟩, hf0, hf1⟩ := HT.out _ (Below.refl _ _)
    have hY := Below.refl W0.heap.size W0
    have hn0 := HN0.out
    have hbel : Below w.heap.size w W0 := HB0.out.trans (hY.mono HB0.out.size)
    go_wp2
    refine bodyPost_ret (v := .tuple #[.agg #[.bool false, .slice none 0 0], .int .i64 2]) (by simp [results, Tryz.results39, go_sem, hr0, hr1]) rfl ⟨rfl, ((hbel.setCell (by simp <;> omega) _).setCell (by simp <;> omega) _)⟩
  · have h1 : 256 < i := by omega
    have HB0 := hid hB0; have HW0 := hid hW0
    clear hW0 hB0 hz0 h
    go_enter Tryz.func39, Tryz.ntmps39
    go_upto_region 1 with (fail)
    rw [← HW0.out]
    obtain ⟨k0, k1, k2, k3⟩ := HS0.out _ (Kp.of_below (Below.refl _ _))
    obtain ⟨⟨hr0, hr1⟩, hf0, hf1⟩ := HT.out _ (Below.refl _ _)
    have hY := Below.refl W0.heap.size W0
    have hn0 := HN0.out
    have hbel : Below w.heap.size w W0 := HB0.out.trans (hY.mono HB0.out.size)
    go_wp2
    refine bodyPost_ret (v := .tuple #[.agg #[.bool false, .slice none 0 0], .int .i64 2]) (by simp [results, Tryz.results39, go_sem, hr0, hr1]) rfl ⟨rfl, ((hbel.setCell (by simp <;> omega) _).setCell (by simp <;> omega) _)⟩

set_option maxRecDepth 100000 in
set_option maxHeartbeats 2000000 in
theorem rFixed_v (u : Value) (n d : Int) (k : Nat) (w : World) (hu : Qv w u n d 3000) (hk : k ≤ 256) :
    Calls Tryz.prog 34 #[u, .int .i64 (k : Int)] w (RetZZE w 0 ((n * 2 ^ k * 2 + d).fdiv (d * 2))) := by
  obtain ⟨b1, o1, m1, c1, bb1, oo1, mm1, cc1, rfl, _⟩ := Qv.opened hu
  obtain ⟨P, hP⟩ : ∃ P : Int, P = 2 ^ k := ⟨_, rfl⟩
  have HTW := hid (fun (w' : World) => rtwos_v k P 3000 w' (by omega) hP.symm (by omega))
  rw [← hP]
  have g0 : ¬ (k : Int) < 0 := by omega
  have g1 : ¬ (256 : Int) < (k : Int) := by omega
  clear hP hk
  obtain ⟨W0, hW0⟩ : ∃ W0, W0 = ((w.alloc (.cells #[.bool b1, .slice o1 m1 c1, .bool bb1, .slice oo1 mm1 cc1] 35)).alloc (.cells #[.bool false, .slice none 0 0] 33)) := ⟨_, rfl⟩
  have hB0 : Below w.heap.size w W0 := by rw [hW0]; exact ((Below.refl _ _).alloc (Nat.le_refl _) _).alloc (by simp <;> omega) _
  have hz0 : W0.heap.size = w.heap.size + 2 := by rw [hW0]; simp
  have HN0 := hid (show w.heap.size + 1 < W0.heap.size by rw [hz0]; omega)
  have HS0 : Hid (∀ w', Kp W0.heap.size (w.heap.size + 1) W0 w' → w'.cell? ⟨w.heap.size, 0, none⟩ = some (.bool b1) ∧ w'.cell? ⟨w.heap.size, 1, none⟩ = some (.slice o1 m1 c1) ∧ w'.cell? ⟨w.heap.size, 2, none⟩ = some (.bool bb1) ∧ w'.cell? ⟨w.heap.size, 3, none⟩ = some (.slice oo1 mm1 cc1)) := hid (fun w' hb => by
    refine ⟨?_, ?_, ?_, ?_⟩ <;> (rw [hb.cell _ (by rw [hz0]; simp <;> omega) (by simp <;> omega), hW0]; simp [go_sem]))
  have HT : Hid (∀ w', Below W0.heap.size W0 w' → (w'.cell? ⟨w.heap.size + 1, 0, none⟩ = some (.bool false) ∧ w'.cell? ⟨w.heap.size + 1, 1, none⟩ = some (.slice none 0 0)) ∧ (w'.frozen? ⟨w.heap.size + 1, 0, none⟩ = false ∧ w'.frozen? ⟨w.heap.size + 1, 1, none⟩ = false)) := hid (fun w' hb => by
    refine ⟨⟨?_, ?_⟩, ?_, ?_⟩ <;> (first | (rw [hb.cell (by rw [hz0]; simp), hW0]; simp [go_sem]; done) | (rw [hb.frozen (by rw [hz0]; simp), hW0]; simp [go_sem]; done)))
  have VU : Hid (∀ w', Below W0.heap.size W0 w' → Qv w' (.agg #[.bool b1, .slice o1 m1 c1, .bool bb1, .slice oo1 mm1 cc1]) n d 3000) := hid (fun w' hb => (hu.below hB0 (Nat.le_refl _)).below hb (Nat.le_refl _))
  have HB0 := hid hB0; have HW0 := hid hW0
  clear hW0 hB0 hz0 hu
  go_enter Tryz.func34, Tryz.ntmps34
  go_upto_region 3 with (fail)
  rw [← HW0.out]
  have hX0 := Below.refl W0.heap.size W0
  have HKG : Hid (AllKeep [(false, (fun wq vq => vq = (.agg #[.bool b1, .slice o1 m1 c1, .bool bb1, .slice oo1 mm1 cc1])), undef), (false, (fun wq vq => vq = .int .i64 (k : Int)), undef), (false, (fun wq vq => Zt wq vq (P) (3000)), undef), (false, (fun wq vq => Qv wq vq (P) (1) (3000)), undef), (false, (fun wq vq => Qv wq vq (n * P) (d) (6005)), undef)]) := hid ⟨kcV _, kcV _, ztV _ _, qvV _ _ _, qvV _ _ _, trivial⟩
  refine region_inv (by kernel_rfl) (fun L act w' => ∃ f0 f1 f2 f3 f4 f5 f6, L = #[f0, f1, f2, f3, f4, f5, f6] ∧ (f6 = true → f5 = true ∧ f4 = true) ∧ ∃ s14 s15 s16 s17 s18 s6, act = { tmps := #[(.agg #[.bool b1, .slice o1 m1 c1, .bool bb1, .slice oo1 mm1 cc1]), .int .i64 (k : Int), .pointer (some ⟨w.heap.size, 0, none⟩), undef, .pointer (some ⟨w.heap.size + 1, 0, none⟩), .int .i64 0, s6, .int .i64 (k : Int), .bool false, .bool false, .int .i64 (k : Int), .bool false, .bool false, undef, s14, s15, s16, s17, s18, undef, undef], defers := [] } ∧ RX W0.heap.size W0 [(f0, (fun wq vq => vq = (.agg #[.bool b1, .slice o1 m1 c1, .bool bb1, .slice oo1 mm1 cc1])), s14), (f1, (fun wq vq => vq = .int .i64 (k : Int)), s15), (f2, (fun wq vq => Zt wq vq (P) (3000)), s16), (f3, (fun wq vq => Qv wq vq (P) (1) (3000)), s17), (f4, (fun wq vq => Qv wq vq (n * P) (d) (6005)), s18)] [(4, f5, f6, s6, s18)] w') ?_ ?_ ?_
  · exact ⟨_, _, _, _, _, _, _, rfl, nofun, _, _, _, _, _, _, rfl, hX0.drew, hX0.size, ⟨nofun, nofun, nofun, nofun, nofun, trivial⟩, ⟨nofun, trivial⟩, ⟨trivial, trivial⟩⟩
  · rintro L act w' i hs ⟨f0, f1, f2, f3, f4, f5, f6, rfl, d0, s14, s15, s16, s17, s18, s6, rfl, J⟩ hi
    obtain ⟨hi, hn, hd⟩ := waits_spec (dep := [[], [], [1], [2], [0, 3], [], [5, 4]]) (by kernel_rfl) hi
    have hiN : i < 7 := hi
    obtain ⟨k0, k1, k2, k3⟩ := (hid (fun w' hb => HS0.out w' (Kp.of_below hb))).out w' J.bel
    have HJ := hid J
    rcases (show i = 0 ∨ i = 1 ∨ i = 2 ∨ i = 3 ∨ i = 4 ∨ i = 5 ∨ i = 6 by omega) with rfl | rfl | rfl | rfl | rfl | rfl | rfl
    · clear J hd hi hiN hn
      refine wpOp_step rfl (fun kq hKq => ?_)
      go_simp
      exact hKq _ _ ⟨true, f1, f2, f3, f4, f5, f6, rfl, d0, _, _, _, _, _, _, rfl, HJ.out.bel, HJ.out.siz, ⟨fun _ => rfl, HJ.out.vals.2.1, HJ.out.vals.2.2.1, HJ.out.vals.2.2.2.1, HJ.out.vals.2.2.2.2.1, trivial⟩, ⟨HJ.out.boxes.1, trivial⟩, HJ.out.ne⟩
    · clear J hd hi hiN hn
      refine wpOp_step rfl (fun kq hKq => ?_)
      go_simp
      exact hKq _ _ ⟨f0, true, f2, f3, f4, f5, f6, rfl, d0, _, _, _, _, _, _, rfl, HJ.out.bel, HJ.out.siz, ⟨HJ.out.vals.1, fun _ => rfl, HJ.out.vals.2.2.1, HJ.out.vals.2.2.2.1, HJ.out.vals.2.2.2.2.1, trivial⟩, ⟨HJ.out.boxes.1, trivial⟩, HJ.out.ne⟩
    · obtain rfl : f2 = false := hn
      have e15 : s15 = .int .i64 (k : Int) := J.vals.2.1 (hd 1 (by simp))
      subst e15
      have hw := J.bel
      clear J hd hi hiN
      refine wpOp_step rfl (fun kq hKq => ?_)
      go_simp
      refine (HTW.out _).mono ?_
      rintro e wz ⟨ub, uo, um, uc, rfl, HZq, hb⟩
      have J2 := RX.step HJ.out HKG.out hb
      exact hKq _ _ ⟨f0, f1, true, f3, f4, f5, f6, rfl, d0, _, _, _, _, _, _, rfl, J2.bel, J2.siz, ⟨J2.vals.1, J2.vals.2.1, fun _ => HZq.out, J2.vals.2.2.2.1, J2.vals.2.2.2.2.1, trivial⟩, ⟨J2.boxes.1, trivial⟩, J2.ne⟩
    · obtain rfl : f3 = false := hn
      have h16 : (fun wq vq => Zt wq vq (P) (3000)) w' s16 := J.vals.2.2.1 (hd 2 (by simp))
      have hw := J.bel
      clear J hd hi hiN
      refine wpOp_step rfl (fun kq hKq => ?_)
      go_simp
      refine (rwhole_v _ P 3000 _ h16 (by decide)).mono ?_
      rintro e wz ⟨ub, uo, um, uc, vb, vo, vm, vc, rfl, HZq, hb⟩
      have J2 := RX.step HJ.out HKG.out hb
      exact hKq _ _ ⟨f0, f1, f2, true, f4, f5, f6, rfl, d0, _, _, _, _, _, _, rfl, J2.bel, J2.siz, ⟨J2.vals.1, J2.vals.2.1, J2.vals.2.2.1, fun _ => HZq.out, J2.vals.2.2.2.2.1, trivial⟩, ⟨J2.boxes.1, trivial⟩, J2.ne⟩
    · obtain rfl : f4 = false := hn
      obtain rfl : f6 = false := by cases f6 with | false => rfl | true => exact absurd (d0 rfl).2 (by simp)
      have e14 : s14 = (.agg #[.bool b1, .slice o1 m1 c1, .bool bb1, .slice oo1 mm1 cc1]) := J.vals.1 (hd 0 (by simp))
      subst e14
      have h17 : (fun wq vq => Qv wq vq (P) (1) (3000)) w' s17 := J.vals.2.2.2.1 (hd 3 (by simp))
      have hw := J.bel
      clear J hd hi hiN d0
      refine wpOp_step rfl (fun kq hKq => ?_)
      go_simp
      refine (rtimes_w _ _ n d P 3000 6005 _ (VU.out _ hw) h17 (by decide) (by decide) (by decide)).mono ?_
      rintro e wz ⟨ub, uo, um, uc, vb, vo, vm, vc, rfl, HZq, hb⟩
      have J2 := RX.step HJ.out HKG.out hb
      exact hKq _ _ ⟨f0, f1, f2, f3, true, f5, false, rfl, nofun, _, _, _, _, _, _, rfl, J2.bel, J2.siz, ⟨J2.vals.1, J2.vals.2.1, J2.vals.2.2.1, J2.vals.2.2.2.1, fun _ => HZq.out, trivial⟩, ⟨fun e => (J2.boxes.1 e).fresh, trivial⟩, J2.ne⟩
    · obtain rfl : f5 = false := hn
      obtain rfl : f6 = false := by cases f6 with | false => rfl | true => exact absurd (d0 rfl).1 (by simp)
      clear J hd hi hiN d0
      refine wpOp_step rfl (fun kq hKq => ?_)
      go_simp
      have J2 := RX.step HJ.out HKG.out (bl_new (w := w') (.cells #[.bool false, .slice none 0 0, .bool false, .slice none 0 0] 35))
      exact hKq _ _ ⟨f0, f1, f2, f3, f4, true, false, rfl, nofun, _, _, _, _, _, _, rfl, J2.bel, J2.siz, J2.vals, ⟨fun _ => boxn_new _ w' _ _ [.bool false, .slice none 0 0, .bool false, .slice none 0 0] (by intro i k x hi; match i, hi with | 0, _ => nofun | 1, _ => nofun | 2, _ => nofun | 3, _ => nofun) HJ.out.siz, trivial⟩, ⟨trivial, trivial⟩⟩
    · obtain rfl : f5 = true := hd 5 (by simp)
      obtain rfl : f4 = true := hd 4 (by simp)
      obtain ⟨sb, so, sm, sc, tb, tp, tm, tc, rfl, _⟩ := Qv.opened (J.vals.2.2.2.2.1 rfl)
      have HBX : Hid _ := hid (J.boxes.1 rfl)
      obtain ⟨p, vs, rfl, hp, hl, hnn, hc, hf, _⟩ := J.boxes.1 rfl
      have cc0 := hc 0 (by decide)
      have ff0 := hf 0 (by decide)
      have cc1 := hc 1 (by decide)
      have ff1 := hf 1 (by decide)
      have cc2 := hc 2 (by decide)
      have ff2 := hf 2 (by decide)
      have cc3 := hc 3 (by decide)
      have ff3 := hf 3 (by decide)
      clear J hd hi hiN hn hc hf hnn hl
      refine wpOp_step rfl (fun kq hKq => ?_)
      go_simp
      exact hKq _ _ ⟨f0, f1, f2, f3, true, true, true, rfl, fun _ => ⟨rfl, rfl⟩, _, _, _, _, _, _, rfl, below_setCells hp [.bool sb, .slice so sm sc, .bool tb, .slice tp tm tc] 0 HJ.out.bel, Nat.le_trans HJ.out.siz (Nat.le_of_eq (size_setCells p [.bool sb, .slice so sm sc, .bool tb, .slice tp tm tc] 0 w').symm), Vals.keep HKG.out (BoxN.keeps HBX.out (us := [.bool sb, .slice so sm sc, .bool tb, .slice tp tm tc]) rfl) HJ.out.vals, ⟨fun _ => BoxN.store HBX.out [.bool sb, .slice so sm sc, .bool tb, .slice tp tm tc] rfl (by intro i k x hi; match i, hi with | 0, _ => nofun | 1, _ => nofun | 2, _ => nofun | 3, _ => nofun), trivial⟩, HJ.out.ne⟩
  rintro L act w' hs ⟨f0, f1, f2, f3, f4, f5, f6, rfl, _, s14, s15, s16, s17, s18, s6, rfl, J⟩ hr
  have hd := early_done (by kernel_rfl) hs hr 7
  obtain rfl : f0 = true := hd 0 (by omega) (by simp)
  obtain rfl : f1 = true := hd 1 (by omega) (by simp)
  obtain rfl : f2 = true := hd 2 (by omega) (by simp)
  obtain rfl : f3 = true := hd 3 (by omega) (by simp)
  obtain rfl : f4 = true := hd 4 (by omega) (by simp)
  obtain rfl : f5 = true := hd 5 (by omega) (by simp)
  obtain rfl : f6 = true := hd 6 (by omega) (by simp)
  have e14 : s14 = (.agg #[.bool b1, .slice o1 m1 c1, .bool bb1, .slice oo1 mm1 cc1]) := J.vals.1 rfl
  subst e14
  have e15 : s15 = .int .i64 (k : Int) := J.vals.2.1 rfl
  subst e15
  have hg6 : (fun wq vq => Qv wq vq (n * P) (d) (6005)) w' s18 := J.vals.2.2.2.2.1 rfl
  obtain ⟨sb, so, sm, sc, tb, tp, tm, tc, rfl, _⟩ := Qv.opened hg6
  obtain ⟨p6, rfl, hp6, hl6, hc6⟩ := BoxN.done (us := [.bool sb, .slice so sm sc, .bool tb, .slice tp tm tc]) (J.boxes.1 rfl)
  have k6_0 : w'.cell? ⟨p6, 0, none⟩ = some (.bool sb) := (hc6 0 (by decide)).1
  have k6_1 : w'.cell? ⟨p6, 1, none⟩ = some (.slice so sm sc) := (hc6 1 (by decide)).1
  have k6_2 : w'.cell? ⟨p6, 2, none⟩ = some (.bool tb) := (hc6 2 (by decide)).1
  have k6_3 : w'.cell? ⟨p6, 3, none⟩ = some (.slice tp tm tc) := (hc6 3 (by decide)).1
  clear hc6
  have hbel := J.bel
  have hsiz := J.siz
  have hv16 : (fun wq vq => Zt wq vq (P) (3000)) w' s16 := J.vals.2.2.1 rfl
  have hv17 : (fun wq vq => Qv wq vq (P) (1) (3000)) w' s17 := J.vals.2.2.2.1 rfl
  clear hd hr hs J
  obtain ⟨W1, hW1⟩ : ∃ W, W = w' := ⟨_, rfl⟩
  rw [← hW1] at hbel hg6 hl6 k6_0 k6_1 k6_2 k6_3
  have hsz1 : w.heap.size + 1 < p6 := Nat.lt_of_lt_of_le HN0.out hp6
  have HS1 : Hid (∀ w', Kp W1.heap.size (w.heap.size + 1) W1 w' → (w'.cell? ⟨w.heap.size, 0, none⟩ = some (.bool b1) ∧ w'.cell? ⟨w.heap.size, 1, none⟩ = some (.slice o1 m1 c1) ∧ w'.cell? ⟨w.heap.size, 2, none⟩ = some (.bool bb1) ∧ w'.cell? ⟨w.heap.size, 3, none⟩ = some (.slice oo1 mm1 cc1)) ∧ w'.cell? ⟨p6, 0, none⟩ = some (.bool sb) ∧ w'.cell? ⟨p6, 1, none⟩ = some (.slice so sm sc) ∧ w'.cell? ⟨p6, 2, none⟩ = some (.bool tb) ∧ w'.cell? ⟨p6, 3, none⟩ = some (.slice tp tm tc)) := hid (fun w' hb => by
    refine ⟨HS0.out _ (hb.trans_below hbel), (hb.cell _ (by simpa using hl6) (by simp <;> omega)).trans k6_0, (hb.cell _ (by simpa using hl6) (by simp <;> omega)).trans k6_1, (hb.cell _ (by simpa using hl6) (by simp <;> omega)).trans k6_2, (hb.cell _ (by simpa using hl6) (by simp <;> omega)).trans k6_3⟩)
  replace HT := hid (fun w' hb => HT.out w' (bl_tr hbel hb))
  replace VU := hid (fun w' hb => VU.out w' (bl_tr hbel hb))
  have VB : Hid (∀ w', Below W1.heap.size W1 w' → Qv w' (.agg #[.bool sb, .slice so sm sc, .bool tb, .slice tp tm tc]) (n * P) d 6005) := hid (fun w' hb => hg6.below hb (Nat.le_refl _))
  have HN1 := hid (show w.heap.size + 1 < W1.heap.size from Nat.lt_of_lt_of_le HN0.out hbel.size)
  have HB1 := hid (HB0.out.trans (hbel.mono HB0.out.size)); have HW1 := hid hW1
  clear hW1 hsz1 HS0 HB0 HW0 HN0 hbel hsiz hX0 hg6 hl6 hp6 k6_0 k6_1 k6_2 k6_3
  go_upto_region 4 with (fail)
  rw [← HW1.out]
  obtain ⟨⟨k0, k1, k2, k3⟩, k4, k5, k6, k7⟩ := HS1.out _ (Kp.of_below (Below.refl _ _))
  go_wp2_with fail
  refine (rnearest_v _ (n * P) d 6005 13000 _ (VB.out _ (Below.refl _ _)) (by decide) (by decide) (by decide)).mono ?_
  rintro e wq4 ⟨b4, o4, m4, c4, rfl, H4, hbq⟩
  have hXq : Below W1.heap.size W1 wq4 := hbq
  clear k0 k1 k2 k3 k4 k5 k6 k7
  obtain ⟨⟨hr0, hr1⟩, hf0, hf1⟩ := HT.out _ hXq
  have hn0 := HN1.out
  have hbel : Below w.heap.size w wq4 := HB1.out.trans (hXq.mono HB1.out.size)
  go_wp2
  refine bodyPost_ret (v := .tuple #[(.agg #[.bool b4, .slice o4 m4 c4]), .int .i64 0]) (by simp [results, Tryz.results34, go_sem, hr0, hr1]) rfl ⟨b4, o4, m4, c4, rfl, hid (Zt.ze (zt_keeps (((Keeps.refl _ _).setCell (u := .bool false) hr0 (fun x h => (by cases h)) _).setCell (u := .slice none 0 0) (by simp [go_sem, hr1]) (fun x h => (by cases h)) _) H4.out) (by decide)), ((hbel.setCell (by simp <;> omega) _).setCell (by simp <;> omega) _)⟩

set_option maxRecDepth 100000 in
set_option maxHeartbeats 2000000 in
theorem rFromFixed_v (u : Value) (z : Int) (k : Nat) (w : World) (hu : Zt w u z 3000) (hk : k ≤ 256) :
    Calls Tryz.prog 36 #[u, .int .i64 (k : Int)] w (RetQvE w 0 z (2 ^ k)) := by
  obtain ⟨b1, o1, m1, c1, rfl, _⟩ := Zt.opened hu
  obtain ⟨P, hP⟩ : ∃ P : Int, P = 2 ^ k := ⟨_, rfl⟩
  have HTW := hid (fun (w' : World) => rtwos_v k P 3000 w' (by omega) hP.symm (by omega))
  have HP0 := hid (show 0 < P by rw [hP]; exact pow_pos2 k)
  rw [← hP]
  have g0 : ¬ (k : Int) < 0 := by omega
  have g1 : ¬ (256 : Int) < (k : Int) := by omega
  clear hP hk
  obtain ⟨W0, hW0⟩ : ∃ W0, W0 = ((w.alloc (.cells #[.bool b1, .slice o1 m1 c1] 33)).alloc (.cells #[.bool false, .slice none 0 0, .bool false, .slice none 0 0] 35)) := ⟨_, rfl⟩
  have hB0 : Below w.heap.size w W0 := by rw [hW0]; exact ((Below.refl _ _).alloc (Nat.le_refl _) _).alloc (by simp <;> omega) _
  have hz0 : W0.heap.size = w.heap.size + 2 := by rw [hW0]; simp
  have HN0 := hid (show w.heap.size + 1 < W0.heap.size by rw [hz0]; omega)
  have HS0 : Hid (∀ w', Kp W0.heap.size (w.heap.size + 1) W0 w' → w'.cell? ⟨w.heap.size, 0, none⟩ = some (.bool b1) ∧ w'.cell? ⟨w.heap.size, 1, none⟩ = some (.slice o1 m1 c1)) := hid (fun w' hb => by
    refine ⟨?_, ?_⟩ <;> (rw [hb.cell _ (by rw [hz0]; simp <;> omega) (by simp <;> omega), hW0]; simp [go_sem]))
  have HT : Hid (∀ w', Below W0.heap.size W0 w' → (w'.cell? ⟨w.heap.size + 1, 0, none⟩ = some (.bool false) ∧ w'.cell? ⟨w.heap.size + 1, 1, none⟩ = some (.slice none 0 0) ∧ w'.cell? ⟨w.heap.size + 1, 2, none⟩ = some (.bool false) ∧ w'.cell? ⟨w.heap.size + 1, 3, none⟩ = some (.slice none 0 0)) ∧ (w'.frozen? ⟨w.heap.size + 1, 0, none⟩ = false ∧ w'.frozen? ⟨w.heap.size + 1, 1, none⟩ = false ∧ w'.frozen? ⟨w.heap.size + 1, 2, none⟩ = false ∧ w'.frozen? ⟨w.heap.size + 1, 3, none⟩ = false)) := hid (fun w' hb => by
    refine ⟨⟨?_, ?_, ?_, ?_⟩, ?_, ?_, ?_, ?_⟩ <;> (first | (rw [hb.cell (by rw [hz0]; simp), hW0]; simp [go_sem]; done) | (rw [hb.frozen (by rw [hz0]; simp), hW0]; simp [go_sem]; done)))
  have VU : Hid (∀ w', Below W0.heap.size W0 w' → Zt w' (.agg #[.bool b1, .slice o1 m1 c1]) z 3000) := hid (fun w' hb => (hu.below hB0 (Nat.le_refl _)).below hb (Nat.le_refl _))
  have HB0 := hid hB0; have HW0 := hid hW0
  clear hW0 hB0 hz0 hu
  go_enter Tryz.func36, Tryz.ntmps36
  go_upto_region 3 with (fail)
  rw [← HW0.out]
  have hY0 := Below.refl W0.heap.size W0
  have tk1 := hid trivial
  have tk2 := hid trivial
  go_region_held3 (fun w' => w'.cell? ⟨w.heap.size, 0, none⟩ = some (.bool b1) ∧ w'.cell? ⟨w.heap.size, 1, none⟩ = some (.slice o1 m1 c1)) ((refine HS0.out _ ?_; (repeat (first | assumption | exact Kp.of_below (by assumption) | exact Kp.of_below (Below.drew (by assumption)) | exact Kp.of_below (Below.refl _ _) | exact Kp.of_below (Below.refl _ _).drew | (refine Kp.set ?_ (by simp) _))))) (first
    | (clear tk1; go_at_call 78; refine (HTW.out _).mono ?_; rintro e v1 ⟨b4, o4, m4, c4, rfl, H4, hbq⟩; have hY1 : Below W0.heap.size W0 v1 := (hY0.drew).trans (hbq.mono (hY0.drew).size))
    | (clear tk2; go_at_call 51; refine (rlowest_v _ _ z P 3000 3003 _ (VU.out _ hY1) H4.out HP0.out (by decide) (by decide) (by decide)).mono ?_; rintro e v2 ⟨b7, o7, m7, c7, bb7, oo7, mm7, cc7, rfl, H7, hbq⟩; have hY2 : Below W0.heap.size W0 v2 := (hY1).trans (hbq.mono (hY1).size); obtain ⟨⟨hr0, hr1, hr2, hr3⟩, hf0, hf1, hf2, hf3⟩ := HT.out _ hY2))
  have hn0 := HN0.out
  have hbel : Below w.heap.size w v2 := HB0.out.trans (hY2.mono HB0.out.size)
  go_wp2
  refine bodyPost_ret (v := .tuple #[(.agg #[.bool b7, .slice o7 m7 c7, .bool bb7, .slice oo7 mm7 cc7]), .int .i64 0]) (by simp [results, Tryz.results36, go_sem, hr0, hr1, hr2, hr3]) rfl ⟨_, _, _, _, _, _, _, _, rfl, hid ⟨_, _, _, _, _, _, _, _, rfl, Or.inl ⟨rfl, 3003, by decide, Qv.keeps (((((Keeps.refl _ _).setCell (u := .bool false) hr0 (fun x h => (by cases h)) _).setCell (u := .slice none 0 0) (by simp [go_sem, hr1]) (fun x h => (by cases h)) _).setCell (u := .bool false) (by simp [go_sem, hr2]) (fun x h => (by cases h)) _).setCell (u := .slice none 0 0) (by simp [go_sem, hr3]) (fun x h => (by cases h)) _) H7.out⟩⟩, ((((hbel.setCell (by simp <;> omega) _).setCell (by simp <;> omega) _).setCell (by simp <;> omega) _).setCell (by simp <;> omega) _)⟩

set_option maxRecDepth 100000 in
set_option maxHeartbeats 2000000 in
theorem rRootFixed_neg (u : Value) (n d : Int) (k : Nat) (w : World) (hu : Qv w u n d 3000) (hk : k ≤ 256) (hn : n < 0) :
    Calls Tryz.prog 39 #[u, .int .i64 (k : Int)] w fun e w' => e = .returned (.tuple #[.agg #[.bool false, .slice none 0 0], .int .i64 2]) ∧ Below w.heap.size w w' := by
  obtain ⟨b1, o1, m1, c1, bb1, oo1, mm1, cc1, rfl, _⟩ := Qv.opened hu
  have hb1 : b1 = decide (n < 0) := by
    have h1 := (zt_digit hu.num.1).1
    rw [h1]
    have hl := low_val n hu.1
    by_cases hn : n < 0
    · rw [decide_eq_true hn, decide_eq_true (neg_of hu.1 hl.2 hl.1 hn)]
    · have := nonneg_of hu.1 hl.2 hl.1 (by omega)
      rw [decide_eq_false hn, decide_eq_false (by omega)]
  rw [decide_eq_true hn] at hb1
  subst hb1
  have g0 : ¬ (k : Int) < 0 := by omega
  have g1 : ¬ (256 : Int) < (k : Int) := by omega
  clear hk hn hu
  obtain ⟨W0, hW0⟩ : ∃ W0, W0 = ((w.alloc (.cells #[.bool true, .slice o1 m1 c1, .bool bb1, .slice oo1 mm1 cc1] 35)).alloc (.cells #[.bool false, .slice none 0 0] 33)) := ⟨_, rfl⟩
  have hB0 : Below w.heap.size w W0 := by rw [hW0]; exact ((Below.refl _ _).alloc (Nat.le_refl _) _).alloc (by simp <;> omega) _
  have hz0 : W0.heap.size = w.heap.size + 2 := by rw [hW0]; simp
  have HN0 := hid (show w.heap.size + 1 < W0.heap.size by rw [hz0]; omega)
  have HS0 : Hid (∀ w', Kp W0.heap.size (w.heap.size + 1) W0 w' → w'.cell? ⟨w.heap.size, 0, none⟩ = some (.bool true) ∧ w'.cell? ⟨w.heap.size, 1, none⟩ = some (.slice o1 m1 c1) ∧ w'.cell? ⟨w.heap.size, 2, none⟩ = some (.bool bb1) ∧ w'.cell? ⟨w.heap.size, 3, none⟩ = some (.slice oo1 mm1 cc1)) := hid (fun w' hb => by
    refine ⟨?_, ?_, ?_, ?_⟩ <;> (rw [hb.cell _ (by rw [hz0]; simp <;> omega) (by simp <;> omega), hW0]; simp [go_sem]))
  have HT : Hid (∀ w', Below W0.heap.size W0 w' → (w'.cell? ⟨w.heap.size + 1, 0, none⟩ = some (.bool false) ∧ w'.cell? ⟨w.heap.size + 1, 1, none⟩ = some (.slice none 0 0)) ∧ (w'.frozen? ⟨w.heap.size + 1, 0, none⟩ = false ∧ w'.frozen? ⟨w.heap.size + 1, 1, none⟩ = false)) := hid (fun w' hb => by
    refine ⟨⟨?_, ?_⟩, ?_, ?_⟩ <;> (first | (rw [hb.cell (by rw [hz0]; simp), hW0]; simp [go_sem]; done) | (rw [hb.frozen (by rw [hz0]; simp), hW0]; simp [go_sem]; done)))
  have hbld : ∀ w : World, (Instr.build 33 #[]).run Tryz.prog w = .ok (.agg #[.bool false, .slice none 0 0]) w := fun w => by kernel_rfl
  have HB0 := hid hB0; have HW0 := hid hW0
  clear hW0 hB0 hz0 
  go_enter Tryz.func39, Tryz.ntmps39
  go_upto_region 1 with (fail)
  rw [← HW0.out]
  obtain ⟨k0, k1, k2, k3⟩ := HS0.out _ (Kp.of_below (Below.refl _ _))
  obtain ⟨⟨hr0, hr1⟩, hf0, hf1⟩ := HT.out _ (Below.refl _ _)
  have hY := Below.refl W0.heap.size W0
  have hn0 := HN0.out
  have hbel : Below w.heap.size w W0 := HB0.out.trans (hY.mono HB0.out.size)
  go_wp2
  refine bodyPost_ret (v := .tuple #[.agg #[.bool false, .slice none 0 0], .int .i64 2]) (by simp [results, Tryz.results39, go_sem, hr0, hr1]) rfl ⟨rfl, ((hbel.setCell (by simp <;> omega) _).setCell (by simp <;> omega) _)⟩

set_option maxRecDepth 100000 in
set_option maxHeartbeats 2000000 in
theorem rRootFixed_v (u : Value) (n d : Int) (k : Nat) (w : World) (hu : Qv w u n d 3000) (hk : k ≤ 256) (hn : 0 ≤ n) :
    Calls Tryz.prog 39 #[u, .int .i64 (k : Int)] w (RetZZE w 0 (rootZ ((n * 2 ^ (2 * k)).fdiv d))) := by
  obtain ⟨b1, o1, m1, c1, bb1, oo1, mm1, cc1, rfl, _⟩ := Qv.opened hu
  have hb1 : b1 = decide (n < 0) := by
    have h1 := (zt_digit hu.num.1).1
    rw [h1]
    have hl := low_val n hu.1
    by_cases hn : n < 0
    · rw [decide_eq_true hn, decide_eq_true (neg_of hu.1 hl.2 hl.1 hn)]
    · have := nonneg_of hu.1 hl.2 hl.1 (by omega)
      rw [decide_eq_false hn, decide_eq_false (by omega)]
  rw [decide_eq_false (show ¬ n < 0 by omega)] at hb1
  subst hb1
  obtain ⟨P, hP⟩ : ∃ P : Int, P = 2 ^ (2 * k) := ⟨_, rfl⟩
  have hP0 : 0 < P := by rw [hP]; exact pow_pos2 _
  have HTW := hid (fun (w' : World) => show Calls Tryz.prog 78 #[.int .i64 (2 * (k : Int))] w' (RetZo w' P 3000) by have h := rtwos_v (2 * k) P 3000 w' (by omega) hP.symm (by omega); rw [show ((2 * k : Nat) : Int) = 2 * (k : Int) by omega] at h; exact h)
  rw [← hP]
  obtain ⟨F, hF⟩ : ∃ F : Int, F = (n * P).fdiv d := ⟨_, rfl⟩
  have HF0 := hid (show 0 ≤ F by
    have h1 := (fdiv_le (n * P) hu.1).2
    have h2 := Int.mul_nonneg hn (Int.le_of_lt hP0)
    rcases Int.lt_or_le F 0 with h3 | h3
    · rw [hF] at h3
      have := Int.mul_nonneg (show 0 ≤ -((n * P).fdiv d + 1) by omega) (Int.le_of_lt hu.1)
      rw [Int.neg_mul] at this
      omega
    · exact h3)
  have HFl := hid (fun (w' : World) (v : Value) (h : Qv w' v (n * P) d 6005) => by have h := rfloor_v v (n * P) d 6005 6007 w' h (by decide) (by decide); rw [← hF] at h; exact h)
  rw [← hF]
  have g0 : ¬ (k : Int) < 0 := by omega
  have g1 : ¬ (256 : Int) < (k : Int) := by omega
  have gk0 : (0 : Int) ≤ (k : Int) := by omega
  have gk1 : (k : Int) ≤ 256 := by omega
  have gw : IntKind.i64.wrap (2 * (k : Int)) = 2 * (k : Int) := IntWalk.i64_in _ (by omega)
  clear hP hk hn hP0 hF gk0 gk1
  obtain ⟨W0, hW0⟩ : ∃ W0, W0 = ((w.alloc (.cells #[.bool false, .slice o1 m1 c1, .bool bb1, .slice oo1 mm1 cc1] 35)).alloc (.cells #[.bool false, .slice none 0 0] 33)) := ⟨_, rfl⟩
  have hB0 : Below w.heap.size w W0 := by rw [hW0]; exact ((Below.refl _ _).alloc (Nat.le_refl _) _).alloc (by simp <;> omega) _
  have hz0 : W0.heap.size = w.heap.size + 2 := by rw [hW0]; simp
  have HN0 := hid (show w.heap.size + 1 < W0.heap.size by rw [hz0]; omega)
  have HS0 : Hid (∀ w', Kp W0.heap.size (w.heap.size + 1) W0 w' → w'.cell? ⟨w.heap.size, 0, none⟩ = some (.bool false) ∧ w'.cell? ⟨w.heap.size, 1, none⟩ = some (.slice o1 m1 c1) ∧ w'.cell? ⟨w.heap.size, 2, none⟩ = some (.bool bb1) ∧ w'.cell? ⟨w.heap.size, 3, none⟩ = some (.slice oo1 mm1 cc1)) := hid (fun w' hb => by
    refine ⟨?_, ?_, ?_, ?_⟩ <;> (rw [hb.cell _ (by rw [hz0]; simp <;> omega) (by simp <;> omega), hW0]; simp [go_sem]))
  have HT : Hid (∀ w', Below W0.heap.size W0 w' → (w'.cell? ⟨w.heap.size + 1, 0, none⟩ = some (.bool false) ∧ w'.cell? ⟨w.heap.size + 1, 1, none⟩ = some (.slice none 0 0)) ∧ (w'.frozen? ⟨w.heap.size + 1, 0, none⟩ = false ∧ w'.frozen? ⟨w.heap.size + 1, 1, none⟩ = false)) := hid (fun w' hb => by
    refine ⟨⟨?_, ?_⟩, ?_, ?_⟩ <;> (first | (rw [hb.cell (by rw [hz0]; simp), hW0]; simp [go_sem]; done) | (rw [hb.frozen (by rw [hz0]; simp), hW0]; simp [go_sem]; done)))
  have VU : Hid (∀ w', Below W0.heap.size W0 w' → Qv w' (.agg #[.bool false, .slice o1 m1 c1, .bool bb1, .slice oo1 mm1 cc1]) n d 3000) := hid (fun w' hb => (hu.below hB0 (Nat.le_refl _)).below hb (Nat.le_refl _))
  have HB0 := hid hB0; have HW0 := hid hW0
  clear hW0 hB0 hz0 hu
  go_enter Tryz.func39, Tryz.ntmps39
  go_upto_region 3 with (fail)
  rw [← HW0.out]
  have hX0 := Below.refl W0.heap.size W0
  have HKG : Hid (AllKeep [(false, (fun wq vq => vq = (.agg #[.bool false, .slice o1 m1 c1, .bool bb1, .slice oo1 mm1 cc1])), undef), (false, (fun wq vq => vq = .int .i64 (k : Int)), undef), (false, (fun wq vq => vq = .int .i64 (2 * (k : Int))), undef), (false, (fun wq vq => Zt wq vq (P) (3000)), undef), (false, (fun wq vq => Qv wq vq (P) (1) (3000)), undef), (false, (fun wq vq => Qv wq vq (n * P) (d) (6005)), undef)]) := hid ⟨kcV _, kcV _, kcV _, ztV _ _, qvV _ _ _, qvV _ _ _, trivial⟩
  refine region_inv (by kernel_rfl) (fun L act w' => ∃ f0 f1 f2 f3 f4 f5 f6 f7, L = #[f0, f1, f2, f3, f4, f5, f6, f7] ∧ (f7 = true → f6 = true ∧ f5 = true) ∧ ∃ s21 s22 s23 s24 s25 s26 s6, act = { tmps := #[(.agg #[.bool false, .slice o1 m1 c1, .bool bb1, .slice oo1 mm1 cc1]), .int .i64 (k : Int), .pointer (some ⟨w.heap.size, 0, none⟩), undef, .pointer (some ⟨w.heap.size + 1, 0, none⟩), .int .i64 0, s6, undef, undef, .int .i64 (k : Int), .bool false, .bool false, .int .i64 (k : Int), .bool false, .bool false, .bool false, .pointer (some ⟨w.heap.size, 0, none⟩), .pointer (some ⟨w.heap.size, 0, none⟩), .bool false, .bool false, undef, s21, s22, s23, s24, s25, s26, undef, undef, undef, undef, undef, undef, undef], defers := [] } ∧ RX W0.heap.size W0 [(f0, (fun wq vq => vq = (.agg #[.bool false, .slice o1 m1 c1, .bool bb1, .slice oo1 mm1 cc1])), s21), (f1, (fun wq vq => vq = .int .i64 (k : Int)), s22), (f2, (fun wq vq => vq = .int .i64 (2 * (k : Int))), s23), (f3, (fun wq vq => Zt wq vq (P) (3000)), s24), (f4, (fun wq vq => Qv wq vq (P) (1) (3000)), s25), (f5, (fun wq vq => Qv wq vq (n * P) (d) (6005)), s26)] [(4, f6, f7, s6, s26)] w') ?_ ?_ ?_
  · exact ⟨_, _, _, _, _, _, _, _, rfl, nofun, _, _, _, _, _, _, _, rfl, hX0.drew, hX0.size, ⟨nofun, nofun, nofun, nofun, nofun, nofun, trivial⟩, ⟨nofun, trivial⟩, ⟨trivial, trivial⟩⟩
  · rintro L act w' i hs ⟨f0, f1, f2, f3, f4, f5, f6, f7, rfl, d0, s21, s22, s23, s24, s25, s26, s6, rfl, J⟩ hi
    obtain ⟨hi, hn, hd⟩ := waits_spec (dep := [[], [], [1], [2], [3], [0, 4], [], [6, 5]]) (by kernel_rfl) hi
    have hiN : i < 8 := hi
    obtain ⟨k0, k1, k2, k3⟩ := (hid (fun w' hb => HS0.out w' (Kp.of_below hb))).out w' J.bel
    have HJ := hid J
    rcases (show i = 0 ∨ i = 1 ∨ i = 2 ∨ i = 3 ∨ i = 4 ∨ i = 5 ∨ i = 6 ∨ i = 7 by omega) with rfl | rfl | rfl | rfl | rfl | rfl | rfl | rfl
    · clear J hd hi hiN hn
      refine wpOp_step rfl (fun kq hKq => ?_)
      go_simp
      exact hKq _ _ ⟨true, f1, f2, f3, f4, f5, f6, f7, rfl, d0, _, _, _, _, _, _, _, rfl, HJ.out.bel, HJ.out.siz, ⟨fun _ => rfl, HJ.out.vals.2.1, HJ.out.vals.2.2.1, HJ.out.vals.2.2.2.1, HJ.out.vals.2.2.2.2.1, HJ.out.vals.2.2.2.2.2.1, trivial⟩, ⟨HJ.out.boxes.1, trivial⟩, HJ.out.ne⟩
    · clear J hd hi hiN hn
      refine wpOp_step rfl (fun kq hKq => ?_)
      go_simp
      exact hKq _ _ ⟨f0, true, f2, f3, f4, f5, f6, f7, rfl, d0, _, _, _, _, _, _, _, rfl, HJ.out.bel, HJ.out.siz, ⟨HJ.out.vals.1, fun _ => rfl, HJ.out.vals.2.2.1, HJ.out.vals.2.2.2.1, HJ.out.vals.2.2.2.2.1, HJ.out.vals.2.2.2.2.2.1, trivial⟩, ⟨HJ.out.boxes.1, trivial⟩, HJ.out.ne⟩
    · have e22 : s22 = .int .i64 (k : Int) := J.vals.2.1 (hd 1 (by simp))
      subst e22
      clear J hd hi hiN hn
      refine wpOp_step rfl (fun kq hKq => ?_)
      go_simp
      exact hKq _ _ ⟨f0, f1, true, f3, f4, f5, f6, f7, rfl, d0, _, _, _, _, _, _, _, rfl, HJ.out.bel, HJ.out.siz, ⟨HJ.out.vals.1, HJ.out.vals.2.1, fun _ => rfl, HJ.out.vals.2.2.2.1, HJ.out.vals.2.2.2.2.1, HJ.out.vals.2.2.2.2.2.1, trivial⟩, ⟨HJ.out.boxes.1, trivial⟩, HJ.out.ne⟩
    · obtain rfl : f3 = false := hn
      have e23 : s23 = .int .i64 (2 * (k : Int)) := J.vals.2.2.1 (hd 2 (by simp))
      subst e23
      have hw := J.bel
      clear J hd hi hiN
      refine wpOp_step rfl (fun kq hKq => ?_)
      go_simp
      refine (HTW.out _).mono ?_
      rintro e wz ⟨ub, uo, um, uc, rfl, HZq, hb⟩
      have J2 := RX.step HJ.out HKG.out hb
      exact hKq _ _ ⟨f0, f1, f2, true, f4, f5, f6, f7, rfl, d0, _, _, _, _, _, _, _, rfl, J2.bel, J2.siz, ⟨J2.vals.1, J2.vals.2.1, J2.vals.2.2.1, fun _ => HZq.out, J2.vals.2.2.2.2.1, J2.vals.2.2.2.2.2.1, trivial⟩, ⟨J2.boxes.1, trivial⟩, J2.ne⟩
    · obtain rfl : f4 = false := hn
      have h24 : (fun wq vq => Zt wq vq (P) (3000)) w' s24 := J.vals.2.2.2.1 (hd 3 (by simp))
      have hw := J.bel
      clear J hd hi hiN
      refine wpOp_step rfl (fun kq hKq => ?_)
      go_simp
      refine (rwhole_v _ P 3000 _ h24 (by decide)).mono ?_
      rintro e wz ⟨ub, uo, um, uc, vb, vo, vm, vc, rfl, HZq, hb⟩
      have J2 := RX.step HJ.out HKG.out hb
      exact hKq _ _ ⟨f0, f1, f2, f3, true, f5, f6, f7, rfl, d0, _, _, _, _, _, _, _, rfl, J2.bel, J2.siz, ⟨J2.vals.1, J2.vals.2.1, J2.vals.2.2.1, J2.vals.2.2.2.1, fun _ => HZq.out, J2.vals.2.2.2.2.2.1, trivial⟩, ⟨J2.boxes.1, trivial⟩, J2.ne⟩
    · obtain rfl : f5 = false := hn
      obtain rfl : f7 = false := by cases f7 with | false => rfl | true => exact absurd (d0 rfl).2 (by simp)
      have e21 : s21 = (.agg #[.bool false, .slice o1 m1 c1, .bool bb1, .slice oo1 mm1 cc1]) := J.vals.1 (hd 0 (by simp))
      subst e21
      have h25 : (fun wq vq => Qv wq vq (P) (1) (3000)) w' s25 := J.vals.2.2.2.2.1 (hd 4 (by simp))
      have hw := J.bel
      clear J hd hi hiN d0
      refine wpOp_step rfl (fun kq hKq => ?_)
      go_simp
      refine (rtimes_w _ _ n d P 3000 6005 _ (VU.out _ hw) h25 (by decide) (by decide) (by decide)).mono ?_
      rintro e wz ⟨ub, uo, um, uc, vb, vo, vm, vc, rfl, HZq, hb⟩
      have J2 := RX.step HJ.out HKG.out hb
      exact hKq _ _ ⟨f0, f1, f2, f3, f4, true, f6, false, rfl, nofun, _, _, _, _, _, _, _, rfl, J2.bel, J2.siz, ⟨J2.vals.1, J2.vals.2.1, J2.vals.2.2.1, J2.vals.2.2.2.1, J2.vals.2.2.2.2.1, fun _ => HZq.out, trivial⟩, ⟨fun e => (J2.boxes.1 e).fresh, trivial⟩, J2.ne⟩
    · obtain rfl : f6 = false := hn
      obtain rfl : f7 = false := by cases f7 with | false => rfl | true => exact absurd (d0 rfl).1 (by simp)
      clear J hd hi hiN d0
      refine wpOp_step rfl (fun kq hKq => ?_)
      go_simp
      have J2 := RX.step HJ.out HKG.out (bl_new (w := w') (.cells #[.bool false, .slice none 0 0, .bool false, .slice none 0 0] 35))
      exact hKq _ _ ⟨f0, f1, f2, f3, f4, f5, true, false, rfl, nofun, _, _, _, _, _, _, _, rfl, J2.bel, J2.siz, J2.vals, ⟨fun _ => boxn_new _ w' _ _ [.bool false, .slice none 0 0, .bool false, .slice none 0 0] (by intro i k x hi; match i, hi with | 0, _ => nofun | 1, _ => nofun | 2, _ => nofun | 3, _ => nofun) HJ.out.siz, trivial⟩, ⟨trivial, trivial⟩⟩
    · obtain rfl : f6 = true := hd 6 (by simp)
      obtain rfl : f5 = true := hd 5 (by simp)
      obtain ⟨sb, so, sm, sc, tb, tp, tm, tc, rfl, _⟩ := Qv.opened (J.vals.2.2.2.2.2.1 rfl)
      have HBX : Hid _ := hid (J.boxes.1 rfl)
      obtain ⟨p, vs, rfl, hp, hl, hnn, hc, hf, _⟩ := J.boxes.1 rfl
      have cc0 := hc 0 (by decide)
      have ff0 := hf 0 (by decide)
      have cc1 := hc 1 (by decide)
      have ff1 := hf 1 (by decide)
      have cc2 := hc 2 (by decide)
      have ff2 := hf 2 (by decide)
      have cc3 := hc 3 (by decide)
      have ff3 := hf 3 (by decide)
      clear J hd hi hiN hn hc hf hnn hl
      refine wpOp_step rfl (fun kq hKq => ?_)
      go_simp
      exact hKq _ _ ⟨f0, f1, f2, f3, f4, true, true, true, rfl, fun _ => ⟨rfl, rfl⟩, _, _, _, _, _, _, _, rfl, below_setCells hp [.bool sb, .slice so sm sc, .bool tb, .slice tp tm tc] 0 HJ.out.bel, Nat.le_trans HJ.out.siz (Nat.le_of_eq (size_setCells p [.bool sb, .slice so sm sc, .bool tb, .slice tp tm tc] 0 w').symm), Vals.keep HKG.out (BoxN.keeps HBX.out (us := [.bool sb, .slice so sm sc, .bool tb, .slice tp tm tc]) rfl) HJ.out.vals, ⟨fun _ => BoxN.store HBX.out [.bool sb, .slice so sm sc, .bool tb, .slice tp tm tc] rfl (by intro i k x hi; match i, hi with | 0, _ => nofun | 1, _ => nofun | 2, _ => nofun | 3, _ => nofun), trivial⟩, HJ.out.ne⟩
  rintro L act w' hs ⟨f0, f1, f2, f3, f4, f5, f6, f7, rfl, _, s21, s22, s23, s24, s25, s26, s6, rfl, J⟩ hr
  have hd := early_done (by kernel_rfl) hs hr 8
  obtain rfl : f0 = true := hd 0 (by omega) (by simp)
  obtain rfl : f1 = true := hd 1 (by omega) (by simp)
  obtain rfl : f2 = true := hd 2 (by omega) (by simp)
  obtain rfl : f3 = true := hd 3 (by omega) (by simp)
  obtain rfl : f4 = true := hd 4 (by omega) (by simp)
  obtain rfl : f5 = true := hd 5 (by omega) (by simp)
  obtain rfl : f6 = true := hd 6 (by omega) (by simp)
  obtain rfl : f7 = true := hd 7 (by omega) (by simp)
  have e21 : s21 = (.agg #[.bool false, .slice o1 m1 c1, .bool bb1, .slice oo1 mm1 cc1]) := J.vals.1 rfl
  subst e21
  have e22 : s22 = .int .i64 (k : Int) := J.vals.2.1 rfl
  subst e22
  have e23 : s23 = .int .i64 (2 * (k : Int)) := J.vals.2.2.1 rfl
  subst e23
  have hg6 : (fun wq vq => Qv wq vq (n * P) (d) (6005)) w' s26 := J.vals.2.2.2.2.2.1 rfl
  obtain ⟨sb, so, sm, sc, tb, tp, tm, tc, rfl, _⟩ := Qv.opened hg6
  obtain ⟨p6, rfl, hp6, hl6, hc6⟩ := BoxN.done (us := [.bool sb, .slice so sm sc, .bool tb, .slice tp tm tc]) (J.boxes.1 rfl)
  have k6_0 : w'.cell? ⟨p6, 0, none⟩ = some (.bool sb) := (hc6 0 (by decide)).1
  have k6_1 : w'.cell? ⟨p6, 1, none⟩ = some (.slice so sm sc) := (hc6 1 (by decide)).1
  have k6_2 : w'.cell? ⟨p6, 2, none⟩ = some (.bool tb) := (hc6 2 (by decide)).1
  have k6_3 : w'.cell? ⟨p6, 3, none⟩ = some (.slice tp tm tc) := (hc6 3 (by decide)).1
  clear hc6
  have hbel := J.bel
  have hsiz := J.siz
  have hv24 : (fun wq vq => Zt wq vq (P) (3000)) w' s24 := J.vals.2.2.2.1 rfl
  have hv25 : (fun wq vq => Qv wq vq (P) (1) (3000)) w' s25 := J.vals.2.2.2.2.1 rfl
  clear hd hr hs J
  obtain ⟨W1, hW1⟩ : ∃ W, W = w' := ⟨_, rfl⟩
  rw [← hW1] at hbel hg6 hl6 k6_0 k6_1 k6_2 k6_3
  have hsz1 : w.heap.size + 1 < p6 := Nat.lt_of_lt_of_le HN0.out hp6
  have HS1 : Hid (∀ w', Kp W1.heap.size (w.heap.size + 1) W1 w' → (w'.cell? ⟨w.heap.size, 0, none⟩ = some (.bool false) ∧ w'.cell? ⟨w.heap.size, 1, none⟩ = some (.slice o1 m1 c1) ∧ w'.cell? ⟨w.heap.size, 2, none⟩ = some (.bool bb1) ∧ w'.cell? ⟨w.heap.size, 3, none⟩ = some (.slice oo1 mm1 cc1)) ∧ w'.cell? ⟨p6, 0, none⟩ = some (.bool sb) ∧ w'.cell? ⟨p6, 1, none⟩ = some (.slice so sm sc) ∧ w'.cell? ⟨p6, 2, none⟩ = some (.bool tb) ∧ w'.cell? ⟨p6, 3, none⟩ = some (.slice tp tm tc)) := hid (fun w' hb => by
    refine ⟨HS0.out _ (hb.trans_below hbel), (hb.cell _ (by simpa using hl6) (by simp <;> omega)).trans k6_0, (hb.cell _ (by simpa using hl6) (by simp <;> omega)).trans k6_1, (hb.cell _ (by simpa using hl6) (by simp <;> omega)).trans k6_2, (hb.cell _ (by simpa using hl6) (by simp <;> omega)).trans k6_3⟩)
  replace HT := hid (fun w' hb => HT.out w' (bl_tr hbel hb))
  replace VU := hid (fun w' hb => VU.out w' (bl_tr hbel hb))
  have VB : Hid (∀ w', Below W1.heap.size W1 w' → Qv w' (.agg #[.bool sb, .slice so sm sc, .bool tb, .slice tp tm tc]) (n * P) d 6005) := hid (fun w' hb => hg6.below hb (Nat.le_refl _))
  have HN1 := hid (show w.heap.size + 1 < W1.heap.size from Nat.lt_of_lt_of_le HN0.out hbel.size)
  have HB1 := hid (HB0.out.trans (hbel.mono HB0.out.size)); have HW1 := hid hW1
  clear hW1 hsz1 HS0 HB0 HW0 HN0 hbel hsiz hX0 hg6 hl6 hp6 k6_0 k6_1 k6_2 k6_3
  go_upto_region 4 with (fail)
  rw [← HW1.out]
  obtain ⟨⟨k0, k1, k2, k3⟩, k4, k5, k6, k7⟩ := HS1.out _ (Kp.of_below (Below.refl _ _))
  go_wp2_with fail
  refine (HFl.out _ _ (VB.out _ (Below.refl _ _))).mono ?_
  rintro e wq4 ⟨b4, o4, m4, c4, rfl, H4, hbq⟩
  have hXq : Below W1.heap.size W1 wq4 := hbq
  clear k0 k1 k2 k3 k4 k5 k6 k7
  go_wp2_with fail
  refine (rroot_any _ F 6007 _ HF0.out H4.out (by decide)).mono ?_
  rintro e wq5 ⟨r, hr0, hr1, hr2, _, rfl, hv5, hb5⟩
  have HRZ := hid (rootZ_eq (x := F) ⟨hr0, hr1, hr2⟩)
  clear hr0 hr1 hr2
  obtain ⟨b5, o5, m5, c5, rfl, H5, _, _⟩ := Zt.opened hv5
  have hX5 : Below W1.heap.size W1 wq5 := bl_tr hXq hb5
  have hX6 : Below W1.heap.size W1 (wq5.alloc (.cells #[.bool b5, .slice o5 m5 c5] 33)) := bl_tr hX5 (bl_new _)
  have h5b := H5.out _ (show Below wq5.heap.size wq5 (wq5.alloc (.cells #[.bool b5, .slice o5 m5 c5] 33)) from bl_new _)
  obtain ⟨⟨hr0, hr1⟩, hf0, hf1⟩ := HT.out _ hX6
  have hn0 := HN1.out; have hs5 := hX5.size
  have hbel : Below w.heap.size w (wq5.alloc (.cells #[.bool b5, .slice o5 m5 c5] 33)) := HB1.out.trans (hX6.mono HB1.out.size)
  go_wp2
  refine bodyPost_ret (v := .tuple #[.agg #[.bool b5, .slice o5 m5 c5], .int .i64 0]) (by simp [results, Tryz.results39, go_sem, hr0, hr1]) rfl ⟨b5, o5, m5, c5, rfl, hid (by rw [HRZ.out]; exact Zt.ze (zt_keeps (((Keeps.refl _ _).setCell (u := .bool false) hr0 (fun x h => (by cases h)) _).setCell (u := .slice none 0 0) (by simp [go_sem, hr1]) (fun x h => (by cases h)) _) h5b) (by decide)), ((hbel.setCell (by simp <;> omega) _).setCell (by simp <;> omega) _)⟩

theorem rFixed_res (u : Value) (n d i : Int) (w : World) (hu : Qv w u n d 3000) :
    Calls Tryz.prog 34 #[u, .int .i64 i] w (RetZZE w (fixErr i) ((n * 2 ^ i.toNat * 2 + d).fdiv (d * 2))) := by
  by_cases h : i < 0 ∨ 256 < i
  · rw [show fixErr i = 2 from if_pos h]
    obtain ⟨b1, o1, m1, c1, b2, o2, m2, c2, rfl, _⟩ := Qv.opened hu
    refine (rFixed_bad i _ _ _ _ _ _ _ _ w h).mono ?_
    rintro e w' ⟨rfl, hb⟩
    exact retZZE_bad _ (by decide) hb
  · rw [show fixErr i = 0 from if_neg h]
    obtain ⟨k, rfl⟩ : ∃ k : Nat, i = k := ⟨i.toNat, by omega⟩
    exact rFixed_v u n d k w hu (by omega)
theorem rFromFixed_res (u : Value) (z i : Int) (w : World) (hu : Zt w u z 3000) :
    Calls Tryz.prog 36 #[u, .int .i64 i] w (RetQvE w (fixErr i) z (2 ^ i.toNat)) := by
  by_cases h : i < 0 ∨ 256 < i
  · rw [show fixErr i = 2 from if_pos h]
    obtain ⟨b1, o1, m1, c1, rfl, _⟩ := Zt.opened hu
    refine (rFromFixed_bad i _ _ _ _ w h).mono ?_
    rintro e w' ⟨rfl, hb⟩
    exact retQvE_bad _ _ (by decide) hb
  · rw [show fixErr i = 0 from if_neg h]
    obtain ⟨k, rfl⟩ : ∃ k : Nat, i = k := ⟨i.toNat, by omega⟩
    exact rFromFixed_v u z k w hu (by omega)
theorem rRootFixed_res (u : Value) (n d i : Int) (w : World) (hu : Qv w u n d 3000) :
    Calls Tryz.prog 39 #[u, .int .i64 i] w (RetZZE w (rfxErr n i) (rootZ ((n * 2 ^ (2 * i.toNat)).fdiv d))) := by
  by_cases h : i < 0 ∨ 256 < i
  · rw [show rfxErr n i = 2 from if_pos (Or.inl h)]
    obtain ⟨b1, o1, m1, c1, b2, o2, m2, c2, rfl, _⟩ := Qv.opened hu
    refine (rRootFixed_bad i _ _ _ _ _ _ _ _ w h).mono ?_
    rintro e w' ⟨rfl, hb⟩
    exact retZZE_bad _ (by decide) hb
  · obtain ⟨k, rfl⟩ : ∃ k : Nat, i = k := ⟨i.toNat, by omega⟩
    by_cases hn : n < 0
    · rw [show rfxErr n k = 2 from if_pos (Or.inr hn)]
      refine (rRootFixed_neg u n d k w hu (by omega) hn).mono ?_
      rintro e w' ⟨rfl, hb⟩
      exact retZZE_bad _ (by decide) hb
    · rw [show rfxErr n k = 0 from if_neg (by omega)]
      exact rRootFixed_v u n d k w hu (by omega) (by omega)

/-- A ratio with just these words, open. -/
def RetLr (w : World) (na : Bool) (LA : List Int) (nb : Bool) (LB : List Int) (e : Ending) (w' : World) : Prop := ∃ b1 o1 m1 c1 b2 o2 m2 c2, e = .returned (.agg #[.bool b1, .slice o1 m1 c1, .bool b2, .slice o2 m2 c2]) ∧ Hid (Lr w' (.agg #[.bool b1, .slice o1 m1 c1, .bool b2, .slice o2 m2 c2]) na LA nb LB) ∧ Below w.heap.size w w'
theorem Lr.below {w w' : World} {v : Value} {na nb : Bool} {LA LB : List Int} {B : Nat} (h : Lr w v na LA nb LB) (hb : Below B w w') (hB : w.heap.size ≤ B) : Lr w' v na LA nb LB := by
  obtain ⟨ao, ca, bo, cb, rfl, hA, hB', dA, dB⟩ := h
  exact ⟨ao, ca, bo, cb, rfl, hA.below hb hB, hB'.below hb hB, dA, dB⟩
theorem Lr.parts {w : World} {b1 b2 : Bool} {o1 o2 : Option Addr} {m1 c1 m2 c2 : Nat} {na nb : Bool} {LA LB : List Int} (h : Lr w (.agg #[.bool b1, .slice o1 m1 c1, .bool b2, .slice o2 m2 c2]) na LA nb LB) : Lk w (.agg #[.bool b1, .slice o1 m1 c1]) na LA ∧ Lk w (.agg #[.bool b2, .slice o2 m2 c2]) nb LB ∧ Dig B32 LA ∧ Dig B32 LB := by
  obtain ⟨ao, ca, bo, cb, e, hA, hB, dA, dB⟩ := h
  injection e with e
  simp at e
  obtain ⟨rfl, ⟨rfl, rfl, rfl⟩, rfl, rfl, rfl, rfl⟩ := e
  exact ⟨⟨_, _, rfl, hA⟩, ⟨_, _, rfl, hB⟩, dA, dB⟩
theorem lr_of {w : World} {b1 b2 : Bool} {o1 o2 : Option Addr} {m1 c1 m2 c2 : Nat} {na nb : Bool} {LA LB : List Int} (h1 : Lk w (.agg #[.bool b1, .slice o1 m1 c1]) na LA) (h2 : Lk w (.agg #[.bool b2, .slice o2 m2 c2]) nb LB) (dA : Dig B32 LA) (dB : Dig B32 LB) : Lr w (.agg #[.bool b1, .slice o1 m1 c1, .bool b2, .slice o2 m2 c2]) na LA nb LB := by
  obtain ⟨ao, ca, e1, hA⟩ := h1
  obtain ⟨bo, cb, e2, hB⟩ := h2
  injection e1 with e1
  injection e2 with e2
  simp at e1 e2
  obtain ⟨rfl, rfl, rfl, rfl⟩ := e1
  obtain ⟨rfl, rfl, rfl, rfl⟩ := e2
  exact ⟨_, _, _, _, rfl, hA, hB, dA, dB⟩
theorem Lr.opened {w : World} {v : Value} {na nb : Bool} {LA LB : List Int} (h : Lr w v na LA nb LB) : ∃ b1 o1 m1 c1 b2 o2 m2 c2, v = .agg #[.bool b1, .slice o1 m1 c1, .bool b2, .slice o2 m2 c2] ∧ Hid (∀ w', Below w.heap.size w w' → Lr w' (.agg #[.bool b1, .slice o1 m1 c1, .bool b2, .slice o2 m2 c2]) na LA nb LB) := by
  have h' := h
  obtain ⟨ao, ca, bo, cb, rfl, hA, hB, dA, dB⟩ := h
  exact ⟨_, _, _, _, _, _, _, _, rfl, hid (fun w' hb => h'.below hb (Nat.le_refl _))⟩
theorem lrV (na nb : Bool) (LA LB : List Int) : KeepV (fun w v => Lr w v na LA nb LB) := fun _ _ _ hk h => by
  obtain ⟨ao, ca, bo, cb, rfl, hA, hB, dA, dB⟩ := h
  exact ⟨ao, ca, bo, cb, rfl, hA.keeps (hk .u32), hB.keeps (hk .u32), dA, dB⟩
theorem own_o (v : Value) (neg : Bool) (W : List Int) (w : World) (hv : Lk w v neg W) (hn : W.length ≤ 1073741824) :
    Calls Tryz.prog 32 #[v] w fun e w' => ∃ b o m c, e = .returned (.agg #[.bool b, .slice o m c]) ∧ Hid (Lk w' (.agg #[.bool b, .slice o m c]) neg W) ∧ Below w.heap.size w w' := by
  refine (own_any v neg W w hv hn).mono ?_
  rintro e w' ⟨_, rfl, ⟨ao, c, rfl, h⟩, hb⟩
  exact ⟨_, _, _, _, rfl, hid ⟨ao, c, rfl, h⟩, hb⟩
/-- What a ratio with these words stands for. -/
theorem Lr.rv {w : World} {v : Value} {na nb : Bool} {LA LB : List Int} (h : Lr w v na LA nb LB) {K : Nat} (hA : LA.length ≤ K) (hB : LB.length ≤ K) : Rv w v (rn (sgn na (val B32 LA)) (sgn nb (val B32 LB))) (rd (sgn nb (val B32 LB))) K := by
  obtain ⟨ao, ca, bo, cb, rfl, rA, rB, dA, dB⟩ := h
  exact ⟨rd_pos _, _, _, ⟨_, _, _, _, _, _, _, _, rfl, ⟨_, _, _, _, rfl, rA, dA, hA, rfl⟩, ⟨_, _, _, _, rfl, rB, dB, hB, rfl⟩⟩, rfl⟩

set_option maxRecDepth 100000 in
set_option maxHeartbeats 2000000 in
theorem ownRatio_any (v : Value) (na nb : Bool) (LA LB : List Int) (w : World) (hv : Lr w v na LA nb LB) (hA : LA.length ≤ 1073741824) (hB : LB.length ≤ 1073741824) :
    Calls Tryz.prog 8 #[v] w (RetLr w na LA nb LB) := by
  obtain ⟨b1, o1, m1, c1, bb1, oo1, mm1, cc1, rfl, _⟩ := Lr.opened hv
  have HA := hid hA; have HB := hid hB
  have HD := hid hv.parts.2.2
  clear hA hB
  obtain ⟨W0, hW0⟩ : ∃ W0, W0 = ((w.alloc (.cells #[.bool b1, .slice o1 m1 c1, .bool bb1, .slice oo1 mm1 cc1] 26)).alloc (.cells #[.bool false, .slice none 0 0, .bool false, .slice none 0 0] 26)) := ⟨_, rfl⟩
  have hB0 : Below w.heap.size w W0 := by rw [hW0]; exact ((Below.refl _ _).alloc (Nat.le_refl _) _).alloc (by simp <;> omega) _
  have hz0 : W0.heap.size = w.heap.size + 2 := by rw [hW0]; simp
  have HN0 := hid (show w.heap.size + 1 < W0.heap.size by rw [hz0]; omega)
  have HS0 : Hid (∀ w', Kp W0.heap.size (w.heap.size + 1) W0 w' → w'.cell? ⟨w.heap.size, 0, none⟩ = some (.bool b1) ∧ w'.cell? ⟨w.heap.size, 1, none⟩ = some (.slice o1 m1 c1) ∧ w'.cell? ⟨w.heap.size, 2, none⟩ = some (.bool bb1) ∧ w'.cell? ⟨w.heap.size, 3, none⟩ = some (.slice oo1 mm1 cc1)) := hid (fun w' hb => by
    refine ⟨?_, ?_, ?_, ?_⟩ <;> (rw [hb.cell _ (by rw [hz0]; simp <;> omega) (by simp <;> omega), hW0]; simp [go_sem]))
  have HT : Hid (∀ w', Below W0.heap.size W0 w' → (w'.cell? ⟨w.heap.size + 1, 0, none⟩ = some (.bool false) ∧ w'.cell? ⟨w.heap.size + 1, 1, none⟩ = some (.slice none 0 0) ∧ w'.cell? ⟨w.heap.size + 1, 2, none⟩ = some (.bool false) ∧ w'.cell? ⟨w.heap.size + 1, 3, none⟩ = some (.slice none 0 0)) ∧ (w'.frozen? ⟨w.heap.size + 1, 0, none⟩ = false ∧ w'.frozen? ⟨w.heap.size + 1, 1, none⟩ = false ∧ w'.frozen? ⟨w.heap.size + 1, 2, none⟩ = false ∧ w'.frozen? ⟨w.heap.size + 1, 3, none⟩ = false)) := hid (fun w' hb => by
    refine ⟨⟨?_, ?_, ?_, ?_⟩, ?_, ?_, ?_, ?_⟩ <;> (first | (rw [hb.cell (by rw [hz0]; simp), hW0]; simp [go_sem]; done) | (rw [hb.frozen (by rw [hz0]; simp), hW0]; simp [go_sem]; done)))
  have VU : Hid (∀ w', Below W0.heap.size W0 w' → Lr w' (.agg #[.bool b1, .slice o1 m1 c1, .bool bb1, .slice oo1 mm1 cc1]) na LA nb LB) := hid (fun w' hb => (hv.below hB0 (Nat.le_refl _)).below hb (Nat.le_refl _))
  have hbld : ∀ (b b2 : Bool) (o o2 : Option Addr) (m c m2 c2 : Nat) (w : World), (Instr.build 26 #[(0, .agg #[.bool b, .slice o m c]), (1, .agg #[.bool b2, .slice o2 m2 c2])]).run Tryz.prog w = .ok (.agg #[.bool b, .slice o m c, .bool b2, .slice o2 m2 c2]) w := fun b b2 o o2 m c m2 c2 w => by kernel_rfl
  have HB0 := hid hB0; have HW0 := hid hW0
  clear hW0 hB0 hz0 hv
  go_enter Tryz.func8, Tryz.ntmps8
  go_upto_region 1 with (fail)
  rw [← HW0.out]
  have hY0 := Below.refl W0.heap.size W0
  have tk1 := hid trivial
  have tk2 := hid trivial
  go_region_held3 (fun w' => w'.cell? ⟨w.heap.size, 0, none⟩ = some (.bool b1) ∧ w'.cell? ⟨w.heap.size, 1, none⟩ = some (.slice o1 m1 c1) ∧ w'.cell? ⟨w.heap.size, 2, none⟩ = some (.bool bb1) ∧ w'.cell? ⟨w.heap.size, 3, none⟩ = some (.slice oo1 mm1 cc1)) ((refine HS0.out _ ?_; (repeat (first | assumption | exact Kp.of_below (by assumption) | exact Kp.of_below (Below.drew (by assumption)) | exact Kp.of_below (Below.refl _ _) | exact Kp.of_below (Below.refl _ _).drew | (refine Kp.set ?_ (by simp) _))))) (first
    | (clear tk1; go_at_call 32; refine (own_o _ na LA _ (VU.out _ hY0.drew).parts.1 HA.out).mono ?_; rintro e v1 ⟨b4, o4, m4, c4, rfl, H4, hbq⟩; have hY1 : Below W0.heap.size W0 v1 := (hY0.drew).trans (hbq.mono (hY0.drew).size))
    | (clear tk2; go_at_call 32; refine (own_o _ nb LB _ (VU.out _ hY1).parts.2.1 HB.out).mono ?_; rintro e v2 ⟨b5, o5, m5, c5, rfl, H5, hbq⟩; have hY2 : Below W0.heap.size W0 v2 := (hY1).trans (hbq.mono (hY1).size); have H4b := H4.out.below hbq (Nat.le_refl _); obtain ⟨⟨hr0, hr1, hr2, hr3⟩, hf0, hf1, hf2, hf3⟩ := HT.out _ hY2))
  have hn0 := HN0.out
  have hbel : Below w.heap.size w v2 := HB0.out.trans (hY2.mono HB0.out.size)
  go_wp2
  refine bodyPost_ret (v := .agg #[.bool b4, .slice o4 m4 c4, .bool b5, .slice o5 m5 c5]) (by simp [results, Tryz.results8, go_sem, hr0, hr1, hr2, hr3]) rfl ⟨_, _, _, _, _, _, _, _, rfl, hid (lr_of (Lk.keeps _ _ _ (((((Keeps.refl _ _).setCell (u := .bool false) hr0 (fun x h => (by cases h)) _).setCell (u := .slice none 0 0) (by simp [go_sem, hr1]) (fun x h => (by cases h)) _).setCell (u := .bool false) (by simp [go_sem, hr2]) (fun x h => (by cases h)) _).setCell (u := .slice none 0 0) (by simp [go_sem, hr3]) (fun x h => (by cases h)) _) H4b) (Lk.keeps _ _ _ (((((Keeps.refl _ _).setCell (u := .bool false) hr0 (fun x h => (by cases h)) _).setCell (u := .slice none 0 0) (by simp [go_sem, hr1]) (fun x h => (by cases h)) _).setCell (u := .bool false) (by simp [go_sem, hr2]) (fun x h => (by cases h)) _).setCell (u := .slice none 0 0) (by simp [go_sem, hr3]) (fun x h => (by cases h)) _) H5.out) HD.out.1 HD.out.2), ((((hbel.setCell (by simp <;> omega) _).setCell (by simp <;> omega) _).setCell (by simp <;> omega) _).setCell (by simp <;> omega) _)⟩

set_option maxRecDepth 100000 in
set_option maxHeartbeats 2000000 in
theorem like_any (u v : Value) (na nb : Bool) (LA LB : List Int) (w : World) (hu : Lr w u na LA nb LB) (hv : Lr w v na LA nb LB) :
    Calls Tryz.prog 31 #[u, v] w fun e w' => e = .returned (.bool true) ∧ Below w.heap.size w w' := by
  obtain ⟨b1, o1, m1, c1, bb1, oo1, mm1, cc1, rfl, _⟩ := Lr.opened hu
  obtain ⟨b2, o2, m2, c2, bb2, oo2, mm2, cc2, rfl, _⟩ := Lr.opened hv
  obtain ⟨W0, hW0⟩ : ∃ W0, W0 = ((w.alloc (.cells #[.bool b1, .slice o1 m1 c1, .bool bb1, .slice oo1 mm1 cc1] 26)).alloc (.cells #[.bool b2, .slice o2 m2 c2, .bool bb2, .slice oo2 mm2 cc2] 26)) := ⟨_, rfl⟩
  have hB0 : Below w.heap.size w W0 := by rw [hW0]; exact ((Below.refl _ _).alloc (Nat.le_refl _) _).alloc (by simp <;> omega) _
  have hz0 : W0.heap.size = w.heap.size + 2 := by rw [hW0]; simp
  have HN0 := hid (show w.heap.size + 1 < W0.heap.size by rw [hz0]; omega)
  have HS0 : Hid (∀ w', Kp W0.heap.size (w.heap.size + 2) W0 w' → w'.cell? ⟨w.heap.size, 0, none⟩ = some (.bool b1) ∧ w'.cell? ⟨w.heap.size, 1, none⟩ = some (.slice o1 m1 c1) ∧ w'.cell? ⟨w.heap.size, 2, none⟩ = some (.bool bb1) ∧ w'.cell? ⟨w.heap.size, 3, none⟩ = some (.slice oo1 mm1 cc1) ∧ w'.cell? ⟨w.heap.size + 1, 0, none⟩ = some (.bool b2) ∧ w'.cell? ⟨w.heap.size + 1, 1, none⟩ = some (.slice o2 m2 c2) ∧ w'.cell? ⟨w.heap.size + 1, 2, none⟩ = some (.bool bb2) ∧ w'.cell? ⟨w.heap.size + 1, 3, none⟩ = some (.slice oo2 mm2 cc2)) := hid (fun w' hb => by
    refine ⟨?_, ?_, ?_, ?_, ?_, ?_, ?_, ?_⟩ <;> (rw [hb.cell _ (by rw [hz0]; simp <;> omega) (by simp <;> omega), hW0]; simp [go_sem]))
  have VU : Hid (∀ w', Below W0.heap.size W0 w' → Lr w' (.agg #[.bool b1, .slice o1 m1 c1, .bool bb1, .slice oo1 mm1 cc1]) na LA nb LB) := hid (fun w' hb => (hu.below hB0 (Nat.le_refl _)).below hb (Nat.le_refl _))
  have VV : Hid (∀ w', Below W0.heap.size W0 w' → Lr w' (.agg #[.bool b2, .slice o2 m2 c2, .bool bb2, .slice oo2 mm2 cc2]) na LA nb LB) := hid (fun w' hb => (hv.below hB0 (Nat.le_refl _)).below hb (Nat.le_refl _))
  have HB0 := hid hB0; have HW0 := hid hW0
  clear hW0 hB0 hz0 hu hv
  go_enter Tryz.func31, Tryz.ntmps31
  go_upto_region 1 with (fail)
  rw [← HW0.out]
  obtain ⟨k0, k1, k2, k3, k4, k5, k6, k7⟩ := HS0.out _ (Kp.of_below (Below.refl _ _))
  go_wp2_with fail
  refine (likeInt_any _ _ na LA _ (VU.out _ (Below.refl _ _)).parts.1 (VV.out _ (Below.refl _ _)).parts.1).mono ?_
  rintro e wq1 ⟨rfl, hb1⟩
  clear k0 k1 k2 k3 k4 k5 k6 k7
  obtain ⟨k0, k1, k2, k3, k4, k5, k6, k7⟩ := HS0.out _ (Kp.of_below hb1)
  go_wp2_with fail
  refine (likeInt_any _ _ nb LB _ (VU.out _ hb1).parts.2.1 (VV.out _ hb1).parts.2.1).mono ?_
  rintro e wq2 ⟨rfl, hb2⟩
  clear k0 k1 k2 k3 k4 k5 k6 k7
  have hX2 : Below W0.heap.size W0 wq2 := bl_tr hb1 hb2
  go_wp2
  go_ret
  exact ⟨rfl, HB0.out.trans (hX2.mono HB0.out.size)⟩

end Go.Proofs.YtbapeilpkhbbeaaGreat
