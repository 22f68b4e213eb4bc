/- exact.integer: over (the quotient rounded down, and its rest). Written by gen_iover.py. A region that draws its order, by an invariant: what holds of the frame and the world while some of its operations have been carried out. -/
import Derived.Test.YtbapeilpkhbbeaaGreatDoorYn10
import Derived.Deep.RegionHeld3
import Derived.Deep.DeepCutAuto
import Derived.Test.YtbapeilpkhbbeaaGreatDoorYn09
import Derived.Test.YtbapeilpkhbbeaaGreatDoorYn11
import Derived.Test.YtbapeilpkhbbeaaGreatDoorYn02
import Derived.Deep.RegionWith
/- exact.integer: over (the quotient rounded down, and its rest). Written by gen_iover.py. -/
namespace Go.Proofs.YtbapeilpkhbbeaaGreatDoor
open Go.RowKit

/-- A result of over: both numbers. -/
def RetII (w : World) (q r : Int) (Kq Kr : Nat) (e : Ending) (w' : World) : Prop := ∃ v1 v2, e = .returned (.tuple #[v1, v2]) ∧ It w' v1 q Kq ∧ It w' v2 r Kr ∧ Below w.heap.size w w'

theorem ntKeeps {z : Int} {K : Nat} {w w' : World} {v : Value} (hk : Keeps .u64 w w') (h : Nt w v z K) : Nt w' v z K := by
  obtain ⟨ao, c, L, rfl, h⟩ := h
  exact ⟨ao, c, L, rfl, h.rd.keeps hk, h.dig, h.nrm, h.eq, h.le⟩
theorem it_keeps {z : Int} {K : Nat} {w w' : World} {v : Value} (hk : Keeps .u64 w w') (h : It w v z K) : It w' v z K := by
  obtain ⟨s, rfl, h⟩ := h
  exact ⟨s, rfl, ntKeeps hk h⟩
theorem sgn_zero (b : Bool) : sgn b 0 = 0 := by cases b <;> rfl
theorem Nt.len0 {w : World} {ao : Option Addr} {m c : Nat} {n : Int} {K : Nat} (h : Nt w (.slice ao m c) n K) : m = 0 ↔ n = 0 := by
  obtain ⟨ao', c', L, e, hl⟩ := h
  obtain ⟨_, rfl, _⟩ := Value.slice.inj e
  exact hl.zero_iff

set_option maxRecDepth 100000 in
set_option maxHeartbeats 4000000 in
theorem over_same (u v : Value) (x y : Int) (K : Nat) (w : World) (hu : It w u x K) (hv : It w v y K) (hy : y ≠ 0) (hK : K ≤ 1073741820) (hs : decide (x < 0) = decide (y < 0)) :
    Calls Tryz.prog 101 #[u, v] w (RetII w (x.fdiv y) (x.fmod y) (K + 2) K) := by
  obtain ⟨xb, xo, xm, xc, rfl, Hx, Hxs, Hxb⟩ := It.opened hu
  obtain ⟨yb, yo, ym, yc, rfl, Hy, Hys, Hyb⟩ := It.opened hv
  have hy0 : (0 : Int) < (y.natAbs : Int) := by omega
  have hb : xb = yb := by rw [Hxb.out, Hyb.out, hs]
  subst hb
  have he := fdiv_same x y hy hs
  rw [hs] at he
  have HE := hid he
  clear he
  clear hu hv
  go_enter Tryz.func101, Tryz.ntmps101
  go_upto_region 1 with (fail)
  obtain ⟨W0, hW0⟩ : ∃ W0, W0 = ((((w.alloc (.cells #[.bool xb, .slice xo xm xc] 56)).alloc (.cells #[.bool xb, .slice yo ym yc] 56)).alloc (.cells #[.bool false, .slice none 0 0] 56)).alloc (.cells #[.bool false, .slice none 0 0] 56)) := ⟨_, rfl⟩
  have hB0 : Below w.heap.size w W0 := by rw [hW0]; exact ((((Below.refl _ _).alloc (by simp <;> omega) _).alloc (by simp <;> omega) _).alloc (by simp <;> omega) _).alloc (by simp <;> omega) _
  have hz0 : W0.heap.size = w.heap.size + 4 := by rw [hW0]; simp
  have HS : Hid (∀ w', Below (w.heap.size + 2) W0 w' → w'.cell? ⟨w.heap.size, 0, none⟩ = some (.bool xb) ∧ w'.cell? ⟨w.heap.size, 1, none⟩ = some (.slice xo xm xc) ∧ w'.cell? ⟨w.heap.size + 1, 0, none⟩ = some (.bool xb) ∧ w'.cell? ⟨w.heap.size + 1, 1, none⟩ = some (.slice yo ym yc)) := hid (fun w' hb => by
    refine ⟨?_, ?_, ?_, ?_⟩ <;> (first | (rw [hb.cell (by simp <;> omega), hW0]; simp [go_sem]; done) | (rw [hb.frozen (by simp <;> omega), hW0]; simp [go_sem]; done)))
  have HT : Hid (∀ w', Below (w.heap.size + 4) W0 w' → (w'.cell? ⟨w.heap.size + 2, 0, none⟩ = some (.bool false) ∧ w'.cell? ⟨w.heap.size + 2, 1, none⟩ = some (.slice none 0 0) ∧ w'.frozen? ⟨w.heap.size + 2, 0, none⟩ = false ∧ w'.frozen? ⟨w.heap.size + 2, 1, none⟩ = false) ∧ (w'.cell? ⟨w.heap.size + 3, 0, none⟩ = some (.bool false) ∧ w'.cell? ⟨w.heap.size + 3, 1, none⟩ = some (.slice none 0 0) ∧ w'.frozen? ⟨w.heap.size + 3, 0, none⟩ = false ∧ w'.frozen? ⟨w.heap.size + 3, 1, none⟩ = false)) := hid (fun w' hb => by
    refine ⟨⟨?_, ?_, ?_, ?_⟩, ?_, ?_, ?_, ?_⟩ <;> (first | (rw [hb.cell (by simp <;> omega), hW0]; simp [go_sem]; done) | (rw [hb.frozen (by simp <;> omega), hW0]; simp [go_sem]; done)))
  rw [← hW0]
  clear hW0
  obtain ⟨k0, k1, k2, k3⟩ := HS.out _ (Below.refl _ _)
  go_wp2_with fail
  refine (divide_any _ _ _ _ K K _ (Hxs.out _ hB0) (Hys.out _ hB0) hy0 (by omega)).mono ?_
  rintro e w1 ⟨_, _, rfl, hq, hr, hb1⟩
  obtain ⟨qo, qm, qc, rfl, Hq⟩ := Nt.opened hq
  obtain ⟨ro, rm, rc, rfl, Hr⟩ := Nt.opened hr
  have hB1 : Below (w.heap.size + 4) W0 w1 := hb1.mono (by omega)
  have hB1s : Below (w.heap.size + 2) W0 w1 := hB1.mono (by omega)
  clear hq hr hb1 k0 k1 k2 k3
  obtain ⟨k0, k1, k2, k3⟩ := HS.out _ hB1s
  go_wp2
  clear k0 k1 k2 k3
  go_region_held3 (fun w' => w'.cell? ⟨w.heap.size, 0, none⟩ = some (.bool xb) ∧ w'.cell? ⟨w.heap.size, 1, none⟩ = some (.slice xo xm xc) ∧ w'.cell? ⟨w.heap.size + 1, 0, none⟩ = some (.bool xb) ∧ w'.cell? ⟨w.heap.size + 1, 1, none⟩ = some (.slice yo ym yc)) ((refine HS.out _ ?_; repeat (first | assumption | exact Below.refl _ _ | exact (Below.refl _ _).drew | exact Below.drew (by assumption) | (refine Below.setCell ?_ (by simp) _)))) (first
    | (go_at_call_of 21 (qo); refine (signed_any false _ _ K _ (Hq.out _ ((Below.refl _ _).drew))).mono ?_; rintro e w2 ⟨_, rfl, hv2, hb2⟩; obtain ⟨b2, o2, m2, c2, rfl, H2, H2s, H2b⟩ := It.opened hv2; have hB2 : Below (w.heap.size + 4) W0 w2 := hB1.drew.trans (hb2.mono (by have := hB1.size; simp; omega)); have hB2s : Below (w.heap.size + 2) W0 w2 := hB2.mono (by omega))
    | (go_at_call_of 21 (ro); refine (signed_any xb _ _ K _ (Hr.out _ ((Below.refl _ _).drew.trans (hb2.mono (Nat.le_refl _))))).mono ?_; rintro e w3 ⟨_, rfl, hv3, hb3⟩; obtain ⟨b3, o3, m3, c3, rfl, H3, H3s, H3b⟩ := It.opened hv3; have hB3 : Below (w.heap.size + 4) W0 w3 := hB2.trans (hb3.mono (by have := hB2.size; omega)); have hB3s : Below (w.heap.size + 2) W0 w3 := hB3.mono (by omega); obtain ⟨⟨hr0, hr1, hr2, hr3⟩, hs0, hs1, hs2, hs3⟩ := HT.out _ hB3))
  go_wp2
  have hbel : Below w.heap.size w w3 := hB0.trans (hB3.mono (by omega))
  have h23 := H2.out w3 hb3
  have h33 := H3.out w3 (Below.refl _ _)
  refine bodyPost_ret (v := .tuple #[.agg #[.bool b2, .slice o2 m2 c2], .agg #[.bool b3, .slice o3 m3 c3]]) (by simp [results, Tryz.results101, go_sem, hr0, hr1, hs0, hs1]) rfl ⟨_, _, rfl, ?_, ?_, (((hbel.setCell (by simp <;> omega) _).setCell (by simp <;> omega) _).setCell (by simp <;> omega) _).setCell (by simp <;> omega) _⟩
  · rw [← HE.out.1]
    exact It.mono (it_keeps ((((((Keeps.refl _ _).setCell (u := .bool false) hr0 (fun x h => (by cases h)) _).setCell (u := .slice none 0 0) (by simp [go_sem, hr1]) (fun x h => (by cases h)) _).setCell (u := .bool false) (by simp [go_sem, hs0]) (fun x h => (by cases h)) _).setCell (u := .slice none 0 0) (by simp [go_sem, hs1]) (fun x h => (by cases h)) _)) h23) (by omega)
  · rw [← HE.out.2, ← Hyb.out]
    exact it_keeps ((((((Keeps.refl _ _).setCell (u := .bool false) hr0 (fun x h => (by cases h)) _).setCell (u := .slice none 0 0) (by simp [go_sem, hr1]) (fun x h => (by cases h)) _).setCell (u := .bool false) (by simp [go_sem, hs0]) (fun x h => (by cases h)) _).setCell (u := .slice none 0 0) (by simp [go_sem, hs1]) (fun x h => (by cases h)) _)) h33

set_option maxRecDepth 100000 in
set_option maxHeartbeats 4000000 in
theorem over_even (u v : Value) (x y : Int) (K : Nat) (w : World) (hu : It w u x K) (hv : It w v y K) (hy : y ≠ 0) (hK : K ≤ 1073741820) (hs : decide (x < 0) ≠ decide (y < 0)) (hrr : (x.natAbs : Int) % (y.natAbs : Int) = 0) :
    Calls Tryz.prog 101 #[u, v] w (RetII w (x.fdiv y) (x.fmod y) (K + 2) K) := by
  obtain ⟨xb, xo, xm, xc, rfl, Hx, Hxs, Hxb⟩ := It.opened hu
  obtain ⟨yb, yo, ym, yc, rfl, Hy, Hys, Hyb⟩ := It.opened hv
  have hy0 : (0 : Int) < (y.natAbs : Int) := by omega
  have hb : (xb == yb) = false := by rw [beq_eq_false_iff_ne, Hxb.out, Hyb.out]; exact hs
  have hb' : ¬ xb = yb := by simpa using hb
  have hbn : (xb != yb) = true := by simpa using hb'
  have HR0 := hid hrr
  have he := fdiv_even x y hy hs hrr
  rw [hrr, sgn_zero] at he
  have he' : sgn true ((x.natAbs : Int) / (y.natAbs : Int)) = x.fdiv y ∧ sgn (decide (y < 0)) ((x.natAbs : Int) % (y.natAbs : Int)) = x.fmod y := ⟨he.1, by rw [hrr, sgn_zero]; exact he.2⟩
  have HE := hid he'
  clear he he' hrr
  clear hu hv
  go_enter Tryz.func101, Tryz.ntmps101
  go_upto_region 1 with (fail)
  obtain ⟨W0, hW0⟩ : ∃ W0, W0 = ((((w.alloc (.cells #[.bool xb, .slice xo xm xc] 56)).alloc (.cells #[.bool yb, .slice yo ym yc] 56)).alloc (.cells #[.bool false, .slice none 0 0] 56)).alloc (.cells #[.bool false, .slice none 0 0] 56)) := ⟨_, rfl⟩
  have hB0 : Below w.heap.size w W0 := by rw [hW0]; exact ((((Below.refl _ _).alloc (by simp <;> omega) _).alloc (by simp <;> omega) _).alloc (by simp <;> omega) _).alloc (by simp <;> omega) _
  have hz0 : W0.heap.size = w.heap.size + 4 := by rw [hW0]; simp
  have HS : Hid (∀ w', Below (w.heap.size + 2) W0 w' → w'.cell? ⟨w.heap.size, 0, none⟩ = some (.bool xb) ∧ w'.cell? ⟨w.heap.size, 1, none⟩ = some (.slice xo xm xc) ∧ w'.cell? ⟨w.heap.size + 1, 0, none⟩ = some (.bool yb) ∧ w'.cell? ⟨w.heap.size + 1, 1, none⟩ = some (.slice yo ym yc)) := hid (fun w' hb => by
    refine ⟨?_, ?_, ?_, ?_⟩ <;> (first | (rw [hb.cell (by simp <;> omega), hW0]; simp [go_sem]; done) | (rw [hb.frozen (by simp <;> omega), hW0]; simp [go_sem]; done)))
  have HT : Hid (∀ w', Below (w.heap.size + 4) W0 w' → (w'.cell? ⟨w.heap.size + 2, 0, none⟩ = some (.bool false) ∧ w'.cell? ⟨w.heap.size + 2, 1, none⟩ = some (.slice none 0 0) ∧ w'.frozen? ⟨w.heap.size + 2, 0, none⟩ = false ∧ w'.frozen? ⟨w.heap.size + 2, 1, none⟩ = false) ∧ (w'.cell? ⟨w.heap.size + 3, 0, none⟩ = some (.bool false) ∧ w'.cell? ⟨w.heap.size + 3, 1, none⟩ = some (.slice none 0 0) ∧ w'.frozen? ⟨w.heap.size + 3, 0, none⟩ = false ∧ w'.frozen? ⟨w.heap.size + 3, 1, none⟩ = false)) := hid (fun w' hb => by
    refine ⟨⟨?_, ?_, ?_, ?_⟩, ?_, ?_, ?_, ?_⟩ <;> (first | (rw [hb.cell (by simp <;> omega), hW0]; simp [go_sem]; done) | (rw [hb.frozen (by simp <;> omega), hW0]; simp [go_sem]; done)))
  rw [← hW0]
  clear hW0
  obtain ⟨k0, k1, k2, k3⟩ := HS.out _ (Below.refl _ _)
  go_wp2_with fail
  refine (divide_any _ _ _ _ K K _ (Hxs.out _ hB0) (Hys.out _ hB0) hy0 (by omega)).mono ?_
  rintro e w1 ⟨_, _, rfl, hq, hr, hb1⟩
  obtain ⟨qo, qm, qc, rfl, Hq⟩ := Nt.opened hq
  obtain ⟨ro, rm, rc, rfl, Hr⟩ := Nt.opened hr
  have hB1 : Below (w.heap.size + 4) W0 w1 := hb1.mono (by omega)
  have hB1s : Below (w.heap.size + 2) W0 w1 := hB1.mono (by omega)
  have hrm : rm = 0 := hr.len0.2 HR0.out
  subst hrm
  clear hq hr hb1 k0 k1 k2 k3
  obtain ⟨k0, k1, k2, k3⟩ := HS.out _ hB1s
  go_wp2
  clear k0 k1 k2 k3
  go_region_held3 (fun w' => w'.cell? ⟨w.heap.size, 0, none⟩ = some (.bool xb) ∧ w'.cell? ⟨w.heap.size, 1, none⟩ = some (.slice xo xm xc) ∧ w'.cell? ⟨w.heap.size + 1, 0, none⟩ = some (.bool yb) ∧ w'.cell? ⟨w.heap.size + 1, 1, none⟩ = some (.slice yo ym yc)) ((refine HS.out _ ?_; repeat (first | assumption | exact Below.refl _ _ | exact (Below.refl _ _).drew | exact Below.drew (by assumption) | (refine Below.setCell ?_ (by simp) _)))) (first
    | (go_at_call_of 21 (qo); refine (signed_any true _ _ K _ (Hq.out _ ((Below.refl _ _).drew))).mono ?_; rintro e w2 ⟨_, rfl, hv2, hb2⟩; obtain ⟨b2, o2, m2, c2, rfl, H2, H2s, H2b⟩ := It.opened hv2; have hB2 : Below (w.heap.size + 4) W0 w2 := hB1.drew.trans (hb2.mono (by have := hB1.size; simp; omega)); have hB2s : Below (w.heap.size + 2) W0 w2 := hB2.mono (by omega))
    | (go_at_call_of 21 (ro); refine (signed_any yb _ _ K _ (Hr.out _ ((Below.refl _ _).drew.trans (hb2.mono (Nat.le_refl _))))).mono ?_; rintro e w3 ⟨_, rfl, hv3, hb3⟩; obtain ⟨b3, o3, m3, c3, rfl, H3, H3s, H3b⟩ := It.opened hv3; have hB3 : Below (w.heap.size + 4) W0 w3 := hB2.trans (hb3.mono (by have := hB2.size; omega)); have hB3s : Below (w.heap.size + 2) W0 w3 := hB3.mono (by omega); obtain ⟨⟨hr0, hr1, hr2, hr3⟩, hs0, hs1, hs2, hs3⟩ := HT.out _ hB3))
  go_wp2
  have hbel : Below w.heap.size w w3 := hB0.trans (hB3.mono (by omega))
  have h23 := H2.out w3 hb3
  have h33 := H3.out w3 (Below.refl _ _)
  refine bodyPost_ret (v := .tuple #[.agg #[.bool b2, .slice o2 m2 c2], .agg #[.bool b3, .slice o3 m3 c3]]) (by simp [results, Tryz.results101, go_sem, hr0, hr1, hs0, hs1]) rfl ⟨_, _, rfl, ?_, ?_, (((hbel.setCell (by simp <;> omega) _).setCell (by simp <;> omega) _).setCell (by simp <;> omega) _).setCell (by simp <;> omega) _⟩
  · rw [← HE.out.1]
    exact It.mono (it_keeps ((((((Keeps.refl _ _).setCell (u := .bool false) hr0 (fun x h => (by cases h)) _).setCell (u := .slice none 0 0) (by simp [go_sem, hr1]) (fun x h => (by cases h)) _).setCell (u := .bool false) (by simp [go_sem, hs0]) (fun x h => (by cases h)) _).setCell (u := .slice none 0 0) (by simp [go_sem, hs1]) (fun x h => (by cases h)) _)) h23) (by omega)
  · rw [← HE.out.2, ← Hyb.out]
    exact it_keeps ((((((Keeps.refl _ _).setCell (u := .bool false) hr0 (fun x h => (by cases h)) _).setCell (u := .slice none 0 0) (by simp [go_sem, hr1]) (fun x h => (by cases h)) _).setCell (u := .bool false) (by simp [go_sem, hs0]) (fun x h => (by cases h)) _).setCell (u := .slice none 0 0) (by simp [go_sem, hs1]) (fun x h => (by cases h)) _)) h33

set_option maxRecDepth 100000 in
set_option maxHeartbeats 4000000 in
theorem over_floor (u v : Value) (x y : Int) (K : Nat) (w : World) (hu : It w u x K) (hv : It w v y K) (hy : y ≠ 0) (hK : K ≤ 1073741820) (hs : decide (x < 0) ≠ decide (y < 0)) (hrr : (x.natAbs : Int) % (y.natAbs : Int) ≠ 0) :
    Calls Tryz.prog 101 #[u, v] w (RetII w (x.fdiv y) (x.fmod y) (K + 2) K) := by
  obtain ⟨xb, xo, xm, xc, rfl, Hx, Hxs, Hxb⟩ := It.opened hu
  obtain ⟨yb, yo, ym, yc, rfl, Hy, Hys, Hyb⟩ := It.opened hv
  have hy0 : (0 : Int) < (y.natAbs : Int) := by omega
  have hb : (xb == yb) = false := by rw [beq_eq_false_iff_ne, Hxb.out, Hyb.out]; exact hs
  have hb' : ¬ xb = yb := by simpa using hb
  have hbn : (xb != yb) = true := by simpa using hb'
  have HR0 := hid hrr
  have HE := hid (fdiv_floor x y hy hs hrr)
  have HRL := hid (abs_div x y hy).2.2
  clear hrr
  clear hu hv
  go_enter Tryz.func101, Tryz.ntmps101
  go_upto_region 1 with (fail)
  obtain ⟨W0, hW0⟩ : ∃ W0, W0 = ((((w.alloc (.cells #[.bool xb, .slice xo xm xc] 56)).alloc (.cells #[.bool yb, .slice yo ym yc] 56)).alloc (.cells #[.bool false, .slice none 0 0] 56)).alloc (.cells #[.bool false, .slice none 0 0] 56)) := ⟨_, rfl⟩
  have hB0 : Below w.heap.size w W0 := by rw [hW0]; exact ((((Below.refl _ _).alloc (by simp <;> omega) _).alloc (by simp <;> omega) _).alloc (by simp <;> omega) _).alloc (by simp <;> omega) _
  have hz0 : W0.heap.size = w.heap.size + 4 := by rw [hW0]; simp
  have HS : Hid (∀ w', Below (w.heap.size + 2) W0 w' → w'.cell? ⟨w.heap.size, 0, none⟩ = some (.bool xb) ∧ w'.cell? ⟨w.heap.size, 1, none⟩ = some (.slice xo xm xc) ∧ w'.cell? ⟨w.heap.size + 1, 0, none⟩ = some (.bool yb) ∧ w'.cell? ⟨w.heap.size + 1, 1, none⟩ = some (.slice yo ym yc)) := hid (fun w' hb => by
    refine ⟨?_, ?_, ?_, ?_⟩ <;> (first | (rw [hb.cell (by simp <;> omega), hW0]; simp [go_sem]; done) | (rw [hb.frozen (by simp <;> omega), hW0]; simp [go_sem]; done)))
  have HT : Hid (∀ w', Below (w.heap.size + 4) W0 w' → (w'.cell? ⟨w.heap.size + 2, 0, none⟩ = some (.bool false) ∧ w'.cell? ⟨w.heap.size + 2, 1, none⟩ = some (.slice none 0 0) ∧ w'.frozen? ⟨w.heap.size + 2, 0, none⟩ = false ∧ w'.frozen? ⟨w.heap.size + 2, 1, none⟩ = false) ∧ (w'.cell? ⟨w.heap.size + 3, 0, none⟩ = some (.bool false) ∧ w'.cell? ⟨w.heap.size + 3, 1, none⟩ = some (.slice none 0 0) ∧ w'.frozen? ⟨w.heap.size + 3, 0, none⟩ = false ∧ w'.frozen? ⟨w.heap.size + 3, 1, none⟩ = false)) := hid (fun w' hb => by
    refine ⟨⟨?_, ?_, ?_, ?_⟩, ?_, ?_, ?_, ?_⟩ <;> (first | (rw [hb.cell (by simp <;> omega), hW0]; simp [go_sem]; done) | (rw [hb.frozen (by simp <;> omega), hW0]; simp [go_sem]; done)))
  rw [← hW0]
  clear hW0
  obtain ⟨k0, k1, k2, k3⟩ := HS.out _ (Below.refl _ _)
  go_wp2_with fail
  refine (divide_any _ _ _ _ K K _ (Hxs.out _ hB0) (Hys.out _ hB0) hy0 (by omega)).mono ?_
  rintro e w1 ⟨_, _, rfl, hq, hr, hb1⟩
  obtain ⟨qo, qm, qc, rfl, Hq⟩ := Nt.opened hq
  obtain ⟨ro, rm, rc, rfl, Hr⟩ := Nt.opened hr
  have hB1 : Below (w.heap.size + 4) W0 w1 := hb1.mono (by omega)
  have hB1s : Below (w.heap.size + 2) W0 w1 := hB1.mono (by omega)
  have hrm : 0 < rm := by
    rcases Nat.eq_zero_or_pos rm with h | h
    · exact absurd (hr.len0.1 h) HR0.out
    · exact h
  have hrm2 : (0 : Int) < (rm : Int) := by omega
  have hB1a := hB1s.alloc (by have := hB1.size; omega) (.cells #[.int .u64 1] 63 (0, 0))
  clear hq hr hb1 k0 k1 k2 k3
  obtain ⟨k0, k1, k2, k3⟩ := HS.out _ hB1s
  go_wp2
  clear k0 k1 k2 k3
  go_region_held3 (fun w' => w'.cell? ⟨w.heap.size, 0, none⟩ = some (.bool xb) ∧ w'.cell? ⟨w.heap.size, 1, none⟩ = some (.slice xo xm xc) ∧ w'.cell? ⟨w.heap.size + 1, 0, none⟩ = some (.bool yb) ∧ w'.cell? ⟨w.heap.size + 1, 1, none⟩ = some (.slice yo ym yc)) ((refine HS.out _ ?_; repeat (first | assumption | exact Below.refl _ _ | exact (Below.refl _ _).drew | exact Below.drew (by assumption) | (refine Below.setCell ?_ (by simp) _)))) (first
    | (go_at_call 98; refine (add_any _ _ _ 1 K 1 (K + 2) _ (Hq.out _ ((Below.refl _ _).alloc (Nat.le_refl _) _).drew) ((one_row _).below ((Below.refl _ _).drew) (Nat.le_refl _)) (by omega) (by omega) (by omega) (by omega)).mono ?_; rintro e w2 ⟨_, rfl, hv2, hb2⟩; obtain ⟨o2, m2, c2, rfl, H2⟩ := Nt.opened hv2; have hB2 : Below (w.heap.size + 4) W0 w2 := (hB1.alloc (by have := hB1.size; simp; omega) _).drew.trans (hb2.mono (by have := hB1.size; simp; omega)); have hB2s : Below (w.heap.size + 2) W0 w2 := hB2.mono (by omega); have hC2 : Below w1.heap.size w1 w2 := ((Below.refl _ _).alloc (Nat.le_refl _) _).drew.trans (hb2.mono (by simp)))
    | (go_at_call 100; refine (subtract_any _ _ _ _ K K _ (Hys.out _ (hB0.trans (hB2.mono (by omega)))) (Hr.out _ hC2) (by omega) (Int.le_of_lt HRL.out)).mono ?_; rintro e w3 ⟨_, rfl, hv3, hb3⟩; obtain ⟨o3, m3, c3, rfl, H3⟩ := Nt.opened hv3; have hB3 : Below (w.heap.size + 4) W0 w3 := hB2.trans (hb3.mono (by have := hB2.size; omega)); have hB3s : Below (w.heap.size + 2) W0 w3 := hB3.mono (by omega); have HH2 := hid (fun w' (hb : Below w3.heap.size w3 w') => H2.out w' (hb3.trans (hb.mono hb3.size)))))
  obtain ⟨k0, k1, k2, k3⟩ := HS.out _ hB3s
  clear hv2 hv3 hb2 hb3 hC2 H2 hB2 hB2s
  go_wp2
  clear k0 k1 k2 k3
  go_region_held3 (fun w' => w'.cell? ⟨w.heap.size, 0, none⟩ = some (.bool xb) ∧ w'.cell? ⟨w.heap.size, 1, none⟩ = some (.slice xo xm xc) ∧ w'.cell? ⟨w.heap.size + 1, 0, none⟩ = some (.bool yb) ∧ w'.cell? ⟨w.heap.size + 1, 1, none⟩ = some (.slice yo ym yc)) ((refine HS.out _ ?_; repeat (first | assumption | exact Below.refl _ _ | exact (Below.refl _ _).drew | exact Below.drew (by assumption) | (refine Below.setCell ?_ (by simp) _)))) (first
    | (go_at_call_of 21 (o2); refine (signed_any true _ _ (K + 2) _ (HH2.out _ ((Below.refl _ _).drew))).mono ?_; rintro e w4 ⟨_, rfl, hv4, hb4⟩; obtain ⟨b4, o4, m4, c4, rfl, H4, H4s, H4b⟩ := It.opened hv4; have hB4 : Below (w.heap.size + 4) W0 w4 := hB3.drew.trans (hb4.mono (by have := hB3.size; simp; omega)); have hB4s : Below (w.heap.size + 2) W0 w4 := hB4.mono (by omega))
    | (go_at_call_of 21 (o3); refine (signed_any yb _ _ K _ (H3.out _ ((Below.refl _ _).drew.trans (hb4.mono (Nat.le_refl _))))).mono ?_; rintro e w5 ⟨_, rfl, hv5, hb5⟩; obtain ⟨b5, o5, m5, c5, rfl, H5, H5s, H5b⟩ := It.opened hv5; have hB5 : Below (w.heap.size + 4) W0 w5 := hB4.trans (hb5.mono (by have := hB4.size; omega)); have hB5s : Below (w.heap.size + 2) W0 w5 := hB5.mono (by omega); obtain ⟨⟨hr0, hr1, hr2, hr3⟩, hs0, hs1, hs2, hs3⟩ := HT.out _ hB5))
  go_wp2
  have hbel : Below w.heap.size w w5 := hB0.trans (hB5.mono (by omega))
  have h23 := H4.out w5 hb5
  have h33 := H5.out w5 (Below.refl _ _)
  refine bodyPost_ret (v := .tuple #[.agg #[.bool b4, .slice o4 m4 c4], .agg #[.bool b5, .slice o5 m5 c5]]) (by simp [results, Tryz.results101, go_sem, hr0, hr1, hs0, hs1]) rfl ⟨_, _, rfl, ?_, ?_, (((hbel.setCell (by simp <;> omega) _).setCell (by simp <;> omega) _).setCell (by simp <;> omega) _).setCell (by simp <;> omega) _⟩
  · rw [← HE.out.1]
    exact It.mono (it_keeps ((((((Keeps.refl _ _).setCell (u := .bool false) hr0 (fun x h => (by cases h)) _).setCell (u := .slice none 0 0) (by simp [go_sem, hr1]) (fun x h => (by cases h)) _).setCell (u := .bool false) (by simp [go_sem, hs0]) (fun x h => (by cases h)) _).setCell (u := .slice none 0 0) (by simp [go_sem, hs1]) (fun x h => (by cases h)) _)) h23) (by omega)
  · rw [← HE.out.2, ← Hyb.out]
    exact it_keeps ((((((Keeps.refl _ _).setCell (u := .bool false) hr0 (fun x h => (by cases h)) _).setCell (u := .slice none 0 0) (by simp [go_sem, hr1]) (fun x h => (by cases h)) _).setCell (u := .bool false) (by simp [go_sem, hs0]) (fun x h => (by cases h)) _).setCell (u := .slice none 0 0) (by simp [go_sem, hs1]) (fun x h => (by cases h)) _)) h33

theorem over_any (u v : Value) (x y : Int) (K : Nat) (w : World) (hu : It w u x K) (hv : It w v y K) (hy : y ≠ 0) (hK : K ≤ 1073741820) :
    Calls Tryz.prog 101 #[u, v] w (RetII w (x.fdiv y) (x.fmod y) (K + 2) K) := by
  by_cases hs : decide (x < 0) = decide (y < 0)
  · exact over_same u v x y K w hu hv hy hK hs
  · by_cases hr : (x.natAbs : Int) % (y.natAbs : Int) = 0
    · exact over_even u v x y K w hu hv hy hK hs hr
    · exact over_floor u v x y K w hu hv hy hK hs hr

end Go.Proofs.YtbapeilpkhbbeaaGreatDoor

/- A region that draws its order, by an invariant: what holds of the frame and the world while some of its operations have been carried out. -/
namespace Go.Proofs.YtbapeilpkhbbeaaGreatDoor
open Go.RowKit

theorem count_set_true : ∀ (l : List Bool) (i : Nat), l[i]? = some false → (l.set i true).count false + 1 = l.count false
  | [], i, h => by simp at h
  | b :: l, 0, h => by simp at h; subst h; simp
  | b :: l, i + 1, h => by
    have := count_set_true l i (by simpa using h)
    simp only [List.set_cons_succ, List.count_cons]; omega

theorem wpAny_inv {P : Program} {md : Region.Mode} {ops : Array Oper} {Q : Exit → Act → World → Prop} (I : Array Bool → Act → World → Prop)
    (hstep : ∀ L a w i, L.size = ops.size → I L a w → i ∈ Region.ready md ops L → wpOp P ops Q i (fun a' w' => I (L.setIfInBounds i true) a' w') a w)
    (hdone : ∀ L a w, L.size = ops.size → I L a w → Region.ready md ops L = [] → Q .normal a w) :
    ∀ fuel L a w, L.size = ops.size → L.toList.count false ≤ fuel → I L a w → wpAny P md ops Q fuel L a w := by
  have hr : ∀ L i, L.size = ops.size → i ∈ Region.ready md ops L → L.toList[i]? = some false := by
    intro L i hs hi
    unfold Region.ready at hi
    rw [List.mem_filter] at hi
    obtain ⟨h1, h2⟩ := hi
    rw [List.mem_range] at h1
    simp only [Bool.and_eq_true, Bool.not_eq_true'] at h2
    have h3 := h2.1
    have hlt : i < L.size := by omega
    simp [hlt] at h3
    rw [Array.getElem?_toList]; simp [hlt, h3]
  intro fuel
  induction fuel with
  | zero =>
    intro L a w hs hc hI
    have h0 : Region.ready md ops L = [] := by
      apply List.eq_nil_iff_forall_not_mem.2
      intro i hi
      have := hr L i hs hi
      have hm : false ∈ L.toList := List.mem_of_getElem? this
      have := List.count_pos_iff.2 hm
      omega
    exact ⟨h0, hdone L a w hs hI h0⟩
  | succ fuel ih =>
    intro L a w hs hc hI
    refine ⟨fun h0 => hdone L a w hs hI h0, fun i hi => wpOp_mono (fun a' w' h => ih _ a' w' (by simpa using hs) ?_ h) (hstep L a w i hs hI hi)⟩
    have := count_set_true L.toList i (hr L i hs hi)
    rw [Array.toList_setIfInBounds]; omega

theorem region_inv {P : Program} {id : Nat} {ops : Array Oper} {Q : Exit → Act → World → Prop} {a : Act} {w : World} (hm : P.follows .mixedOrders = true) (I : Array Bool → Act → World → Prop)
    (hI : I (Array.replicate ops.size false) a w.drew)
    (hstep : ∀ L a w i, L.size = ops.size → I L a w → i ∈ Region.ready .any ops L → wpOp P ops Q i (fun a' w' => I (L.setIfInBounds i true) a' w') a w)
    (hdone : ∀ L a w, L.size = ops.size → I L a w → Region.ready .any ops L = [] → Q .normal a w) : (Code.region id ops true).wp P Q a w :=
  wp_region_any hm (wpAny_inv I hstep hdone _ _ _ _ (by simp) (by simp) hI)

/-- Of each operation the list of some that it waits for. -/
def waits (ops : Array Oper) (dep : List (List Nat)) : Bool :=
  (List.range ops.size).all fun i => (dep.getD i []).all fun d => ((ops[i]?).map fun o => o.after.toList.any fun e => Region.binds .any e && e.on == d).getD false
theorem waits_spec {ops : Array Oper} {dep : List (List Nat)} (h : waits ops dep = true) {L : Array Bool} {i : Nat} (hi : i ∈ Region.ready .any ops L) :
    i < ops.size ∧ L.getD i true = false ∧ ∀ d, d ∈ dep.getD i [] → L.getD d false = true := by
  unfold Region.ready at hi
  rw [List.mem_filter, List.mem_range] at hi
  obtain ⟨h1, h2⟩ := hi
  simp only [Bool.and_eq_true, Bool.not_eq_true'] at h2
  refine ⟨h1, h2.1, fun d hd => ?_⟩
  unfold waits at h
  rw [List.all_eq_true] at h
  have h3 := h i (List.mem_range.2 h1)
  rw [List.all_eq_true] at h3
  have h4 := h3 d hd
  have ho : ops[i]? = some ops[i] := by simp [h1]
  rw [ho] at h2 h4
  simp only [Option.map_some, Option.getD_some] at h2 h4
  rw [List.any_eq_true] at h4
  obtain ⟨e, he, h5⟩ := h4
  simp only [Bool.and_eq_true, beq_iff_eq] at h5
  have h6 := h2.2
  rw [Array.all_eq_true_iff_forall_mem] at h6
  have h7 := h6 e (by simpa using he)
  rw [h5.1, h5.2] at h7
  simpa using h7
/-- When nothing is ready all has been done, where each operation waits for earlier ones alone. -/
def early (ops : Array Oper) : Bool := (List.range ops.size).all fun i => ((ops[i]?).map fun o => o.after.toList.all fun e => !Region.binds .any e || decide (e.on < i)).getD false
theorem early_done {ops : Array Oper} (h : early ops = true) {L : Array Bool} (hsz : L.size = ops.size) (hL : Region.ready .any ops L = []) : ∀ n i, i < n → i < ops.size → L.getD i true = true := by
  intro n
  induction n with
  | zero => intro i hi; omega
  | succ n ih =>
    intro i hi hs
    by_cases hlt : i < n
    · exact ih i hlt hs
    · obtain rfl : i = n := by omega
      cases hb : L.getD i true with
      | true => rfl
      | false =>
        exfalso
        have hm : i ∈ Region.ready .any ops L := by
          unfold Region.ready
          rw [List.mem_filter, List.mem_range]
          refine ⟨hs, ?_⟩
          have ho : ops[i]? = some ops[i] := by simp [hs]
          rw [hb, ho]
          simp only [Option.map_some, Option.getD_some, Bool.not_false, Bool.true_and]
          rw [Array.all_eq_true_iff_forall_mem]
          intro e he
          unfold early at h
          rw [List.all_eq_true] at h
          have h3 := h i (List.mem_range.2 hs)
          rw [ho] at h3
          simp only [Option.map_some, Option.getD_some] at h3
          rw [List.all_eq_true] at h3
          have h4 := h3 e (by simpa using he)
          simp only [Bool.or_eq_true, Bool.not_eq_true', decide_eq_true_eq] at h4
          rcases h4 with h4 | h4
          · simp [h4]
          · have h5 := ih e.on h4 (by omega)
            have h6 : L.getD e.on false = true := by
              have hz : e.on < L.size := by omega
              simp [hz] at h5 ⊢; exact h5
            simp [h6]
        rw [hL] at hm; cases hm

/-! The region 'm, n := f(x), g(y)' of two structs (a bool and a slice) whose addresses are taken: two loads, two calls, two allotments, two stores. -/
/-- s points to a cell pair of a block that the region has made; b: it has been written with v. -/
def PtrAt (k : IntKind) (B : Nat) (w : World) (s : Value) (b : Bool) (v : Value) : Prop :=
  ∃ p v0 v1, s = .pointer (some ⟨p, 0, none⟩) ∧ B ≤ p ∧ w.cell? ⟨p, 0, none⟩ = some v0 ∧ w.cell? ⟨p, 1, none⟩ = some v1 ∧ w.frozen? ⟨p, 0, none⟩ = false ∧ w.frozen? ⟨p, 1, none⟩ = false ∧ (∀ x, v0 ≠ .int k x) ∧ (∀ x, v1 ≠ .int k x) ∧ (b = true → v = .agg #[v0, v1])

theorem PtrAt.below {k : IntKind} {B : Nat} {w w' : World} {s v : Value} {b : Bool} (h : PtrAt k B w s b v) (hb : Below w.heap.size w w') : PtrAt k B w' s b v := by
  obtain ⟨p, v0, v1, rfl, hp, c0, c1, f0, f1, r⟩ := h
  have hl := World.block_lt_of_cell? w _ c0
  exact ⟨p, v0, v1, rfl, hp, (hb.cell (p := ⟨p, 0, none⟩) hl).trans c0, (hb.cell (p := ⟨p, 1, none⟩) hl).trans c1, (hb.frozen (p := ⟨p, 0, none⟩) hl).trans f0, (hb.frozen (p := ⟨p, 1, none⟩) hl).trans f1, r⟩

structure PairJ (k : IntKind) (B : Nat) (W0 : World) (vx vy : Value) (G1 G2 : World → Value → Prop) (b0 b1 b2 b3 b4 b5 b6 b7 : Bool) (s5 s6 s7 s8 s9 s10 : Value) (w : World) : Prop where
  bel : Below B W0 w
  siz : B ≤ w.heap.size
  l0 : b0 = true → s7 = vx
  c1 : b1 = true → G1 w s8
  l2 : b2 = true → s9 = vy
  c3 : b3 = true → G2 w s10
  p4 : b4 = true → PtrAt k B w s5 b6 s8
  p5 : b5 = true → PtrAt k B w s6 b7 s10
  ne : b4 = true → b5 = true → s5 ≠ s6

section
variable {k : IntKind} {B : Nat} {W0 : World} {vx vy : Value} {G1 G2 : World → Value → Prop} {b0 b1 b2 b3 b4 b5 b6 b7 : Bool} {s5 s6 s7 s8 s9 s10 : Value} {w w' : World}

theorem PairJ.start (h : Below B W0 w) (hs : B ≤ w.heap.size) : PairJ k B W0 vx vy G1 G2 false false false false false false false false s5 s6 s7 s8 s9 s10 w :=
  ⟨h, hs, nofun, nofun, nofun, nofun, nofun, nofun, nofun⟩
theorem PtrAt.fresh {k : IntKind} {B : Nat} {w : World} {s v v' : Value} (h : PtrAt k B w s false v) : PtrAt k B w s false v' := by
  obtain ⟨p, v0, v1, rfl, hp, c0, c1, f0, f1, n0, n1, _⟩ := h
  exact ⟨p, v0, v1, rfl, hp, c0, c1, f0, f1, n0, n1, nofun⟩
theorem keeps_two {k : IntKind} {w : World} {p : Nat} {v0 v1 : Value} (c0 : w.cell? ⟨p, 0, none⟩ = some v0) (c1 : w.cell? ⟨p, 1, none⟩ = some v1) (n0 : ∀ x, v0 ≠ .int k x) (n1 : ∀ x, v1 ≠ .int k x) (u0 u1 : Value) :
    Keeps k w ((w.setCell ⟨p, 0, none⟩ u0).setCell ⟨p, 1, none⟩ u1) :=
  ((Keeps.refl k w).setCell c0 n0 u0).setCell (u := v1) (by rw [World.cell?_setCell_other w _ _ _ (by simp)]; exact c1) n1 u1
theorem two_cells {w : World} {p : Nat} {v0 v1 : Value} (c0 : w.cell? ⟨p, 0, none⟩ = some v0) (c1 : w.cell? ⟨p, 1, none⟩ = some v1) (u0 u1 : Value) :
    ((w.setCell ⟨p, 0, none⟩ u0).setCell ⟨p, 1, none⟩ u1).cell? ⟨p, 0, none⟩ = some u0 ∧ ((w.setCell ⟨p, 0, none⟩ u0).setCell ⟨p, 1, none⟩ u1).cell? ⟨p, 1, none⟩ = some u1 := by
  constructor
  · rw [World.cell?_setCell_other _ _ _ _ (by simp)]; exact World.cell?_setCell_same _ _ _ c0
  · exact World.cell?_setCell_same _ _ _ (u := v1) (by rw [World.cell?_setCell_other w _ _ _ (by simp)]; exact c1)
theorem PtrAt.other {k : IntKind} {B : Nat} {w : World} {s v : Value} {b : Bool} (h : PtrAt k B w s b v) {p : Nat} (hne : s ≠ .pointer (some ⟨p, 0, none⟩)) (u0 u1 : Value) : PtrAt k B ((w.setCell ⟨p, 0, none⟩ u0).setCell ⟨p, 1, none⟩ u1) s b v := by
  obtain ⟨q, v0, v1, rfl, hq, c0, c1, f0, f1, r⟩ := h
  have hpq : p ≠ q := by rintro rfl; exact hne rfl
  refine ⟨q, v0, v1, rfl, hq, ?_, ?_, by simpa using f0, by simpa using f1, r⟩
  · rw [World.cell?_setCell_other _ _ _ _ (by simp <;> exact hpq), World.cell?_setCell_other _ _ _ _ (by simp <;> exact hpq)]; exact c0
  · rw [World.cell?_setCell_other _ _ _ _ (by simp <;> exact hpq), World.cell?_setCell_other _ _ _ _ (by simp <;> exact hpq)]; exact c1
theorem PairJ.drew (h : PairJ k B W0 vx vy G1 G2 b0 b1 b2 b3 b4 b5 b6 b7 s5 s6 s7 s8 s9 s10 w) (hG1 : ∀ w w' v, Keeps k w w' → G1 w v → G1 w' v) (hG2 : ∀ w w' v, Keeps k w w' → G2 w v → G2 w' v) : PairJ k B W0 vx vy G1 G2 b0 b1 b2 b3 b4 b5 b6 b7 s5 s6 s7 s8 s9 s10 w.drew :=
  ⟨h.bel.drew, h.siz, h.l0, fun e => hG1 _ _ _ (Keeps.refl _ _).drew (h.c1 e), h.l2, fun e => hG2 _ _ _ (Keeps.refl _ _).drew (h.c3 e), h.p4, h.p5, h.ne⟩
end

end Go.Proofs.YtbapeilpkhbbeaaGreatDoor
