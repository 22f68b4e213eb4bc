/- The document's own integers: Div (the quotient rounded down, and its rest). Written by gen_rdiv.py. The document's own integers: SameInt, LikeInt; the law's spoil. -/
import Derived.Test.YtbapeilpkhbbeaaGreatBn24
import Derived.Test.YtbapeilpkhbbeaaGreatBn22
import Derived.Deep.DeepCutAuto
import Derived.Test.YtbapeilpkhbbeaaGreatBn20
/- The document's own integers: Div (the quotient rounded down, and its rest). Written by gen_rdiv.py. -/
namespace Go.Proofs.YtbapeilpkhbbeaaGreat
open Go.RowKit

/-- A result of Div: both numbers, and the error. -/
def RetZZ (w : World) (q r : Int) (Kq Kr : Nat) (err : Int) (e : Ending) (w' : World) : Prop := ∃ v1 v2, e = .returned (.tuple #[v1, v2, .int .i64 err]) ∧ Zt w' v1 q Kq ∧ Zt w' v2 r Kr ∧ Below w.heap.size w w'

theorem zt_keeps {z : Int} {K : Nat} {w w' : World} {v : Value} (hk : Keeps .i64 w w') (h : Zt w v z K) : Zt w' v z K := by
  obtain ⟨s, rfl, ao, c, L, rfl, h⟩ := h
  exact ⟨_, rfl, ao, c, L, rfl, h.rd.keeps hk, h.dig, h.nrm, h.eq, h.le⟩
theorem zt_zero (w : World) : Zt w (.agg #[.bool false, .slice none 0 0]) 0 0 := ⟨_, rfl, Md.nil w⟩
theorem one_md {w : World} : Md (w.alloc (.cells #[.int .i64 1] 3 (0, 0))) (.slice (some ⟨w.heap.size, 0, none⟩) 1 1) 1 1 :=
  ⟨_, 1, [1], rfl, rowi_rd (show Row .i64 3 _ _ [1] from heap_alloc_new w _) (by simp) (by simp), Dig.cons (by decide) (by decide) (Dig.nil _), by simp [Nrm, trimL], by decide, by decide⟩

set_option maxRecDepth 100000 in
set_option maxHeartbeats 2000000 in
theorem rdiv_same (u v : Value) (x y : Int) (K : Nat) (w : World) (hu : Zt w u x K) (hv : Zt w v y K) (hy : y ≠ 0) (hK : K ≤ 1073741822) (hs : decide (x < 0) = decide (y < 0)) :
    Calls Tryz.prog 88 #[u, v] w (RetZZ w (x.fdiv y) (x.fmod y) (K + 2) K 0) := by
  obtain ⟨xb, xo, xm, xc, rfl, Hx, Hxs, Hxb⟩ := Zt.opened hu
  obtain ⟨yb, yo, ym, yc, rfl, Hy, Hys, Hyb⟩ := Zt.opened hv
  have hy0 : (0 : Int) < (y.natAbs : Int) := by omega
  have hym : ym ≠ 0 := by
    obtain ⟨ao, c, L, e, hl⟩ := Hys.out _ (Below.refl _ _)
    obtain ⟨_, rfl, _⟩ := Value.slice.inj e
    intro h0
    have := hl.zero_iff.1 h0
    omega
  have hb : xb = yb := by rw [Hxb.out, Hyb.out, hs]
  subst hb
  have HE := hid (fdiv_same x y hy hs)
  clear hu hv
  go_enter Tryz.func88, Tryz.ntmps88
  go_upto_region 1 with (fail)
  obtain ⟨W0, hW0⟩ : ∃ W0, W0 = ((((w.alloc (.cells #[.bool xb, .slice xo xm xc] 33)).alloc (.cells #[.bool xb, .slice yo ym yc] 33)).alloc (.cells #[.bool false, .slice none 0 0] 33)).alloc (.cells #[.bool false, .slice none 0 0] 33)) := ⟨_, rfl⟩
  have hB0 : Below w.heap.size w W0 := by rw [hW0]; exact ((((Below.refl _ _).alloc (by simp <;> omega) _).alloc (by simp <;> omega) _).alloc (by simp <;> omega) _).alloc (by simp <;> omega) _
  have hz0 : W0.heap.size = w.heap.size + 4 := by rw [hW0]; simp
  have HS : Hid (∀ w', Below (w.heap.size + 2) W0 w' → w'.cell? ⟨w.heap.size, 0, none⟩ = some (.bool xb) ∧ w'.cell? ⟨w.heap.size, 1, none⟩ = some (.slice xo xm xc) ∧ w'.cell? ⟨w.heap.size + 1, 0, none⟩ = some (.bool xb) ∧ w'.cell? ⟨w.heap.size + 1, 1, none⟩ = some (.slice yo ym yc)) := hid (fun w' hb => by
    refine ⟨?_, ?_, ?_, ?_⟩ <;> (first | (rw [hb.cell (by simp <;> omega), hW0]; simp [go_sem]; done) | (rw [hb.frozen (by simp <;> omega), hW0]; simp [go_sem]; done)))
  have HT : Hid (∀ w', Below (w.heap.size + 4) W0 w' → (w'.cell? ⟨w.heap.size + 2, 0, none⟩ = some (.bool false) ∧ w'.cell? ⟨w.heap.size + 2, 1, none⟩ = some (.slice none 0 0) ∧ w'.frozen? ⟨w.heap.size + 2, 0, none⟩ = false ∧ w'.frozen? ⟨w.heap.size + 2, 1, none⟩ = false) ∧ (w'.cell? ⟨w.heap.size + 3, 0, none⟩ = some (.bool false) ∧ w'.cell? ⟨w.heap.size + 3, 1, none⟩ = some (.slice none 0 0) ∧ w'.frozen? ⟨w.heap.size + 3, 0, none⟩ = false ∧ w'.frozen? ⟨w.heap.size + 3, 1, none⟩ = false)) := hid (fun w' hb => by
    refine ⟨⟨?_, ?_, ?_, ?_⟩, ?_, ?_, ?_, ?_⟩ <;> (first | (rw [hb.cell (by simp <;> omega), hW0]; simp [go_sem]; done) | (rw [hb.frozen (by simp <;> omega), hW0]; simp [go_sem]; done)))
  rw [← hW0]
  clear hW0
  obtain ⟨k0, k1, k2, k3⟩ := HS.out _ (Below.refl _ _)
  go_wp2_with fail
  refine (rlong_any _ _ _ _ K K _ (Hxs.out _ hB0) (Hys.out _ hB0) hy0 hK hK).mono ?_
  rintro e w1 ⟨_, _, rfl, hq, hr, hb1⟩
  obtain ⟨qo, qm, qc, rfl, Hq⟩ := Md.opened hq
  obtain ⟨ro, rm, rc, rfl, Hr⟩ := Md.opened hr
  have hB1 : Below (w.heap.size + 4) W0 w1 := hb1.mono (by omega)
  have hB1s : Below (w.heap.size + 2) W0 w1 := hB1.mono (by omega)
  clear hq hr hb1 k0 k1 k2 k3
  obtain ⟨k0, k1, k2, k3⟩ := HS.out _ hB1s
  go_wp2
  clear k0 k1 k2 k3
  go_region_held3 (fun w' => w'.cell? ⟨w.heap.size, 0, none⟩ = some (.bool xb) ∧ w'.cell? ⟨w.heap.size, 1, none⟩ = some (.slice xo xm xc) ∧ w'.cell? ⟨w.heap.size + 1, 0, none⟩ = some (.bool xb) ∧ w'.cell? ⟨w.heap.size + 1, 1, none⟩ = some (.slice yo ym yc)) ((refine HS.out _ ?_; repeat (first | assumption | exact Below.refl _ _ | exact (Below.refl _ _).drew | exact Below.drew (by assumption) | (refine Below.setCell ?_ (by simp) _)))) (first
    | (go_at_call_of 81 (qo); refine (made_any false _ _ K _ ((Hq.out _ ((Below.refl _ _).drew)).dg)).mono ?_; rintro e w2 ⟨_, rfl, hv2, hb2⟩; obtain ⟨b2, o2, m2, c2, rfl, H2, H2s, H2b⟩ := Zt.opened hv2; have hB2 : Below (w.heap.size + 4) W0 w2 := hB1.drew.trans (hb2.mono (by have := hB1.size; simp; omega)); have hB2s : Below (w.heap.size + 2) W0 w2 := hB2.mono (by omega))
    | (go_at_call_of 81 (ro); refine (made_any xb _ _ K _ ((Hr.out _ ((Below.refl _ _).drew.trans (hb2.mono (Nat.le_refl _)))).dg)).mono ?_; rintro e w3 ⟨_, rfl, hv3, hb3⟩; obtain ⟨b3, o3, m3, c3, rfl, H3, H3s, H3b⟩ := Zt.opened hv3; have hB3 : Below (w.heap.size + 4) W0 w3 := hB2.trans (hb3.mono (by have := hB2.size; omega)); have hB3s : Below (w.heap.size + 2) W0 w3 := hB3.mono (by omega); obtain ⟨⟨hr0, hr1, hr2, hr3⟩, hs0, hs1, hs2, hs3⟩ := HT.out _ hB3))
  go_wp2
  have hbel : Below w.heap.size w w3 := hB0.trans (hB3.mono (by omega))
  have h23 := H2.out w3 hb3
  have h33 := H3.out w3 (Below.refl _ _)
  refine bodyPost_ret (v := .tuple #[.agg #[.bool b2, .slice o2 m2 c2], .agg #[.bool b3, .slice o3 m3 c3], .int .i64 0]) (by simp [results, Tryz.results88, go_sem, hr0, hr1, hs0, hs1]) rfl ⟨_, _, rfl, ?_, ?_, (((hbel.setCell (by simp <;> omega) _).setCell (by simp <;> omega) _).setCell (by simp <;> omega) _).setCell (by simp <;> omega) _⟩
  · rw [← HE.out.1]
    exact Zt.mono (zt_keeps ((((((Keeps.refl _ _).setCell (u := .bool false) hr0 (fun x h => (by cases h)) _).setCell (u := .slice none 0 0) (by simp [go_sem, hr1]) (fun x h => (by cases h)) _).setCell (u := .bool false) (by simp [go_sem, hs0]) (fun x h => (by cases h)) _).setCell (u := .slice none 0 0) (by simp [go_sem, hs1]) (fun x h => (by cases h)) _)) h23) (Nat.le_add_right _ _)
  · rw [← HE.out.2, ← Hxb.out]
    exact zt_keeps ((((((Keeps.refl _ _).setCell (u := .bool false) hr0 (fun x h => (by cases h)) _).setCell (u := .slice none 0 0) (by simp [go_sem, hr1]) (fun x h => (by cases h)) _).setCell (u := .bool false) (by simp [go_sem, hs0]) (fun x h => (by cases h)) _).setCell (u := .slice none 0 0) (by simp [go_sem, hs1]) (fun x h => (by cases h)) _)) h33

set_option maxRecDepth 100000 in
set_option maxHeartbeats 2000000 in
theorem rdiv_even (u v : Value) (x y : Int) (K : Nat) (w : World) (hu : Zt w u x K) (hv : Zt w v y K) (hy : y ≠ 0) (hK : K ≤ 1073741822) (hs : decide (x < 0) ≠ decide (y < 0)) (hrr : (x.natAbs : Int) % (y.natAbs : Int) = 0) :
    Calls Tryz.prog 88 #[u, v] w (RetZZ w (x.fdiv y) (x.fmod y) (K + 2) K 0) := by
  obtain ⟨xb, xo, xm, xc, rfl, Hx, Hxs, Hxb⟩ := Zt.opened hu
  obtain ⟨yb, yo, ym, yc, rfl, Hy, Hys, Hyb⟩ := Zt.opened hv
  have hy0 : (0 : Int) < (y.natAbs : Int) := by omega
  have hym : ym ≠ 0 := by
    obtain ⟨ao, c, L, e, hl⟩ := Hys.out _ (Below.refl _ _)
    obtain ⟨_, rfl, _⟩ := Value.slice.inj e
    intro h0
    have := hl.zero_iff.1 h0
    omega
  have hb : (xb == yb) = false := by rw [beq_eq_false_iff_ne, Hxb.out, Hyb.out]; exact hs
  have hb' : ¬ xb = yb := by simpa using hb
  have hbn : (xb != yb) = true := by simpa using hb'
  have HR0 := hid hrr
  have HE := hid (fdiv_even x y hy hs hrr)
  clear hu hv
  go_enter Tryz.func88, Tryz.ntmps88
  go_upto_region 1 with (fail)
  obtain ⟨W0, hW0⟩ : ∃ W0, W0 = ((((w.alloc (.cells #[.bool xb, .slice xo xm xc] 33)).alloc (.cells #[.bool yb, .slice yo ym yc] 33)).alloc (.cells #[.bool false, .slice none 0 0] 33)).alloc (.cells #[.bool false, .slice none 0 0] 33)) := ⟨_, rfl⟩
  have hB0 : Below w.heap.size w W0 := by rw [hW0]; exact ((((Below.refl _ _).alloc (by simp <;> omega) _).alloc (by simp <;> omega) _).alloc (by simp <;> omega) _).alloc (by simp <;> omega) _
  have hz0 : W0.heap.size = w.heap.size + 4 := by rw [hW0]; simp
  have HS : Hid (∀ w', Below (w.heap.size + 2) W0 w' → w'.cell? ⟨w.heap.size, 0, none⟩ = some (.bool xb) ∧ w'.cell? ⟨w.heap.size, 1, none⟩ = some (.slice xo xm xc) ∧ w'.cell? ⟨w.heap.size + 1, 0, none⟩ = some (.bool yb) ∧ w'.cell? ⟨w.heap.size + 1, 1, none⟩ = some (.slice yo ym yc)) := hid (fun w' hb => by
    refine ⟨?_, ?_, ?_, ?_⟩ <;> (first | (rw [hb.cell (by simp <;> omega), hW0]; simp [go_sem]; done) | (rw [hb.frozen (by simp <;> omega), hW0]; simp [go_sem]; done)))
  have HT : Hid (∀ w', Below (w.heap.size + 4) W0 w' → (w'.cell? ⟨w.heap.size + 2, 0, none⟩ = some (.bool false) ∧ w'.cell? ⟨w.heap.size + 2, 1, none⟩ = some (.slice none 0 0) ∧ w'.frozen? ⟨w.heap.size + 2, 0, none⟩ = false ∧ w'.frozen? ⟨w.heap.size + 2, 1, none⟩ = false) ∧ (w'.cell? ⟨w.heap.size + 3, 0, none⟩ = some (.bool false) ∧ w'.cell? ⟨w.heap.size + 3, 1, none⟩ = some (.slice none 0 0) ∧ w'.frozen? ⟨w.heap.size + 3, 0, none⟩ = false ∧ w'.frozen? ⟨w.heap.size + 3, 1, none⟩ = false)) := hid (fun w' hb => by
    refine ⟨⟨?_, ?_, ?_, ?_⟩, ?_, ?_, ?_, ?_⟩ <;> (first | (rw [hb.cell (by simp <;> omega), hW0]; simp [go_sem]; done) | (rw [hb.frozen (by simp <;> omega), hW0]; simp [go_sem]; done)))
  rw [← hW0]
  clear hW0
  obtain ⟨k0, k1, k2, k3⟩ := HS.out _ (Below.refl _ _)
  go_wp2_with fail
  refine (rlong_any _ _ _ _ K K _ (Hxs.out _ hB0) (Hys.out _ hB0) hy0 hK hK).mono ?_
  rintro e w1 ⟨_, _, rfl, hq, hr, hb1⟩
  obtain ⟨qo, qm, qc, rfl, Hq⟩ := Md.opened hq
  obtain ⟨ro, rm, rc, rfl, Hr⟩ := Md.opened hr
  have hB1 : Below (w.heap.size + 4) W0 w1 := hb1.mono (by omega)
  have hB1s : Below (w.heap.size + 2) W0 w1 := hB1.mono (by omega)
  have hrm : rm = 0 := by
    obtain ⟨ao, c, L, e, hl⟩ := hr
    obtain ⟨_, rfl, _⟩ := Value.slice.inj e
    exact hl.zero_iff.2 HR0.out
  subst hrm
  clear hq hr hb1 k0 k1 k2 k3
  obtain ⟨k0, k1, k2, k3⟩ := HS.out _ hB1s
  go_wp2
  clear k0 k1 k2 k3
  go_region_held3 (fun w' => w'.cell? ⟨w.heap.size, 0, none⟩ = some (.bool xb) ∧ w'.cell? ⟨w.heap.size, 1, none⟩ = some (.slice xo xm xc) ∧ w'.cell? ⟨w.heap.size + 1, 0, none⟩ = some (.bool yb) ∧ w'.cell? ⟨w.heap.size + 1, 1, none⟩ = some (.slice yo ym yc)) ((refine HS.out _ ?_; repeat (first | assumption | exact Below.refl _ _ | exact (Below.refl _ _).drew | exact Below.drew (by assumption) | (refine Below.setCell ?_ (by simp) _)))) (first
    | (go_at_call_of 81 (qo); refine (made_any true _ _ K _ ((Hq.out _ ((Below.refl _ _).drew)).dg)).mono ?_; rintro e w2 ⟨_, rfl, hv2, hb2⟩; obtain ⟨b2, o2, m2, c2, rfl, H2, H2s, H2b⟩ := Zt.opened hv2; have hB2 : Below (w.heap.size + 4) W0 w2 := hB1.drew.trans (hb2.mono (by have := hB1.size; simp; omega)); have hB2s : Below (w.heap.size + 2) W0 w2 := hB2.mono (by omega))
    | (go_at_call_of 81 (ro); refine (made_any xb _ _ K _ ((Hr.out _ ((Below.refl _ _).drew.trans (hb2.mono (Nat.le_refl _)))).dg)).mono ?_; rintro e w3 ⟨_, rfl, hv3, hb3⟩; obtain ⟨b3, o3, m3, c3, rfl, H3, H3s, H3b⟩ := Zt.opened hv3; have hB3 : Below (w.heap.size + 4) W0 w3 := hB2.trans (hb3.mono (by have := hB2.size; omega)); have hB3s : Below (w.heap.size + 2) W0 w3 := hB3.mono (by omega); obtain ⟨⟨hr0, hr1, hr2, hr3⟩, hs0, hs1, hs2, hs3⟩ := HT.out _ hB3))
  go_wp2
  have hbel : Below w.heap.size w w3 := hB0.trans (hB3.mono (by omega))
  have h23 := H2.out w3 hb3
  have h33 := H3.out w3 (Below.refl _ _)
  refine bodyPost_ret (v := .tuple #[.agg #[.bool b2, .slice o2 m2 c2], .agg #[.bool b3, .slice o3 m3 c3], .int .i64 0]) (by simp [results, Tryz.results88, go_sem, hr0, hr1, hs0, hs1]) rfl ⟨_, _, rfl, ?_, ?_, (((hbel.setCell (by simp <;> omega) _).setCell (by simp <;> omega) _).setCell (by simp <;> omega) _).setCell (by simp <;> omega) _⟩
  · rw [← HE.out.1]
    exact Zt.mono (zt_keeps ((((((Keeps.refl _ _).setCell (u := .bool false) hr0 (fun x h => (by cases h)) _).setCell (u := .slice none 0 0) (by simp [go_sem, hr1]) (fun x h => (by cases h)) _).setCell (u := .bool false) (by simp [go_sem, hs0]) (fun x h => (by cases h)) _).setCell (u := .slice none 0 0) (by simp [go_sem, hs1]) (fun x h => (by cases h)) _)) h23) (Nat.le_add_right _ _)
  · rw [← HE.out.2, ← Hxb.out]
    exact zt_keeps ((((((Keeps.refl _ _).setCell (u := .bool false) hr0 (fun x h => (by cases h)) _).setCell (u := .slice none 0 0) (by simp [go_sem, hr1]) (fun x h => (by cases h)) _).setCell (u := .bool false) (by simp [go_sem, hs0]) (fun x h => (by cases h)) _).setCell (u := .slice none 0 0) (by simp [go_sem, hs1]) (fun x h => (by cases h)) _)) h33

set_option maxRecDepth 100000 in
set_option maxHeartbeats 2000000 in
theorem rdiv_floor (u v : Value) (x y : Int) (K : Nat) (w : World) (hu : Zt w u x K) (hv : Zt w v y K) (hy : y ≠ 0) (hK : K ≤ 1073741822) (hs : decide (x < 0) ≠ decide (y < 0)) (hrr : (x.natAbs : Int) % (y.natAbs : Int) ≠ 0) :
    Calls Tryz.prog 88 #[u, v] w (RetZZ w (x.fdiv y) (x.fmod y) (K + 2) K 0) := by
  obtain ⟨xb, xo, xm, xc, rfl, Hx, Hxs, Hxb⟩ := Zt.opened hu
  obtain ⟨yb, yo, ym, yc, rfl, Hy, Hys, Hyb⟩ := Zt.opened hv
  have hy0 : (0 : Int) < (y.natAbs : Int) := by omega
  have hym : ym ≠ 0 := by
    obtain ⟨ao, c, L, e, hl⟩ := Hys.out _ (Below.refl _ _)
    obtain ⟨_, rfl, _⟩ := Value.slice.inj e
    intro h0
    have := hl.zero_iff.1 h0
    omega
  have hb : (xb == yb) = false := by rw [beq_eq_false_iff_ne, Hxb.out, Hyb.out]; exact hs
  have hb' : ¬ xb = yb := by simpa using hb
  have hbn : (xb != yb) = true := by simpa using hb'
  have HR0 := hid hrr
  have HE := hid (fdiv_floor x y hy hs hrr)
  have HRL := hid (abs_div x y hy).2.2
  clear hu hv
  go_enter Tryz.func88, Tryz.ntmps88
  go_upto_region 1 with (fail)
  obtain ⟨W0, hW0⟩ : ∃ W0, W0 = ((((w.alloc (.cells #[.bool xb, .slice xo xm xc] 33)).alloc (.cells #[.bool yb, .slice yo ym yc] 33)).alloc (.cells #[.bool false, .slice none 0 0] 33)).alloc (.cells #[.bool false, .slice none 0 0] 33)) := ⟨_, rfl⟩
  have hB0 : Below w.heap.size w W0 := by rw [hW0]; exact ((((Below.refl _ _).alloc (by simp <;> omega) _).alloc (by simp <;> omega) _).alloc (by simp <;> omega) _).alloc (by simp <;> omega) _
  have hz0 : W0.heap.size = w.heap.size + 4 := by rw [hW0]; simp
  have HS : Hid (∀ w', Below (w.heap.size + 2) W0 w' → w'.cell? ⟨w.heap.size, 0, none⟩ = some (.bool xb) ∧ w'.cell? ⟨w.heap.size, 1, none⟩ = some (.slice xo xm xc) ∧ w'.cell? ⟨w.heap.size + 1, 0, none⟩ = some (.bool yb) ∧ w'.cell? ⟨w.heap.size + 1, 1, none⟩ = some (.slice yo ym yc)) := hid (fun w' hb => by
    refine ⟨?_, ?_, ?_, ?_⟩ <;> (first | (rw [hb.cell (by simp <;> omega), hW0]; simp [go_sem]; done) | (rw [hb.frozen (by simp <;> omega), hW0]; simp [go_sem]; done)))
  have HT : Hid (∀ w', Below (w.heap.size + 4) W0 w' → (w'.cell? ⟨w.heap.size + 2, 0, none⟩ = some (.bool false) ∧ w'.cell? ⟨w.heap.size + 2, 1, none⟩ = some (.slice none 0 0) ∧ w'.frozen? ⟨w.heap.size + 2, 0, none⟩ = false ∧ w'.frozen? ⟨w.heap.size + 2, 1, none⟩ = false) ∧ (w'.cell? ⟨w.heap.size + 3, 0, none⟩ = some (.bool false) ∧ w'.cell? ⟨w.heap.size + 3, 1, none⟩ = some (.slice none 0 0) ∧ w'.frozen? ⟨w.heap.size + 3, 0, none⟩ = false ∧ w'.frozen? ⟨w.heap.size + 3, 1, none⟩ = false)) := hid (fun w' hb => by
    refine ⟨⟨?_, ?_, ?_, ?_⟩, ?_, ?_, ?_, ?_⟩ <;> (first | (rw [hb.cell (by simp <;> omega), hW0]; simp [go_sem]; done) | (rw [hb.frozen (by simp <;> omega), hW0]; simp [go_sem]; done)))
  rw [← hW0]
  clear hW0
  obtain ⟨k0, k1, k2, k3⟩ := HS.out _ (Below.refl _ _)
  go_wp2_with fail
  refine (rlong_any _ _ _ _ K K _ (Hxs.out _ hB0) (Hys.out _ hB0) hy0 hK hK).mono ?_
  rintro e w1 ⟨_, _, rfl, hq, hr, hb1⟩
  obtain ⟨qo, qm, qc, rfl, Hq⟩ := Md.opened hq
  obtain ⟨ro, rm, rc, rfl, Hr⟩ := Md.opened hr
  have hB1 : Below (w.heap.size + 4) W0 w1 := hb1.mono (by omega)
  have hB1s : Below (w.heap.size + 2) W0 w1 := hB1.mono (by omega)
  have hrm : rm ≠ 0 := by
    intro h
    obtain ⟨ao, c, L, e, hl⟩ := hr
    obtain ⟨_, rfl, _⟩ := Value.slice.inj e
    exact HR0.out (hl.zero_iff.1 h)
  have hB1a := hB1s.alloc (by have := hB1.size; omega) (.cells #[.int .i64 1] 3 (0, 0))
  clear hq hr hb1 k0 k1 k2 k3
  obtain ⟨k0, k1, k2, k3⟩ := HS.out _ hB1s
  go_wp2
  clear k0 k1 k2 k3
  go_region_held3 (fun w' => w'.cell? ⟨w.heap.size, 0, none⟩ = some (.bool xb) ∧ w'.cell? ⟨w.heap.size, 1, none⟩ = some (.slice xo xm xc) ∧ w'.cell? ⟨w.heap.size + 1, 0, none⟩ = some (.bool yb) ∧ w'.cell? ⟨w.heap.size + 1, 1, none⟩ = some (.slice yo ym yc)) ((refine HS.out _ ?_; repeat (first | assumption | exact Below.refl _ _ | exact (Below.refl _ _).drew | exact Below.drew (by assumption) | (refine Below.setCell ?_ (by simp) _)))) (first
    | (go_at_call 102; refine (sum_md _ _ _ 1 (K + 1) _ ((Hq.out _ ((Below.refl _ _).alloc (Nat.le_refl _) _).drew).mono (Nat.le_succ _)) ((one_md.below ((Below.refl _ _).drew) (Nat.le_refl _)).mono (Nat.le_add_left _ _)) (by omega)).mono ?_; rintro e w2 ⟨_, rfl, hv2, hb2⟩; obtain ⟨o2, m2, c2, rfl, H2⟩ := Dg.opened hv2; have hB2 : Below (w.heap.size + 4) W0 w2 := (hB1.alloc (by have := hB1.size; simp; omega) _).drew.trans (hb2.mono (by have := hB1.size; simp; omega)); have hB2s : Below (w.heap.size + 2) W0 w2 := hB2.mono (by omega); have hC2 : Below w1.heap.size w1 w2 := ((Below.refl _ _).alloc (Nat.le_refl _) _).drew.trans (hb2.mono (by simp)))
    | (go_at_call_of 81 (o2); refine (made_any true _ _ _ _ (H2.out _ (Below.refl _ _))).mono ?_; rintro e w3 ⟨_, rfl, hv3, hb3⟩; obtain ⟨b3, o3, m3, c3, rfl, H3, H3s, H3b⟩ := Zt.opened hv3; have hB3 : Below (w.heap.size + 4) W0 w3 := hB2.trans (hb3.mono (by have := hB2.size; omega)); have hB3s : Below (w.heap.size + 2) W0 w3 := hB3.mono (by omega); have hC3 : Below w1.heap.size w1 w3 := hC2.trans (hb3.mono hC2.size))
    | (go_at_call 104; refine (less_any _ _ _ _ K K _ (Hys.out _ (hB0.trans (hB3.mono (by omega)))) (Hr.out _ hC3) (Int.le_of_lt HRL.out) (by omega)).mono ?_; rintro e w4 ⟨_, rfl, hv4, hb4⟩; obtain ⟨o4, m4, c4, rfl, H4⟩ := Md.opened hv4; have hB4 : Below (w.heap.size + 4) W0 w4 := hB3.trans (hb4.mono (by have := hB3.size; omega)); have hB4s : Below (w.heap.size + 2) W0 w4 := hB4.mono (by omega))
    | (go_at_call_of 81 (o4); refine (made_any yb _ _ K _ (H4.out _ (Below.refl _ _)).dg).mono ?_; rintro e w5 ⟨_, rfl, hv5, hb5⟩; obtain ⟨b5, o5, m5, c5, rfl, H5, H5s, H5b⟩ := Zt.opened hv5; have hB5 : Below (w.heap.size + 4) W0 w5 := hB4.trans (hb5.mono (by have := hB4.size; omega)); have hB5s : Below (w.heap.size + 2) W0 w5 := hB5.mono (by omega); obtain ⟨⟨hr0, hr1, hr2, hr3⟩, hs0, hs1, hs2, hs3⟩ := HT.out _ hB5))
  go_wp2
  have hbel : Below w.heap.size w w5 := hB0.trans (hB5.mono (by omega))
  have h23 := H3.out w5 (hb4.trans (hb5.mono hb4.size))
  have h33 := H5.out w5 (Below.refl _ _)
  refine bodyPost_ret (v := .tuple #[.agg #[.bool b3, .slice o3 m3 c3], .agg #[.bool b5, .slice o5 m5 c5], .int .i64 0]) (by simp [results, Tryz.results88, go_sem, hr0, hr1, hs0, hs1]) rfl ⟨_, _, rfl, ?_, ?_, (((hbel.setCell (by simp <;> omega) _).setCell (by simp <;> omega) _).setCell (by simp <;> omega) _).setCell (by simp <;> omega) _⟩
  · rw [← HE.out.1]
    exact zt_keeps ((((((Keeps.refl _ _).setCell (u := .bool false) hr0 (fun x h => (by cases h)) _).setCell (u := .slice none 0 0) (by simp [go_sem, hr1]) (fun x h => (by cases h)) _).setCell (u := .bool false) (by simp [go_sem, hs0]) (fun x h => (by cases h)) _).setCell (u := .slice none 0 0) (by simp [go_sem, hs1]) (fun x h => (by cases h)) _)) h23
  · rw [← HE.out.2, ← Hyb.out]
    exact zt_keeps ((((((Keeps.refl _ _).setCell (u := .bool false) hr0 (fun x h => (by cases h)) _).setCell (u := .slice none 0 0) (by simp [go_sem, hr1]) (fun x h => (by cases h)) _).setCell (u := .bool false) (by simp [go_sem, hs0]) (fun x h => (by cases h)) _).setCell (u := .slice none 0 0) (by simp [go_sem, hs1]) (fun x h => (by cases h)) _)) h33

theorem rdiv_any (u v : Value) (x y : Int) (K : Nat) (w : World) (hu : Zt w u x K) (hv : Zt w v y K) (hy : y ≠ 0) (hK : K ≤ 1073741822) :
    Calls Tryz.prog 88 #[u, v] w (RetZZ w (x.fdiv y) (x.fmod y) (K + 2) K 0) := by
  by_cases hs : decide (x < 0) = decide (y < 0)
  · exact rdiv_same u v x y K w hu hv hy hK hs
  · by_cases hr : (x.natAbs : Int) % (y.natAbs : Int) = 0
    · exact rdiv_even u v x y K w hu hv hy hK hs hr
    · exact rdiv_floor u v x y K w hu hv hy hK hs hr

end Go.Proofs.YtbapeilpkhbbeaaGreat

/- The document's own integers: SameInt, LikeInt; the law's spoil. -/
namespace Go.Proofs.YtbapeilpkhbbeaaGreat
open Go.RowKit

set_option maxRecDepth 100000 in
set_option maxHeartbeats 4000000 in
theorem sameInt_any (u v : Value) (z : Int) (Ka Kb : Nat) (w : World) (hu : An w u z Ka) (hv : Zt w v z Kb) (hK : Kb ≤ 268435456) :
    Calls Tryz.prog 40 #[u, v] w fun e w' => e = .returned (.bool true) ∧ Below w.heap.size w w' := by
  obtain ⟨ao, ca, L, rfl, hr, dL, nL, eL, _⟩ := hu
  obtain ⟨yb, yo, ym, yc, rfl, Hy, Hys, Hyb⟩ := Zt.opened hv
  obtain ⟨n, hn⟩ : ∃ n, n = L.length := ⟨_, rfl⟩
  obtain ⟨xb, hxb⟩ : ∃ xb, xb = decide (z < 0) := ⟨_, rfl⟩
  rw [← hxb, ← hn]
  have hyx : yb = xb := by rw [Hyb.out, hxb]
  subst hyx
  have hb : Below w.heap.size w ((w.alloc (.cells #[.bool yb, .slice ao n ca] 24)).alloc (.cells #[.bool yb, .slice yo ym yc] 33)) := ((Below.refl _ _).alloc (Nat.le_refl _) _).alloc (by simp) _
  have hI := rint_any _ z Kb _ (Hy.out _ hb) hK
  have HI := hid hI; have HB := hid hb; have HR := hid hr; have Hn := hid hn
  have HD := hid (And.intro dL (And.intro nL eL)); have Hxb := hid hxb
  clear hI hb hr hn dL nL eL hxb hv
  go_enter Tryz.func40, Tryz.ntmps40
  go_wp2_with fail
  refine HI.out.mono ?_
  rintro e w1 ⟨_, rfl, ⟨bo, bc, M, rfl, hrM, dM, nM, eM, _⟩, hb1⟩
  rw [← Hxb.out]
  obtain rfl : L = M := val_inj B32_pos HD.out.1 dM HD.out.2.1 nM (by rw [HD.out.2.2, eM])
  rw [← Hn.out]
  obtain ⟨W1, hW1⟩ : ∃ W1, W1 = w1.alloc (.cells #[.bool yb, .slice bo n bc] 24) := ⟨_, rfl⟩
  have hb1' : Below w.heap.size w w1 := HB.out.trans (hb1.mono HB.out.size)
  have hbW : Below w.heap.size w W1 := by rw [hW1]; exact hb1'.alloc hb1'.size _
  have c0 : W1.cell? ⟨w.heap.size, 0, none⟩ = some (.bool yb) ∧ W1.cell? ⟨w.heap.size, 1, none⟩ = some (.slice ao n ca) := by
    have hlow : Below (w.heap.size + 1) ((w.alloc (.cells #[.bool yb, .slice ao n ca] 24)).alloc (.cells #[.bool yb, .slice yo ym yc] 33)) W1 := by
      rw [hW1]; exact (hb1.mono (by simp)).alloc (by have := hb1.size; simp at this; omega) _
    constructor <;> (rw [hlow.cell (by simp)]; simp [go_sem])
  have c1 : W1.cell? ⟨w1.heap.size, 0, none⟩ = some (.bool yb) ∧ W1.cell? ⟨w1.heap.size, 1, none⟩ = some (.slice bo n bc) := by rw [hW1]; constructor <;> simp [go_sem]
  have hs := sameWords_any ao bo ca bc L L W1 (HR.out.below hbW (Nat.le_refl _)) (by rw [hW1]; exact hrM.below ((Below.refl _ _).alloc (Nat.le_refl _) _) (Nat.le_refl _))
  rw [← Hn.out, decide_eq_true rfl] at hs
  obtain ⟨c00, c01⟩ := c0
  obtain ⟨c10, c11⟩ := c1
  have HS := hid hs; have HbW := hid hbW; have HW1 := hid hW1
  clear hs hbW hb1 hb1' hrM dM nM eM HD HR
  have hyy : (yb == yb) = true := by simp
  go_upto_region 2 with (fail)
  rw [← hW1]
  clear hW1
  go_wp2_with fail
  refine HS.out.mono ?_
  rintro e w2 ⟨rfl, nq, rfl⟩
  have HF := hid (below_drewN HbW.out nq)
  go_wp2
  go_ret
  exact ⟨rfl, HF.out⟩

/-- The value v (an api.Int) has these words. -/
def Lk (w : World) (v : Value) (neg : Bool) (W : List Int) : Prop := ∃ ao c, v = .agg #[.bool neg, .slice ao W.length c] ∧ Rd w .u32 ao c W

set_option maxRecDepth 100000 in
set_option maxHeartbeats 4000000 in
theorem likeInt_any (u v : Value) (neg : Bool) (W : List Int) (w : World) (hu : Lk w u neg W) (hv : Lk w v neg W) :
    Calls Tryz.prog 46 #[u, v] w fun e w' => e = .returned (.bool true) ∧ Below w.heap.size w w' := by
  obtain ⟨ao, ca, rfl, hr⟩ := hu
  obtain ⟨bo, cb, rfl, hr2⟩ := hv
  obtain ⟨n, hn⟩ : ∃ n, n = W.length := ⟨_, rfl⟩
  rw [← hn]
  have hb : Below w.heap.size w ((w.alloc (.cells #[.bool neg, .slice ao n ca] 24)).alloc (.cells #[.bool neg, .slice bo n cb] 24)) := ((Below.refl _ _).alloc (Nat.le_refl _) _).alloc (by simp) _
  have hs := sameWords_any ao bo ca cb W W _ (hr.below hb (Nat.le_refl _)) (hr2.below hb (Nat.le_refl _))
  rw [← hn, decide_eq_true rfl] at hs
  have HS := hid hs; have HB := hid hb
  have hyy : (neg == neg) = true := by simp
  clear hs hb hr hr2 hn
  go_enter Tryz.func46, Tryz.ntmps46
  go_wp2_with fail
  refine HS.out.mono ?_
  rintro e w2 ⟨rfl, nq, rfl⟩
  have HF := hid (below_drewN HB.out nq)
  go_wp2
  go_ret
  exact ⟨rfl, HF.out⟩

/-- Words that may be written over: they lie in blocks from B on. -/
def Sp (w : World) (B : Nat) (v : Value) : Prop := ∃ b ao n c, v = .agg #[.bool b, .slice ao n c] ∧ n ≤ 1073741824 ∧ n ≤ c ∧ c ≤ 9223372036854775807 ∧ (0 < n → ∃ g off, ao = some ⟨g, off, none⟩ ∧ B ≤ g ∧ ∀ i, i < n → (∃ x, 0 ≤ x ∧ x < 4294967296 ∧ w.cell? ⟨g, off + i, none⟩ = some (.int .u32 x)) ∧ w.frozen? ⟨g, off + i, none⟩ = false)
/-- What a spoilt world keeps. -/
structure Spd (B : Nat) (w w' : World) : Prop where
  low : Below B w w'
  siz : w.heap.size ≤ w'.heap.size
  cel : ∀ a v, w.cell? a = some v → (∀ x, v ≠ .int .u32 x) → w'.cell? a = some v
  u32 : ∀ a x, w.cell? a = some (.int .u32 x) → 0 ≤ x → x < 4294967296 → ∃ y, 0 ≤ y ∧ y < 4294967296 ∧ w'.cell? a = some (.int .u32 y)
  frz : ∀ a, a.block < w.heap.size → w'.frozen? a = w.frozen? a
theorem Spd.refl (B : Nat) (w : World) : Spd B w w := ⟨Below.refl _ _, Nat.le_refl _, fun _ _ h _ => h, fun _ x h h0 h1 => ⟨x, h0, h1, h⟩, fun _ _ => rfl⟩
theorem Spd.trans {B : Nat} {a b c : World} (h : Spd B a b) (g : Spd B b c) : Spd B a c :=
  ⟨h.low.trans g.low, Nat.le_trans h.siz g.siz, fun p _ e hn => g.cel p _ (h.cel p _ e hn) hn, fun p x e h0 h1 => by obtain ⟨y, y0, y1, e'⟩ := h.u32 p x e h0 h1; exact g.u32 p y e' y0 y1, fun p hp => (g.frz p (Nat.lt_of_lt_of_le hp h.siz)).trans (h.frz p hp)⟩
theorem Spd.of_below {B : Nat} {w w' : World} (hb : Below w.heap.size w w') (hB : B ≤ w.heap.size) : Spd B w w' :=
  ⟨hb.mono hB, hb.size, fun a _ e _ => (hb.cell (World.block_lt_of_cell? w a e)).trans e, fun a x e h0 h1 => ⟨x, h0, h1, (hb.cell (World.block_lt_of_cell? w a e)).trans e⟩, fun _ ha => hb.frozen ha⟩
theorem Spd.drewN {B : Nat} {w w' : World} (h : Spd B w w') (n : Nat) : Spd B w (w'.drewN n) := ⟨below_drewN h.low n, h.siz, h.cel, h.u32, h.frz⟩
theorem Spd.set {B : Nat} {w w' : World} (h : Spd B w w') {a : Addr} (ha : B ≤ a.block) {x y : Int} (hx : w'.cell? a = some (.int .u32 x)) (y0 : 0 ≤ y) (y1 : y < 4294967296) : Spd B w (w'.setCell a (.int .u32 y)) := by
  refine ⟨h.low.setCell ha _, by simpa using h.siz, fun p _ e hn => ?_, fun p z e h0 h1 => ?_, fun p hp => ?_⟩
  · have e' := h.cel p _ e hn
    have hne : a ≠ p := by rintro rfl; rw [hx] at e'; exact hn x (Option.some.inj e').symm
    exact (World.cell?_setCell_other w' a _ _ hne).trans e'
  · obtain ⟨u, u0, u1, e'⟩ := h.u32 p z e h0 h1
    by_cases hne : a = p
    · subst hne
      exact ⟨y, y0, y1, World.cell?_setCell_same w' a _ hx⟩
    · exact ⟨u, u0, u1, (World.cell?_setCell_other w' a _ _ hne).trans e'⟩
  · rw [World.frozen?_setCell]; exact h.frz p hp

theorem bits_xor_u32 (x y : Int) : ∃ z, 0 ≤ z ∧ z < 4294967296 ∧ bits .xor .u32 x y = z := by
  refine ⟨bits .xor .u32 x y, ?_, ?_, rfl⟩
  · show 0 ≤ IntKind.u32.wrap ((BitVec.ofInt 32 x ^^^ BitVec.ofInt 32 y).toNat : Int)
    rw [IntKind.wrap_u32]; exact Int.emod_nonneg _ (by decide)
  · show IntKind.u32.wrap ((BitVec.ofInt 32 x ^^^ BitVec.ofInt 32 y).toNat : Int) < 4294967296
    rw [IntKind.wrap_u32]; exact Int.emod_lt_of_pos _ (by decide)

set_option maxRecDepth 100000 in
set_option maxHeartbeats 4000000 in
theorem spoil_any (B : Nat) (v : Value) (w : World) (hv : Sp w B v) (hB : B ≤ w.heap.size) :
    Calls Tryz.prog 60 #[v] w fun e w' => e = .returned (.tuple #[]) ∧ Spd B w w' := by
  obtain ⟨b, ao, n, c, rfl, hn, hnc, hcm, hp⟩ := hv
  have hb : Below w.heap.size w (w.alloc (.cells #[.bool b, .slice ao n c] 24)) := (Below.refl _ _).alloc (Nat.le_refl _) _
  have HS0 := hid (Spd.of_below (B := B) hb hB)
  have HBx := hid (show (w.alloc (.cells #[.bool b, .slice ao n c] 24)).cell? ⟨w.heap.size, 1, none⟩ = some (.slice ao n c) by simp [go_sem])
  have HP := hid hp
  clear hp hb
  go_enter Tryz.func60, Tryz.ntmps60
  go_wp2
  obtain ⟨W0, hW0⟩ : ∃ W0, W0 = w.alloc (.cells #[.bool b, .slice ao n c] 24) := ⟨_, rfl⟩
  rw [← hW0] at HS0 HBx ⊢
  have Hsz := hid (show W0.heap.size = w.heap.size + 1 by rw [hW0]; simp)
  clear hW0
  go_loopw [6] (fun iv wr => ∃ k : Nat, k ≤ n ∧ iv = .int .i64 k ∧ Spd B w wr ∧ wr.cell? ⟨w.heap.size, 1, none⟩ = some (.slice ao n c)) (fun iv _ => n - (intOf iv).toNat)
  case atStart => exact ⟨0, Nat.zero_le _, rfl, HS0.out, HBx.out⟩
  case round =>
    obtain ⟨k, hk, rfl, HS, hbx⟩ := hrel
    by_cases hlt : k < n
    · obtain ⟨g, off, rfl, hBg, hcells⟩ := HP.out (by omega)
      obtain ⟨⟨x, x0, x1, hx⟩, hf⟩ := hcells k hlt
      obtain ⟨y, y0, y1, hy⟩ := HS.u32 _ x hx x0 x1
      have hf' := (HS.frz _ (World.block_lt_of_cell? w _ hx)).trans hf
      obtain ⟨z, z0, z1, hz⟩ := bits_xor_u32 y 1515870810
      have HSt := hid (HS.set (a := ⟨g, off + k, none⟩) hBg hy z0 z1)
      have hne : (⟨g, off + k, none⟩ : Addr) ≠ ⟨w.heap.size, 1, none⟩ := by
        intro e
        have := World.block_lt_of_cell? w _ hx
        simp at e this; omega
      have HBx2 := hid ((World.cell?_setCell_other wr _ _ (.int .u32 z) hne).trans hbx)
      have hk0 : (0 : Int) ≤ (k : Int) := by omega
      clear HS hcells hx hf HS0 HBx hne
      go_wp2
      go_roundw
      case rel => exact ⟨k + 1, by omega, by go_num, HSt.out, HBx2.out⟩
      case measure => simp [intOf]; omega
    · obtain rfl : k = n := by omega
      have HF := hid HS
      clear HS HS0 HBx
      go_wp2
      (try simp only [Exit.inBlock, Exit.then]); exact bodyPost_end (results_none rfl _ _ _) rfl ⟨rfl, HF.out⟩

end Go.Proofs.YtbapeilpkhbbeaaGreat
