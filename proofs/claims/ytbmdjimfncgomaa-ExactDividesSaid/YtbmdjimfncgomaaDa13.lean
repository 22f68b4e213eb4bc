/- The document's own integers: Div (the quotient rounded down, and its rest). Written by gen_rdiv.py. exact.Normal, Neg, Add, Sub. Written by gen_int3.py. -/
import Derived.Test.YtbmdjimfncgomaaDa12
import Derived.Deep.DeepCutAuto
import Derived.Test.YtbmdjimfncgomaaDa10
/- The document's own integers: Div (the quotient rounded down, and its rest). Written by gen_rdiv.py. -/
namespace Go.Proofs.Ytbmdjimfncgomaa
open Go.RowKit

/-- A result of Div: both numbers, and the error. -/
def RetZZ (w : World) (q r : Int) (Kq Kr : Nat) (err : Int) (e : Ending) (w' : World) : Prop := ∃ v1 v2, e = .returned (.tuple #[v1, v2, .int .i64 err]) ∧ Zt w' v1 q Kq ∧ Zt w' v2 r Kr ∧ Below w.heap.size w w'

theorem zt_keeps {z : Int} {K : Nat} {w w' : World} {v : Value} (hk : Keeps .i64 w w') (h : Zt w v z K) : Zt w' v z K := by
  obtain ⟨s, rfl, ao, c, L, rfl, h⟩ := h
  exact ⟨_, rfl, ao, c, L, rfl, h.rd.keeps hk, h.dig, h.nrm, h.eq, h.le⟩
theorem zt_zero (w : World) : Zt w (.agg #[.bool false, .slice none 0 0]) 0 0 := ⟨_, rfl, Md.nil w⟩
theorem one_md {w : World} : Md (w.alloc (.cells #[.int .i64 1] 3 (0, 0))) (.slice (some ⟨w.heap.size, 0, none⟩) 1 1) 1 1 :=
  ⟨_, 1, [1], rfl, rowi_rd (show Row .i64 3 _ _ [1] from heap_alloc_new w _) (by simp) (by simp), Dig.cons (by decide) (by decide) (Dig.nil _), by simp [Nrm, trimL], by decide, by decide⟩

set_option maxRecDepth 100000 in
set_option maxHeartbeats 2000000 in
theorem rdiv_zero (u v : Value) (x : Int) (K : Nat) (w : World) (hu : Zt w u x K) (hv : Zt w v 0 K) :
    Calls Try.prog 27 #[u, v] w (RetZZ w 0 0 0 0 10) := by
  obtain ⟨xb, xo, xm, xc, rfl, Hx, Hxs, Hxb⟩ := Zt.opened hu
  obtain ⟨_, rfl, yo, yc, YL, rfl, hy⟩ := hv
  obtain ⟨ym, hym⟩ : ∃ ym, ym = YL.length := ⟨_, rfl⟩
  have h0 : ym = 0 := by rw [hym]; exact hy.zero_iff.2 (by simp)
  rw [← hym]
  obtain ⟨yb, hyb⟩ : ∃ yb, yb = decide ((0 : Int) < 0) := ⟨_, rfl⟩
  rw [← hyb]
  subst h0
  clear hy hym hyb hu
  go_enter Try.func27, Try.ntmps27
  go_upto_region 1 with (fail)
  obtain ⟨W0, hW0⟩ : ∃ W0, W0 = ((((w.alloc (.cells #[.bool xb, .slice xo xm xc] 28)).alloc (.cells #[.bool yb, .slice yo 0 yc] 28)).alloc (.cells #[.bool false, .slice none 0 0] 28)).alloc (.cells #[.bool false, .slice none 0 0] 28)) := ⟨_, rfl⟩
  have hB0 : Below w.heap.size w W0 := by rw [hW0]; exact ((((Below.refl _ _).alloc (by simp <;> omega) _).alloc (by simp <;> omega) _).alloc (by simp <;> omega) _).alloc (by simp <;> omega) _
  have hz0 : W0.heap.size = w.heap.size + 4 := by rw [hW0]; simp
  have HS : Hid (∀ w', Below (w.heap.size + 2) W0 w' → w'.cell? ⟨w.heap.size, 0, none⟩ = some (.bool xb) ∧ w'.cell? ⟨w.heap.size, 1, none⟩ = some (.slice xo xm xc) ∧ w'.cell? ⟨w.heap.size + 1, 0, none⟩ = some (.bool yb) ∧ w'.cell? ⟨w.heap.size + 1, 1, none⟩ = some (.slice yo 0 yc)) := hid (fun w' hb => by
    refine ⟨?_, ?_, ?_, ?_⟩ <;> (first | (rw [hb.cell (by simp <;> omega), hW0]; simp [go_sem]; done) | (rw [hb.frozen (by simp <;> omega), hW0]; simp [go_sem]; done)))
  have HT : Hid (∀ w', Below (w.heap.size + 4) W0 w' → (w'.cell? ⟨w.heap.size + 2, 0, none⟩ = some (.bool false) ∧ w'.cell? ⟨w.heap.size + 2, 1, none⟩ = some (.slice none 0 0) ∧ w'.frozen? ⟨w.heap.size + 2, 0, none⟩ = false ∧ w'.frozen? ⟨w.heap.size + 2, 1, none⟩ = false) ∧ (w'.cell? ⟨w.heap.size + 3, 0, none⟩ = some (.bool false) ∧ w'.cell? ⟨w.heap.size + 3, 1, none⟩ = some (.slice none 0 0) ∧ w'.frozen? ⟨w.heap.size + 3, 0, none⟩ = false ∧ w'.frozen? ⟨w.heap.size + 3, 1, none⟩ = false)) := hid (fun w' hb => by
    refine ⟨⟨?_, ?_, ?_, ?_⟩, ?_, ?_, ?_, ?_⟩ <;> (first | (rw [hb.cell (by simp <;> omega), hW0]; simp [go_sem]; done) | (rw [hb.frozen (by simp <;> omega), hW0]; simp [go_sem]; done)))
  rw [← hW0]
  clear hW0
  obtain ⟨k0, k1, k2, k3⟩ := HS.out _ (Below.refl _ _)
  obtain ⟨⟨hr0, hr1, hr2, hr3⟩, hs0, hs1, hs2, hs3⟩ := HT.out _ (Below.refl _ _)
  go_wp2
  refine bodyPost_ret (v := .tuple #[.agg #[.bool false, .slice none 0 0], .agg #[.bool false, .slice none 0 0], .int .i64 10]) (by simp [results, Try.results27, go_sem, hr0, hr1, hs0, hs1]) rfl ⟨_, _, rfl, zt_zero _, zt_zero _, (((hB0.setCell (by simp <;> omega) _).setCell (by simp <;> omega) _).setCell (by simp <;> omega) _).setCell (by simp <;> omega) _⟩

theorem fdiv_uniq {x y q r : Int} (e : x = q * y + r) (h : (0 ≤ r ∧ r < y) ∨ (y < r ∧ r ≤ 0)) : x.fdiv y = q ∧ x.fmod y = r := by
  rcases h with ⟨h0, h1⟩ | ⟨h0, h1⟩
  · have hy : 0 < y := by omega
    rw [Int.fdiv_eq_ediv_of_nonneg _ (Int.le_of_lt hy), Int.fmod_eq_emod_of_nonneg _ (Int.le_of_lt hy)]
    exact (Int.ediv_emod_unique hy).2 ⟨by rw [e, Int.mul_comm]; omega, h0, h1⟩
  · have hy : 0 < -y := by omega
    have hq : x.fdiv y = q := by
      rw [← Int.neg_fdiv_neg, Int.fdiv_eq_ediv_of_nonneg _ (Int.le_of_lt hy)]
      exact ((Int.ediv_emod_unique (a := -x) (r := -r) (q := q) hy).2 ⟨by rw [e, Int.mul_comm q y, Int.neg_mul]; omega, by omega, by omega⟩).1
    refine ⟨hq, ?_⟩
    rw [Int.fmod_def, hq, e, Int.mul_comm]
    omega
theorem abs_div (x y : Int) (hy : y ≠ 0) : (x.natAbs : Int) = (x.natAbs : Int) / (y.natAbs : Int) * (y.natAbs : Int) + (x.natAbs : Int) % (y.natAbs : Int) ∧ 0 ≤ (x.natAbs : Int) % (y.natAbs : Int) ∧ (x.natAbs : Int) % (y.natAbs : Int) < (y.natAbs : Int) := by
  have h : (0 : Int) < (y.natAbs : Int) := by omega
  refine ⟨?_, Int.emod_nonneg _ (by omega), Int.emod_lt_of_pos _ h⟩
  have := Int.emod_add_mul_ediv (x.natAbs : Int) (y.natAbs : Int)
  rw [Int.mul_comm ((x.natAbs : Int) / (y.natAbs : Int))]
  omega
theorem fdiv_same (x y : Int) (hy : y ≠ 0) (hs : decide (x < 0) = decide (y < 0)) : sgn false ((x.natAbs : Int) / (y.natAbs : Int)) = x.fdiv y ∧ sgn (decide (x < 0)) ((x.natAbs : Int) % (y.natAbs : Int)) = x.fmod y := by
  obtain ⟨e, h0, h1⟩ := abs_div x y hy
  generalize (x.natAbs : Int) / (y.natAbs : Int) = q at *
  generalize (x.natAbs : Int) % (y.natAbs : Int) = r at *
  by_cases hx : x < 0
  · have hy2 : y < 0 := by simpa [hx] using hs.symm
    have ea : (x.natAbs : Int) = -x := by omega
    have eb : (y.natAbs : Int) = -y := by omega
    rw [ea, eb] at e
    rw [eb] at h1
    have h := fdiv_uniq (x := x) (y := y) (q := q) (r := -r) (by rw [Int.mul_neg] at e; omega) (Or.inr ⟨by omega, by omega⟩)
    simp only [sgn, hx, decide_true, if_true, h.1, h.2]
    simp
  · have hy2 : ¬ y < 0 := by simpa [hx] using hs.symm
    have ea : (x.natAbs : Int) = x := by omega
    have eb : (y.natAbs : Int) = y := by omega
    rw [ea, eb] at e
    rw [eb] at h1
    have h := fdiv_uniq (x := x) (y := y) (q := q) (r := r) (by omega) (Or.inl ⟨by omega, by omega⟩)
    simp [sgn, hx, h.1, h.2]
theorem fdiv_even (x y : Int) (hy : y ≠ 0) (hs : decide (x < 0) ≠ decide (y < 0)) (hr : (x.natAbs : Int) % (y.natAbs : Int) = 0) : sgn true ((x.natAbs : Int) / (y.natAbs : Int)) = x.fdiv y ∧ sgn (decide (x < 0)) ((x.natAbs : Int) % (y.natAbs : Int)) = x.fmod y := by
  obtain ⟨e, h0, h1⟩ := abs_div x y hy
  rw [hr] at e ⊢
  generalize (x.natAbs : Int) / (y.natAbs : Int) = q at *
  by_cases hx : x < 0
  · have hy2 : ¬ y < 0 := by simpa [hx] using hs
    have ea : (x.natAbs : Int) = -x := by omega
    have eb : (y.natAbs : Int) = y := by omega
    rw [ea, eb] at e
    have h := fdiv_uniq (x := x) (y := y) (q := -q) (r := 0) (by rw [Int.neg_mul]; omega) (Or.inl ⟨by omega, by omega⟩)
    simp [sgn, h.1, h.2]
  · have hy2 : y < 0 := by simpa [hx] using hs
    have ea : (x.natAbs : Int) = x := by omega
    have eb : (y.natAbs : Int) = -y := by omega
    rw [ea, eb] at e
    have h := fdiv_uniq (x := x) (y := y) (q := -q) (r := 0) (by rw [Int.neg_mul]; rw [Int.mul_neg] at e; omega) (Or.inr ⟨by omega, by omega⟩)
    simp [sgn, h.1, h.2]
theorem fdiv_floor (x y : Int) (hy : y ≠ 0) (hs : decide (x < 0) ≠ decide (y < 0)) (hr : (x.natAbs : Int) % (y.natAbs : Int) ≠ 0) :
    sgn true ((x.natAbs : Int) / (y.natAbs : Int) + 1) = x.fdiv y ∧ sgn (decide (y < 0)) ((y.natAbs : Int) - (x.natAbs : Int) % (y.natAbs : Int)) = x.fmod y := by
  obtain ⟨e, h0, h1⟩ := abs_div x y hy
  generalize (x.natAbs : Int) / (y.natAbs : Int) = q at *
  generalize (x.natAbs : Int) % (y.natAbs : Int) = r at *
  by_cases hx : x < 0
  · have hy2 : ¬ y < 0 := by simpa [hx] using hs
    have ea : (x.natAbs : Int) = -x := by omega
    have eb : (y.natAbs : Int) = y := by omega
    rw [ea, eb] at e
    rw [eb] at h1 ⊢
    have h := fdiv_uniq (x := x) (y := y) (q := -(q + 1)) (r := y - r) (by rw [Int.neg_mul, Int.add_mul]; omega) (Or.inl ⟨by omega, by omega⟩)
    simp [sgn, h.1, h.2, hy2]
  · have hy2 : y < 0 := by simpa [hx] using hs
    have ea : (x.natAbs : Int) = x := by omega
    have eb : (y.natAbs : Int) = -y := by omega
    rw [ea, eb] at e
    rw [eb] at h1 ⊢
    have h := fdiv_uniq (x := x) (y := y) (q := -(q + 1)) (r := y + r) (by rw [Int.neg_mul, Int.add_mul]; rw [Int.mul_neg] at e; omega) (Or.inr ⟨by omega, by omega⟩)
    simp [sgn, h.1, h.2, hy2]
    omega

set_option maxRecDepth 100000 in
set_option maxHeartbeats 2000000 in
theorem rdiv_same (u v : Value) (x y : Int) (K : Nat) (w : World) (hu : Zt w u x K) (hv : Zt w v y K) (hy : y ≠ 0) (hK : K ≤ 1073741822) (hs : decide (x < 0) = decide (y < 0)) :
    Calls Try.prog 27 #[u, v] w (RetZZ w (x.fdiv y) (x.fmod y) (K + 2) K 0) := by
  obtain ⟨xb, xo, xm, xc, rfl, Hx, Hxs, Hxb⟩ := Zt.opened hu
  obtain ⟨yb, yo, ym, yc, rfl, Hy, Hys, Hyb⟩ := Zt.opened hv
  have hy0 : (0 : Int) < (y.natAbs : Int) := by omega
  have hym : ym ≠ 0 := by
    obtain ⟨ao, c, L, e, hl⟩ := Hys.out _ (Below.refl _ _)
    obtain ⟨_, rfl, _⟩ := Value.slice.inj e
    intro h0
    have := hl.zero_iff.1 h0
    omega
  have hb : xb = yb := by rw [Hxb.out, Hyb.out, hs]
  subst hb
  have HE := hid (fdiv_same x y hy hs)
  clear hu hv
  go_enter Try.func27, Try.ntmps27
  go_upto_region 1 with (fail)
  obtain ⟨W0, hW0⟩ : ∃ W0, W0 = ((((w.alloc (.cells #[.bool xb, .slice xo xm xc] 28)).alloc (.cells #[.bool xb, .slice yo ym yc] 28)).alloc (.cells #[.bool false, .slice none 0 0] 28)).alloc (.cells #[.bool false, .slice none 0 0] 28)) := ⟨_, rfl⟩
  have hB0 : Below w.heap.size w W0 := by rw [hW0]; exact ((((Below.refl _ _).alloc (by simp <;> omega) _).alloc (by simp <;> omega) _).alloc (by simp <;> omega) _).alloc (by simp <;> omega) _
  have hz0 : W0.heap.size = w.heap.size + 4 := by rw [hW0]; simp
  have HS : Hid (∀ w', Below (w.heap.size + 2) W0 w' → w'.cell? ⟨w.heap.size, 0, none⟩ = some (.bool xb) ∧ w'.cell? ⟨w.heap.size, 1, none⟩ = some (.slice xo xm xc) ∧ w'.cell? ⟨w.heap.size + 1, 0, none⟩ = some (.bool xb) ∧ w'.cell? ⟨w.heap.size + 1, 1, none⟩ = some (.slice yo ym yc)) := hid (fun w' hb => by
    refine ⟨?_, ?_, ?_, ?_⟩ <;> (first | (rw [hb.cell (by simp <;> omega), hW0]; simp [go_sem]; done) | (rw [hb.frozen (by simp <;> omega), hW0]; simp [go_sem]; done)))
  have HT : Hid (∀ w', Below (w.heap.size + 4) W0 w' → (w'.cell? ⟨w.heap.size + 2, 0, none⟩ = some (.bool false) ∧ w'.cell? ⟨w.heap.size + 2, 1, none⟩ = some (.slice none 0 0) ∧ w'.frozen? ⟨w.heap.size + 2, 0, none⟩ = false ∧ w'.frozen? ⟨w.heap.size + 2, 1, none⟩ = false) ∧ (w'.cell? ⟨w.heap.size + 3, 0, none⟩ = some (.bool false) ∧ w'.cell? ⟨w.heap.size + 3, 1, none⟩ = some (.slice none 0 0) ∧ w'.frozen? ⟨w.heap.size + 3, 0, none⟩ = false ∧ w'.frozen? ⟨w.heap.size + 3, 1, none⟩ = false)) := hid (fun w' hb => by
    refine ⟨⟨?_, ?_, ?_, ?_⟩, ?_, ?_, ?_, ?_⟩ <;> (first | (rw [hb.cell (by simp <;> omega), hW0]; simp [go_sem]; done) | (rw [hb.frozen (by simp <;> omega), hW0]; simp [go_sem]; done)))
  rw [← hW0]
  clear hW0
  obtain ⟨k0, k1, k2, k3⟩ := HS.out _ (Below.refl _ _)
  go_wp2_with fail
  refine (rlong_any _ _ _ _ K K _ (Hxs.out _ hB0) (Hys.out _ hB0) hy0 hK hK).mono ?_
  rintro e w1 ⟨_, _, rfl, hq, hr, hb1⟩
  obtain ⟨qo, qm, qc, rfl, Hq⟩ := Md.opened hq
  obtain ⟨ro, rm, rc, rfl, Hr⟩ := Md.opened hr
  have hB1 : Below (w.heap.size + 4) W0 w1 := hb1.mono (by omega)
  have hB1s : Below (w.heap.size + 2) W0 w1 := hB1.mono (by omega)
  clear hq hr hb1 k0 k1 k2 k3
  obtain ⟨k0, k1, k2, k3⟩ := HS.out _ hB1s
  go_wp2
  clear k0 k1 k2 k3
  go_region_held3 (fun w' => w'.cell? ⟨w.heap.size, 0, none⟩ = some (.bool xb) ∧ w'.cell? ⟨w.heap.size, 1, none⟩ = some (.slice xo xm xc) ∧ w'.cell? ⟨w.heap.size + 1, 0, none⟩ = some (.bool xb) ∧ w'.cell? ⟨w.heap.size + 1, 1, none⟩ = some (.slice yo ym yc)) ((refine HS.out _ ?_; repeat (first | assumption | exact Below.refl _ _ | exact (Below.refl _ _).drew | exact Below.drew (by assumption) | (refine Below.setCell ?_ (by simp) _)))) (first
    | (go_at_call_of 44 (qo); refine (made_any false _ _ K _ ((Hq.out _ ((Below.refl _ _).drew)).dg)).mono ?_; rintro e w2 ⟨_, rfl, hv2, hb2⟩; obtain ⟨b2, o2, m2, c2, rfl, H2, H2s, H2b⟩ := Zt.opened hv2; have hB2 : Below (w.heap.size + 4) W0 w2 := hB1.drew.trans (hb2.mono (by have := hB1.size; simp; omega)); have hB2s : Below (w.heap.size + 2) W0 w2 := hB2.mono (by omega))
    | (go_at_call_of 44 (ro); refine (made_any xb _ _ K _ ((Hr.out _ ((Below.refl _ _).drew.trans (hb2.mono (Nat.le_refl _)))).dg)).mono ?_; rintro e w3 ⟨_, rfl, hv3, hb3⟩; obtain ⟨b3, o3, m3, c3, rfl, H3, H3s, H3b⟩ := Zt.opened hv3; have hB3 : Below (w.heap.size + 4) W0 w3 := hB2.trans (hb3.mono (by have := hB2.size; omega)); have hB3s : Below (w.heap.size + 2) W0 w3 := hB3.mono (by omega); obtain ⟨⟨hr0, hr1, hr2, hr3⟩, hs0, hs1, hs2, hs3⟩ := HT.out _ hB3))
  go_wp2
  have hbel : Below w.heap.size w w3 := hB0.trans (hB3.mono (by omega))
  have h23 := H2.out w3 hb3
  have h33 := H3.out w3 (Below.refl _ _)
  refine bodyPost_ret (v := .tuple #[.agg #[.bool b2, .slice o2 m2 c2], .agg #[.bool b3, .slice o3 m3 c3], .int .i64 0]) (by simp [results, Try.results27, go_sem, hr0, hr1, hs0, hs1]) rfl ⟨_, _, rfl, ?_, ?_, (((hbel.setCell (by simp <;> omega) _).setCell (by simp <;> omega) _).setCell (by simp <;> omega) _).setCell (by simp <;> omega) _⟩
  · rw [← HE.out.1]
    exact Zt.mono (zt_keeps ((((((Keeps.refl _ _).setCell (u := .bool false) hr0 (fun x h => (by cases h)) _).setCell (u := .slice none 0 0) (by simp [go_sem, hr1]) (fun x h => (by cases h)) _).setCell (u := .bool false) (by simp [go_sem, hs0]) (fun x h => (by cases h)) _).setCell (u := .slice none 0 0) (by simp [go_sem, hs1]) (fun x h => (by cases h)) _)) h23) (Nat.le_add_right _ _)
  · rw [← HE.out.2, ← Hxb.out]
    exact zt_keeps ((((((Keeps.refl _ _).setCell (u := .bool false) hr0 (fun x h => (by cases h)) _).setCell (u := .slice none 0 0) (by simp [go_sem, hr1]) (fun x h => (by cases h)) _).setCell (u := .bool false) (by simp [go_sem, hs0]) (fun x h => (by cases h)) _).setCell (u := .slice none 0 0) (by simp [go_sem, hs1]) (fun x h => (by cases h)) _)) h33

set_option maxRecDepth 100000 in
set_option maxHeartbeats 2000000 in
theorem rdiv_even (u v : Value) (x y : Int) (K : Nat) (w : World) (hu : Zt w u x K) (hv : Zt w v y K) (hy : y ≠ 0) (hK : K ≤ 1073741822) (hs : decide (x < 0) ≠ decide (y < 0)) (hrr : (x.natAbs : Int) % (y.natAbs : Int) = 0) :
    Calls Try.prog 27 #[u, v] w (RetZZ w (x.fdiv y) (x.fmod y) (K + 2) K 0) := by
  obtain ⟨xb, xo, xm, xc, rfl, Hx, Hxs, Hxb⟩ := Zt.opened hu
  obtain ⟨yb, yo, ym, yc, rfl, Hy, Hys, Hyb⟩ := Zt.opened hv
  have hy0 : (0 : Int) < (y.natAbs : Int) := by omega
  have hym : ym ≠ 0 := by
    obtain ⟨ao, c, L, e, hl⟩ := Hys.out _ (Below.refl _ _)
    obtain ⟨_, rfl, _⟩ := Value.slice.inj e
    intro h0
    have := hl.zero_iff.1 h0
    omega
  have hb : (xb == yb) = false := by rw [beq_eq_false_iff_ne, Hxb.out, Hyb.out]; exact hs
  have hb' : ¬ xb = yb := by simpa using hb
  have hbn : (xb != yb) = true := by simpa using hb'
  have HR0 := hid hrr
  have HE := hid (fdiv_even x y hy hs hrr)
  clear hu hv
  go_enter Try.func27, Try.ntmps27
  go_upto_region 1 with (fail)
  obtain ⟨W0, hW0⟩ : ∃ W0, W0 = ((((w.alloc (.cells #[.bool xb, .slice xo xm xc] 28)).alloc (.cells #[.bool yb, .slice yo ym yc] 28)).alloc (.cells #[.bool false, .slice none 0 0] 28)).alloc (.cells #[.bool false, .slice none 0 0] 28)) := ⟨_, rfl⟩
  have hB0 : Below w.heap.size w W0 := by rw [hW0]; exact ((((Below.refl _ _).alloc (by simp <;> omega) _).alloc (by simp <;> omega) _).alloc (by simp <;> omega) _).alloc (by simp <;> omega) _
  have hz0 : W0.heap.size = w.heap.size + 4 := by rw [hW0]; simp
  have HS : Hid (∀ w', Below (w.heap.size + 2) W0 w' → w'.cell? ⟨w.heap.size, 0, none⟩ = some (.bool xb) ∧ w'.cell? ⟨w.heap.size, 1, none⟩ = some (.slice xo xm xc) ∧ w'.cell? ⟨w.heap.size + 1, 0, none⟩ = some (.bool yb) ∧ w'.cell? ⟨w.heap.size + 1, 1, none⟩ = some (.slice yo ym yc)) := hid (fun w' hb => by
    refine ⟨?_, ?_, ?_, ?_⟩ <;> (first | (rw [hb.cell (by simp <;> omega), hW0]; simp [go_sem]; done) | (rw [hb.frozen (by simp <;> omega), hW0]; simp [go_sem]; done)))
  have HT : Hid (∀ w', Below (w.heap.size + 4) W0 w' → (w'.cell? ⟨w.heap.size + 2, 0, none⟩ = some (.bool false) ∧ w'.cell? ⟨w.heap.size + 2, 1, none⟩ = some (.slice none 0 0) ∧ w'.frozen? ⟨w.heap.size + 2, 0, none⟩ = false ∧ w'.frozen? ⟨w.heap.size + 2, 1, none⟩ = false) ∧ (w'.cell? ⟨w.heap.size + 3, 0, none⟩ = some (.bool false) ∧ w'.cell? ⟨w.heap.size + 3, 1, none⟩ = some (.slice none 0 0) ∧ w'.frozen? ⟨w.heap.size + 3, 0, none⟩ = false ∧ w'.frozen? ⟨w.heap.size + 3, 1, none⟩ = false)) := hid (fun w' hb => by
    refine ⟨⟨?_, ?_, ?_, ?_⟩, ?_, ?_, ?_, ?_⟩ <;> (first | (rw [hb.cell (by simp <;> omega), hW0]; simp [go_sem]; done) | (rw [hb.frozen (by simp <;> omega), hW0]; simp [go_sem]; done)))
  rw [← hW0]
  clear hW0
  obtain ⟨k0, k1, k2, k3⟩ := HS.out _ (Below.refl _ _)
  go_wp2_with fail
  refine (rlong_any _ _ _ _ K K _ (Hxs.out _ hB0) (Hys.out _ hB0) hy0 hK hK).mono ?_
  rintro e w1 ⟨_, _, rfl, hq, hr, hb1⟩
  obtain ⟨qo, qm, qc, rfl, Hq⟩ := Md.opened hq
  obtain ⟨ro, rm, rc, rfl, Hr⟩ := Md.opened hr
  have hB1 : Below (w.heap.size + 4) W0 w1 := hb1.mono (by omega)
  have hB1s : Below (w.heap.size + 2) W0 w1 := hB1.mono (by omega)
  have hrm : rm = 0 := by
    obtain ⟨ao, c, L, e, hl⟩ := hr
    obtain ⟨_, rfl, _⟩ := Value.slice.inj e
    exact hl.zero_iff.2 HR0.out
  subst hrm
  clear hq hr hb1 k0 k1 k2 k3
  obtain ⟨k0, k1, k2, k3⟩ := HS.out _ hB1s
  go_wp2
  clear k0 k1 k2 k3
  go_region_held3 (fun w' => w'.cell? ⟨w.heap.size, 0, none⟩ = some (.bool xb) ∧ w'.cell? ⟨w.heap.size, 1, none⟩ = some (.slice xo xm xc) ∧ w'.cell? ⟨w.heap.size + 1, 0, none⟩ = some (.bool yb) ∧ w'.cell? ⟨w.heap.size + 1, 1, none⟩ = some (.slice yo ym yc)) ((refine HS.out _ ?_; repeat (first | assumption | exact Below.refl _ _ | exact (Below.refl _ _).drew | exact Below.drew (by assumption) | (refine Below.setCell ?_ (by simp) _)))) (first
    | (go_at_call_of 44 (qo); refine (made_any true _ _ K _ ((Hq.out _ ((Below.refl _ _).drew)).dg)).mono ?_; rintro e w2 ⟨_, rfl, hv2, hb2⟩; obtain ⟨b2, o2, m2, c2, rfl, H2, H2s, H2b⟩ := Zt.opened hv2; have hB2 : Below (w.heap.size + 4) W0 w2 := hB1.drew.trans (hb2.mono (by have := hB1.size; simp; omega)); have hB2s : Below (w.heap.size + 2) W0 w2 := hB2.mono (by omega))
    | (go_at_call_of 44 (ro); refine (made_any xb _ _ K _ ((Hr.out _ ((Below.refl _ _).drew.trans (hb2.mono (Nat.le_refl _)))).dg)).mono ?_; rintro e w3 ⟨_, rfl, hv3, hb3⟩; obtain ⟨b3, o3, m3, c3, rfl, H3, H3s, H3b⟩ := Zt.opened hv3; have hB3 : Below (w.heap.size + 4) W0 w3 := hB2.trans (hb3.mono (by have := hB2.size; omega)); have hB3s : Below (w.heap.size + 2) W0 w3 := hB3.mono (by omega); obtain ⟨⟨hr0, hr1, hr2, hr3⟩, hs0, hs1, hs2, hs3⟩ := HT.out _ hB3))
  go_wp2
  have hbel : Below w.heap.size w w3 := hB0.trans (hB3.mono (by omega))
  have h23 := H2.out w3 hb3
  have h33 := H3.out w3 (Below.refl _ _)
  refine bodyPost_ret (v := .tuple #[.agg #[.bool b2, .slice o2 m2 c2], .agg #[.bool b3, .slice o3 m3 c3], .int .i64 0]) (by simp [results, Try.results27, go_sem, hr0, hr1, hs0, hs1]) rfl ⟨_, _, rfl, ?_, ?_, (((hbel.setCell (by simp <;> omega) _).setCell (by simp <;> omega) _).setCell (by simp <;> omega) _).setCell (by simp <;> omega) _⟩
  · rw [← HE.out.1]
    exact Zt.mono (zt_keeps ((((((Keeps.refl _ _).setCell (u := .bool false) hr0 (fun x h => (by cases h)) _).setCell (u := .slice none 0 0) (by simp [go_sem, hr1]) (fun x h => (by cases h)) _).setCell (u := .bool false) (by simp [go_sem, hs0]) (fun x h => (by cases h)) _).setCell (u := .slice none 0 0) (by simp [go_sem, hs1]) (fun x h => (by cases h)) _)) h23) (Nat.le_add_right _ _)
  · rw [← HE.out.2, ← Hxb.out]
    exact zt_keeps ((((((Keeps.refl _ _).setCell (u := .bool false) hr0 (fun x h => (by cases h)) _).setCell (u := .slice none 0 0) (by simp [go_sem, hr1]) (fun x h => (by cases h)) _).setCell (u := .bool false) (by simp [go_sem, hs0]) (fun x h => (by cases h)) _).setCell (u := .slice none 0 0) (by simp [go_sem, hs1]) (fun x h => (by cases h)) _)) h33

set_option maxRecDepth 100000 in
set_option maxHeartbeats 2000000 in
theorem rdiv_floor (u v : Value) (x y : Int) (K : Nat) (w : World) (hu : Zt w u x K) (hv : Zt w v y K) (hy : y ≠ 0) (hK : K ≤ 1073741822) (hs : decide (x < 0) ≠ decide (y < 0)) (hrr : (x.natAbs : Int) % (y.natAbs : Int) ≠ 0) :
    Calls Try.prog 27 #[u, v] w (RetZZ w (x.fdiv y) (x.fmod y) (K + 2) K 0) := by
  obtain ⟨xb, xo, xm, xc, rfl, Hx, Hxs, Hxb⟩ := Zt.opened hu
  obtain ⟨yb, yo, ym, yc, rfl, Hy, Hys, Hyb⟩ := Zt.opened hv
  have hy0 : (0 : Int) < (y.natAbs : Int) := by omega
  have hym : ym ≠ 0 := by
    obtain ⟨ao, c, L, e, hl⟩ := Hys.out _ (Below.refl _ _)
    obtain ⟨_, rfl, _⟩ := Value.slice.inj e
    intro h0
    have := hl.zero_iff.1 h0
    omega
  have hb : (xb == yb) = false := by rw [beq_eq_false_iff_ne, Hxb.out, Hyb.out]; exact hs
  have hb' : ¬ xb = yb := by simpa using hb
  have hbn : (xb != yb) = true := by simpa using hb'
  have HR0 := hid hrr
  have HE := hid (fdiv_floor x y hy hs hrr)
  have HRL := hid (abs_div x y hy).2.2
  clear hu hv
  go_enter Try.func27, Try.ntmps27
  go_upto_region 1 with (fail)
  obtain ⟨W0, hW0⟩ : ∃ W0, W0 = ((((w.alloc (.cells #[.bool xb, .slice xo xm xc] 28)).alloc (.cells #[.bool yb, .slice yo ym yc] 28)).alloc (.cells #[.bool false, .slice none 0 0] 28)).alloc (.cells #[.bool false, .slice none 0 0] 28)) := ⟨_, rfl⟩
  have hB0 : Below w.heap.size w W0 := by rw [hW0]; exact ((((Below.refl _ _).alloc (by simp <;> omega) _).alloc (by simp <;> omega) _).alloc (by simp <;> omega) _).alloc (by simp <;> omega) _
  have hz0 : W0.heap.size = w.heap.size + 4 := by rw [hW0]; simp
  have HS : Hid (∀ w', Below (w.heap.size + 2) W0 w' → w'.cell? ⟨w.heap.size, 0, none⟩ = some (.bool xb) ∧ w'.cell? ⟨w.heap.size, 1, none⟩ = some (.slice xo xm xc) ∧ w'.cell? ⟨w.heap.size + 1, 0, none⟩ = some (.bool yb) ∧ w'.cell? ⟨w.heap.size + 1, 1, none⟩ = some (.slice yo ym yc)) := hid (fun w' hb => by
    refine ⟨?_, ?_, ?_, ?_⟩ <;> (first | (rw [hb.cell (by simp <;> omega), hW0]; simp [go_sem]; done) | (rw [hb.frozen (by simp <;> omega), hW0]; simp [go_sem]; done)))
  have HT : Hid (∀ w', Below (w.heap.size + 4) W0 w' → (w'.cell? ⟨w.heap.size + 2, 0, none⟩ = some (.bool false) ∧ w'.cell? ⟨w.heap.size + 2, 1, none⟩ = some (.slice none 0 0) ∧ w'.frozen? ⟨w.heap.size + 2, 0, none⟩ = false ∧ w'.frozen? ⟨w.heap.size + 2, 1, none⟩ = false) ∧ (w'.cell? ⟨w.heap.size + 3, 0, none⟩ = some (.bool false) ∧ w'.cell? ⟨w.heap.size + 3, 1, none⟩ = some (.slice none 0 0) ∧ w'.frozen? ⟨w.heap.size + 3, 0, none⟩ = false ∧ w'.frozen? ⟨w.heap.size + 3, 1, none⟩ = false)) := hid (fun w' hb => by
    refine ⟨⟨?_, ?_, ?_, ?_⟩, ?_, ?_, ?_, ?_⟩ <;> (first | (rw [hb.cell (by simp <;> omega), hW0]; simp [go_sem]; done) | (rw [hb.frozen (by simp <;> omega), hW0]; simp [go_sem]; done)))
  rw [← hW0]
  clear hW0
  obtain ⟨k0, k1, k2, k3⟩ := HS.out _ (Below.refl _ _)
  go_wp2_with fail
  refine (rlong_any _ _ _ _ K K _ (Hxs.out _ hB0) (Hys.out _ hB0) hy0 hK hK).mono ?_
  rintro e w1 ⟨_, _, rfl, hq, hr, hb1⟩
  obtain ⟨qo, qm, qc, rfl, Hq⟩ := Md.opened hq
  obtain ⟨ro, rm, rc, rfl, Hr⟩ := Md.opened hr
  have hB1 : Below (w.heap.size + 4) W0 w1 := hb1.mono (by omega)
  have hB1s : Below (w.heap.size + 2) W0 w1 := hB1.mono (by omega)
  have hrm : rm ≠ 0 := by
    intro h
    obtain ⟨ao, c, L, e, hl⟩ := hr
    obtain ⟨_, rfl, _⟩ := Value.slice.inj e
    exact HR0.out (hl.zero_iff.1 h)
  have hB1a := hB1s.alloc (by have := hB1.size; omega) (.cells #[.int .i64 1] 3 (0, 0))
  clear hq hr hb1 k0 k1 k2 k3
  obtain ⟨k0, k1, k2, k3⟩ := HS.out _ hB1s
  go_wp2
  clear k0 k1 k2 k3
  go_region_held3 (fun w' => w'.cell? ⟨w.heap.size, 0, none⟩ = some (.bool xb) ∧ w'.cell? ⟨w.heap.size, 1, none⟩ = some (.slice xo xm xc) ∧ w'.cell? ⟨w.heap.size + 1, 0, none⟩ = some (.bool yb) ∧ w'.cell? ⟨w.heap.size + 1, 1, none⟩ = some (.slice yo ym yc)) ((refine HS.out _ ?_; repeat (first | assumption | exact Below.refl _ _ | exact (Below.refl _ _).drew | exact Below.drew (by assumption) | (refine Below.setCell ?_ (by simp) _)))) (first
    | (go_at_call 52; refine (sum_md _ _ _ 1 (K + 1) _ ((Hq.out _ ((Below.refl _ _).alloc (Nat.le_refl _) _).drew).mono (Nat.le_succ _)) ((one_md.below ((Below.refl _ _).drew) (Nat.le_refl _)).mono (Nat.le_add_left _ _)) (by omega)).mono ?_; rintro e w2 ⟨_, rfl, hv2, hb2⟩; obtain ⟨o2, m2, c2, rfl, H2⟩ := Dg.opened hv2; have hB2 : Below (w.heap.size + 4) W0 w2 := (hB1.alloc (by have := hB1.size; simp; omega) _).drew.trans (hb2.mono (by have := hB1.size; simp; omega)); have hB2s : Below (w.heap.size + 2) W0 w2 := hB2.mono (by omega); have hC2 : Below w1.heap.size w1 w2 := ((Below.refl _ _).alloc (Nat.le_refl _) _).drew.trans (hb2.mono (by simp)))
    | (go_at_call_of 44 (o2); refine (made_any true _ _ _ _ (H2.out _ (Below.refl _ _))).mono ?_; rintro e w3 ⟨_, rfl, hv3, hb3⟩; obtain ⟨b3, o3, m3, c3, rfl, H3, H3s, H3b⟩ := Zt.opened hv3; have hB3 : Below (w.heap.size + 4) W0 w3 := hB2.trans (hb3.mono (by have := hB2.size; omega)); have hB3s : Below (w.heap.size + 2) W0 w3 := hB3.mono (by omega); have hC3 : Below w1.heap.size w1 w3 := hC2.trans (hb3.mono hC2.size))
    | (go_at_call 54; refine (less_any _ _ _ _ K K _ (Hys.out _ (hB0.trans (hB3.mono (by omega)))) (Hr.out _ hC3) (Int.le_of_lt HRL.out) (by omega)).mono ?_; rintro e w4 ⟨_, rfl, hv4, hb4⟩; obtain ⟨o4, m4, c4, rfl, H4⟩ := Md.opened hv4; have hB4 : Below (w.heap.size + 4) W0 w4 := hB3.trans (hb4.mono (by have := hB3.size; omega)); have hB4s : Below (w.heap.size + 2) W0 w4 := hB4.mono (by omega))
    | (go_at_call_of 44 (o4); refine (made_any yb _ _ K _ (H4.out _ (Below.refl _ _)).dg).mono ?_; rintro e w5 ⟨_, rfl, hv5, hb5⟩; obtain ⟨b5, o5, m5, c5, rfl, H5, H5s, H5b⟩ := Zt.opened hv5; have hB5 : Below (w.heap.size + 4) W0 w5 := hB4.trans (hb5.mono (by have := hB4.size; omega)); have hB5s : Below (w.heap.size + 2) W0 w5 := hB5.mono (by omega); obtain ⟨⟨hr0, hr1, hr2, hr3⟩, hs0, hs1, hs2, hs3⟩ := HT.out _ hB5))
  go_wp2
  have hbel : Below w.heap.size w w5 := hB0.trans (hB5.mono (by omega))
  have h23 := H3.out w5 (hb4.trans (hb5.mono hb4.size))
  have h33 := H5.out w5 (Below.refl _ _)
  refine bodyPost_ret (v := .tuple #[.agg #[.bool b3, .slice o3 m3 c3], .agg #[.bool b5, .slice o5 m5 c5], .int .i64 0]) (by simp [results, Try.results27, go_sem, hr0, hr1, hs0, hs1]) rfl ⟨_, _, rfl, ?_, ?_, (((hbel.setCell (by simp <;> omega) _).setCell (by simp <;> omega) _).setCell (by simp <;> omega) _).setCell (by simp <;> omega) _⟩
  · rw [← HE.out.1]
    exact zt_keeps ((((((Keeps.refl _ _).setCell (u := .bool false) hr0 (fun x h => (by cases h)) _).setCell (u := .slice none 0 0) (by simp [go_sem, hr1]) (fun x h => (by cases h)) _).setCell (u := .bool false) (by simp [go_sem, hs0]) (fun x h => (by cases h)) _).setCell (u := .slice none 0 0) (by simp [go_sem, hs1]) (fun x h => (by cases h)) _)) h23
  · rw [← HE.out.2, ← Hyb.out]
    exact zt_keeps ((((((Keeps.refl _ _).setCell (u := .bool false) hr0 (fun x h => (by cases h)) _).setCell (u := .slice none 0 0) (by simp [go_sem, hr1]) (fun x h => (by cases h)) _).setCell (u := .bool false) (by simp [go_sem, hs0]) (fun x h => (by cases h)) _).setCell (u := .slice none 0 0) (by simp [go_sem, hs1]) (fun x h => (by cases h)) _)) h33

theorem rdiv_any (u v : Value) (x y : Int) (K : Nat) (w : World) (hu : Zt w u x K) (hv : Zt w v y K) (hy : y ≠ 0) (hK : K ≤ 1073741822) :
    Calls Try.prog 27 #[u, v] w (RetZZ w (x.fdiv y) (x.fmod y) (K + 2) K 0) := by
  by_cases hs : decide (x < 0) = decide (y < 0)
  · exact rdiv_same u v x y K w hu hv hy hK hs
  · by_cases hr : (x.natAbs : Int) % (y.natAbs : Int) = 0
    · exact rdiv_even u v x y K w hu hv hy hK hs hr
    · exact rdiv_floor u v x y K w hu hv hy hK hs hr

end Go.Proofs.Ytbmdjimfncgomaa

/- exact.Normal, Neg, Add, Sub. Written by gen_int3.py. -/
namespace Go.Proofs.Ytbmdjimfncgomaa
open Go.RowKit

theorem FrA.set {w1 w : World} {v : Value} {z : Int} {K : Nat} (h : FrA w1 w v z K) {a : Addr} (ha : a.block < w1.heap.size) (u : Value) : FrA w1 (w.setCell a u) v z K := by
  obtain ⟨s, rfl, h⟩ := h; exact ⟨s, rfl, h.set ha u⟩

set_option maxRecDepth 100000 in
set_option maxHeartbeats 4000000 in
theorem Add_any (u v : Value) (x y : Int) (Kx Ky K : Nat) (w : World) (hu : Ai w u x Kx) (hv : Ai w v y Ky) (hKx : Kx < K) (hKy : Ky < K) (hK : K ≤ 1073741824) :
    Calls Try.prog 10 #[u, v] w (RetA w (x + y) (2 * (K / 2 + 1))) := by
  obtain ⟨xb, xo, xm, xc, rfl, Hx⟩ := Ai.opened hu
  obtain ⟨yb, yo, ym, yc, rfl, Hy⟩ := Ai.opened hv
  go_enter Try.func10, Try.ntmps10
  go_wp2
  obtain ⟨W0, hW0⟩ : ∃ W0, W0 = (((w.alloc (.cells #[.bool xb, .slice xo xm xc] 24)).alloc (.cells #[.bool yb, .slice yo ym yc] 24)).alloc (.cells #[.bool false, .slice none 0 0] 24)) := ⟨_, rfl⟩
  have hB0 : Below w.heap.size w W0 := by rw [hW0]; exact (((Below.refl _ _).alloc (by simp <;> omega) _).alloc (by simp <;> omega) _).alloc (by simp <;> omega) _
  have hz0 : W0.heap.size = w.heap.size + 3 := by rw [hW0]; simp
  have HS : Hid (∀ w', Below (w.heap.size + 2) W0 w' → w'.cell? ⟨w.heap.size, 0, none⟩ = some (.bool xb) ∧ w'.cell? ⟨w.heap.size, 1, none⟩ = some (.slice xo xm xc) ∧ w'.cell? ⟨w.heap.size + 1, 0, none⟩ = some (.bool yb) ∧ w'.cell? ⟨w.heap.size + 1, 1, none⟩ = some (.slice yo ym yc)) := hid (fun w' hb => by
    refine ⟨?_, ?_, ?_, ?_⟩ <;> (first | (rw [hb.cell (by simp <;> omega), hW0]; simp [go_sem]; done) | (rw [hb.frozen (by simp <;> omega), hW0]; simp [go_sem]; done)))
  have HT : Hid (∀ w', Below (w.heap.size + 3) W0 w' → w'.cell? ⟨w.heap.size + 2, 0, none⟩ = some (.bool false) ∧ w'.cell? ⟨w.heap.size + 2, 1, none⟩ = some (.slice none 0 0) ∧ w'.frozen? ⟨w.heap.size + 2, 0, none⟩ = false ∧ w'.frozen? ⟨w.heap.size + 2, 1, none⟩ = false) := hid (fun w' hb => by
    refine ⟨?_, ?_, ?_, ?_⟩ <;> (first | (rw [hb.cell (by simp <;> omega), hW0]; simp [go_sem]; done) | (rw [hb.frozen (by simp <;> omega), hW0]; simp [go_sem]; done)))
  rw [← hW0]
  clear hW0
  go_region_held3 (fun w' => w'.cell? ⟨w.heap.size, 0, none⟩ = some (.bool xb) ∧ w'.cell? ⟨w.heap.size, 1, none⟩ = some (.slice xo xm xc) ∧ w'.cell? ⟨w.heap.size + 1, 0, none⟩ = some (.bool yb) ∧ w'.cell? ⟨w.heap.size + 1, 1, none⟩ = some (.slice yo ym yc)) ((refine HS.out _ ?_; first | assumption | exact Below.refl _ _ | exact (Below.refl _ _).drew | exact ((hB4.mono (Nat.le_succ _)).setCell (Nat.le_refl _) _).setCell (Nat.le_refl _) _)) (first
    | (go_at_call_of 45 (xo); refine (read_any _ x Kx _ (Hx.out _ hB0.drew) (by omega)).mono ?_; rintro e w1 ⟨_, rfl, hv1, hb1⟩; obtain ⟨b1, o1, m1, c1, rfl, H1, H1s, H1b⟩ := It.opened hv1; have hB1 : Below (w.heap.size + 3) W0 w1 := ((Below.refl _ _).drew).trans (hb1.mono (by simp; omega)); have hB1s := hB1.mono (Nat.le_succ _))
    | (go_at_call_of 45 (yo); refine (read_any _ y Ky _ (Hy.out _ (hB0.trans (hB1.mono (by omega)))) (by omega)).mono ?_; rintro e w2 ⟨_, rfl, hv2, hb2⟩; obtain ⟨b2, o2, m2, c2, rfl, H2, H2s, H2b⟩ := It.opened hv2; have hB2 : Below (w.heap.size + 3) W0 w2 := hB1.trans (hb2.mono (by have := hB1.size; omega)); have hB2s := hB2.mono (Nat.le_succ _))
    | (go_at_call 48; refine (plus_any _ _ x y ((Kx + 1) / 2) ((Ky + 1) / 2) (K / 2 + 1) _ (H1.out _ hb2) (H2.out _ (Below.refl _ _)) (by omega) (by omega) (by omega) (by omega)).mono ?_; rintro e w3 ⟨_, rfl, hv3, hb3⟩; obtain ⟨b3, o3, m3, c3, rfl, H3, H3s, H3b⟩ := It.opened hv3; have hB3 : Below (w.heap.size + 3) W0 w3 := hB2.trans (hb3.mono (by have := hB2.size; omega)); have hB3s := hB3.mono (Nat.le_succ _))
    | (go_at_call 46; refine (value_any _ _ _ _ (H3.out _ (Below.refl _ _)) (by omega)).mono ?_; rintro e w4 ⟨_, rfl, ⟨_, rfl, hv4⟩, hb4⟩; obtain ⟨o4, m4, c4, rfl, H4⟩ := FrW.opened hv4; have hB4 : Below (w.heap.size + 3) W0 w4 := hB3.trans (hb4.mono (by have := hB3.size; omega)); have hB4s := hB4.mono (Nat.le_succ _); obtain ⟨hr0, hr1, hr2, hr3⟩ := HT.out _ hB4))
  go_wp2
  have hbel : Below w.heap.size w w4 := hB0.trans (hB4.mono (by omega))
  refine bodyPost_ret (v := .agg #[.bool (decide ((x + y) < 0)), .slice o4 m4 c4]) (by simp [results, Try.results10, go_sem, hr0, hr1]) rfl ⟨_, rfl, ?_, (hbel.setCell (by simp <;> omega) _).setCell (by simp <;> omega) _⟩
  exact ⟨_, rfl, ((H4.out.set (by have := hB3.size; simp; omega) _).set (by have := hB3.size; simp; omega) _).base (by have := hB3.size; omega)⟩

set_option maxRecDepth 100000 in
set_option maxHeartbeats 4000000 in
theorem Sub_any (u v : Value) (x y : Int) (Kx Ky K : Nat) (w : World) (hu : Ai w u x Kx) (hv : Ai w v y Ky) (hKx : Kx < K) (hKy : Ky < K) (hK : K ≤ 1073741824) :
    Calls Try.prog 11 #[u, v] w (RetA w (x + -y) (2 * (K / 2 + 1))) := by
  obtain ⟨xb, xo, xm, xc, rfl, Hx⟩ := Ai.opened hu
  obtain ⟨yb, yo, ym, yc, rfl, Hy⟩ := Ai.opened hv
  go_enter Try.func11, Try.ntmps11
  go_wp2
  obtain ⟨W0, hW0⟩ : ∃ W0, W0 = (((w.alloc (.cells #[.bool xb, .slice xo xm xc] 24)).alloc (.cells #[.bool yb, .slice yo ym yc] 24)).alloc (.cells #[.bool false, .slice none 0 0] 24)) := ⟨_, rfl⟩
  have hB0 : Below w.heap.size w W0 := by rw [hW0]; exact (((Below.refl _ _).alloc (by simp <;> omega) _).alloc (by simp <;> omega) _).alloc (by simp <;> omega) _
  have hz0 : W0.heap.size = w.heap.size + 3 := by rw [hW0]; simp
  have HS : Hid (∀ w', Below (w.heap.size + 2) W0 w' → w'.cell? ⟨w.heap.size, 0, none⟩ = some (.bool xb) ∧ w'.cell? ⟨w.heap.size, 1, none⟩ = some (.slice xo xm xc) ∧ w'.cell? ⟨w.heap.size + 1, 0, none⟩ = some (.bool yb) ∧ w'.cell? ⟨w.heap.size + 1, 1, none⟩ = some (.slice yo ym yc)) := hid (fun w' hb => by
    refine ⟨?_, ?_, ?_, ?_⟩ <;> (first | (rw [hb.cell (by simp <;> omega), hW0]; simp [go_sem]; done) | (rw [hb.frozen (by simp <;> omega), hW0]; simp [go_sem]; done)))
  have HT : Hid (∀ w', Below (w.heap.size + 3) W0 w' → w'.cell? ⟨w.heap.size + 2, 0, none⟩ = some (.bool false) ∧ w'.cell? ⟨w.heap.size + 2, 1, none⟩ = some (.slice none 0 0) ∧ w'.frozen? ⟨w.heap.size + 2, 0, none⟩ = false ∧ w'.frozen? ⟨w.heap.size + 2, 1, none⟩ = false) := hid (fun w' hb => by
    refine ⟨?_, ?_, ?_, ?_⟩ <;> (first | (rw [hb.cell (by simp <;> omega), hW0]; simp [go_sem]; done) | (rw [hb.frozen (by simp <;> omega), hW0]; simp [go_sem]; done)))
  rw [← hW0]
  clear hW0
  go_region_held3 (fun w' => w'.cell? ⟨w.heap.size, 0, none⟩ = some (.bool xb) ∧ w'.cell? ⟨w.heap.size, 1, none⟩ = some (.slice xo xm xc) ∧ w'.cell? ⟨w.heap.size + 1, 0, none⟩ = some (.bool yb) ∧ w'.cell? ⟨w.heap.size + 1, 1, none⟩ = some (.slice yo ym yc)) ((refine HS.out _ ?_; first | assumption | exact Below.refl _ _ | exact (Below.refl _ _).drew | exact ((hB5.mono (Nat.le_succ _)).setCell (Nat.le_refl _) _).setCell (Nat.le_refl _) _)) (first
    | (go_at_call_of 45 (xo); refine (read_any _ x Kx _ (Hx.out _ hB0.drew) (by omega)).mono ?_; rintro e w1 ⟨_, rfl, hv1, hb1⟩; obtain ⟨b1, o1, m1, c1, rfl, H1, H1s, H1b⟩ := It.opened hv1; have hB1 : Below (w.heap.size + 3) W0 w1 := ((Below.refl _ _).drew).trans (hb1.mono (by simp; omega)); have hB1s := hB1.mono (Nat.le_succ _))
    | (go_at_call_of 45 (yo); refine (read_any _ y Ky _ (Hy.out _ (hB0.trans (hB1.mono (by omega)))) (by omega)).mono ?_; rintro e w2 ⟨_, rfl, hv2, hb2⟩; obtain ⟨b2, o2, m2, c2, rfl, H2, H2s, H2b⟩ := It.opened hv2; have hB2 : Below (w.heap.size + 3) W0 w2 := hB1.trans (hb2.mono (by have := hB1.size; omega)); have hB2s := hB2.mono (Nat.le_succ _))
    | (go_at_call 47; refine (negated_any _ y _ _ (H2.out _ (Below.refl _ _))).mono ?_; rintro e w3 ⟨_, rfl, hv3, hb3⟩; obtain ⟨b3, o3, m3, c3, rfl, H3, H3s, H3b⟩ := It.opened hv3; have hB3 : Below (w.heap.size + 3) W0 w3 := hB2.trans (hb3.mono (by have := hB2.size; omega)); have hB3s := hB3.mono (Nat.le_succ _))
    | (go_at_call 48; refine (plus_any _ _ x (-y) ((Kx + 1) / 2) ((Ky + 1) / 2) (K / 2 + 1) _ (H1.out _ (hb2.trans (hb3.mono hb2.size))) (H3.out _ (Below.refl _ _)) (by omega) (by omega) (by omega) (by omega)).mono ?_; rintro e w4 ⟨_, rfl, hv4, hb4⟩; obtain ⟨b4, o4, m4, c4, rfl, H4, H4s, H4b⟩ := It.opened hv4; have hB4 : Below (w.heap.size + 3) W0 w4 := hB3.trans (hb4.mono (by have := hB3.size; omega)); have hB4s := hB4.mono (Nat.le_succ _))
    | (go_at_call 46; refine (value_any _ _ _ _ (H4.out _ (Below.refl _ _)) (by omega)).mono ?_; rintro e w5 ⟨_, rfl, ⟨_, rfl, hv5⟩, hb5⟩; obtain ⟨o5, m5, c5, rfl, H5⟩ := FrW.opened hv5; have hB5 : Below (w.heap.size + 3) W0 w5 := hB4.trans (hb5.mono (by have := hB4.size; omega)); have hB5s := hB5.mono (Nat.le_succ _); obtain ⟨hr0, hr1, hr2, hr3⟩ := HT.out _ hB5))
  go_wp2
  have hbel : Below w.heap.size w w5 := hB0.trans (hB5.mono (by omega))
  refine bodyPost_ret (v := .agg #[.bool (decide ((x + -y) < 0)), .slice o5 m5 c5]) (by simp [results, Try.results11, go_sem, hr0, hr1]) rfl ⟨_, rfl, ?_, (hbel.setCell (by simp <;> omega) _).setCell (by simp <;> omega) _⟩
  exact ⟨_, rfl, ((H5.out.set (by have := hB4.size; simp; omega) _).set (by have := hB4.size; simp; omega) _).base (by have := hB4.size; omega)⟩

set_option maxRecDepth 100000 in
set_option maxHeartbeats 4000000 in
theorem Normal_any (u : Value) (x : Int) (Kx : Nat) (w : World) (hu : Ai w u x Kx) (hK : Kx ≤ 1073741824) :
    Calls Try.prog 8 #[u] w (RetA w x (2 * ((Kx + 1) / 2))) := by
  obtain ⟨xb, xo, xm, xc, rfl, Hx⟩ := Ai.opened hu
  go_enter Try.func8, Try.ntmps8
  go_wp2_with fail
  obtain ⟨W0, hW0⟩ : ∃ W0, W0 = ((w.alloc (.cells #[.bool xb, .slice xo xm xc] 24)).alloc (.cells #[.bool false, .slice none 0 0] 24)) := ⟨_, rfl⟩
  have hB0 : Below w.heap.size w W0 := by rw [hW0]; exact ((Below.refl _ _).alloc (by simp <;> omega) _).alloc (by simp <;> omega) _
  have hz0 : W0.heap.size = w.heap.size + 2 := by rw [hW0]; simp
  have _HS : Hid (∀ w', Below (w.heap.size + 1) W0 w' → w'.cell? ⟨w.heap.size, 0, none⟩ = some (.bool xb) ∧ w'.cell? ⟨w.heap.size, 1, none⟩ = some (.slice xo xm xc)) := hid (fun w' hb => by
    refine ⟨?_, ?_⟩ <;> (first | (rw [hb.cell (by simp <;> omega), hW0]; simp [go_sem]; done) | (rw [hb.frozen (by simp <;> omega), hW0]; simp [go_sem]; done)))
  have HT : Hid (∀ w', Below (w.heap.size + 2) W0 w' → w'.cell? ⟨w.heap.size + 1, 0, none⟩ = some (.bool false) ∧ w'.cell? ⟨w.heap.size + 1, 1, none⟩ = some (.slice none 0 0) ∧ w'.frozen? ⟨w.heap.size + 1, 0, none⟩ = false ∧ w'.frozen? ⟨w.heap.size + 1, 1, none⟩ = false) := hid (fun w' hb => by
    refine ⟨?_, ?_, ?_, ?_⟩ <;> (first | (rw [hb.cell (by simp <;> omega), hW0]; simp [go_sem]; done) | (rw [hb.frozen (by simp <;> omega), hW0]; simp [go_sem]; done)))
  rw [← hW0]
  clear hW0
  refine (read_any _ x Kx _ (Hx.out _ hB0) (by omega)).mono ?_
  rintro e w1 ⟨_, rfl, hv1, hb1⟩
  obtain ⟨b1, o1, m1, c1, rfl, H1, H1s, H1b⟩ := It.opened hv1
  have hB1 : Below (w.heap.size + 2) W0 w1 := (Below.refl _ W0).trans (hb1.mono (by omega))
  go_wp2_with fail
  refine (value_any _ _ _ _ (H1.out _ (Below.refl _ _)) (by omega)).mono ?_
  rintro e w2 ⟨_, rfl, ⟨_, rfl, hv2⟩, hb2⟩
  obtain ⟨o2, m2, c2, rfl, H2⟩ := FrW.opened hv2
  have hB2 : Below (w.heap.size + 2) W0 w2 := hB1.trans (hb2.mono (by have := hB1.size; omega))
  obtain ⟨hr0, hr1, hr2, hr3⟩ := HT.out _ hB2
  go_wp2
  have hbel : Below w.heap.size w w2 := hB0.trans (hB2.mono (by omega))
  refine bodyPost_ret (v := .agg #[.bool (decide (x < 0)), .slice o2 m2 c2]) (by simp [results, Try.results8, go_sem, hr0, hr1]) rfl ⟨_, rfl, ?_, (hbel.setCell (by simp <;> omega) _).setCell (by simp <;> omega) _⟩
  exact ⟨_, rfl, ((H2.out.set (by have := hB1.size; simp; omega) _).set (by have := hB1.size; simp; omega) _).base (by have := hB1.size; omega)⟩

set_option maxRecDepth 100000 in
set_option maxHeartbeats 4000000 in
theorem Neg_any (u : Value) (x : Int) (Kx : Nat) (w : World) (hu : Ai w u x Kx) (hK : Kx ≤ 1073741824) :
    Calls Try.prog 9 #[u] w (RetA w (-x) (2 * ((Kx + 1) / 2))) := by
  obtain ⟨xb, xo, xm, xc, rfl, Hx⟩ := Ai.opened hu
  go_enter Try.func9, Try.ntmps9
  go_wp2_with fail
  obtain ⟨W0, hW0⟩ : ∃ W0, W0 = ((w.alloc (.cells #[.bool xb, .slice xo xm xc] 24)).alloc (.cells #[.bool false, .slice none 0 0] 24)) := ⟨_, rfl⟩
  have hB0 : Below w.heap.size w W0 := by rw [hW0]; exact ((Below.refl _ _).alloc (by simp <;> omega) _).alloc (by simp <;> omega) _
  have hz0 : W0.heap.size = w.heap.size + 2 := by rw [hW0]; simp
  have _HS : Hid (∀ w', Below (w.heap.size + 1) W0 w' → w'.cell? ⟨w.heap.size, 0, none⟩ = some (.bool xb) ∧ w'.cell? ⟨w.heap.size, 1, none⟩ = some (.slice xo xm xc)) := hid (fun w' hb => by
    refine ⟨?_, ?_⟩ <;> (first | (rw [hb.cell (by simp <;> omega), hW0]; simp [go_sem]; done) | (rw [hb.frozen (by simp <;> omega), hW0]; simp [go_sem]; done)))
  have HT : Hid (∀ w', Below (w.heap.size + 2) W0 w' → w'.cell? ⟨w.heap.size + 1, 0, none⟩ = some (.bool false) ∧ w'.cell? ⟨w.heap.size + 1, 1, none⟩ = some (.slice none 0 0) ∧ w'.frozen? ⟨w.heap.size + 1, 0, none⟩ = false ∧ w'.frozen? ⟨w.heap.size + 1, 1, none⟩ = false) := hid (fun w' hb => by
    refine ⟨?_, ?_, ?_, ?_⟩ <;> (first | (rw [hb.cell (by simp <;> omega), hW0]; simp [go_sem]; done) | (rw [hb.frozen (by simp <;> omega), hW0]; simp [go_sem]; done)))
  rw [← hW0]
  clear hW0
  refine (read_any _ x Kx _ (Hx.out _ hB0) (by omega)).mono ?_
  rintro e w1 ⟨_, rfl, hv1, hb1⟩
  obtain ⟨b1, o1, m1, c1, rfl, H1, H1s, H1b⟩ := It.opened hv1
  have hB1 : Below (w.heap.size + 2) W0 w1 := (Below.refl _ W0).trans (hb1.mono (by omega))
  go_wp2_with fail
  refine (negated_any _ x _ _ (H1.out _ (Below.refl _ _))).mono ?_
  rintro e w2 ⟨_, rfl, hv2, hb2⟩
  obtain ⟨b2, o2, m2, c2, rfl, H2, H2s, H2b⟩ := It.opened hv2
  have hB2 : Below (w.heap.size + 2) W0 w2 := hB1.trans (hb2.mono (by have := hB1.size; omega))
  go_wp2_with fail
  refine (value_any _ _ _ _ (H2.out _ (Below.refl _ _)) (by omega)).mono ?_
  rintro e w3 ⟨_, rfl, ⟨_, rfl, hv3⟩, hb3⟩
  obtain ⟨o3, m3, c3, rfl, H3⟩ := FrW.opened hv3
  have hB3 : Below (w.heap.size + 2) W0 w3 := hB2.trans (hb3.mono (by have := hB2.size; omega))
  obtain ⟨hr0, hr1, hr2, hr3⟩ := HT.out _ hB3
  go_wp2
  have hbel : Below w.heap.size w w3 := hB0.trans (hB3.mono (by omega))
  refine bodyPost_ret (v := .agg #[.bool (decide ((-x) < 0)), .slice o3 m3 c3]) (by simp [results, Try.results9, go_sem, hr0, hr1]) rfl ⟨_, rfl, ?_, (hbel.setCell (by simp <;> omega) _).setCell (by simp <;> omega) _⟩
  exact ⟨_, rfl, ((H3.out.set (by have := hB2.size; simp; omega) _).set (by have := hB2.size; simp; omega) _).base (by have := hB2.size; omega)⟩

end Go.Proofs.Ytbmdjimfncgomaa
