/- exact.Between by values. Written by gen_btw.py. -/
import Derived.Test.YtbapeilpkhbbeaaGreatBn33
import Derived.Test.YtbapeilpkhbbeaaGreatBn31
import Derived.Test.YtbapeilpkhbbeaaGreatBn23
/- exact.Between by values. Written by gen_btw.py. -/
namespace Go.Proofs.YtbapeilpkhbbeaaGreat
open Go.RowKit

theorem Ft.it {w : World} {b : Bool} {o : Option Addr} {m c : Nat} {s : Value} {z d : Int} {K : Nat} (h : Ft w (.agg #[.bool b, .slice o m c, s]) z d K) : It w (.agg #[.bool b, .slice o m c]) z K := by
  obtain ⟨s1, s2, e, h1, _⟩ := h
  simp only [Value.agg.injEq, Array.mk.injEq, List.cons.injEq, and_true, Value.bool.injEq] at e
  obtain ⟨rfl, rfl, rfl⟩ := e
  exact ⟨_, rfl, h1⟩
theorem le_scale {z e n d p q : Int} (he : 0 < e) (hd : 0 < d) (h : z * d = n * e) (hle : n * q ≤ p * d) : z * q ≤ p * e := by
  refine Int.le_of_mul_le_mul_right (a := d) ?_ hd
  have := Int.mul_le_mul_of_nonneg_right hle (Int.le_of_lt he)
  grind
theorem ge_scale {z e n d p q : Int} (he : 0 < e) (hd : 0 < d) (h : z * d = n * e) (hle : p * d ≤ n * q) : p * e ≤ z * q := by
  refine Int.le_of_mul_le_mul_right (a := d) ?_ hd
  have := Int.mul_le_mul_of_nonneg_right hle (Int.le_of_lt he)
  grind
theorem low_le {N D z M d n : Int} (hM : 0 < M) (hD : 0 < D) (hv : N * M = z * D) (a : n * M ≤ z * d) : n * D ≤ N * d := by
  refine Int.le_of_mul_le_mul_right (a := M) ?_ hM
  have h1 := Int.mul_le_mul_of_nonneg_right a (Int.le_of_lt hD)
  have e1 : n * D * M = n * M * D := by rw [Int.mul_assoc, Int.mul_comm D M, ← Int.mul_assoc]
  have e2 : N * d * M = z * d * D := by rw [Int.mul_assoc, Int.mul_comm d M, ← Int.mul_assoc, hv, Int.mul_assoc, Int.mul_comm D d, ← Int.mul_assoc]
  omega
theorem low_ge {N D z M d n : Int} (hM : 0 < M) (hD : 0 < D) (hv : N * M = z * D) (a : z * d ≤ n * M) : N * d ≤ n * D := by
  refine Int.le_of_mul_le_mul_right (a := M) ?_ hM
  have h1 := Int.mul_le_mul_of_nonneg_right a (Int.le_of_lt hD)
  have e1 : n * D * M = n * M * D := by rw [Int.mul_assoc, Int.mul_comm D M, ← Int.mul_assoc]
  have e2 : N * d * M = z * d * D := by rw [Int.mul_assoc, Int.mul_comm d M, ← Int.mul_assoc, hv, Int.mul_assoc, Int.mul_comm D d, ← Int.mul_assoc]
  omega
/-- N / D is the simplest number from n1 / d1 to n2 / d2. -/
structure Btw (n1 d1 n2 d2 N D : Int) : Prop where
  pos : 0 < D
  lo : n1 * D ≤ N * d1
  hi : N * d2 ≤ n2 * D
  least : ∀ p q, 0 < q → n1 * q ≤ p * d1 → p * d2 ≤ n2 * q → D ≤ q ∧ N * N ≤ p * p
theorem btw_pos {z1 e1 z2 e2 n1 d1 n2 d2 N M : Int} (he1 : 0 < e1) (hd1 : 0 < d1) (he2 : 0 < e2) (hd2 : 0 < d2) (h1 : z1 * d1 = n1 * e1) (h2 : z2 * d2 = n2 * e2) (h : Smp z1 e1 z2 e2 N M) : Btw n1 d1 n2 d2 (lowN N M) (lowD N M) := by
  obtain ⟨hv, hp⟩ := low_val N h.m0
  obtain ⟨s1, s2⟩ := low_small N h.m0
  refine ⟨hp, ?_, ?_, fun p q hq a1 a2 => ?_⟩
  · exact low_le h.m0 hp hv (le_scale hd1 he1 h1.symm h.lo)
  · exact low_ge h.m0 hp hv (ge_scale hd2 he2 h2.symm h.hi)
  · obtain ⟨b1, b2⟩ := h.least p q hq (le_scale he1 hd1 h1 a1) (ge_scale he2 hd2 h2 a2)
    have hn := h.n0
    have := Int.mul_le_mul b2 b2 (by omega) (by omega)
    omega
theorem btw_neg {z1 e1 z2 e2 n1 d1 n2 d2 N M : Int} (he1 : 0 < e1) (hd1 : 0 < d1) (he2 : 0 < e2) (hd2 : 0 < d2) (h1 : z1 * d1 = n1 * e1) (h2 : z2 * d2 = n2 * e2) (h : Smp (-z2) e2 (-z1) e1 N M) : Btw n1 d1 n2 d2 (lowN (-N) M) (lowD (-N) M) := by
  obtain ⟨hv, hp⟩ := low_val (-N) h.m0
  obtain ⟨s1, s2⟩ := low_small (-N) h.m0
  refine ⟨hp, ?_, ?_, fun p q hq a1 a2 => ?_⟩
  · have a0 : z1 * M ≤ -N * e1 := by have := h.hi; grind
    exact low_le h.m0 hp hv (le_scale hd1 he1 h1.symm a0)
  · have a0 : -N * e2 ≤ z2 * M := by have := h.lo; grind
    exact low_ge h.m0 hp hv (ge_scale hd2 he2 h2.symm a0)
  · have c1 := le_scale he1 hd1 h1 a1
    have c2 := ge_scale he2 hd2 h2 a2
    obtain ⟨b1, b2⟩ := h.least (-p) q hq (by grind) (by grind)
    have hn := h.n0
    have := Int.mul_le_mul b2 b2 (by omega) (by omega)
    refine ⟨by omega, ?_⟩
    grind
theorem btw_zero {z1 e1 z2 e2 n1 d1 n2 d2 : Int} (he1 : 0 < e1) (hd1 : 0 < d1) (he2 : 0 < e2) (hd2 : 0 < d2) (h1 : z1 * d1 = n1 * e1) (h2 : z2 * d2 = n2 * e2) (a1 : z1 ≤ 0) (a2 : 0 ≤ z2) : Btw n1 d1 n2 d2 0 1 := by
  refine ⟨by decide, ?_, ?_, fun p q hq _ _ => ⟨by omega, ?_⟩⟩
  · have := le_scale (p := 0) (q := 1) hd1 he1 h1.symm (by omega)
    omega
  · have := ge_scale (p := 0) (q := 1) hd2 he2 h2.symm (by omega)
    omega
  · rw [Int.zero_mul, ← Int.natAbs_mul_self]; exact Int.natCast_nonneg _
def RetBtF (w : World) (n1 d1 n2 d2 : Int) (R : Nat) (e : Ending) (w' : World) : Prop := ∃ N D b1 o1 m1 c1 b2 o2 m2 c2 wb, Btw n1 d1 n2 d2 N D ∧ e = .returned (.tuple #[.agg #[.bool b1, .slice o1 m1 c1, .bool b2, .slice o2 m2 c2], .int .i64 0]) ∧ w.heap.size ≤ wb.heap.size ∧ Hid (FrR wb w' (.agg #[.bool b1, .slice o1 m1 c1, .bool b2, .slice o2 m2 c2]) N D R) ∧ Below w.heap.size w w'
theorem FrA.mono {w0 w : World} {v : Value} {z : Int} {K K' : Nat} (h : FrA w0 w v z K) (hK : K ≤ K') : FrA w0 w v z K' := by
  obtain ⟨s, rfl, L, ho, hd, hn, hv, hl⟩ := h
  exact ⟨s, rfl, L, ho, hd, hn, hv, Nat.le_trans hl hK⟩
set_option maxRecDepth 100000 in
set_option maxHeartbeats 4000000 in
theorem Between_err (u v : Value) (n1 d1 n2 d2 : Int) (K : Nat) (w : World) (hu : Rv w u n1 d1 K) (hv : Rv w v n2 d2 K) (hK : K ≤ 150) (hlt : n2 * d1 < n1 * d2) :
    Calls Tryz.prog 48 #[u, v] w fun e w' => e = .returned (.tuple #[.agg #[.bool false, .slice none 0 0, .bool false, .slice none 0 0], .int .i64 2]) ∧ Below w.heap.size w w' := by
  have HCm := hid (fun (w' : World) (hb : Below w.heap.size w w') => Compare_rv u v n1 d1 n2 d2 _ K w' (hu.below hb (Nat.le_refl _)) (hv.below hb (Nat.le_refl _)) rfl hK)
  obtain ⟨pd1, x1, y1, hu, h1⟩ := hu
  obtain ⟨pd2, x2, y2, hv, h2⟩ := hv
  have HR1 := hid (fun (w' : World) (hb : Below w.heap.size w w') => readRatio_any u x1 y1 K w' (hu.below hb (Nat.le_refl _)) (by omega))
  have HR2 := hid (fun (w' : World) (hb : Below w.heap.size w w') => readRatio_any v x2 y2 K w' (hv.below hb (Nat.le_refl _)) (by omega))
  obtain ⟨xb, xo, xm, xc, xb2, xo2, xm2, xc2, rfl, _, _⟩ := Ra.opened hu
  obtain ⟨yb, yo, ym, yc, yb2, yo2, ym2, yc2, rfl, _, _⟩ := Ra.opened hv
  have pe1 := rd_pos y1
  have pe2 := rd_pos y2
  obtain ⟨z1, hz1⟩ : ∃ z, z = rn x1 y1 := ⟨_, rfl⟩
  obtain ⟨e1, he1⟩ : ∃ q, q = rd y1 := ⟨_, rfl⟩
  obtain ⟨z2, hz2⟩ : ∃ z, z = rn x2 y2 := ⟨_, rfl⟩
  obtain ⟨e2, he2⟩ : ∃ q, q = rd y2 := ⟨_, rfl⟩
  rw [← hz1, ← he1] at h1 HR1
  rw [← hz2, ← he2] at h2 HR2
  rw [← he1] at pe1
  rw [← he2] at pe2
  have Hp := hid (show 0 < e1 ∧ 0 < d1 ∧ 0 < e2 ∧ 0 < d2 ∧ z1 * d1 = n1 * e1 ∧ z2 * d2 = n2 * e2 from ⟨pe1, pd1, pe2, pd2, h1, h2⟩)
  have HK := hid hK
  clear hz1 he1 hz2 he2 hu hv pe1 pe2 pd1 pd2 h1 h2 hK
  have hcv : cmpI (n1 * d2) (n2 * d1) = 1 := cmp_gt'' hlt
  rw [hcv] at HCm
  clear hcv hlt
  obtain ⟨W0, hW0⟩ : ∃ W0, W0 = (((w.alloc (.cells #[.bool xb, .slice xo xm xc, .bool xb2, .slice xo2 xm2 xc2] 26)).alloc (.cells #[.bool yb, .slice yo ym yc, .bool yb2, .slice yo2 ym2 yc2] 26)).alloc (.cells #[.bool false, .slice none 0 0, .bool false, .slice none 0 0] 26)) := ⟨_, rfl⟩
  have hB0 : Below w.heap.size w W0 := by rw [hW0]; exact (((Below.refl _ _).alloc (Nat.le_refl _) _).alloc (by simp <;> omega) _).alloc (by simp <;> omega) _
  have hz0 : W0.heap.size = w.heap.size + 3 := by rw [hW0]; simp
  have HS : Hid (∀ w', Below (w.heap.size + 2) W0 w' → w'.cell? ⟨w.heap.size, 0, none⟩ = some (.bool xb) ∧ w'.cell? ⟨w.heap.size, 1, none⟩ = some (.slice xo xm xc) ∧ w'.cell? ⟨w.heap.size, 2, none⟩ = some (.bool xb2) ∧ w'.cell? ⟨w.heap.size, 3, none⟩ = some (.slice xo2 xm2 xc2) ∧ w'.cell? ⟨w.heap.size + 1, 0, none⟩ = some (.bool yb) ∧ w'.cell? ⟨w.heap.size + 1, 1, none⟩ = some (.slice yo ym yc) ∧ w'.cell? ⟨w.heap.size + 1, 2, none⟩ = some (.bool yb2) ∧ w'.cell? ⟨w.heap.size + 1, 3, none⟩ = some (.slice yo2 ym2 yc2)) := hid (fun w' hb => by
    refine ⟨?_, ?_, ?_, ?_, ?_, ?_, ?_, ?_⟩ <;> (first | (rw [hb.cell (by simp <;> omega), hW0]; simp [go_sem]; done) | (rw [hb.frozen (by simp <;> omega), hW0]; simp [go_sem]; done)))
  have HT : Hid (∀ w', Below (w.heap.size + 3) W0 w' → (w'.cell? ⟨w.heap.size + 2, 0, none⟩ = some (.bool false) ∧ w'.cell? ⟨w.heap.size + 2, 1, none⟩ = some (.slice none 0 0) ∧ w'.cell? ⟨w.heap.size + 2, 2, none⟩ = some (.bool false) ∧ w'.cell? ⟨w.heap.size + 2, 3, none⟩ = some (.slice none 0 0)) ∧ (w'.frozen? ⟨w.heap.size + 2, 0, none⟩ = false ∧ w'.frozen? ⟨w.heap.size + 2, 1, none⟩ = false ∧ w'.frozen? ⟨w.heap.size + 2, 2, none⟩ = false ∧ w'.frozen? ⟨w.heap.size + 2, 3, none⟩ = false)) := hid (fun w' hb => by
    refine ⟨⟨?_, ?_, ?_, ?_⟩, ?_, ?_, ?_, ?_⟩ <;> (first | (rw [hb.cell (by simp <;> omega), hW0]; simp [go_sem]; done) | (rw [hb.frozen (by simp <;> omega), hW0]; simp [go_sem]; done)))
  have HB0 := hid hB0; have Hz0 := hid hz0; have HW := hid hW0
  clear hW0 hB0 hz0
  go_enter Tryz.func48, Tryz.ntmps48
  go_upto_region 1 with (fail)
  rw [← HW.out]
  obtain ⟨k0, k1, k2, k3, k4, k5, k6, k7⟩ := HS.out W0 (Below.refl _ _)
  go_wp2_with fail
  refine (HCm.out _ HB0.out).mono ?_
  rintro e wc ⟨rfl, hX1⟩
  clear k0 k1 k2 k3 k4 k5 k6 k7
  obtain ⟨⟨hr0, hr1, hr2, hr3⟩, hf0, hf1, hf2, hf3⟩ := HT.out _ (hX1.mono (by have := Hz0.out; omega))
  have hz0 := Hz0.out
  have Hw := hid (HB0.out.trans (hX1.mono HB0.out.size))
  clear hX1
  go_wp2
  refine bodyPost_ret (v := .tuple #[.agg #[.bool false, .slice none 0 0, .bool false, .slice none 0 0], .int .i64 2]) (by simp [results, Tryz.results48, go_sem, hr0, hr1, hr2, hr3]) rfl ⟨rfl, ((((Hw.out.setCell (by simp <;> omega) _).setCell (by simp <;> omega) _).setCell (by simp <;> omega) _).setCell (by simp <;> omega) _)⟩

set_option maxRecDepth 100000 in
set_option maxHeartbeats 4000000 in
theorem Between_fr (u v : Value) (n1 d1 n2 d2 : Int) (K R : Nat) (w : World) (hu : Rv w u n1 d1 K) (hv : Rv w v n2 d2 K) (hK : K ≤ 150) (hle : n1 * d2 ≤ n2 * d1) (hR : 2 * ((K + 1) / 2 + 1) ≤ R) :
    Calls Tryz.prog 48 #[u, v] w (RetBtF w n1 d1 n2 d2 R) := by
  have HCm := hid (fun (w' : World) (hb : Below w.heap.size w w') => Compare_rv u v n1 d1 n2 d2 _ K w' (hu.below hb (Nat.le_refl _)) (hv.below hb (Nat.le_refl _)) rfl hK)
  obtain ⟨pd1, x1, y1, hu, h1⟩ := hu
  obtain ⟨pd2, x2, y2, hv, h2⟩ := hv
  have HR1 := hid (fun (w' : World) (hb : Below w.heap.size w w') => readRatio_any u x1 y1 K w' (hu.below hb (Nat.le_refl _)) (by omega))
  have HR2 := hid (fun (w' : World) (hb : Below w.heap.size w w') => readRatio_any v x2 y2 K w' (hv.below hb (Nat.le_refl _)) (by omega))
  obtain ⟨xb, xo, xm, xc, xb2, xo2, xm2, xc2, rfl, _, _⟩ := Ra.opened hu
  obtain ⟨yb, yo, ym, yc, yb2, yo2, ym2, yc2, rfl, _, _⟩ := Ra.opened hv
  have pe1 := rd_pos y1
  have pe2 := rd_pos y2
  obtain ⟨z1, hz1⟩ : ∃ z, z = rn x1 y1 := ⟨_, rfl⟩
  obtain ⟨e1, he1⟩ : ∃ q, q = rd y1 := ⟨_, rfl⟩
  obtain ⟨z2, hz2⟩ : ∃ z, z = rn x2 y2 := ⟨_, rfl⟩
  obtain ⟨e2, he2⟩ : ∃ q, q = rd y2 := ⟨_, rfl⟩
  rw [← hz1, ← he1] at h1 HR1
  rw [← hz2, ← he2] at h2 HR2
  rw [← he1] at pe1
  rw [← he2] at pe2
  have Hp := hid (show 0 < e1 ∧ 0 < d1 ∧ 0 < e2 ∧ 0 < d2 ∧ z1 * d1 = n1 * e1 ∧ z2 * d2 = n2 * e2 from ⟨pe1, pd1, pe2, pd2, h1, h2⟩)
  have HK := hid hK
  clear hz1 he1 hz2 he2 hu hv pe1 pe2 pd1 pd2 h1 h2 hK
  have hzl : z1 * e2 ≤ z2 * e1 := by
    have h := Hp.out
    have a1 := le_scale (z := z1) (e := e1) (n := n1) (d := d1) (p := n2) (q := d2) h.1 h.2.1 h.2.2.2.2.1 hle
    have a2 := ge_scale (z := z2) (e := e2) (n := n2) (d := d2) (p := z1) (q := e1) h.2.2.1 h.2.2.2.1 h.2.2.2.2.2 a1
    exact a2
  obtain ⟨cv, hcv⟩ : ∃ cv, cv = cmpI (n1 * d2) (n2 * d1) := ⟨_, rfl⟩
  have hcl : ¬ 0 < cv := by rw [hcv]; have := (show cmpI (n1 * d2) (n2 * d1) ≤ 0 by unfold cmpI; (repeat' split) <;> omega); omega
  rw [← hcv] at HCm
  have HR := hid hR
  have Hzl := hid hzl
  clear hcv hR hzl hle
  obtain ⟨W0, hW0⟩ : ∃ W0, W0 = (((w.alloc (.cells #[.bool xb, .slice xo xm xc, .bool xb2, .slice xo2 xm2 xc2] 26)).alloc (.cells #[.bool yb, .slice yo ym yc, .bool yb2, .slice yo2 ym2 yc2] 26)).alloc (.cells #[.bool false, .slice none 0 0, .bool false, .slice none 0 0] 26)) := ⟨_, rfl⟩
  have hB0 : Below w.heap.size w W0 := by rw [hW0]; exact (((Below.refl _ _).alloc (Nat.le_refl _) _).alloc (by simp <;> omega) _).alloc (by simp <;> omega) _
  have hz0 : W0.heap.size = w.heap.size + 3 := by rw [hW0]; simp
  have HS : Hid (∀ w', Below (w.heap.size + 2) W0 w' → w'.cell? ⟨w.heap.size, 0, none⟩ = some (.bool xb) ∧ w'.cell? ⟨w.heap.size, 1, none⟩ = some (.slice xo xm xc) ∧ w'.cell? ⟨w.heap.size, 2, none⟩ = some (.bool xb2) ∧ w'.cell? ⟨w.heap.size, 3, none⟩ = some (.slice xo2 xm2 xc2) ∧ w'.cell? ⟨w.heap.size + 1, 0, none⟩ = some (.bool yb) ∧ w'.cell? ⟨w.heap.size + 1, 1, none⟩ = some (.slice yo ym yc) ∧ w'.cell? ⟨w.heap.size + 1, 2, none⟩ = some (.bool yb2) ∧ w'.cell? ⟨w.heap.size + 1, 3, none⟩ = some (.slice yo2 ym2 yc2)) := hid (fun w' hb => by
    refine ⟨?_, ?_, ?_, ?_, ?_, ?_, ?_, ?_⟩ <;> (first | (rw [hb.cell (by simp <;> omega), hW0]; simp [go_sem]; done) | (rw [hb.frozen (by simp <;> omega), hW0]; simp [go_sem]; done)))
  have HT : Hid (∀ w', Below (w.heap.size + 3) W0 w' → (w'.cell? ⟨w.heap.size + 2, 0, none⟩ = some (.bool false) ∧ w'.cell? ⟨w.heap.size + 2, 1, none⟩ = some (.slice none 0 0) ∧ w'.cell? ⟨w.heap.size + 2, 2, none⟩ = some (.bool false) ∧ w'.cell? ⟨w.heap.size + 2, 3, none⟩ = some (.slice none 0 0)) ∧ (w'.frozen? ⟨w.heap.size + 2, 0, none⟩ = false ∧ w'.frozen? ⟨w.heap.size + 2, 1, none⟩ = false ∧ w'.frozen? ⟨w.heap.size + 2, 2, none⟩ = false ∧ w'.frozen? ⟨w.heap.size + 2, 3, none⟩ = false)) := hid (fun w' hb => by
    refine ⟨⟨?_, ?_, ?_, ?_⟩, ?_, ?_, ?_, ?_⟩ <;> (first | (rw [hb.cell (by simp <;> omega), hW0]; simp [go_sem]; done) | (rw [hb.frozen (by simp <;> omega), hW0]; simp [go_sem]; done)))
  have HB0 := hid hB0; have Hz0 := hid hz0; have HW := hid hW0
  clear hW0 hB0 hz0
  go_enter Tryz.func48, Tryz.ntmps48
  go_upto_region 1 with (fail)
  rw [← HW.out]
  obtain ⟨k0, k1, k2, k3, k4, k5, k6, k7⟩ := HS.out W0 (Below.refl _ _)
  go_wp2_with fail
  refine (HCm.out _ HB0.out).mono ?_
  rintro e wc ⟨rfl, hX1⟩
  clear k0 k1 k2 k3 k4 k5 k6 k7
  go_upto_region 3 with (fail)
  have HKG : Hid (AllKeep [(false, (fun wq vq => vq = .agg #[.bool xb, .slice xo xm xc, .bool xb2, .slice xo2 xm2 xc2]), undef), (false, (fun wq vq => Ft wq vq (z1) (e1) ((K + 1) / 2 + 1)), undef), (false, (fun wq vq => vq = .agg #[.bool yb, .slice yo ym yc, .bool yb2, .slice yo2 ym2 yc2]), undef), (false, (fun wq vq => Ft wq vq (z2) (e2) ((K + 1) / 2 + 1)), undef)]) := hid ⟨kcV _, ftV _ _ _, kcV _, ftV _ _ _, trivial⟩
  refine region_inv (by kernel_rfl) (fun L act w' => ∃ f0 f1 f2 f3 f4 f5 f6 f7, L = #[f0, f1, f2, f3, f4, f5, f6, f7] ∧ (f6 = true → f4 = true ∧ f1 = true) ∧ (f7 = true → f5 = true ∧ f3 = true) ∧ ∃ s13 s14 s15 s16 s6 s7, act = { tmps := #[.agg #[.bool xb, .slice xo xm xc, .bool xb2, .slice xo2 xm2 xc2], .agg #[.bool yb, .slice yo ym yc, .bool yb2, .slice yo2 ym2 yc2], .pointer (some ⟨w.heap.size, 0, none⟩), .pointer (some ⟨w.heap.size + 1, 0, none⟩), .pointer (some ⟨w.heap.size + 1 + 1, 0, none⟩), .int .i64 0, s6, s7, .agg #[.bool xb, .slice xo xm xc, .bool xb2, .slice xo2 xm2 xc2], .agg #[.bool yb, .slice yo ym yc, .bool yb2, .slice yo2 ym2 yc2], .int .i64 cv, .bool (decide (0 < cv)), undef, s13, s14, s15, s16, undef, undef, undef, undef, undef, undef, undef, undef, undef, undef, undef, undef, undef, undef, undef, undef, undef, undef, undef, undef, undef, undef, undef, undef], defers := [] } ∧ RX W0.heap.size W0 [(f0, (fun wq vq => vq = .agg #[.bool xb, .slice xo xm xc, .bool xb2, .slice xo2 xm2 xc2]), s13), (f1, (fun wq vq => Ft wq vq (z1) (e1) ((K + 1) / 2 + 1)), s14), (f2, (fun wq vq => vq = .agg #[.bool yb, .slice yo ym yc, .bool yb2, .slice yo2 ym2 yc2]), s15), (f3, (fun wq vq => Ft wq vq (z2) (e2) ((K + 1) / 2 + 1)), s16)] [(3, f4, f6, s6, s14), (3, f5, f7, s7, s16)] w') ?_ ?_ ?_
  · exact ⟨_, _, _, _, _, _, _, _, rfl, nofun, nofun, _, _, _, _, _, _, rfl, hX1.drew, hX1.size, ⟨nofun, nofun, nofun, nofun, trivial⟩, ⟨nofun, nofun, trivial⟩, ⟨⟨nofun, trivial⟩, trivial, trivial⟩⟩
  · rintro L act w' i hs ⟨f0, f1, f2, f3, f4, f5, f6, f7, rfl, d0, d1, s13, s14, s15, s16, s6, s7, rfl, J⟩ hi
    obtain ⟨hi, hn, hd⟩ := waits_spec (dep := [[], [0], [], [2, 1], [], [], [4, 1, 3], [5, 3, 6]]) (by kernel_rfl) hi
    have hiN : i < 8 := hi
    obtain ⟨k0, k1, k2, k3, k4, k5, k6, k7⟩ := (hid (fun w' (hb : Below W0.heap.size W0 w') => HS.out w' (hb.mono (by have := Hz0.out; omega)))).out w' J.bel
    have HJ := hid J
    rcases (show i = 0 ∨ i = 1 ∨ i = 2 ∨ i = 3 ∨ i = 4 ∨ i = 5 ∨ i = 6 ∨ i = 7 by omega) with rfl | rfl | rfl | rfl | rfl | rfl | rfl | rfl
    · clear J hd hi hiN hn
      refine wpOp_step rfl (fun kq hKq => ?_)
      go_simp
      exact hKq _ _ ⟨true, f1, f2, f3, f4, f5, f6, f7, rfl, d0, d1, _, _, _, _, _, _, rfl, HJ.out.bel, HJ.out.siz, ⟨fun _ => rfl, HJ.out.vals.2.1, HJ.out.vals.2.2.1, HJ.out.vals.2.2.2.1, trivial⟩, ⟨HJ.out.boxes.1, HJ.out.boxes.2.1, trivial⟩, HJ.out.ne⟩
    · obtain rfl : f1 = false := hn
      obtain rfl : f6 = false := by cases f6 with | false => rfl | true => exact absurd (d0 rfl).2 (by simp)
      have e13 : s13 = .agg #[.bool xb, .slice xo xm xc, .bool xb2, .slice xo2 xm2 xc2] := J.vals.1 (hd 0 (by simp))
      subst e13
      have hw := J.bel
      clear J hd hi hiN d0
      refine wpOp_step rfl (fun kq hKq => ?_)
      go_simp
      refine (HR1.out _ (HB0.out.trans (hw.mono HB0.out.size))).mono ?_
      rintro e wz ⟨zv, rfl, HZ, hb⟩
      have J2 := RX.step HJ.out HKG.out hb
      exact hKq _ _ ⟨f0, true, f2, f3, f4, f5, false, f7, rfl, nofun, d1, _, _, _, _, _, _, rfl, J2.bel, J2.siz, ⟨J2.vals.1, fun _ => HZ, J2.vals.2.2.1, J2.vals.2.2.2.1, trivial⟩, ⟨fun e => (J2.boxes.1 e).fresh, J2.boxes.2.1, trivial⟩, J2.ne⟩
    · clear J hd hi hiN hn
      refine wpOp_step rfl (fun kq hKq => ?_)
      go_simp
      exact hKq _ _ ⟨f0, f1, true, f3, f4, f5, f6, f7, rfl, d0, d1, _, _, _, _, _, _, rfl, HJ.out.bel, HJ.out.siz, ⟨HJ.out.vals.1, HJ.out.vals.2.1, fun _ => rfl, HJ.out.vals.2.2.2.1, trivial⟩, ⟨HJ.out.boxes.1, HJ.out.boxes.2.1, trivial⟩, HJ.out.ne⟩
    · obtain rfl : f3 = false := hn
      obtain rfl : f7 = false := by cases f7 with | false => rfl | true => exact absurd (d1 rfl).2 (by simp)
      have e15 : s15 = .agg #[.bool yb, .slice yo ym yc, .bool yb2, .slice yo2 ym2 yc2] := J.vals.2.2.1 (hd 2 (by simp))
      subst e15
      have hw := J.bel
      clear J hd hi hiN d1
      refine wpOp_step rfl (fun kq hKq => ?_)
      go_simp
      refine (HR2.out _ (HB0.out.trans (hw.mono HB0.out.size))).mono ?_
      rintro e wz ⟨zv, rfl, HZ, hb⟩
      have J2 := RX.step HJ.out HKG.out hb
      exact hKq _ _ ⟨f0, f1, f2, true, f4, f5, f6, false, rfl, d0, nofun, _, _, _, _, _, _, rfl, J2.bel, J2.siz, ⟨J2.vals.1, J2.vals.2.1, J2.vals.2.2.1, fun _ => HZ, trivial⟩, ⟨J2.boxes.1, fun e => (J2.boxes.2.1 e).fresh, trivial⟩, J2.ne⟩
    · obtain rfl : f4 = false := hn
      obtain rfl : f6 = false := by cases f6 with | false => rfl | true => exact absurd (d0 rfl).1 (by simp)
      clear J hd hi hiN d0
      refine wpOp_step rfl (fun kq hKq => ?_)
      go_simp
      have J2 := RX.step HJ.out HKG.out (bl_new (w := w') (.cells #[.bool false, .slice none 0 0, .slice none 0 0] 80))
      exact hKq _ _ ⟨f0, f1, f2, f3, true, f5, false, f7, rfl, nofun, d1, _, _, _, _, _, _, rfl, J2.bel, J2.siz, J2.vals, ⟨fun _ => boxn_new _ w' _ _ [.bool false, .slice none 0 0, .slice none 0 0] (by intro i k x hi; match i, hi with | 0, _ => nofun | 1, _ => nofun | 2, _ => nofun) HJ.out.siz, J2.boxes.2.1, trivial⟩, ⟨⟨fun _ e => (boxn_ne_new (HJ.out.boxes.2.1 e)).symm, trivial⟩, trivial, trivial⟩⟩
    · obtain rfl : f5 = false := hn
      obtain rfl : f7 = false := by cases f7 with | false => rfl | true => exact absurd (d1 rfl).1 (by simp)
      clear J hd hi hiN d1
      refine wpOp_step rfl (fun kq hKq => ?_)
      go_simp
      have J2 := RX.step HJ.out HKG.out (bl_new (w := w') (.cells #[.bool false, .slice none 0 0, .slice none 0 0] 80))
      exact hKq _ _ ⟨f0, f1, f2, f3, f4, true, f6, false, rfl, d0, nofun, _, _, _, _, _, _, rfl, J2.bel, J2.siz, J2.vals, ⟨J2.boxes.1, fun _ => boxn_new _ w' _ _ [.bool false, .slice none 0 0, .slice none 0 0] (by intro i k x hi; match i, hi with | 0, _ => nofun | 1, _ => nofun | 2, _ => nofun) HJ.out.siz, trivial⟩, ⟨⟨fun e _ => boxn_ne_new (HJ.out.boxes.1 e), trivial⟩, trivial, trivial⟩⟩
    · obtain rfl : f4 = true := hd 4 (by simp)
      obtain rfl : f1 = true := hd 1 (by simp)
      obtain ⟨bq, oq, mq, cq, ooq, mmq, ccq, rfl, _⟩ := Ft.opened (J.vals.2.1 rfl)
      have HBX : Hid _ := hid (J.boxes.1 rfl)
      obtain ⟨p, vs, rfl, hp, hl, hnn, hc, hf, _⟩ := J.boxes.1 rfl
      have cc0 := hc 0 (by decide)
      have ff0 := hf 0 (by decide)
      have cc1 := hc 1 (by decide)
      have ff1 := hf 1 (by decide)
      have cc2 := hc 2 (by decide)
      have ff2 := hf 2 (by decide)
      clear J hd hi hiN hn hc hf hnn hl
      refine wpOp_step rfl (fun kq hKq => ?_)
      go_simp
      exact hKq _ _ ⟨f0, true, f2, f3, true, f5, true, f7, rfl, fun _ => ⟨rfl, rfl⟩, d1, _, _, _, _, _, _, rfl, below_setCells hp [.bool bq, .slice oq mq cq, .slice ooq mmq ccq] 0 HJ.out.bel, Nat.le_trans HJ.out.siz (Nat.le_of_eq (size_setCells p [.bool bq, .slice oq mq cq, .slice ooq mmq ccq] 0 w').symm), Vals.keep HKG.out (BoxN.keeps HBX.out (us := [.bool bq, .slice oq mq cq, .slice ooq mmq ccq]) rfl) HJ.out.vals, ⟨fun _ => BoxN.store HBX.out [.bool bq, .slice oq mq cq, .slice ooq mmq ccq] rfl (by intro i k x hi; match i, hi with | 0, _ => nofun | 1, _ => nofun | 2, _ => nofun), fun e => BoxN.other (HJ.out.boxes.2.1 e) ((HJ.out.ne.1.1 rfl e).symm) 0 [.bool bq, .slice oq mq cq, .slice ooq mmq ccq], trivial⟩, HJ.out.ne⟩
    · obtain rfl : f5 = true := hd 5 (by simp)
      obtain rfl : f3 = true := hd 3 (by simp)
      obtain ⟨bq, oq, mq, cq, ooq, mmq, ccq, rfl, _⟩ := Ft.opened (J.vals.2.2.2.1 rfl)
      have HBX : Hid _ := hid (J.boxes.2.1 rfl)
      obtain ⟨p, vs, rfl, hp, hl, hnn, hc, hf, _⟩ := J.boxes.2.1 rfl
      have cc0 := hc 0 (by decide)
      have ff0 := hf 0 (by decide)
      have cc1 := hc 1 (by decide)
      have ff1 := hf 1 (by decide)
      have cc2 := hc 2 (by decide)
      have ff2 := hf 2 (by decide)
      clear J hd hi hiN hn hc hf hnn hl
      refine wpOp_step rfl (fun kq hKq => ?_)
      go_simp
      exact hKq _ _ ⟨f0, f1, f2, true, f4, true, f6, true, rfl, d0, fun _ => ⟨rfl, rfl⟩, _, _, _, _, _, _, rfl, below_setCells hp [.bool bq, .slice oq mq cq, .slice ooq mmq ccq] 0 HJ.out.bel, Nat.le_trans HJ.out.siz (Nat.le_of_eq (size_setCells p [.bool bq, .slice oq mq cq, .slice ooq mmq ccq] 0 w').symm), Vals.keep HKG.out (BoxN.keeps HBX.out (us := [.bool bq, .slice oq mq cq, .slice ooq mmq ccq]) rfl) HJ.out.vals, ⟨fun e => BoxN.other (HJ.out.boxes.1 e) (HJ.out.ne.1.1 e rfl) 0 [.bool bq, .slice oq mq cq, .slice ooq mmq ccq], fun _ => BoxN.store HBX.out [.bool bq, .slice oq mq cq, .slice ooq mmq ccq] rfl (by intro i k x hi; match i, hi with | 0, _ => nofun | 1, _ => nofun | 2, _ => nofun), trivial⟩, HJ.out.ne⟩
  rintro L act w' hs ⟨f0, f1, f2, f3, f4, f5, f6, f7, rfl, _, _, s13, s14, s15, s16, s6, s7, rfl, J⟩ hr
  have hd := early_done (by kernel_rfl) hs hr 8
  obtain rfl : f0 = true := hd 0 (by omega) (by simp)
  obtain rfl : f1 = true := hd 1 (by omega) (by simp)
  obtain rfl : f2 = true := hd 2 (by omega) (by simp)
  obtain rfl : f3 = true := hd 3 (by omega) (by simp)
  obtain rfl : f4 = true := hd 4 (by omega) (by simp)
  obtain rfl : f5 = true := hd 5 (by omega) (by simp)
  obtain rfl : f6 = true := hd 6 (by omega) (by simp)
  obtain rfl : f7 = true := hd 7 (by omega) (by simp)
  have e13 : s13 = .agg #[.bool xb, .slice xo xm xc, .bool xb2, .slice xo2 xm2 xc2] := J.vals.1 rfl
  subst e13
  have e15 : s15 = .agg #[.bool yb, .slice yo ym yc, .bool yb2, .slice yo2 ym2 yc2] := J.vals.2.2.1 rfl
  subst e15
  have hg6 : (fun wq vq => Ft wq vq (z1) (e1) ((K + 1) / 2 + 1)) w' s14 := J.vals.2.1 rfl
  obtain ⟨bx6, ox6, mx6, cx6, oox6, mmx6, ccx6, rfl, _⟩ := Ft.opened hg6
  obtain ⟨p6, rfl, hp6, hl6, hc6⟩ := BoxN.done (us := [.bool bx6, .slice ox6 mx6 cx6, .slice oox6 mmx6 ccx6]) (J.boxes.1 rfl)
  have k6_0 : w'.cell? ⟨p6, 0, none⟩ = some (.bool bx6) := (hc6 0 (by decide)).1
  have k6_1 : w'.cell? ⟨p6, 1, none⟩ = some (.slice ox6 mx6 cx6) := (hc6 1 (by decide)).1
  have k6_2 : w'.cell? ⟨p6, 2, none⟩ = some (.slice oox6 mmx6 ccx6) := (hc6 2 (by decide)).1
  clear hc6
  have hg7 : (fun wq vq => Ft wq vq (z2) (e2) ((K + 1) / 2 + 1)) w' s16 := J.vals.2.2.2.1 rfl
  obtain ⟨bx7, ox7, mx7, cx7, oox7, mmx7, ccx7, rfl, _⟩ := Ft.opened hg7
  obtain ⟨p7, rfl, hp7, hl7, hc7⟩ := BoxN.done (us := [.bool bx7, .slice ox7 mx7 cx7, .slice oox7 mmx7 ccx7]) (J.boxes.2.1 rfl)
  have k7_0 : w'.cell? ⟨p7, 0, none⟩ = some (.bool bx7) := (hc7 0 (by decide)).1
  have k7_1 : w'.cell? ⟨p7, 1, none⟩ = some (.slice ox7 mx7 cx7) := (hc7 1 (by decide)).1
  have k7_2 : w'.cell? ⟨p7, 2, none⟩ = some (.slice oox7 mmx7 ccx7) := (hc7 2 (by decide)).1
  clear hc7
  have hbel := J.bel
  have hsiz := J.siz
  clear hd hr hs J
  have HX3 := hid hbel; have hs3 := hsiz; have Hg6 := hid hg6; have Hg7 := hid hg7
  have HB3 := hid (HB0.out.trans (hbel.mono HB0.out.size))
  have HC3 : Hid (∀ wx, Kp w'.heap.size (w.heap.size + 2) w' wx → wx.cell? ⟨p6, 0, none⟩ = some (.bool bx6) ∧ wx.cell? ⟨p6, 1, none⟩ = some (.slice ox6 mx6 cx6) ∧ wx.cell? ⟨p6, 2, none⟩ = some (.slice oox6 mmx6 ccx6) ∧ wx.cell? ⟨p7, 0, none⟩ = some (.bool bx7) ∧ wx.cell? ⟨p7, 1, none⟩ = some (.slice ox7 mx7 cx7) ∧ wx.cell? ⟨p7, 2, none⟩ = some (.slice oox7 mmx7 ccx7)) := hid (fun wx h => by
    have hz := Hz0.out
    refine ⟨?_, ?_, ?_, ?_, ?_, ?_⟩
    · exact (h.cell _ (by simp; omega) (by simp; omega)).trans k6_0
    · exact (h.cell _ (by simp; omega) (by simp; omega)).trans k6_1
    · exact (h.cell _ (by simp; omega) (by simp; omega)).trans k6_2
    · exact (h.cell _ (by simp; omega) (by simp; omega)).trans k7_0
    · exact (h.cell _ (by simp; omega) (by simp; omega)).trans k7_1
    · exact (h.cell _ (by simp; omega) (by simp; omega)).trans k7_2)
  have HX0 := hid (Below.refl w'.heap.size w')
  clear k6_0 k6_1 k6_2 k7_0 k7_1 k7_2 hg6 hg7 hbel hsiz hX1
  go_upto_region 4 with (fail)
  obtain ⟨k0, k1, k2, k3, k4, k5⟩ := HC3.out _ (Kp.of_below (Below.refl _ _))
  by_cases hpos : 0 < z1
  · have hc1 : cmpI z1 0 = 1 := cmp_gt'' hpos
    have hsg := sign_any _ z1 _ w' Hg6.out.it
    rw [hc1] at hsg
    have Hsg := hid hsg; have Hpos := hid hpos
    clear hc1 hsg hpos
    go_wp2_with fail
    refine Hsg.out.mono ?_
    rintro e w4 ⟨rfl, hX4⟩
    clear k0 k1 k2 k3 k4 k5
    go_upto_region 5 with (fail)
    obtain ⟨k0, k1, k2, k3, k4, k5⟩ := HC3.out _ (Kp.of_below hX4)
    have hz2 : 0 < z2 := by
      have h := Hp.out
      have a1 := Int.mul_pos Hpos.out h.2.2.1
      have a2 := Hzl.out
      rcases Int.lt_or_le 0 z2 with h3 | h3
      · exact h3
      · have := Int.mul_nonneg (show 0 ≤ -z2 by omega) (Int.le_of_lt h.1)
        rw [Int.neg_mul] at this
        omega
    have hsm := simplest_any _ _ z1 e1 z2 e2 ((K + 1) / 2 + 1) w4 (Hg6.out.below hX4 (Nat.le_refl _)) (Hg7.out.below hX4 (Nat.le_refl _)) Hpos.out Hp.out.1 hz2 Hp.out.2.2.1 Hzl.out (by omega) (by have := HK.out; omega)
    have Hsm := hid hsm
    clear hsm hz2
    go_wp2_with fail
    refine Hsm.out.mono ?_
    rintro e w5 ⟨N, M, f5, rfl, hf5, hsmp, hb5⟩
    have HSP := hid hsmp
    have HX5 := hid (bl_tr hX4 hb5)
    clear hsmp hb5 hX4 k0 k1 k2 k3 k4 k5
    go_wp2_with fail
    refine (fracValue_any _ N M _ _ hf5 HSP.out.m0 (by have := HK.out; omega)).mono ?_
    rintro e w6 ⟨_, rfl, hr6, hb6⟩
    obtain ⟨b7, o7, m7, c7, b8, o8, m8, c8, rfl, H7, H8⟩ := FrR.opened hr6
    have hX6 := bl_tr HX5.out hb6
    clear hr6 hb6
    have hlow := bl_tr HX3.out hX6
    obtain ⟨⟨hr0, hr1, hr2, hr3⟩, hf0, hf1, hf2, hf3⟩ := HT.out _ (hlow.mono (by have := Hz0.out; omega))
    have Hw := hid (HB0.out.trans (hlow.mono HB0.out.size))
    have hz0 := Hz0.out
    have hlt : w.heap.size + 2 < w5.heap.size := by have h1 := HX5.out.size; have h2 := HX3.out.size; omega
    clear hlow
    go_wp2
    refine bodyPost_ret (v := .tuple #[.agg #[.bool b7, .slice o7 m7 c7, .bool b8, .slice o8 m8 c8], .int .i64 0]) (by simp [results, Tryz.results48, go_sem, hr0, hr1, hr2, hr3]) rfl ⟨_, _, b7, o7, m7, c7, b8, o8, m8, c8, w5, (btw_pos Hp.out.1 Hp.out.2.1 Hp.out.2.2.1 Hp.out.2.2.2.1 Hp.out.2.2.2.2.1 Hp.out.2.2.2.2.2 HSP.out), rfl, by omega, hid ?_, ((((Hw.out.setCell (by simp <;> omega) _).setCell (by simp <;> omega) _).setCell (by simp <;> omega) _).setCell (by simp <;> omega) _)⟩
    exact ⟨_, _, _, _, rfl, FrA.mono ((((H7.out.set hlt _).set hlt _).set hlt _).set hlt _) (by have := HR.out; omega), FrA.mono ((((H8.out.set hlt _).set hlt _).set hlt _).set hlt _) (by have := HR.out; omega)⟩
  · have hnp : ¬ 0 < cmpI z1 0 := by unfold cmpI; (repeat' split) <;> omega
    obtain ⟨t1, ht1⟩ : ∃ t, t = cmpI z1 0 := ⟨_, rfl⟩
    rw [← ht1] at hnp
    have hsg := sign_any _ z1 _ w' Hg6.out.it
    rw [← ht1] at hsg
    have Hsg := hid hsg; have Hnp := hid (show z1 ≤ 0 by omega)
    clear ht1 hsg hpos
    go_wp2_with fail
    refine Hsg.out.mono ?_
    rintro e w4 ⟨rfl, hX4⟩
    clear k0 k1 k2 k3 k4 k5
    go_upto_region 6 with (fail)
    obtain ⟨k0, k1, k2, k3, k4, k5⟩ := HC3.out _ (Kp.of_below hX4)
    by_cases hng : z2 < 0
    · have hc1 : cmpI z2 0 = -1 := cmp_lt'' hng
      have hsg := sign_any _ z2 _ w4 (Hg7.out.below hX4 (Nat.le_refl _)).it
      rw [hc1] at hsg
      have Hsg := hid hsg
      have Hz1 := hid (show z1 < 0 by
        have h := Hp.out
        have a1 := Int.mul_neg_of_neg_of_pos hng h.1
        have a2 := Hzl.out
        rcases Int.lt_or_le z1 0 with h3 | h3
        · exact h3
        · have := Int.mul_nonneg h3 (Int.le_of_lt h.2.2.1)
          omega)
      have Hng := hid hng
      clear hc1 hsg hng
      go_wp2_with fail
      refine Hsg.out.mono ?_
      rintro e w5 ⟨rfl, hb5⟩
      have hX5 := bl_tr hX4 hb5
      clear k0 k1 k2 k3 k4 k5 hX4 hb5
      go_upto_region 7 with (fail)
      have tk1 := hid trivial; have tk2 := hid trivial; have tk3 := hid trivial; have tk4 := hid trivial; have tk5 := hid trivial
      go_region_held3 (fun wx => wx.cell? ⟨p6, 0, none⟩ = some (.bool bx6) ∧ wx.cell? ⟨p6, 1, none⟩ = some (.slice ox6 mx6 cx6) ∧ wx.cell? ⟨p6, 2, none⟩ = some (.slice oox6 mmx6 ccx6) ∧ wx.cell? ⟨p7, 0, none⟩ = some (.bool bx7) ∧ wx.cell? ⟨p7, 1, none⟩ = some (.slice ox7 mx7 cx7) ∧ wx.cell? ⟨p7, 2, none⟩ = some (.slice oox7 mmx7 ccx7)) ((refine HC3.out _ ?_; repeat (first | assumption | exact Kp.of_below (by assumption) | exact Kp.of_below (Below.drew (by assumption)) | (refine Kp.set ?_ (by simp) _)))) (first
        | (clear tk1; go_at_call 55; refine (fneg_any _ z2 e2 _ _ (Hg7.out.below hX5.drew (Nat.le_refl _))).mono ?_; rintro e v1 ⟨f1, rfl, hf1, hq1⟩; obtain ⟨fb1, fo1, fm1, fc1, go1, gm1, gc1, rfl, _, _, _⟩ := Ft.opened hf1; have hF1 := hid hf1; have hY1 : Below w'.heap.size w' v1 := hX5.drew.trans (hq1.mono hX5.size))
        | (clear tk2; go_at_call 55; refine (fneg_any _ z1 e1 _ _ (Hg6.out.below hY1 (Nat.le_refl _))).mono ?_; rintro e v2 ⟨f2, rfl, hf2, hq2⟩; obtain ⟨fb2, fo2, fm2, fc2, go2, gm2, gc2, rfl, _, _, _⟩ := Ft.opened hf2; have hF2 := hid hf2; have hF1' := hid (hF1.out.below hq2 (Nat.le_refl _)); have hY2 : Below w'.heap.size w' v2 := hY1.trans (hq2.mono hY1.size))
        | (clear tk3; go_at_call 91; refine (simplest_any _ _ (-z2) e2 (-z1) e1 _ _ hF1'.out hF2.out (by have := Hng.out; omega) Hp.out.2.2.1 (by have := Hz1.out; omega) Hp.out.1 (by have := Hzl.out; rw [Int.neg_mul, Int.neg_mul]; omega) (by omega) (by have := HK.out; omega)).mono ?_; rintro e v3 ⟨N, M, f3, rfl, hf3, hsmp, hq3⟩; obtain ⟨fb3, fo3, fm3, fc3, go3, gm3, gc3, rfl, _, _, _⟩ := Ft.opened hf3; have HSP := hid hsmp; have hF3 := hid hf3; have hY3 : Below w'.heap.size w' v3 := hY2.trans (hq3.mono hY2.size))
        | (clear tk4; go_at_call 55; refine (fneg_any _ N M _ _ hF3.out).mono ?_; rintro e v4 ⟨f4, rfl, hf4, hq4⟩; obtain ⟨fb4, fo4, fm4, fc4, go4, gm4, gc4, rfl, _, _, _⟩ := Ft.opened hf4; have hF4 := hid hf4; have hY4 : Below w'.heap.size w' v4 := hY3.trans (hq4.mono hY3.size))
        | (clear tk5; go_at_call 53; refine (fracValue_any _ (-N) M _ _ hF4.out HSP.out.m0 (by have := HK.out; omega)).mono ?_; rintro e v5 ⟨_, rfl, hr5, hq5⟩; obtain ⟨b7, o7, m7, c7, b8, o8, m8, c8, rfl, H7, H8⟩ := FrR.opened hr5; have hY5 : Below w'.heap.size w' v5 := hY4.trans (hq5.mono hY4.size); obtain ⟨⟨hr0, hr1, hr2, hr3⟩, hf0, hf1, hf2, hf3⟩ := HT.out _ ((bl_tr HX3.out hY5).mono (by have := Hz0.out; omega))))
      have Hw := hid (HB0.out.trans ((bl_tr HX3.out hY5).mono HB0.out.size))
      have hz0 := Hz0.out
      have hlt : w.heap.size + 2 < v4.heap.size := by have h1 := hY4.size; have h2 := HX3.out.size; omega
      go_wp2
      refine bodyPost_ret (v := .tuple #[.agg #[.bool b7, .slice o7 m7 c7, .bool b8, .slice o8 m8 c8], .int .i64 0]) (by simp [results, Tryz.results48, go_sem, hr0, hr1, hr2, hr3]) rfl ⟨_, _, b7, o7, m7, c7, b8, o8, m8, c8, v4, (btw_neg Hp.out.1 Hp.out.2.1 Hp.out.2.2.1 Hp.out.2.2.2.1 Hp.out.2.2.2.2.1 Hp.out.2.2.2.2.2 HSP.out), rfl, by omega, hid ?_, ((((Hw.out.setCell (by simp <;> omega) _).setCell (by simp <;> omega) _).setCell (by simp <;> omega) _).setCell (by simp <;> omega) _)⟩
      exact ⟨_, _, _, _, rfl, FrA.mono ((((H7.out.set hlt _).set hlt _).set hlt _).set hlt _) (by have := HR.out; omega), FrA.mono ((((H8.out.set hlt _).set hlt _).set hlt _).set hlt _) (by have := HR.out; omega)⟩
    · have hc1 : ¬ cmpI z2 0 < 0 := by unfold cmpI; (repeat' split) <;> omega
      obtain ⟨t2, ht2⟩ : ∃ t, t = cmpI z2 0 := ⟨_, rfl⟩
      have hsg := sign_any _ z2 _ w4 (Hg7.out.below hX4 (Nat.le_refl _)).it
      rw [← ht2] at hsg hc1
      have Hsg := hid hsg
      have Hng := hid (show 0 ≤ z2 by omega)
      clear ht2 hsg hng
      go_wp2_with fail
      refine Hsg.out.mono ?_
      rintro e w5 ⟨rfl, hb5⟩
      have hX5 := bl_tr hX4 hb5
      clear k0 k1 k2 k3 k4 k5 hX4 hb5
      have hbz : ∀ w : World, (Instr.build 78 #[]).run Tryz.prog w = .ok (.agg #[.bool false, .slice none 0 0]) w := fun w => by kernel_rfl
      go_upto_region 8 with (fail)
      go_wp2_with fail
      refine (whole_any _ 0 1 _ (zero_it _) (by omega)).mono ?_
      rintro e w6 ⟨f6, rfl, hf6, hb6⟩
      have HX6 := hid (bl_tr hX5 hb6)
      clear hX5 hb6
      go_wp2_with fail
      refine (fracValue_any _ 0 1 _ _ hf6 (by decide) (by omega)).mono ?_
      rintro e w7 ⟨_, rfl, hr7, hb7⟩
      have e0 : lowN 0 1 = 0 ∧ lowD 0 1 = 1 := by decide
      rw [e0.1, e0.2] at hr7
      obtain ⟨b7, o7, m7, c7, b8, o8, m8, c8, rfl, H7, H8⟩ := FrR.opened hr7
      have hX7 := bl_tr HX6.out hb7
      clear hr7 hb7 e0
      have hlow := bl_tr HX3.out hX7
      obtain ⟨⟨hr0, hr1, hr2, hr3⟩, hf0, hf1, hf2, hf3⟩ := HT.out _ (hlow.mono (by have := Hz0.out; omega))
      have Hw := hid (HB0.out.trans (hlow.mono HB0.out.size))
      have hz0 := Hz0.out
      have hlt : w.heap.size + 2 < w6.heap.size := by have h1 := HX6.out.size; have h2 := HX3.out.size; omega
      clear hlow
      go_wp2
      refine bodyPost_ret (v := .tuple #[.agg #[.bool b7, .slice o7 m7 c7, .bool b8, .slice o8 m8 c8], .int .i64 0]) (by simp [results, Tryz.results48, go_sem, hr0, hr1, hr2, hr3]) rfl ⟨_, _, b7, o7, m7, c7, b8, o8, m8, c8, w6, (btw_zero Hp.out.1 Hp.out.2.1 Hp.out.2.2.1 Hp.out.2.2.2.1 Hp.out.2.2.2.2.1 Hp.out.2.2.2.2.2 Hnp.out Hng.out), rfl, by omega, hid ?_, ((((Hw.out.setCell (by simp <;> omega) _).setCell (by simp <;> omega) _).setCell (by simp <;> omega) _).setCell (by simp <;> omega) _)⟩
      exact ⟨_, _, _, _, rfl, FrA.mono ((((H7.out.set hlt _).set hlt _).set hlt _).set hlt _) (by have := HR.out; omega), FrA.mono ((((H8.out.set hlt _).set hlt _).set hlt _).set hlt _) (by have := HR.out; omega)⟩

end Go.Proofs.YtbapeilpkhbbeaaGreat
