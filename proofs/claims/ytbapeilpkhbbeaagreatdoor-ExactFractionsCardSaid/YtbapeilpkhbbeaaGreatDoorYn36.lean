/- The document's Parse: no minus, a number. Written by gen_rparse.py. The document's Parse: no minus, no number. Written by gen_rparse.py. The document's Parse: a minus, a number. Written by gen_rparse.py. -/
import Derived.Test.YtbapeilpkhbbeaaGreatDoorYn35
/- The document's Parse: no minus, a number. Written by gen_rparse.py. -/
namespace Go.Proofs.YtbapeilpkhbbeaaGreatDoor
open Go.RowKit

set_option maxRecDepth 100000 in
set_option maxHeartbeats 30000000 in
theorem rParse_py (l : List UInt8) (hl : l.length ≤ 10000) (hlong : ¬ 4096 < l.length) (hcn : negB l = false) (hcp : prsB l = true) (w : World) :
    Calls Tryz.prog 35 #[.string ⟨l.toArray⟩] w (RetRP l (6 * l.length + 6) w) := by
  have hlen := bodyL_len l
  obtain ⟨K, hK⟩ : ∃ K, K = 6 * l.length + 6 := ⟨_, rfl⟩
  rw [← hK]
  have HKb := hid (show K ≤ 100000 by omega)
  obtain ⟨t, ht⟩ : ∃ t, t = bodyL l := ⟨_, rfl⟩
  obtain ⟨neg, hneg⟩ : ∃ b, b = negB l := ⟨_, rfl⟩
  obtain ⟨s, hs⟩ : ∃ s : ByteArray, s = ⟨l.toArray⟩ := ⟨_, rfl⟩
  have hsl : (s.size : Int) = (l.length : Int) := by rw [hs]; rfl
  rw [← hs]
  have HMi := hid (fun w' => show Calls Tryz.prog 75 #[.string s] w' (fun e w2 => e = .returned (.tuple #[.string ⟨t.toArray⟩, .bool neg]) ∧ w2 = w') by rw [ht, hneg, hs]; exact rminus_any l w')
  obtain ⟨b, hb⟩ : ∃ b, b = digB t := ⟨_, rfl⟩
  have HDi := hid (fun w' => show Calls Tryz.prog 76 #[.string ⟨t.toArray⟩] w' (fun e w2 => ∃ v y, e = .returned (.tuple #[v, .bool b]) ∧ Zt w2 v y K ∧ (b = true → y = ((dv t : Nat) : Int)) ∧ Below w'.heap.size w' w2) from (rdigits_any t (by rw [ht]; omega) w').mono (by
    rintro e w2 ⟨v, y, rfl, h1, h2, h3⟩
    exact ⟨v, y, by rw [hb], h1.mono (by rw [hK, ht]; omega), by rw [hb]; exact h2, h3⟩))
  obtain ⟨E, hE⟩ : ∃ E, E = prsE l := ⟨_, rfl⟩
  obtain ⟨Z, hZ⟩ : ∃ Z, Z = prsZ l := ⟨_, rfl⟩
  have hZs : Z = sgn neg ((dv t : Nat) : Int) := by rw [hZ, hneg, ht]; rfl
  have hpt := prs_text l
  rw [← ht, ← hb, ← hZ] at hpt
  have HE := hid hE; have HZ := hid hZ
  rw [← hneg] at hcn
  have HC := hid hcn
  have HP := hid hcp
  clear hcn hcp
  have Hbad := hid (show ∀ (w' : World) (E0 : Int), E = E0 → E0 ≠ 0 → Below w.heap.size w w' → RetRP l K w (.returned (.tuple #[.agg #[.bool false, .slice none 0 0], .int .i64 E0])) w' from fun w' E0 e1 e2 hb =>
    ⟨false, none, 0, 0, by rw [← e1, hE], (fun h => absurd (by rw [← e1, hE]; exact h) e2), hb⟩)
  have hbld : ∀ w : World, (Instr.build 31 #[]).run Tryz.prog w = .ok (.agg #[.bool false, .slice none 0 0]) w := fun w => by kernel_rfl
  obtain ⟨W0, hW0⟩ : ∃ W0, W0 = w.alloc (.cells #[.bool false, .slice none 0 0] 31) := ⟨_, rfl⟩
  have hB0 : Below w.heap.size w W0 := by rw [hW0]; exact (Below.refl _ _).alloc (Nat.le_refl _) _
  have hz0 : W0.heap.size = w.heap.size + 1 := by rw [hW0]; simp
  have HT : Hid (∀ w', Below W0.heap.size W0 w' → (w'.cell? ⟨w.heap.size, 0, none⟩ = some (.bool false) ∧ w'.cell? ⟨w.heap.size, 1, none⟩ = some (.slice none 0 0)) ∧ w'.frozen? ⟨w.heap.size, 0, none⟩ = false ∧ w'.frozen? ⟨w.heap.size, 1, none⟩ = false) := hid (fun w' hb => by
    refine ⟨⟨?_, ?_⟩, ?_, ?_⟩ <;> (first | (rw [hb.cell (by rw [hW0]; simp), hW0]; simp [go_sem]; done) | (rw [hb.frozen (by rw [hW0]; simp), hW0]; simp [go_sem]; done)))
  have HB0 := hid hB0; have HW := hid hW0; have Hz0 := hid hz0
  clear hW0 hB0 hz0 hlen
  have hlI : ¬ 4096 < (s.size : Int) := by omega
  have hEb : E = if prsB l then 0 else 5 := by rw [hE]; unfold prsE; rw [if_neg hlong]
  have HEB := hid hEb; have HPT := hid hpt; have HZS := hid hZs
  have htl : t.length ≤ 10000 := by rw [ht]; have := bodyL_len l; omega
  obtain ⟨tt, htt⟩ : ∃ tt : ByteArray, tt = ⟨(txL Z).toArray⟩ := ⟨_, rfl⟩
  have HTX := hid (fun (hbt : b = true) (v : Value) (w' : World) (h : Zt w' v Z K) => show Calls Tryz.prog 42 #[v] w' (fun e w2 => e = .returned (.string tt) ∧ Below w'.heap.size w' w2) by
    rw [htt]
    exact rText_any v Z K w' h HKb.out (by
      have hd : t.all isD = true := by
        rw [hb] at hbt
        unfold digB at hbt
        rw [Bool.and_eq_true] at hbt
        exact hbt.2
      have h1 : Z.natAbs < 10 ^ t.length := by
        rw [hZs, sgn_nat]
        exact dv_lt t hd
      have := txL_len h1
      omega))
  have hts : tt = s ↔ txL Z = l := by
    rw [htt, hs]
    constructor
    · intro h
      have := congrArg (fun b : ByteArray => b.data.toList) h
      simpa using this
    · intro h; rw [h]
  have HTS := hid hts
  clear hts htt hs hsl
  clear hlong hE hZ hZs hpt hK ht hneg hb hl hEb htl
  go_enter Tryz.func35, Tryz.ntmps35
  go_upto_region 1 with (fail)
  rw [← HW.out]
  go_wp2_with fail
  refine (HMi.out _).mono ?_
  rintro e w1 ⟨rfl, h1⟩
  obtain rfl : W0 = w1 := h1.symm
  go_wp2_with fail
  refine (HDi.out _).mono ?_
  rintro e w2 ⟨v, y, rfl, hv, hy, hb2⟩
  obtain ⟨g2, o2, m2, c2, rfl, H2, H2s, H2b⟩ := Zt.opened hv
  have hmz := Md.lenz (H2s.out w2 (Below.refl _ _))
  have HX2 := hid (show Below W0.heap.size W0 w2 from hb2)
  have HY := hid hy
  clear H2b
  clear hv hy hb2
  go_upto_region 5 with (fail)
  obtain ⟨W3, hW3⟩ : ∃ W3, W3 = w2.alloc (.cells #[.bool g2, .slice o2 m2 c2] 31) := ⟨_, rfl⟩
  have hal : Below w2.heap.size w2 W3 := by rw [hW3]; exact bl_new _
  have q0 : W3.cell? ⟨w2.heap.size, 0, none⟩ = some (.bool g2) := by rw [hW3]; simp [go_sem]
  have q1 : W3.cell? ⟨w2.heap.size, 1, none⟩ = some (.slice o2 m2 c2) := by rw [hW3]; simp [go_sem]
  have qf : W3.frozen? ⟨w2.heap.size, 0, none⟩ = false := by rw [hW3]; simp [go_sem]
  have HS3 := hid (show W3.heap.size = w2.heap.size + 1 by rw [hW3]; simp)
  rw [← hW3]
  have HX3 := hid (HX2.out.trans (hal.mono HX2.out.size))
  have HMd := hid (H2s.out W3 hal)
  have HLen := hid (show b = true → (m2 = 0 ↔ dv t = 0) from fun hbt => by have h := hmz; rw [HY.out hbt] at h; simpa using h)
  clear hW3 hal hmz H2 H2s
  cases hn : neg with
  | false =>
    subst hn
    have HZt := hid (show b = true → Zt (W3.setCell ⟨w2.heap.size, 0, none⟩ (.bool false)) (.agg #[.bool false, .slice o2 m2 c2]) Z K from fun hbt => by
      have h := zt_sgn false (show Md W3 (.slice o2 m2 c2) ((dv t : Nat) : Int) K by have h := HMd.out; rw [HY.out hbt] at h; simpa using h)
      rw [show (false && decide (0 < dv t)) = false from rfl, ← HZS.out] at h
      exact h.set q0 (fun x h => by cases h) _)
    have HB4 := hid (HX3.out.setCell (p := ⟨w2.heap.size, 0, none⟩) HX2.out.size (.bool false))
    cases hbb : b with
    | false =>
      subst hbb
      exact absurd (HP.out.symm.trans (HPT.out.trans (Bool.false_and _))) (by decide)
    | true =>
      subst hbb
      by_cases hts : tt = s
      · have HE0 := hid (show E = 0 by rw [HEB.out, HPT.out, decide_eq_true (HTS.out.1 hts)]; rfl)
        subst hts
        go_wp2_with (go_at_call 42; refine (HTX.out rfl _ _ (HZt.out rfl)).mono ?_; rintro e w5 ⟨rfl, hb5⟩; have HX5 := hid (HB4.out.trans (hb5.mono HB4.out.size)); obtain ⟨⟨k0, k1⟩, f0, f1⟩ := HT.out w5 HX5.out; have r0 : w5.cell? ⟨w2.heap.size, 0, none⟩ = some (.bool false) := (hb5.cell (p := ⟨w2.heap.size, 0, none⟩) (by simp; have := HS3.out; omega)).trans (by simp [go_sem, q0]); have r1 : w5.cell? ⟨w2.heap.size, 1, none⟩ = some (.slice o2 m2 c2) := (hb5.cell (p := ⟨w2.heap.size, 1, none⟩) (by simp; have := HS3.out; omega)).trans (by simp [go_sem, q1]); have H5 := hid ((HZt.out rfl).below hb5 (Nat.le_refl _)))
        refine bodyPost_ret (v := .tuple #[.agg #[.bool false, .slice o2 m2 c2], .int .i64 0]) (by simp [results, Tryz.results35, go_sem, k0, k1]) rfl ⟨false, o2, m2, c2, by rw [← HE.out, HE0.out], (fun _ => ?_), ((HB0.out.trans (HX5.out.mono HB0.out.size)).setCell (p := ⟨w.heap.size, 0, none⟩) (Nat.le_refl _) _).setCell (p := ⟨w.heap.size, 1, none⟩) (Nat.le_refl _) _⟩
        rw [← HZ.out]
        exact (H5.out.set (u := .bool false) k0 (fun x h => by cases h) _).set (u := .slice none 0 0) (by simp [go_sem, k1]) (fun x h => by cases h) _
      · exact absurd (HP.out.symm.trans (HPT.out.trans (by rw [decide_eq_false (fun h => hts (HTS.out.2 h))]; first | done | rfl))) (by decide)
  | true => exact absurd (hn.symm.trans HC.out) (by decide)
end Go.Proofs.YtbapeilpkhbbeaaGreatDoor

/- The document's Parse: no minus, no number. Written by gen_rparse.py. -/
namespace Go.Proofs.YtbapeilpkhbbeaaGreatDoor
open Go.RowKit

set_option maxRecDepth 100000 in
set_option maxHeartbeats 30000000 in
theorem rParse_pn (l : List UInt8) (hl : l.length ≤ 10000) (hlong : ¬ 4096 < l.length) (hcn : negB l = false) (hcp : prsB l = false) (w : World) :
    Calls Tryz.prog 35 #[.string ⟨l.toArray⟩] w (RetRP l (6 * l.length + 6) w) := by
  have hlen := bodyL_len l
  obtain ⟨K, hK⟩ : ∃ K, K = 6 * l.length + 6 := ⟨_, rfl⟩
  rw [← hK]
  have HKb := hid (show K ≤ 100000 by omega)
  obtain ⟨t, ht⟩ : ∃ t, t = bodyL l := ⟨_, rfl⟩
  obtain ⟨neg, hneg⟩ : ∃ b, b = negB l := ⟨_, rfl⟩
  obtain ⟨s, hs⟩ : ∃ s : ByteArray, s = ⟨l.toArray⟩ := ⟨_, rfl⟩
  have hsl : (s.size : Int) = (l.length : Int) := by rw [hs]; rfl
  rw [← hs]
  have HMi := hid (fun w' => show Calls Tryz.prog 75 #[.string s] w' (fun e w2 => e = .returned (.tuple #[.string ⟨t.toArray⟩, .bool neg]) ∧ w2 = w') by rw [ht, hneg, hs]; exact rminus_any l w')
  obtain ⟨b, hb⟩ : ∃ b, b = digB t := ⟨_, rfl⟩
  have HDi := hid (fun w' => show Calls Tryz.prog 76 #[.string ⟨t.toArray⟩] w' (fun e w2 => ∃ v y, e = .returned (.tuple #[v, .bool b]) ∧ Zt w2 v y K ∧ (b = true → y = ((dv t : Nat) : Int)) ∧ Below w'.heap.size w' w2) from (rdigits_any t (by rw [ht]; omega) w').mono (by
    rintro e w2 ⟨v, y, rfl, h1, h2, h3⟩
    exact ⟨v, y, by rw [hb], h1.mono (by rw [hK, ht]; omega), by rw [hb]; exact h2, h3⟩))
  obtain ⟨E, hE⟩ : ∃ E, E = prsE l := ⟨_, rfl⟩
  obtain ⟨Z, hZ⟩ : ∃ Z, Z = prsZ l := ⟨_, rfl⟩
  have hZs : Z = sgn neg ((dv t : Nat) : Int) := by rw [hZ, hneg, ht]; rfl
  have hpt := prs_text l
  rw [← ht, ← hb, ← hZ] at hpt
  have HE := hid hE; have HZ := hid hZ
  rw [← hneg] at hcn
  have HC := hid hcn
  have HP := hid hcp
  clear hcn hcp
  have Hbad := hid (show ∀ (w' : World) (E0 : Int), E = E0 → E0 ≠ 0 → Below w.heap.size w w' → RetRP l K w (.returned (.tuple #[.agg #[.bool false, .slice none 0 0], .int .i64 E0])) w' from fun w' E0 e1 e2 hb =>
    ⟨false, none, 0, 0, by rw [← e1, hE], (fun h => absurd (by rw [← e1, hE]; exact h) e2), hb⟩)
  have hbld : ∀ w : World, (Instr.build 31 #[]).run Tryz.prog w = .ok (.agg #[.bool false, .slice none 0 0]) w := fun w => by kernel_rfl
  obtain ⟨W0, hW0⟩ : ∃ W0, W0 = w.alloc (.cells #[.bool false, .slice none 0 0] 31) := ⟨_, rfl⟩
  have hB0 : Below w.heap.size w W0 := by rw [hW0]; exact (Below.refl _ _).alloc (Nat.le_refl _) _
  have hz0 : W0.heap.size = w.heap.size + 1 := by rw [hW0]; simp
  have HT : Hid (∀ w', Below W0.heap.size W0 w' → (w'.cell? ⟨w.heap.size, 0, none⟩ = some (.bool false) ∧ w'.cell? ⟨w.heap.size, 1, none⟩ = some (.slice none 0 0)) ∧ w'.frozen? ⟨w.heap.size, 0, none⟩ = false ∧ w'.frozen? ⟨w.heap.size, 1, none⟩ = false) := hid (fun w' hb => by
    refine ⟨⟨?_, ?_⟩, ?_, ?_⟩ <;> (first | (rw [hb.cell (by rw [hW0]; simp), hW0]; simp [go_sem]; done) | (rw [hb.frozen (by rw [hW0]; simp), hW0]; simp [go_sem]; done)))
  have HB0 := hid hB0; have HW := hid hW0; have Hz0 := hid hz0
  clear hW0 hB0 hz0 hlen
  have hlI : ¬ 4096 < (s.size : Int) := by omega
  have hEb : E = if prsB l then 0 else 5 := by rw [hE]; unfold prsE; rw [if_neg hlong]
  have HEB := hid hEb; have HPT := hid hpt; have HZS := hid hZs
  have htl : t.length ≤ 10000 := by rw [ht]; have := bodyL_len l; omega
  obtain ⟨tt, htt⟩ : ∃ tt : ByteArray, tt = ⟨(txL Z).toArray⟩ := ⟨_, rfl⟩
  have HTX := hid (fun (hbt : b = true) (v : Value) (w' : World) (h : Zt w' v Z K) => show Calls Tryz.prog 42 #[v] w' (fun e w2 => e = .returned (.string tt) ∧ Below w'.heap.size w' w2) by
    rw [htt]
    exact rText_any v Z K w' h HKb.out (by
      have hd : t.all isD = true := by
        rw [hb] at hbt
        unfold digB at hbt
        rw [Bool.and_eq_true] at hbt
        exact hbt.2
      have h1 : Z.natAbs < 10 ^ t.length := by
        rw [hZs, sgn_nat]
        exact dv_lt t hd
      have := txL_len h1
      omega))
  have hts : tt = s ↔ txL Z = l := by
    rw [htt, hs]
    constructor
    · intro h
      have := congrArg (fun b : ByteArray => b.data.toList) h
      simpa using this
    · intro h; rw [h]
  have HTS := hid hts
  clear hts htt hs hsl
  clear hlong hE hZ hZs hpt hK ht hneg hb hl hEb htl
  go_enter Tryz.func35, Tryz.ntmps35
  go_upto_region 1 with (fail)
  rw [← HW.out]
  go_wp2_with fail
  refine (HMi.out _).mono ?_
  rintro e w1 ⟨rfl, h1⟩
  obtain rfl : W0 = w1 := h1.symm
  go_wp2_with fail
  refine (HDi.out _).mono ?_
  rintro e w2 ⟨v, y, rfl, hv, hy, hb2⟩
  obtain ⟨g2, o2, m2, c2, rfl, H2, H2s, H2b⟩ := Zt.opened hv
  have hmz := Md.lenz (H2s.out w2 (Below.refl _ _))
  have HX2 := hid (show Below W0.heap.size W0 w2 from hb2)
  have HY := hid hy
  clear H2b
  clear hv hy hb2
  go_upto_region 5 with (fail)
  obtain ⟨W3, hW3⟩ : ∃ W3, W3 = w2.alloc (.cells #[.bool g2, .slice o2 m2 c2] 31) := ⟨_, rfl⟩
  have hal : Below w2.heap.size w2 W3 := by rw [hW3]; exact bl_new _
  have q0 : W3.cell? ⟨w2.heap.size, 0, none⟩ = some (.bool g2) := by rw [hW3]; simp [go_sem]
  have q1 : W3.cell? ⟨w2.heap.size, 1, none⟩ = some (.slice o2 m2 c2) := by rw [hW3]; simp [go_sem]
  have qf : W3.frozen? ⟨w2.heap.size, 0, none⟩ = false := by rw [hW3]; simp [go_sem]
  have HS3 := hid (show W3.heap.size = w2.heap.size + 1 by rw [hW3]; simp)
  rw [← hW3]
  have HX3 := hid (HX2.out.trans (hal.mono HX2.out.size))
  have HMd := hid (H2s.out W3 hal)
  have HLen := hid (show b = true → (m2 = 0 ↔ dv t = 0) from fun hbt => by have h := hmz; rw [HY.out hbt] at h; simpa using h)
  clear hW3 hal hmz H2 H2s
  cases hn : neg with
  | false =>
    subst hn
    have HZt := hid (show b = true → Zt (W3.setCell ⟨w2.heap.size, 0, none⟩ (.bool false)) (.agg #[.bool false, .slice o2 m2 c2]) Z K from fun hbt => by
      have h := zt_sgn false (show Md W3 (.slice o2 m2 c2) ((dv t : Nat) : Int) K by have h := HMd.out; rw [HY.out hbt] at h; simpa using h)
      rw [show (false && decide (0 < dv t)) = false from rfl, ← HZS.out] at h
      exact h.set q0 (fun x h => by cases h) _)
    have HB4 := hid (HX3.out.setCell (p := ⟨w2.heap.size, 0, none⟩) HX2.out.size (.bool false))
    cases hbb : b with
    | false =>
      subst hbb
      have HE5 := hid (show E = 5 by rw [HEB.out, HPT.out]; rfl)
      obtain ⟨⟨k0, k1⟩, f0, f1⟩ := HT.out (W3.setCell ⟨w2.heap.size, 0, none⟩ (.bool false)) (HB4.out)
      go_wp2
      refine bodyPost_ret (v := .tuple #[.agg #[.bool false, .slice none 0 0], .int .i64 5]) (by simp [results, Tryz.results35, go_sem, k0, k1]) rfl (Hbad.out _ 5 HE5.out (by decide) (((HB0.out.trans ((HB4.out).mono HB0.out.size)).setCell (p := ⟨w.heap.size, 0, none⟩) (Nat.le_refl _) _).setCell (p := ⟨w.heap.size, 1, none⟩) (Nat.le_refl _) _))
    | true =>
      subst hbb
      by_cases hts : tt = s
      · exact absurd (HP.out.symm.trans (HPT.out.trans (by rw [decide_eq_true (HTS.out.1 hts)]; first | done | rfl))) (by decide)
      · have HE5 := hid (show E = 5 by rw [HEB.out, HPT.out, decide_eq_false (fun h => hts (HTS.out.2 h))]; rfl)
        have hnt := bytes_ne hts
        go_wp2_with (go_at_call 42; refine (HTX.out rfl _ _ (HZt.out rfl)).mono ?_; rintro e w5 ⟨rfl, hb5⟩; have HX5 := hid (HB4.out.trans (hb5.mono HB4.out.size)); obtain ⟨⟨k0, k1⟩, f0, f1⟩ := HT.out w5 HX5.out)
        refine bodyPost_ret (v := .tuple #[.agg #[.bool false, .slice none 0 0], .int .i64 5]) (by simp [results, Tryz.results35, go_sem, k0, k1]) rfl (Hbad.out _ 5 HE5.out (by decide) (((HB0.out.trans (HX5.out.mono HB0.out.size)).setCell (p := ⟨w.heap.size, 0, none⟩) (Nat.le_refl _) _).setCell (p := ⟨w.heap.size, 1, none⟩) (Nat.le_refl _) _))
  | true => exact absurd (hn.symm.trans HC.out) (by decide)
end Go.Proofs.YtbapeilpkhbbeaaGreatDoor

/- The document's Parse: a minus, a number. Written by gen_rparse.py. -/
namespace Go.Proofs.YtbapeilpkhbbeaaGreatDoor
open Go.RowKit

set_option maxRecDepth 100000 in
set_option maxHeartbeats 30000000 in
theorem rParse_ny (l : List UInt8) (hl : l.length ≤ 10000) (hlong : ¬ 4096 < l.length) (hcn : negB l = true) (hcp : prsB l = true) (w : World) :
    Calls Tryz.prog 35 #[.string ⟨l.toArray⟩] w (RetRP l (6 * l.length + 6) w) := by
  have hlen := bodyL_len l
  obtain ⟨K, hK⟩ : ∃ K, K = 6 * l.length + 6 := ⟨_, rfl⟩
  rw [← hK]
  have HKb := hid (show K ≤ 100000 by omega)
  obtain ⟨t, ht⟩ : ∃ t, t = bodyL l := ⟨_, rfl⟩
  obtain ⟨neg, hneg⟩ : ∃ b, b = negB l := ⟨_, rfl⟩
  obtain ⟨s, hs⟩ : ∃ s : ByteArray, s = ⟨l.toArray⟩ := ⟨_, rfl⟩
  have hsl : (s.size : Int) = (l.length : Int) := by rw [hs]; rfl
  rw [← hs]
  have HMi := hid (fun w' => show Calls Tryz.prog 75 #[.string s] w' (fun e w2 => e = .returned (.tuple #[.string ⟨t.toArray⟩, .bool neg]) ∧ w2 = w') by rw [ht, hneg, hs]; exact rminus_any l w')
  obtain ⟨b, hb⟩ : ∃ b, b = digB t := ⟨_, rfl⟩
  have HDi := hid (fun w' => show Calls Tryz.prog 76 #[.string ⟨t.toArray⟩] w' (fun e w2 => ∃ v y, e = .returned (.tuple #[v, .bool b]) ∧ Zt w2 v y K ∧ (b = true → y = ((dv t : Nat) : Int)) ∧ Below w'.heap.size w' w2) from (rdigits_any t (by rw [ht]; omega) w').mono (by
    rintro e w2 ⟨v, y, rfl, h1, h2, h3⟩
    exact ⟨v, y, by rw [hb], h1.mono (by rw [hK, ht]; omega), by rw [hb]; exact h2, h3⟩))
  obtain ⟨E, hE⟩ : ∃ E, E = prsE l := ⟨_, rfl⟩
  obtain ⟨Z, hZ⟩ : ∃ Z, Z = prsZ l := ⟨_, rfl⟩
  have hZs : Z = sgn neg ((dv t : Nat) : Int) := by rw [hZ, hneg, ht]; rfl
  have hpt := prs_text l
  rw [← ht, ← hb, ← hZ] at hpt
  have HE := hid hE; have HZ := hid hZ
  rw [← hneg] at hcn
  have HC := hid hcn
  have HP := hid hcp
  clear hcn hcp
  have Hbad := hid (show ∀ (w' : World) (E0 : Int), E = E0 → E0 ≠ 0 → Below w.heap.size w w' → RetRP l K w (.returned (.tuple #[.agg #[.bool false, .slice none 0 0], .int .i64 E0])) w' from fun w' E0 e1 e2 hb =>
    ⟨false, none, 0, 0, by rw [← e1, hE], (fun h => absurd (by rw [← e1, hE]; exact h) e2), hb⟩)
  have hbld : ∀ w : World, (Instr.build 31 #[]).run Tryz.prog w = .ok (.agg #[.bool false, .slice none 0 0]) w := fun w => by kernel_rfl
  obtain ⟨W0, hW0⟩ : ∃ W0, W0 = w.alloc (.cells #[.bool false, .slice none 0 0] 31) := ⟨_, rfl⟩
  have hB0 : Below w.heap.size w W0 := by rw [hW0]; exact (Below.refl _ _).alloc (Nat.le_refl _) _
  have hz0 : W0.heap.size = w.heap.size + 1 := by rw [hW0]; simp
  have HT : Hid (∀ w', Below W0.heap.size W0 w' → (w'.cell? ⟨w.heap.size, 0, none⟩ = some (.bool false) ∧ w'.cell? ⟨w.heap.size, 1, none⟩ = some (.slice none 0 0)) ∧ w'.frozen? ⟨w.heap.size, 0, none⟩ = false ∧ w'.frozen? ⟨w.heap.size, 1, none⟩ = false) := hid (fun w' hb => by
    refine ⟨⟨?_, ?_⟩, ?_, ?_⟩ <;> (first | (rw [hb.cell (by rw [hW0]; simp), hW0]; simp [go_sem]; done) | (rw [hb.frozen (by rw [hW0]; simp), hW0]; simp [go_sem]; done)))
  have HB0 := hid hB0; have HW := hid hW0; have Hz0 := hid hz0
  clear hW0 hB0 hz0 hlen
  have hlI : ¬ 4096 < (s.size : Int) := by omega
  have hEb : E = if prsB l then 0 else 5 := by rw [hE]; unfold prsE; rw [if_neg hlong]
  have HEB := hid hEb; have HPT := hid hpt; have HZS := hid hZs
  have htl : t.length ≤ 10000 := by rw [ht]; have := bodyL_len l; omega
  obtain ⟨tt, htt⟩ : ∃ tt : ByteArray, tt = ⟨(txL Z).toArray⟩ := ⟨_, rfl⟩
  have HTX := hid (fun (hbt : b = true) (v : Value) (w' : World) (h : Zt w' v Z K) => show Calls Tryz.prog 42 #[v] w' (fun e w2 => e = .returned (.string tt) ∧ Below w'.heap.size w' w2) by
    rw [htt]
    exact rText_any v Z K w' h HKb.out (by
      have hd : t.all isD = true := by
        rw [hb] at hbt
        unfold digB at hbt
        rw [Bool.and_eq_true] at hbt
        exact hbt.2
      have h1 : Z.natAbs < 10 ^ t.length := by
        rw [hZs, sgn_nat]
        exact dv_lt t hd
      have := txL_len h1
      omega))
  have hts : tt = s ↔ txL Z = l := by
    rw [htt, hs]
    constructor
    · intro h
      have := congrArg (fun b : ByteArray => b.data.toList) h
      simpa using this
    · intro h; rw [h]
  have HTS := hid hts
  clear hts htt hs hsl
  clear hlong hE hZ hZs hpt hK ht hneg hb hl hEb htl
  go_enter Tryz.func35, Tryz.ntmps35
  go_upto_region 1 with (fail)
  rw [← HW.out]
  go_wp2_with fail
  refine (HMi.out _).mono ?_
  rintro e w1 ⟨rfl, h1⟩
  obtain rfl : W0 = w1 := h1.symm
  go_wp2_with fail
  refine (HDi.out _).mono ?_
  rintro e w2 ⟨v, y, rfl, hv, hy, hb2⟩
  obtain ⟨g2, o2, m2, c2, rfl, H2, H2s, H2b⟩ := Zt.opened hv
  have hmz := Md.lenz (H2s.out w2 (Below.refl _ _))
  have HX2 := hid (show Below W0.heap.size W0 w2 from hb2)
  have HY := hid hy
  clear H2b
  clear hv hy hb2
  go_upto_region 5 with (fail)
  obtain ⟨W3, hW3⟩ : ∃ W3, W3 = w2.alloc (.cells #[.bool g2, .slice o2 m2 c2] 31) := ⟨_, rfl⟩
  have hal : Below w2.heap.size w2 W3 := by rw [hW3]; exact bl_new _
  have q0 : W3.cell? ⟨w2.heap.size, 0, none⟩ = some (.bool g2) := by rw [hW3]; simp [go_sem]
  have q1 : W3.cell? ⟨w2.heap.size, 1, none⟩ = some (.slice o2 m2 c2) := by rw [hW3]; simp [go_sem]
  have qf : W3.frozen? ⟨w2.heap.size, 0, none⟩ = false := by rw [hW3]; simp [go_sem]
  have HS3 := hid (show W3.heap.size = w2.heap.size + 1 by rw [hW3]; simp)
  rw [← hW3]
  have HX3 := hid (HX2.out.trans (hal.mono HX2.out.size))
  have HMd := hid (H2s.out W3 hal)
  have HLen := hid (show b = true → (m2 = 0 ↔ dv t = 0) from fun hbt => by have h := hmz; rw [HY.out hbt] at h; simpa using h)
  clear hW3 hal hmz H2 H2s
  cases hn : neg with
  | false => exact absurd (hn.symm.trans HC.out) (by decide)
  | true =>
    subst hn
    by_cases hm : m2 = 0
    · subst hm
      have HZt := hid (show b = true → Zt (W3.setCell ⟨w2.heap.size, 0, none⟩ (.bool false)) (.agg #[.bool false, .slice o2 0 c2]) Z K from fun hbt => by
        have h := zt_sgn true (show Md W3 (.slice o2 0 c2) ((dv t : Nat) : Int) K by have h := HMd.out; rw [HY.out hbt] at h; simpa using h)
        rw [show (true && decide (0 < dv t)) = false from by rw [decide_eq_false (by have := (HLen.out hbt).1 rfl; omega)]; rfl, ← HZS.out] at h
        exact h.set q0 (fun x h => by cases h) _)
      have HB4 := hid (HX3.out.setCell (p := ⟨w2.heap.size, 0, none⟩) HX2.out.size (.bool false))
      cases hbb : b with
      | false =>
        subst hbb
        exact absurd (HP.out.symm.trans (HPT.out.trans (Bool.false_and _))) (by decide)
      | true =>
        subst hbb
        by_cases hts : tt = s
        · have HE0 := hid (show E = 0 by rw [HEB.out, HPT.out, decide_eq_true (HTS.out.1 hts)]; rfl)
          subst hts
          go_wp2_with (go_at_call 42; refine (HTX.out rfl _ _ (HZt.out rfl)).mono ?_; rintro e w5 ⟨rfl, hb5⟩; have HX5 := hid (HB4.out.trans (hb5.mono HB4.out.size)); obtain ⟨⟨k0, k1⟩, f0, f1⟩ := HT.out w5 HX5.out; have r0 : w5.cell? ⟨w2.heap.size, 0, none⟩ = some (.bool false) := (hb5.cell (p := ⟨w2.heap.size, 0, none⟩) (by simp; have := HS3.out; omega)).trans (by simp [go_sem, q0]); have r1 : w5.cell? ⟨w2.heap.size, 1, none⟩ = some (.slice o2 0 c2) := (hb5.cell (p := ⟨w2.heap.size, 1, none⟩) (by simp; have := HS3.out; omega)).trans (by simp [go_sem, q1]); have H5 := hid ((HZt.out rfl).below hb5 (Nat.le_refl _)))
          refine bodyPost_ret (v := .tuple #[.agg #[.bool false, .slice o2 0 c2], .int .i64 0]) (by simp [results, Tryz.results35, go_sem, k0, k1]) rfl ⟨false, o2, 0, c2, by rw [← HE.out, HE0.out], (fun _ => ?_), ((HB0.out.trans (HX5.out.mono HB0.out.size)).setCell (p := ⟨w.heap.size, 0, none⟩) (Nat.le_refl _) _).setCell (p := ⟨w.heap.size, 1, none⟩) (Nat.le_refl _) _⟩
          rw [← HZ.out]
          exact (H5.out.set (u := .bool false) k0 (fun x h => by cases h) _).set (u := .slice none 0 0) (by simp [go_sem, k1]) (fun x h => by cases h) _
        · exact absurd (HP.out.symm.trans (HPT.out.trans (by rw [decide_eq_false (fun h => hts (HTS.out.2 h))]; first | done | rfl))) (by decide)
    · have hmI : 0 < m2 := by omega
      have HZt := hid (show b = true → Zt (W3.setCell ⟨w2.heap.size, 0, none⟩ (.bool true)) (.agg #[.bool true, .slice o2 m2 c2]) Z K from fun hbt => by
        have h := zt_sgn true (show Md W3 (.slice o2 m2 c2) ((dv t : Nat) : Int) K by have h := HMd.out; rw [HY.out hbt] at h; simpa using h)
        rw [show (true && decide (0 < dv t)) = true from by rw [decide_eq_true (by have := HLen.out hbt; omega)]; rfl, ← HZS.out] at h
        exact h.set q0 (fun x h => by cases h) _)
      have HB4 := hid (HX3.out.setCell (p := ⟨w2.heap.size, 0, none⟩) HX2.out.size (.bool true))
      cases hbb : b with
      | false =>
        subst hbb
        exact absurd (HP.out.symm.trans (HPT.out.trans (Bool.false_and _))) (by decide)
      | true =>
        subst hbb
        by_cases hts : tt = s
        · have HE0 := hid (show E = 0 by rw [HEB.out, HPT.out, decide_eq_true (HTS.out.1 hts)]; rfl)
          subst hts
          go_wp2_with (go_at_call 42; refine (HTX.out rfl _ _ (HZt.out rfl)).mono ?_; rintro e w5 ⟨rfl, hb5⟩; have HX5 := hid (HB4.out.trans (hb5.mono HB4.out.size)); obtain ⟨⟨k0, k1⟩, f0, f1⟩ := HT.out w5 HX5.out; have r0 : w5.cell? ⟨w2.heap.size, 0, none⟩ = some (.bool true) := (hb5.cell (p := ⟨w2.heap.size, 0, none⟩) (by simp; have := HS3.out; omega)).trans (by simp [go_sem, q0]); have r1 : w5.cell? ⟨w2.heap.size, 1, none⟩ = some (.slice o2 m2 c2) := (hb5.cell (p := ⟨w2.heap.size, 1, none⟩) (by simp; have := HS3.out; omega)).trans (by simp [go_sem, q1]); have H5 := hid ((HZt.out rfl).below hb5 (Nat.le_refl _)))
          refine bodyPost_ret (v := .tuple #[.agg #[.bool true, .slice o2 m2 c2], .int .i64 0]) (by simp [results, Tryz.results35, go_sem, k0, k1]) rfl ⟨true, o2, m2, c2, by rw [← HE.out, HE0.out], (fun _ => ?_), ((HB0.out.trans (HX5.out.mono HB0.out.size)).setCell (p := ⟨w.heap.size, 0, none⟩) (Nat.le_refl _) _).setCell (p := ⟨w.heap.size, 1, none⟩) (Nat.le_refl _) _⟩
          rw [← HZ.out]
          exact (H5.out.set (u := .bool false) k0 (fun x h => by cases h) _).set (u := .slice none 0 0) (by simp [go_sem, k1]) (fun x h => by cases h) _
        · exact absurd (HP.out.symm.trans (HPT.out.trans (by rw [decide_eq_false (fun h => hts (HTS.out.2 h))]; first | done | rfl))) (by decide)
end Go.Proofs.YtbapeilpkhbbeaaGreatDoor
