/- The document's Parse: a minus, no number. Written by gen_rparse.py. The document's Parse of any text. Written by gen_rparse.py. What the document's ParseRatio asks of a text is what the program's asks. hodoscoperef01.long: the quotient and the rest of two naturals, bit by bit. -/
import Derived.Test.YtbapeilpkhbbeaaGreatDoorYn35
import Derived.Test.YtbapeilpkhbbeaaGreatDoorYn36
import Derived.Test.YtbapeilpkhbbeaaGreatDoorYn33
import Derived.Test.YtbapeilpkhbbeaaGreatDoorYn23
/- The document's Parse: a minus, no number. Written by gen_rparse.py. -/
namespace Go.Proofs.YtbapeilpkhbbeaaGreatDoor
open Go.RowKit

set_option maxRecDepth 100000 in
set_option maxHeartbeats 30000000 in
theorem rParse_nn (l : List UInt8) (hl : l.length ≤ 10000) (hlong : ¬ 4096 < l.length) (hcn : negB l = true) (hcp : prsB l = false) (w : World) :
    Calls Tryz.prog 35 #[.string ⟨l.toArray⟩] w (RetRP l (6 * l.length + 6) w) := by
  have hlen := bodyL_len l
  obtain ⟨K, hK⟩ : ∃ K, K = 6 * l.length + 6 := ⟨_, rfl⟩
  rw [← hK]
  have HKb := hid (show K ≤ 100000 by omega)
  obtain ⟨t, ht⟩ : ∃ t, t = bodyL l := ⟨_, rfl⟩
  obtain ⟨neg, hneg⟩ : ∃ b, b = negB l := ⟨_, rfl⟩
  obtain ⟨s, hs⟩ : ∃ s : ByteArray, s = ⟨l.toArray⟩ := ⟨_, rfl⟩
  have hsl : (s.size : Int) = (l.length : Int) := by rw [hs]; rfl
  rw [← hs]
  have HMi := hid (fun w' => show Calls Tryz.prog 75 #[.string s] w' (fun e w2 => e = .returned (.tuple #[.string ⟨t.toArray⟩, .bool neg]) ∧ w2 = w') by rw [ht, hneg, hs]; exact rminus_any l w')
  obtain ⟨b, hb⟩ : ∃ b, b = digB t := ⟨_, rfl⟩
  have HDi := hid (fun w' => show Calls Tryz.prog 76 #[.string ⟨t.toArray⟩] w' (fun e w2 => ∃ v y, e = .returned (.tuple #[v, .bool b]) ∧ Zt w2 v y K ∧ (b = true → y = ((dv t : Nat) : Int)) ∧ Below w'.heap.size w' w2) from (rdigits_any t (by rw [ht]; omega) w').mono (by
    rintro e w2 ⟨v, y, rfl, h1, h2, h3⟩
    exact ⟨v, y, by rw [hb], h1.mono (by rw [hK, ht]; omega), by rw [hb]; exact h2, h3⟩))
  obtain ⟨E, hE⟩ : ∃ E, E = prsE l := ⟨_, rfl⟩
  obtain ⟨Z, hZ⟩ : ∃ Z, Z = prsZ l := ⟨_, rfl⟩
  have hZs : Z = sgn neg ((dv t : Nat) : Int) := by rw [hZ, hneg, ht]; rfl
  have hpt := prs_text l
  rw [← ht, ← hb, ← hZ] at hpt
  have HE := hid hE; have HZ := hid hZ
  rw [← hneg] at hcn
  have HC := hid hcn
  have HP := hid hcp
  clear hcn hcp
  have Hbad := hid (show ∀ (w' : World) (E0 : Int), E = E0 → E0 ≠ 0 → Below w.heap.size w w' → RetRP l K w (.returned (.tuple #[.agg #[.bool false, .slice none 0 0], .int .i64 E0])) w' from fun w' E0 e1 e2 hb =>
    ⟨false, none, 0, 0, by rw [← e1, hE], (fun h => absurd (by rw [← e1, hE]; exact h) e2), hb⟩)
  have hbld : ∀ w : World, (Instr.build 31 #[]).run Tryz.prog w = .ok (.agg #[.bool false, .slice none 0 0]) w := fun w => by kernel_rfl
  obtain ⟨W0, hW0⟩ : ∃ W0, W0 = w.alloc (.cells #[.bool false, .slice none 0 0] 31) := ⟨_, rfl⟩
  have hB0 : Below w.heap.size w W0 := by rw [hW0]; exact (Below.refl _ _).alloc (Nat.le_refl _) _
  have hz0 : W0.heap.size = w.heap.size + 1 := by rw [hW0]; simp
  have HT : Hid (∀ w', Below W0.heap.size W0 w' → (w'.cell? ⟨w.heap.size, 0, none⟩ = some (.bool false) ∧ w'.cell? ⟨w.heap.size, 1, none⟩ = some (.slice none 0 0)) ∧ w'.frozen? ⟨w.heap.size, 0, none⟩ = false ∧ w'.frozen? ⟨w.heap.size, 1, none⟩ = false) := hid (fun w' hb => by
    refine ⟨⟨?_, ?_⟩, ?_, ?_⟩ <;> (first | (rw [hb.cell (by rw [hW0]; simp), hW0]; simp [go_sem]; done) | (rw [hb.frozen (by rw [hW0]; simp), hW0]; simp [go_sem]; done)))
  have HB0 := hid hB0; have HW := hid hW0; have Hz0 := hid hz0
  clear hW0 hB0 hz0 hlen
  have hlI : ¬ 4096 < (s.size : Int) := by omega
  have hEb : E = if prsB l then 0 else 5 := by rw [hE]; unfold prsE; rw [if_neg hlong]
  have HEB := hid hEb; have HPT := hid hpt; have HZS := hid hZs
  have htl : t.length ≤ 10000 := by rw [ht]; have := bodyL_len l; omega
  obtain ⟨tt, htt⟩ : ∃ tt : ByteArray, tt = ⟨(txL Z).toArray⟩ := ⟨_, rfl⟩
  have HTX := hid (fun (hbt : b = true) (v : Value) (w' : World) (h : Zt w' v Z K) => show Calls Tryz.prog 42 #[v] w' (fun e w2 => e = .returned (.string tt) ∧ Below w'.heap.size w' w2) by
    rw [htt]
    exact rText_any v Z K w' h HKb.out (by
      have hd : t.all isD = true := by
        rw [hb] at hbt
        unfold digB at hbt
        rw [Bool.and_eq_true] at hbt
        exact hbt.2
      have h1 : Z.natAbs < 10 ^ t.length := by
        rw [hZs, sgn_nat]
        exact dv_lt t hd
      have := txL_len h1
      omega))
  have hts : tt = s ↔ txL Z = l := by
    rw [htt, hs]
    constructor
    · intro h
      have := congrArg (fun b : ByteArray => b.data.toList) h
      simpa using this
    · intro h; rw [h]
  have HTS := hid hts
  clear hts htt hs hsl
  clear hlong hE hZ hZs hpt hK ht hneg hb hl hEb htl
  go_enter Tryz.func35, Tryz.ntmps35
  go_upto_region 1 with (fail)
  rw [← HW.out]
  go_wp2_with fail
  refine (HMi.out _).mono ?_
  rintro e w1 ⟨rfl, h1⟩
  obtain rfl : W0 = w1 := h1.symm
  go_wp2_with fail
  refine (HDi.out _).mono ?_
  rintro e w2 ⟨v, y, rfl, hv, hy, hb2⟩
  obtain ⟨g2, o2, m2, c2, rfl, H2, H2s, H2b⟩ := Zt.opened hv
  have hmz := Md.lenz (H2s.out w2 (Below.refl _ _))
  have HX2 := hid (show Below W0.heap.size W0 w2 from hb2)
  have HY := hid hy
  clear H2b
  clear hv hy hb2
  go_upto_region 5 with (fail)
  obtain ⟨W3, hW3⟩ : ∃ W3, W3 = w2.alloc (.cells #[.bool g2, .slice o2 m2 c2] 31) := ⟨_, rfl⟩
  have hal : Below w2.heap.size w2 W3 := by rw [hW3]; exact bl_new _
  have q0 : W3.cell? ⟨w2.heap.size, 0, none⟩ = some (.bool g2) := by rw [hW3]; simp [go_sem]
  have q1 : W3.cell? ⟨w2.heap.size, 1, none⟩ = some (.slice o2 m2 c2) := by rw [hW3]; simp [go_sem]
  have qf : W3.frozen? ⟨w2.heap.size, 0, none⟩ = false := by rw [hW3]; simp [go_sem]
  have HS3 := hid (show W3.heap.size = w2.heap.size + 1 by rw [hW3]; simp)
  rw [← hW3]
  have HX3 := hid (HX2.out.trans (hal.mono HX2.out.size))
  have HMd := hid (H2s.out W3 hal)
  have HLen := hid (show b = true → (m2 = 0 ↔ dv t = 0) from fun hbt => by have h := hmz; rw [HY.out hbt] at h; simpa using h)
  clear hW3 hal hmz H2 H2s
  cases hn : neg with
  | false => exact absurd (hn.symm.trans HC.out) (by decide)
  | true =>
    subst hn
    by_cases hm : m2 = 0
    · subst hm
      have HZt := hid (show b = true → Zt (W3.setCell ⟨w2.heap.size, 0, none⟩ (.bool false)) (.agg #[.bool false, .slice o2 0 c2]) Z K from fun hbt => by
        have h := zt_sgn true (show Md W3 (.slice o2 0 c2) ((dv t : Nat) : Int) K by have h := HMd.out; rw [HY.out hbt] at h; simpa using h)
        rw [show (true && decide (0 < dv t)) = false from by rw [decide_eq_false (by have := (HLen.out hbt).1 rfl; omega)]; rfl, ← HZS.out] at h
        exact h.set q0 (fun x h => by cases h) _)
      have HB4 := hid (HX3.out.setCell (p := ⟨w2.heap.size, 0, none⟩) HX2.out.size (.bool false))
      cases hbb : b with
      | false =>
        subst hbb
        have HE5 := hid (show E = 5 by rw [HEB.out, HPT.out]; rfl)
        obtain ⟨⟨k0, k1⟩, f0, f1⟩ := HT.out (W3.setCell ⟨w2.heap.size, 0, none⟩ (.bool false)) (HB4.out)
        go_wp2
        refine bodyPost_ret (v := .tuple #[.agg #[.bool false, .slice none 0 0], .int .i64 5]) (by simp [results, Tryz.results35, go_sem, k0, k1]) rfl (Hbad.out _ 5 HE5.out (by decide) (((HB0.out.trans ((HB4.out).mono HB0.out.size)).setCell (p := ⟨w.heap.size, 0, none⟩) (Nat.le_refl _) _).setCell (p := ⟨w.heap.size, 1, none⟩) (Nat.le_refl _) _))
      | true =>
        subst hbb
        by_cases hts : tt = s
        · exact absurd (HP.out.symm.trans (HPT.out.trans (by rw [decide_eq_true (HTS.out.1 hts)]; first | done | rfl))) (by decide)
        · have HE5 := hid (show E = 5 by rw [HEB.out, HPT.out, decide_eq_false (fun h => hts (HTS.out.2 h))]; rfl)
          have hnt := bytes_ne hts
          go_wp2_with (go_at_call 42; refine (HTX.out rfl _ _ (HZt.out rfl)).mono ?_; rintro e w5 ⟨rfl, hb5⟩; have HX5 := hid (HB4.out.trans (hb5.mono HB4.out.size)); obtain ⟨⟨k0, k1⟩, f0, f1⟩ := HT.out w5 HX5.out)
          refine bodyPost_ret (v := .tuple #[.agg #[.bool false, .slice none 0 0], .int .i64 5]) (by simp [results, Tryz.results35, go_sem, k0, k1]) rfl (Hbad.out _ 5 HE5.out (by decide) (((HB0.out.trans (HX5.out.mono HB0.out.size)).setCell (p := ⟨w.heap.size, 0, none⟩) (Nat.le_refl _) _).setCell (p := ⟨w.heap.size, 1, none⟩) (Nat.le_refl _) _))
    · have hmI : 0 < m2 := by omega
      have HZt := hid (show b = true → Zt (W3.setCell ⟨w2.heap.size, 0, none⟩ (.bool true)) (.agg #[.bool true, .slice o2 m2 c2]) Z K from fun hbt => by
        have h := zt_sgn true (show Md W3 (.slice o2 m2 c2) ((dv t : Nat) : Int) K by have h := HMd.out; rw [HY.out hbt] at h; simpa using h)
        rw [show (true && decide (0 < dv t)) = true from by rw [decide_eq_true (by have := HLen.out hbt; omega)]; rfl, ← HZS.out] at h
        exact h.set q0 (fun x h => by cases h) _)
      have HB4 := hid (HX3.out.setCell (p := ⟨w2.heap.size, 0, none⟩) HX2.out.size (.bool true))
      cases hbb : b with
      | false =>
        subst hbb
        have HE5 := hid (show E = 5 by rw [HEB.out, HPT.out]; rfl)
        obtain ⟨⟨k0, k1⟩, f0, f1⟩ := HT.out (W3.setCell ⟨w2.heap.size, 0, none⟩ (.bool true)) (HB4.out)
        go_wp2
        refine bodyPost_ret (v := .tuple #[.agg #[.bool false, .slice none 0 0], .int .i64 5]) (by simp [results, Tryz.results35, go_sem, k0, k1]) rfl (Hbad.out _ 5 HE5.out (by decide) (((HB0.out.trans ((HB4.out).mono HB0.out.size)).setCell (p := ⟨w.heap.size, 0, none⟩) (Nat.le_refl _) _).setCell (p := ⟨w.heap.size, 1, none⟩) (Nat.le_refl _) _))
      | true =>
        subst hbb
        by_cases hts : tt = s
        · exact absurd (HP.out.symm.trans (HPT.out.trans (by rw [decide_eq_true (HTS.out.1 hts)]; first | done | rfl))) (by decide)
        · have HE5 := hid (show E = 5 by rw [HEB.out, HPT.out, decide_eq_false (fun h => hts (HTS.out.2 h))]; rfl)
          have hnt := bytes_ne hts
          go_wp2_with (go_at_call 42; refine (HTX.out rfl _ _ (HZt.out rfl)).mono ?_; rintro e w5 ⟨rfl, hb5⟩; have HX5 := hid (HB4.out.trans (hb5.mono HB4.out.size)); obtain ⟨⟨k0, k1⟩, f0, f1⟩ := HT.out w5 HX5.out)
          refine bodyPost_ret (v := .tuple #[.agg #[.bool false, .slice none 0 0], .int .i64 5]) (by simp [results, Tryz.results35, go_sem, k0, k1]) rfl (Hbad.out _ 5 HE5.out (by decide) (((HB0.out.trans (HX5.out.mono HB0.out.size)).setCell (p := ⟨w.heap.size, 0, none⟩) (Nat.le_refl _) _).setCell (p := ⟨w.heap.size, 1, none⟩) (Nat.le_refl _) _))
end Go.Proofs.YtbapeilpkhbbeaaGreatDoor

/- The document's Parse of any text. Written by gen_rparse.py. -/
namespace Go.Proofs.YtbapeilpkhbbeaaGreatDoor
open Go.RowKit

theorem rParse_any (l : List UInt8) (hl : l.length ≤ 10000) (w : World) :
    Calls Tryz.prog 35 #[.string ⟨l.toArray⟩] w (RetRP l (6 * l.length + 6) w) := by
  by_cases h : 4096 < l.length
  · exact rParse_long l hl h w
  · cases hn : negB l with
    | false => cases hp : prsB l with
      | false => exact rParse_pn l hl h hn hp w
      | true => exact rParse_py l hl h hn hp w
    | true => cases hp : prsB l with
      | false => exact rParse_nn l hl h hn hp w
      | true => exact rParse_ny l hl h hn hp w
end Go.Proofs.YtbapeilpkhbbeaaGreatDoor

/- What the document's ParseRatio asks of a text is what the program's asks. -/
namespace Go.Proofs.YtbapeilpkhbbeaaGreatDoor
open Go.RowKit

/-- The number of the first place of a byte, -1 if it does not stand there. -/
def fiI (c : UInt8) (l : List UInt8) : Int := if c ∈ l then ((cutA c l).length : Int) else -1
theorem split_at (c : UInt8) : ∀ (l : List UInt8), c ∈ l → ∃ a b, l = a ++ c :: b ∧ c ∉ a
  | [], h => by cases h
  | x :: l, h => by
    by_cases hx : x = c
    · exact ⟨[], l, by rw [hx]; rfl, by simp⟩
    · obtain ⟨a, b, e, h2⟩ := split_at c l (by rcases List.mem_cons.1 h with e | e; exact absurd e.symm hx; exact e)
      exact ⟨x :: a, b, by rw [e]; rfl, by simp [h2, Ne.symm hx]⟩
theorem cut_parts {c : UInt8} {l : List UInt8} (h : c ∈ l) : l = cutA c l ++ c :: cutZ c l ∧ c ∉ cutA c l ∧ cutB c l = true := by
  obtain ⟨a, b, e, h2⟩ := split_at c l h
  have hc := cut_yes (b := b) h2
  unfold cutA cutZ cutB
  rw [e, hc]
  exact ⟨rfl, h2, rfl⟩
theorem cut_none {c : UInt8} {l : List UInt8} (h : c ∉ l) : cutB c l = false := by unfold cutB; rw [cut_no h]
theorem bytes_short {l : List UInt8} (h : l.length ≤ 4096) : prsE l = if prsB l then 0 else 5 := by
  unfold prsE; rw [if_neg (by omega)]
/-- A decimal fraction, as the document asks it. -/
def frcB (a b : List UInt8) : Bool := prsB (bodyL a) && !decide (prsZ (bodyL a) < 0) && digB b && decide (b.length ≤ 100)
theorem neg_body {t : List UInt8} (h : negB t = false) : bodyL t = t := by
  unfold bodyL Lib.trimPrefix
  have h' : Lib.hasPrefix t [45] = false := h
  rw [if_neg (by rw [h']; exact Bool.false_ne_true)]
theorem dig_all {t : List UInt8} : digB t = true ↔ t ≠ [] ∧ t.all isD = true := by
  unfold digB
  simp
theorem frc_dec (a b : List UInt8) : frcB a b = decB a b := by
  unfold frcB decB
  obtain ⟨t, ht⟩ : ∃ t, t = bodyL a := ⟨_, rfl⟩
  rw [← ht]
  cases hn : negB t with
  | true =>
    -- a sign behind the sign: neither
    have h1 : (prsB t && !decide (prsZ t < 0)) = false := by
      cases hp : prsB t with
      | false => rfl
      | true =>
        unfold prsB at hp
        rw [hn] at hp
        simp at hp
        have : prsZ t < 0 := by unfold prsZ sgn; rw [hn]; simp; omega
        simp [this]
    have h2 : digB (t ++ b) = false := by
      rw [← Bool.not_eq_true]
      intro h
      have := (dig_all.1 h).2
      rw [List.all_append] at this
      simp at this
      have h3 := (neg_no (List.all_eq_true.2 this.1)).1
      rw [hn] at h3
      cases h3
    rw [h1, h2]
    simp
  | false =>
    have hb := neg_body hn
    have hz : prsZ t = ((dv t : Nat) : Int) := by unfold prsZ; rw [hn, hb]; rfl
    have hp : prsB t = (digB t && leadB t) := by unfold prsB; rw [hn, hb]; simp
    rw [hp, hz]
    have hnn : decide (((dv t : Nat) : Int) < 0) = false := decide_eq_false (by omega)
    rw [hnn]
    unfold digB
    rw [List.all_append]
    cases t with
    | nil => simp
    | cons x t =>
      cases b with
      | nil => simp
      | cons y b =>
        simp only [List.isEmpty_cons, Bool.not_false, Bool.true_and, Bool.and_true, ne_eq, reduceCtorEq, not_false_eq_true, decide_true, List.cons_append]
        cases (x :: t).all isD <;> cases (y :: b).all isD <;> cases leadB (x :: t) <;> cases decide ((y :: b).length ≤ 100) <;> simp
theorem frc_val {a b : List UInt8} (h : frcB a b = true) : sgn (negB a) (prsZ (bodyL a) * 10 ^ b.length + ((dv b : Nat) : Int)) = decZ a b := by
  have h2 := frc_dec a b
  rw [h] at h2
  unfold decB at h2
  simp only [Bool.true_eq, Bool.and_eq_true] at h2
  have h3 := (dig_all.1 h2.2).2
  rw [List.all_append] at h3
  simp at h3
  have h4 := neg_no (List.all_eq_true.2 h3.1)
  have hz : prsZ (bodyL a) = ((dv (bodyL a) : Nat) : Int) := by unfold prsZ; rw [h4.1, h4.2]; rfl
  unfold decZ
  rw [hz, dv_append]
  rw [Int.natCast_add, Int.natCast_mul, Int.natCast_pow]
  rfl
end Go.Proofs.YtbapeilpkhbbeaaGreatDoor

/- hodoscoperef01.long: the quotient and the rest of two naturals, bit by bit. -/
namespace Go.Proofs.YtbapeilpkhbbeaaGreatDoor
open Go.RowKit

theorem Fr.mono {B B' : Nat} {v : Value} (h : Fr B v) (hB : B' ≤ B) : Fr B' v := fun b off l c e => Nat.le_trans hB (h b off l c e)
theorem Md.kept {w : World} {v : Value} {n : Int} {K g : Nat} (h : Md w v n K) (hf : Fr (g + 1) v) (i : Nat) (u : Value) : Md (w.setCell ⟨g, i, none⟩ u) v n K := by
  obtain ⟨ao, c, L, rfl, h⟩ := h
  refine ⟨ao, c, L, rfl, h.rd.keptNew (grown_set _ _ _ _) (fun _ b off e hb => ?_), h.dig, h.nrm, h.eq, h.le⟩
  subst e
  have := hf b off _ _ rfl
  omega

/-- One digit x of the dividend, whose higher digits T are H * b + ..: its bits above M are done. -/
structure LnP (T H x b M P c r : Int) : Prop where
  p0 : 0 < P
  m0 : 0 < M
  mp : P * M = 65536
  c0 : 0 ≤ c
  r0 : 0 ≤ r
  r1 : r < b
  eq : T * P + x / M = (H * P + c) * b + r

theorem LnP.start {T H x b r : Int} (x0 : 0 ≤ x) (x1 : x < 65536) (r0 : 0 ≤ r) (r1 : r < b) (e : T = H * b + r) : LnP T H x b 65536 1 0 r :=
  ⟨by decide, by decide, by decide, Int.le_refl 0, r0, r1, by rw [Int.ediv_eq_zero_of_lt x0 x1, e]; simp⟩
theorem half_bits {x M : Int} (m0 : 0 < M) : x / M = 2 * (x / (2 * M)) + x / M % 2 := by
  have h : x / (2 * M) = x / M / 2 := by rw [Int.mul_comm]; exact (Int.ediv_ediv_of_nonneg (by omega)).symm
  rw [h]
  omega
theorem LnP.low {T H x b M P c r : Int} (h : LnP T H x b (2 * M) P c r) (hM : 0 < M) (hlt : 2 * r + x / M % 2 < b) : LnP T H x b M (2 * P) (2 * c) (2 * r + x / M % 2) := by
  have p0 := h.p0; have c0 := h.c0; have r0 := h.r0; have e := h.eq; have mp := h.mp
  have hb := half_bits (x := x) hM
  refine ⟨by omega, hM, ?_, by omega, by omega, hlt, ?_⟩
  · rw [← mp, Int.mul_assoc 2 P M, Int.mul_left_comm P 2 M]
  · generalize x / M % 2 = d at *
    generalize x / M = y at *
    generalize x / (2 * M) = z at *
    subst hb
    grind
theorem LnP.high {T H x b M P c r : Int} (h : LnP T H x b (2 * M) P c r) (hM : 0 < M) (hge : b ≤ 2 * r + x / M % 2) : LnP T H x b M (2 * P) (2 * c + 1) (2 * r + x / M % 2 - b) := by
  have p0 := h.p0; have c0 := h.c0; have r0 := h.r0; have r1 := h.r1; have e := h.eq; have mp := h.mp
  have hb := half_bits (x := x) hM
  refine ⟨by omega, hM, ?_, by omega, by omega, by omega, ?_⟩
  · rw [← mp, Int.mul_assoc 2 P M, Int.mul_left_comm P 2 M]
  · generalize x / M % 2 = d at *
    generalize x / M = y at *
    generalize x / (2 * M) = z at *
    subst hb
    grind
theorem LnP.small {T H x b M P c r rT : Int} (h : LnP T H x b M P c r) (hx : x < 65536) (e : T = H * b + rT) (hr : rT < b) (hb : 0 < b) : c < P := by
  have hM : x / M < P := by
    apply Int.ediv_lt_of_lt_mul h.m0
    rw [h.mp]; exact hx
  have he := h.eq; have r0 := h.r0; have p0 := h.p0
  subst e
  by_cases hc : c < P
  · exact hc
  · exfalso
    have h1 : rT * P + x / M = c * b + r := by grind
    have h2 : P * b ≤ c * b := Int.mul_le_mul_of_nonneg_right (by omega) (by omega)
    have h3 : rT * P ≤ (b - 1) * P := Int.mul_le_mul_of_nonneg_right (by omega) (by omega)
    grind

/-- Behind the digits from j on. -/
structure LgI (w wr : World) (g : Nat) (LA : List Int) (b : Int) (j K : Nat) (QT : List Int) (rv : Value) (r : Int) : Prop where
  row : Row .i64 3 wr g (List.replicate j 0 ++ QT)
  gr : w.grownBy wr (some g)
  len : j + QT.length = LA.length
  dig : Dig R16 QT
  r0 : 0 ≤ r
  r1 : r < b
  eq : val R16 (LA.drop j) = val R16 QT * b + r
  md : Md wr rv r K
  fr : Fr (g + 1) rv
  sz : g < wr.heap.size
/-- .. and the bits of the digit j above M. -/
structure LnI (w wr : World) (g : Nat) (LA : List Int) (b : Int) (j K : Nat) (QT : List Int) (x M P c : Int) (rv : Value) (r : Int) : Prop where
  row : Row .i64 3 wr g (List.replicate j 0 ++ (c * M) :: QT)
  gr : w.grownBy wr (some g)
  len : j + 1 + QT.length = LA.length
  dig : Dig R16 QT
  p : LnP (val R16 (LA.drop (j + 1))) (val R16 QT) x b M P c r
  md : Md wr rv r K
  fr : Fr (g + 1) rv
  sz : g < wr.heap.size

theorem LgI.enter {w wr : World} {g : Nat} {LA QT : List Int} {b r x : Int} {j K : Nat} {rv : Value} (h : LgI w wr g LA b (j + 1) K QT rv r) (x0 : 0 ≤ x) (x1 : x < 65536) : LnI w wr g LA b j K QT x 65536 1 0 rv r :=
  ⟨by have := h.row; rw [List.replicate_succ', List.append_assoc] at this; simpa using this, h.gr, h.len, h.dig, LnP.start x0 x1 h.r0 h.r1 h.eq, h.md, h.fr, h.sz⟩
theorem LnI.leave {w wr : World} {g : Nat} {LA QT : List Int} {b r x c rT : Int} {j K : Nat} {rv : Value} (h : LnI w wr g LA b j K QT x 1 65536 c rv r) (hx : x = LA[j]?.getD 0) (x1 : x < 65536) (hb : 0 < b)
    (hT : val R16 (LA.drop (j + 1)) = val R16 QT * b + rT) (hr : rT < b) : LgI w wr g LA b j K (c :: QT) rv r := by
  have hc := h.p.small x1 hT hr hb
  refine ⟨by have := h.row; rwa [Int.mul_one] at this, h.gr, by have := h.len; simp; omega, Dig.cons h.p.c0 (by unfold R16; omega) h.dig, h.p.r0, h.p.r1, ?_, h.md, h.fr, h.sz⟩
  have e := h.p.eq
  rw [Int.ediv_one] at e
  rw [val_drop R16 LA j (by have := h.len; omega), ← hx]
  simp only [val]
  generalize val R16 (LA.drop (j + 1)) = T at *
  generalize val R16 QT = t at *
  unfold R16
  grind

theorem LnI.lowStep {w wr w2 : World} {g : Nat} {LA QT : List Int} {b r x c M P : Int} {j K : Nat} {rv v : Value} (h : LnI w wr g LA b j K QT x (2 * M) P c rv r) (hM : 0 < M) (hlt : 2 * r + x / M % 2 < b) (hbK : b < R16 ^ K)
    (hb : Below wr.heap.size wr w2) (hv : Md w2 v (2 * r + x / M % 2) (K + 1) ∧ Fr wr.heap.size v) : LnI w w2 g LA b j K QT x M (2 * P) (2 * c) v (2 * r + x / M % 2) := by
  have hr := h.row.kept (below_grown hb) (by simp)
  rw [show c * (2 * M) = 2 * c * M by rw [Int.mul_left_comm, Int.mul_assoc]] at hr
  exact ⟨hr, grown_trans h.gr (grown_any (below_grown hb)), h.len, h.dig, h.p.low hM hlt, hv.1.tight (by omega), hv.2.mono h.sz, Nat.lt_of_lt_of_le h.sz hb.size⟩
theorem LnI.highStep {w wr w2 w3 : World} {g : Nat} {LA QT : List Int} {b r x c M P : Int} {j K : Nat} {rv v : Value} (h : LnI w wr g LA b j K QT x (2 * M) P c rv r) (hM : 0 < M) (hge : b ≤ 2 * r + x / M % 2) (hbK : b < R16 ^ K)
    (hb : Below wr.heap.size wr w2) (hb3 : Below w2.heap.size w2 w3) (hv : Md w3 v (2 * r + x / M % 2 - b) (K + 1) ∧ Fr w2.heap.size v) :
    LnI w (w3.setCell ⟨g, j, none⟩ (.int .i64 (c * (2 * M) + M))) g LA b j K QT x M (2 * P) (2 * c + 1) v (2 * r + x / M % 2 - b) := by
  have hr := ((h.row.kept (below_grown hb) (by simp)).kept (below_grown hb3) (by simp)).set j (c * (2 * M) + M)
  have hp := h.p.high hM hge
  have hsz2 : g < w2.heap.size := Nat.lt_of_lt_of_le h.sz hb.size
  rw [List.set_append_right _ _ (by simp), List.length_replicate, Nat.sub_self, List.set_cons_zero] at hr
  rw [show c * (2 * M) + M = (2 * c + 1) * M by rw [Int.add_mul, Int.one_mul, Int.mul_left_comm, Int.mul_assoc]] at hr ⊢
  exact ⟨hr, grown_trans (grown_trans h.gr (grown_any ((below_grown hb)))) (grown_trans (grown_any (below_grown hb3)) (grown_set _ _ _ _)), h.len, h.dig, hp, (hv.1.tight (by have := hp.r1; omega)).kept (hv.2.mono hsz2) _ _, hv.2.mono hsz2, by have := hb3.size; simp; omega⟩
end Go.Proofs.YtbapeilpkhbbeaaGreatDoor
