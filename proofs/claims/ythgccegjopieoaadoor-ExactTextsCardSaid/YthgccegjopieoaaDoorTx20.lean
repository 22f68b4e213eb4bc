/- The document's Parse: a minus, no number. Written by gen_rparse.py. The document's Parse of any text. Written by gen_rparse.py. The law ExactTexts, its walk. Written by gen_texts.py. How the arguments of the laws are opened (an api.Int reads as its sign and its list of words), and the last step of a row whose law returns true and leaves all that was there before. The law ExactField, its walk. Written by gen_field.py. An api.Ratio argument of a law, opened. Written by gen_fieldrow.py. A ratio argument whose words are known, as a value. The law ExactTexts at any arguments. Written by gen_rowx.py. A world for the rows' witnesses: the listed tables hold what they are said to hold. -/
import Derived.Test.YthgccegjopieoaaDoorTx18
import Derived.Test.YthgccegjopieoaaDoorTx19
import Derived.Test.YthgccegjopieoaaDoorTx11
import Derived.Test.YthgccegjopieoaaDoorTx17
import Derived.Test.YthgccegjopieoaaDoorTx16
import Derived.Test.YthgccegjopieoaaDoorTx10
import Derived.ProofKit
import Derived.Below
import Derived.Lib.SmallJoins
import Derived.Deep.Slices
import Derived.Test.YthgccegjopieoaaDoorCards
import Derived.Test.YthgccegjopieoaaDoorTie
import Derived.Lib.LaidTab
/- The document's Parse: a minus, no number. Written by gen_rparse.py. -/
namespace Go.Proofs.YthgccegjopieoaaDoor
open Go.RowKit

set_option maxRecDepth 100000 in
set_option maxHeartbeats 30000000 in
theorem rParse_nn (l : List UInt8) (hl : l.length ≤ 10000) (hlong : ¬ 4096 < l.length) (hcn : negB l = true) (hcp : prsB l = false) (w : World) :
    Calls Tryd.prog 5 #[.string ⟨l.toArray⟩] w (RetRP l (6 * l.length + 6) w) := by
  have hlen := bodyL_len l
  obtain ⟨K, hK⟩ : ∃ K, K = 6 * l.length + 6 := ⟨_, rfl⟩
  rw [← hK]
  have HKb := hid (show K ≤ 100000 by omega)
  obtain ⟨t, ht⟩ : ∃ t, t = bodyL l := ⟨_, rfl⟩
  obtain ⟨neg, hneg⟩ : ∃ b, b = negB l := ⟨_, rfl⟩
  obtain ⟨s, hs⟩ : ∃ s : ByteArray, s = ⟨l.toArray⟩ := ⟨_, rfl⟩
  have hsl : (s.size : Int) = (l.length : Int) := by rw [hs]; rfl
  rw [← hs]
  have HMi := hid (fun w' => show Calls Tryd.prog 12 #[.string s] w' (fun e w2 => e = .returned (.tuple #[.string ⟨t.toArray⟩, .bool neg]) ∧ w2 = w') by rw [ht, hneg, hs]; exact rminus_any l w')
  obtain ⟨b, hb⟩ : ∃ b, b = digB t := ⟨_, rfl⟩
  have HDi := hid (fun w' => show Calls Tryd.prog 13 #[.string ⟨t.toArray⟩] w' (fun e w2 => ∃ v y, e = .returned (.tuple #[v, .bool b]) ∧ Zt w2 v y K ∧ (b = true → y = ((dv t : Nat) : Int)) ∧ Below w'.heap.size w' w2) from (rdigits_any t (by rw [ht]; omega) w').mono (by
    rintro e w2 ⟨v, y, rfl, h1, h2, h3⟩
    exact ⟨v, y, by rw [hb], h1.mono (by rw [hK, ht]; omega), by rw [hb]; exact h2, h3⟩))
  obtain ⟨E, hE⟩ : ∃ E, E = prsE l := ⟨_, rfl⟩
  obtain ⟨Z, hZ⟩ : ∃ Z, Z = prsZ l := ⟨_, rfl⟩
  have hZs : Z = sgn neg ((dv t : Nat) : Int) := by rw [hZ, hneg, ht]; rfl
  have hpt := prs_text l
  rw [← ht, ← hb, ← hZ] at hpt
  have HE := hid hE; have HZ := hid hZ
  rw [← hneg] at hcn
  have HC := hid hcn
  have HP := hid hcp
  clear hcn hcp
  have Hbad := hid (show ∀ (w' : World) (E0 : Int), E = E0 → E0 ≠ 0 → Below w.heap.size w w' → RetRP l K w (.returned (.tuple #[.agg #[.bool false, .slice none 0 0], .int .i64 E0])) w' from fun w' E0 e1 e2 hb =>
    ⟨false, none, 0, 0, by rw [← e1, hE], (fun h => absurd (by rw [← e1, hE]; exact h) e2), hb⟩)
  have hbld : ∀ w : World, (Instr.build 30 #[]).run Tryd.prog w = .ok (.agg #[.bool false, .slice none 0 0]) w := fun w => by kernel_rfl
  obtain ⟨W0, hW0⟩ : ∃ W0, W0 = w.alloc (.cells #[.bool false, .slice none 0 0] 30) := ⟨_, rfl⟩
  have hB0 : Below w.heap.size w W0 := by rw [hW0]; exact (Below.refl _ _).alloc (Nat.le_refl _) _
  have hz0 : W0.heap.size = w.heap.size + 1 := by rw [hW0]; simp
  have HT : Hid (∀ w', Below W0.heap.size W0 w' → (w'.cell? ⟨w.heap.size, 0, none⟩ = some (.bool false) ∧ w'.cell? ⟨w.heap.size, 1, none⟩ = some (.slice none 0 0)) ∧ w'.frozen? ⟨w.heap.size, 0, none⟩ = false ∧ w'.frozen? ⟨w.heap.size, 1, none⟩ = false) := hid (fun w' hb => by
    refine ⟨⟨?_, ?_⟩, ?_, ?_⟩ <;> (first | (rw [hb.cell (by rw [hW0]; simp), hW0]; simp [go_sem]; done) | (rw [hb.frozen (by rw [hW0]; simp), hW0]; simp [go_sem]; done)))
  have HB0 := hid hB0; have HW := hid hW0; have Hz0 := hid hz0
  clear hW0 hB0 hz0 hlen
  have hlI : ¬ 4096 < (s.size : Int) := by omega
  have hEb : E = if prsB l then 0 else 5 := by rw [hE]; unfold prsE; rw [if_neg hlong]
  have HEB := hid hEb; have HPT := hid hpt; have HZS := hid hZs
  have htl : t.length ≤ 10000 := by rw [ht]; have := bodyL_len l; omega
  obtain ⟨tt, htt⟩ : ∃ tt : ByteArray, tt = ⟨(txL Z).toArray⟩ := ⟨_, rfl⟩
  have HTX := hid (fun (hbt : b = true) (v : Value) (w' : World) (h : Zt w' v Z K) => show Calls Tryd.prog 7 #[v] w' (fun e w2 => e = .returned (.string tt) ∧ Below w'.heap.size w' w2) by
    rw [htt]
    exact rText_any v Z K w' h HKb.out (by
      have hd : t.all isD = true := by
        rw [hb] at hbt
        unfold digB at hbt
        rw [Bool.and_eq_true] at hbt
        exact hbt.2
      have h1 : Z.natAbs < 10 ^ t.length := by
        rw [hZs, sgn_nat]
        exact dv_lt t hd
      have := txL_len h1
      omega))
  have hts : tt = s ↔ txL Z = l := by
    rw [htt, hs]
    constructor
    · intro h
      have := congrArg (fun b : ByteArray => b.data.toList) h
      simpa using this
    · intro h; rw [h]
  have HTS := hid hts
  clear hts htt hs hsl
  clear hlong hE hZ hZs hpt hK ht hneg hb hl hEb htl
  go_enter Tryd.func5, Tryd.ntmps5
  go_upto_region 1 with (fail)
  rw [← HW.out]
  go_wp2_with fail
  refine (HMi.out _).mono ?_
  rintro e w1 ⟨rfl, h1⟩
  obtain rfl : W0 = w1 := h1.symm
  go_wp2_with fail
  refine (HDi.out _).mono ?_
  rintro e w2 ⟨v, y, rfl, hv, hy, hb2⟩
  obtain ⟨g2, o2, m2, c2, rfl, H2, H2s, H2b⟩ := Zt.opened hv
  have hmz := Md.lenz (H2s.out w2 (Below.refl _ _))
  have HX2 := hid (show Below W0.heap.size W0 w2 from hb2)
  have HY := hid hy
  clear H2b
  clear hv hy hb2
  go_upto_region 5 with (fail)
  obtain ⟨W3, hW3⟩ : ∃ W3, W3 = w2.alloc (.cells #[.bool g2, .slice o2 m2 c2] 30) := ⟨_, rfl⟩
  have hal : Below w2.heap.size w2 W3 := by rw [hW3]; exact bl_new _
  have q0 : W3.cell? ⟨w2.heap.size, 0, none⟩ = some (.bool g2) := by rw [hW3]; simp [go_sem]
  have q1 : W3.cell? ⟨w2.heap.size, 1, none⟩ = some (.slice o2 m2 c2) := by rw [hW3]; simp [go_sem]
  have qf : W3.frozen? ⟨w2.heap.size, 0, none⟩ = false := by rw [hW3]; simp [go_sem]
  have HS3 := hid (show W3.heap.size = w2.heap.size + 1 by rw [hW3]; simp)
  rw [← hW3]
  have HX3 := hid (HX2.out.trans (hal.mono HX2.out.size))
  have HMd := hid (H2s.out W3 hal)
  have HLen := hid (show b = true → (m2 = 0 ↔ dv t = 0) from fun hbt => by have h := hmz; rw [HY.out hbt] at h; simpa using h)
  clear hW3 hal hmz H2 H2s
  cases hn : neg with
  | false => exact absurd (hn.symm.trans HC.out) (by decide)
  | true =>
    subst hn
    by_cases hm : m2 = 0
    · subst hm
      have HZt := hid (show b = true → Zt (W3.setCell ⟨w2.heap.size, 0, none⟩ (.bool false)) (.agg #[.bool false, .slice o2 0 c2]) Z K from fun hbt => by
        have h := zt_sgn true (show Md W3 (.slice o2 0 c2) ((dv t : Nat) : Int) K by have h := HMd.out; rw [HY.out hbt] at h; simpa using h)
        rw [show (true && decide (0 < dv t)) = false from by rw [decide_eq_false (by have := (HLen.out hbt).1 rfl; omega)]; rfl, ← HZS.out] at h
        exact h.set q0 (fun x h => by cases h) _)
      have HB4 := hid (HX3.out.setCell (p := ⟨w2.heap.size, 0, none⟩) HX2.out.size (.bool false))
      cases hbb : b with
      | false =>
        subst hbb
        have HE5 := hid (show E = 5 by rw [HEB.out, HPT.out]; rfl)
        obtain ⟨⟨k0, k1⟩, f0, f1⟩ := HT.out (W3.setCell ⟨w2.heap.size, 0, none⟩ (.bool false)) (HB4.out)
        go_wp2
        refine bodyPost_ret (v := .tuple #[.agg #[.bool false, .slice none 0 0], .int .i64 5]) (by simp [results, Tryd.results5, go_sem, k0, k1]) rfl (Hbad.out _ 5 HE5.out (by decide) (((HB0.out.trans ((HB4.out).mono HB0.out.size)).setCell (p := ⟨w.heap.size, 0, none⟩) (Nat.le_refl _) _).setCell (p := ⟨w.heap.size, 1, none⟩) (Nat.le_refl _) _))
      | true =>
        subst hbb
        by_cases hts : tt = s
        · exact absurd (HP.out.symm.trans (HPT.out.trans (by rw [decide_eq_true (HTS.out.1 hts)]; first | done | rfl))) (by decide)
        · have HE5 := hid (show E = 5 by rw [HEB.out, HPT.out, decide_eq_false (fun h => hts (HTS.out.2 h))]; rfl)
          have hnt := bytes_ne hts
          go_wp2_with (go_at_call 7; refine (HTX.out rfl _ _ (HZt.out rfl)).mono ?_; rintro e w5 ⟨rfl, hb5⟩; have HX5 := hid (HB4.out.trans (hb5.mono HB4.out.size)); obtain ⟨⟨k0, k1⟩, f0, f1⟩ := HT.out w5 HX5.out)
          refine bodyPost_ret (v := .tuple #[.agg #[.bool false, .slice none 0 0], .int .i64 5]) (by simp [results, Tryd.results5, go_sem, k0, k1]) rfl (Hbad.out _ 5 HE5.out (by decide) (((HB0.out.trans (HX5.out.mono HB0.out.size)).setCell (p := ⟨w.heap.size, 0, none⟩) (Nat.le_refl _) _).setCell (p := ⟨w.heap.size, 1, none⟩) (Nat.le_refl _) _))
    · have hmI : 0 < m2 := by omega
      have HZt := hid (show b = true → Zt (W3.setCell ⟨w2.heap.size, 0, none⟩ (.bool true)) (.agg #[.bool true, .slice o2 m2 c2]) Z K from fun hbt => by
        have h := zt_sgn true (show Md W3 (.slice o2 m2 c2) ((dv t : Nat) : Int) K by have h := HMd.out; rw [HY.out hbt] at h; simpa using h)
        rw [show (true && decide (0 < dv t)) = true from by rw [decide_eq_true (by have := HLen.out hbt; omega)]; rfl, ← HZS.out] at h
        exact h.set q0 (fun x h => by cases h) _)
      have HB4 := hid (HX3.out.setCell (p := ⟨w2.heap.size, 0, none⟩) HX2.out.size (.bool true))
      cases hbb : b with
      | false =>
        subst hbb
        have HE5 := hid (show E = 5 by rw [HEB.out, HPT.out]; rfl)
        obtain ⟨⟨k0, k1⟩, f0, f1⟩ := HT.out (W3.setCell ⟨w2.heap.size, 0, none⟩ (.bool true)) (HB4.out)
        go_wp2
        refine bodyPost_ret (v := .tuple #[.agg #[.bool false, .slice none 0 0], .int .i64 5]) (by simp [results, Tryd.results5, go_sem, k0, k1]) rfl (Hbad.out _ 5 HE5.out (by decide) (((HB0.out.trans ((HB4.out).mono HB0.out.size)).setCell (p := ⟨w.heap.size, 0, none⟩) (Nat.le_refl _) _).setCell (p := ⟨w.heap.size, 1, none⟩) (Nat.le_refl _) _))
      | true =>
        subst hbb
        by_cases hts : tt = s
        · exact absurd (HP.out.symm.trans (HPT.out.trans (by rw [decide_eq_true (HTS.out.1 hts)]; first | done | rfl))) (by decide)
        · have HE5 := hid (show E = 5 by rw [HEB.out, HPT.out, decide_eq_false (fun h => hts (HTS.out.2 h))]; rfl)
          have hnt := bytes_ne hts
          go_wp2_with (go_at_call 7; refine (HTX.out rfl _ _ (HZt.out rfl)).mono ?_; rintro e w5 ⟨rfl, hb5⟩; have HX5 := hid (HB4.out.trans (hb5.mono HB4.out.size)); obtain ⟨⟨k0, k1⟩, f0, f1⟩ := HT.out w5 HX5.out)
          refine bodyPost_ret (v := .tuple #[.agg #[.bool false, .slice none 0 0], .int .i64 5]) (by simp [results, Tryd.results5, go_sem, k0, k1]) rfl (Hbad.out _ 5 HE5.out (by decide) (((HB0.out.trans (HX5.out.mono HB0.out.size)).setCell (p := ⟨w.heap.size, 0, none⟩) (Nat.le_refl _) _).setCell (p := ⟨w.heap.size, 1, none⟩) (Nat.le_refl _) _))
end Go.Proofs.YthgccegjopieoaaDoor

/- The document's Parse of any text. Written by gen_rparse.py. -/
namespace Go.Proofs.YthgccegjopieoaaDoor
open Go.RowKit

theorem rParse_any (l : List UInt8) (hl : l.length ≤ 10000) (w : World) :
    Calls Tryd.prog 5 #[.string ⟨l.toArray⟩] w (RetRP l (6 * l.length + 6) w) := by
  by_cases h : 4096 < l.length
  · exact rParse_long l hl h w
  · cases hn : negB l with
    | false => cases hp : prsB l with
      | false => exact rParse_pn l hl h hn hp w
      | true => exact rParse_py l hl h hn hp w
    | true => cases hp : prsB l with
      | false => exact rParse_nn l hl h hn hp w
      | true => exact rParse_ny l hl h hn hp w
end Go.Proofs.YthgccegjopieoaaDoor

/- The law ExactTexts, its walk. Written by gen_texts.py. -/
namespace Go.Proofs.YthgccegjopieoaaDoor
open Go.RowKit

/-- An integer and its error. -/
def RetIE (w : World) (E z : Int) (e : Ending) (w' : World) : Prop := ∃ b o m c, e = .returned (.tuple #[.agg #[.bool b, .slice o m c], .int .i64 E]) ∧ Hid (IntE w' (.agg #[.bool b, .slice o m c]) E z) ∧ Below w.heap.size w w'
def RetZZE (w : World) (E z : Int) (e : Ending) (w' : World) : Prop := ∃ b o m c, e = .returned (.tuple #[.agg #[.bool b, .slice o m c], .int .i64 E]) ∧ Hid (ZE w' (.agg #[.bool b, .slice o m c]) E z) ∧ Below w.heap.size w w'
theorem Parse_res (l : List UInt8) (hl : l.length ≤ 10000) (w : World) : Calls Tryd.prog 4 #[.string ⟨l.toArray⟩] w (RetIE w (prsE l) (prsZ l)) := by
  refine (Parse_any l (by omega) w).mono ?_
  rintro e w' ⟨b, o, m, c, rfl, hf, hz, hb⟩
  refine ⟨b, o, m, c, rfl, hid ⟨b, o, m, c, rfl, ?_⟩, hb⟩
  by_cases h : prsE l = 0
  · exact Or.inl ⟨h, _, (hf h).an⟩
  · exact Or.inr ⟨h, hz h⟩
theorem rParse_res (l : List UInt8) (hl : l.length ≤ 10000) (w : World) : Calls Tryd.prog 5 #[.string ⟨l.toArray⟩] w (RetZZE w (prsE l) (prsZ l)) := by
  refine (rParse_any l hl w).mono ?_
  rintro e w' ⟨b, o, m, c, rfl, hf, hb⟩
  refine ⟨b, o, m, c, rfl, hid ⟨b, o, m, c, rfl, ?_⟩, hb⟩
  by_cases h : prsE l = 0
  · exact Or.inl ⟨h, _, by omega, hf h⟩
  · exact Or.inr h

set_option maxRecDepth 100000 in
set_option maxHeartbeats 2000000 in
theorem exactTexts_walk (a1 : Bool) (p1 : Option Addr) (l1 q1 : Nat) (z : Int) (s : List UInt8) (w : World) (hu : Ai w (.agg #[.bool a1, .slice p1 l1 q1]) z 64) (hl1 : l1 ≤ 64) (hs : s.length ≤ 5000) (hT : Tab w) :
    Calls Tryd.prog 3 #[(.agg #[.bool a1, .slice p1 l1 q1]), .string ⟨s.toArray⟩] w fun e w' => e = .returned (.bool true) ∧ Below w.heap.size w w' := by
  obtain ⟨W0, hW0⟩ : ∃ W0, W0 = (w.alloc (.cells #[.bool a1, .slice p1 l1 q1] 24)) := ⟨_, rfl⟩
  have hB0 : Below w.heap.size w W0 := by rw [hW0]; exact (Below.refl _ _).alloc (Nat.le_refl _) _
  have hz0 : W0.heap.size = w.heap.size + 1 := by rw [hW0]; simp
  have HS0 : Hid (∀ w', Below W0.heap.size W0 w' → w'.cell? ⟨w.heap.size, 0, none⟩ = some (.bool a1) ∧ w'.cell? ⟨w.heap.size, 1, none⟩ = some (.slice p1 l1 q1)) := hid (fun w' hb => by
    refine ⟨?_, ?_⟩ <;> (rw [hb.cell (by rw [hz0]; simp <;> omega), hW0]; simp [go_sem]))
  have VN : Hid (∀ w', Below W0.heap.size W0 w' → Ai w' (.agg #[.bool a1, .slice p1 l1 q1]) z 64) := hid (fun w' hb => (hu.below hB0 (Nat.le_refl _)).below hb (Nat.le_refl _))
  have hz := ai_lt hu
  have htl := txL_len hz
  have HT : Hid (∀ w', Below W0.heap.size W0 w' → Tab w') := hid (fun w' hb => (hT.below hB0).below hb)
  obtain ⟨tt, htt⟩ : ∃ t, t = tx z := ⟨_, rfl⟩
  have htx : tt = ⟨(txL z).toArray⟩ := htt.trans (tx_eq z)
  obtain ⟨E, hE⟩ : ∃ E, E = prsE s := ⟨_, rfl⟩
  obtain ⟨Z, hZ⟩ : ∃ Z, Z = prsZ s := ⟨_, rfl⟩
  have HX1 := hid (fun (w' : World) => show Calls Tryd.prog 4 #[.string ⟨s.toArray⟩] w' (RetIE w' E Z) by rw [hE, hZ]; exact Parse_res s (by omega) w')
  have HX2 := hid (fun (w' : World) => show Calls Tryd.prog 5 #[.string ⟨s.toArray⟩] w' (RetZZE w' E Z) by rw [hE, hZ]; exact rParse_res s (by omega) w')
  have HX3 : Hid (∀ w', Below W0.heap.size W0 w' → Calls Tryd.prog 6 #[(.agg #[.bool a1, .slice p1 l1 q1])] w' (fun e w2 => e = .returned (.string tt) ∧ Below w'.heap.size w' w2)) := hid (fun w' hb => by rw [htt]; exact Text_all z 64 _ _ (VN.out _ hb) (by omega) (HT.out _ hb))
  have HX5 := hid (fun (v : Value) (w' : World) (h : Zt w' v z 128) => show Calls Tryd.prog 7 #[v] w' (fun e w2 => e = .returned (.string tt) ∧ Below w'.heap.size w' w2) by rw [htx]; exact rText_any v z 128 w' h (by omega) (by omega))
  have g1 : ¬ (64 : Int) < (l1 : Int) := by omega
  have g2 : ¬ (5000 : Int) < (s.length : Int) := by omega
  have HB0 := hid hB0; have HW0 := hid hW0
  clear hW0 hB0 hz0
  clear hz htl htt htx hE hZ hu hl1 hs hT
  go_enter Tryd.func3, Tryd.ntmps3
  go_upto_region 1 with (fail)
  rw [← HW0.out]
  obtain ⟨k0, k1⟩ := HS0.out _ (Below.refl _ _)
  go_wp2_with fail
  refine (HX1.out _).mono ?_
  rintro e wq1 ⟨b1, o1, m1, c1, rfl, H1, hXq⟩
  clear k0 k1
  obtain ⟨W1, hW1⟩ : ∃ W, W = wq1.alloc (.cells #[.bool b1, .slice o1 m1 c1] 24) := ⟨_, rfl⟩
  have hal1 : Below wq1.heap.size wq1 W1 := by rw [hW1]; exact bl_new _
  have hXn1 : Below W0.heap.size W0 W1 := bl_tr hXq hal1
  have HS1 : Hid (∀ w', Below W1.heap.size W1 w' → (w'.cell? ⟨w.heap.size, 0, none⟩ = some (.bool a1) ∧ w'.cell? ⟨w.heap.size, 1, none⟩ = some (.slice p1 l1 q1)) ∧ w'.cell? ⟨wq1.heap.size, 0, none⟩ = some (.bool b1) ∧ w'.cell? ⟨wq1.heap.size, 1, none⟩ = some (.slice o1 m1 c1)) := hid (fun w' hb => by
    refine ⟨HS0.out _ (bl_tr hXn1 hb), ?_, ?_⟩ <;> (rw [hb.cell (by rw [hW1]; simp), hW1]; simp [go_sem]))
  replace VN := hid (fun w' hb => VN.out w' (bl_tr hXn1 hb))
  replace HT := hid (fun w' hb => HT.out w' (bl_tr hXn1 hb))
  replace HX3 := hid (fun w' hb => HX3.out w' (bl_tr hXn1 hb))
  have VA : Hid (∀ w', Below W1.heap.size W1 w' → IntE w' (.agg #[.bool b1, .slice o1 m1 c1]) E Z) := hid (fun w' hb => H1.out.below (bl_tr hal1 hb) (Nat.le_refl _))
  have HB1 := hid (HB0.out.trans (hXn1.mono HB0.out.size)); have HW1 := hid hW1
  clear hW1 hal1 hXn1 HS0 HB0 HW0
  clear hXq H1 HX1
  go_upto_region 4 with (fail)
  rw [← HW1.out]
  go_wp2_with fail
  refine (HX2.out _).mono ?_
  rintro e wq2 ⟨b2, o2, m2, c2, rfl, H2, hXq⟩
  obtain ⟨W2, hW2⟩ : ∃ W, W = wq2.alloc (.cells #[.bool b2, .slice o2 m2 c2] 30) := ⟨_, rfl⟩
  have hal2 : Below wq2.heap.size wq2 W2 := by rw [hW2]; exact bl_new _
  have hXn2 : Below W1.heap.size W1 W2 := bl_tr hXq hal2
  have HS2 : Hid (∀ w', Below W2.heap.size W2 w' → ((w'.cell? ⟨w.heap.size, 0, none⟩ = some (.bool a1) ∧ w'.cell? ⟨w.heap.size, 1, none⟩ = some (.slice p1 l1 q1)) ∧ w'.cell? ⟨wq1.heap.size, 0, none⟩ = some (.bool b1) ∧ w'.cell? ⟨wq1.heap.size, 1, none⟩ = some (.slice o1 m1 c1)) ∧ w'.cell? ⟨wq2.heap.size, 0, none⟩ = some (.bool b2) ∧ w'.cell? ⟨wq2.heap.size, 1, none⟩ = some (.slice o2 m2 c2)) := hid (fun w' hb => by
    refine ⟨HS1.out _ (bl_tr hXn2 hb), ?_, ?_⟩ <;> (rw [hb.cell (by rw [hW2]; simp), hW2]; simp [go_sem]))
  replace VN := hid (fun w' hb => VN.out w' (bl_tr hXn2 hb))
  replace HT := hid (fun w' hb => HT.out w' (bl_tr hXn2 hb))
  replace HX3 := hid (fun w' hb => HX3.out w' (bl_tr hXn2 hb))
  replace VA := hid (fun w' hb => VA.out w' (bl_tr hXn2 hb))
  have VB : Hid (∀ w', Below W2.heap.size W2 w' → ZE w' (.agg #[.bool b2, .slice o2 m2 c2]) E Z) := hid (fun w' hb => H2.out.below (bl_tr hal2 hb) (Nat.le_refl _))
  have HB2 := hid (HB1.out.trans (hXn2.mono HB1.out.size)); have HW2 := hid hW2
  clear hW2 hal2 hXn2 HS1 HB1 HW1
  clear hXq H2 HX2
  go_upto_region 5 with (fail)
  rw [← HW2.out]
  have hX0 := Below.refl W2.heap.size W2
  have tk1 := hid trivial
  have tk2 := hid trivial
  have tk3 := hid trivial
  have tk4 := hid trivial
  go_region_held3 (fun w' => ((w'.cell? ⟨w.heap.size, 0, none⟩ = some (.bool a1) ∧ w'.cell? ⟨w.heap.size, 1, none⟩ = some (.slice p1 l1 q1)) ∧ w'.cell? ⟨wq1.heap.size, 0, none⟩ = some (.bool b1) ∧ w'.cell? ⟨wq1.heap.size, 1, none⟩ = some (.slice o1 m1 c1)) ∧ w'.cell? ⟨wq2.heap.size, 0, none⟩ = some (.bool b2) ∧ w'.cell? ⟨wq2.heap.size, 1, none⟩ = some (.slice o2 m2 c2)) ((refine HS2.out _ ?_; first | assumption | exact Below.drew (by assumption))) (first
    | (clear tk1; go_at_call 6; refine (HX3.out _ hX0.drew).mono ?_; rintro e v1 ⟨rfl, hbq⟩; have hY1 : Below W2.heap.size W2 v1 := (hX0.drew).trans (hbq.mono (hX0.drew).size))
    | (clear tk2; go_at_call 8; refine (rfrom_any _ z 64 _ (VN.out _ hY1) (by decide)).mono ?_; rintro e v2 ⟨vz, rfl, hz5, hbq⟩; have hY2 : Below W2.heap.size W2 v2 := (hY1).trans (hbq.mono (hY1).size))
    | (clear tk3; go_at_call 7; refine (HX5.out _ _ hz5).mono ?_; rintro e v3 ⟨rfl, hbq⟩; have hY3 : Below W2.heap.size W2 v3 := (hY2).trans (hbq.mono (hY2).size))
    | (clear tk4; go_at_call 9; refine (is_res _ _ E Z _ (VA.out _ hY3) (VB.out _ hY3)).mono ?_; rintro e v4 ⟨rfl, hbq⟩; have hY4 : Below W2.heap.size W2 v4 := (hY3).trans (hbq.mono (hY3).size)))
  go_wp2
  go_ret
  exact ⟨rfl, HB2.out.trans (hY4.mono HB2.out.size)⟩
end Go.Proofs.YthgccegjopieoaaDoor

/- How the arguments of the laws are opened (an api.Int reads as its sign and its list of words), and the last step of a row whose law returns true and leaves all that was there before. -/
namespace Go.Proofs.YthgccegjopieoaaDoor
open Go.ChangeShapes Go.WideShapes Go.ChangeAt Go.RowKit Go.Joins

theorem Tryd.ownKnobNone : ownKnob Tryd.prog.godebug = none := by kernel_rfl
theorem Tryd.laidOutAll : laidOutB Tryd.prog = true := by kernel_rfl

/-- The number that a value is. -/
def intOf : Value → Int | .int _ x => x | _ => 0

set_option maxRecDepth 100000 in
theorem openInt {H : Type} {enc : TypeId × Value → H} {r : Reach} {b0 : Nat} {W : World} {sp : Nat → Bool} {v : Value} {d : DataW H} {p : List MemPlace}
    (hv : Value.okWide Tryd.prog W r b0 24 v) (h : DataW.Trod enc Tryd.prog W 0 sp true 24 v d p) : ∃ neg L, Lk W v neg L ∧ Dig B32 L := by
  obtain ⟨c0, c1, y0, y1, m, rfl, rfl, rfl, hy0, hy1⟩ := open_agg2 Tryd.underlying24 (by kernel_rfl) (by kernel_rfl) hv h
  obtain ⟨b, e0, _⟩ := DataW.trod_bool Tryd.underlying4 hy0
  simp at e0
  subst e0
  rcases Go.Deep.open_slice1 Tryd.underlying22 (by kernel_rfl) hy1 with ⟨e1, _⟩ | ⟨a, len, cap, k, n, V, D, Pl, e1, hb, hl, hm, hmm, _, hx⟩
  · simp at e1
    subst e1
    exact ⟨b, [], ⟨none, 0, rfl, Rd.nil _ _⟩, fun x hx => by cases hx⟩
  · simp at e1
    subst e1
    have hk : len ≤ k := by rw [hmm]; split <;> omega
    have hw : ∀ i, i < len → ∃ x, V i = .int .u32 x ∧ 0 ≤ x ∧ x < B32 ∧ W.cell? (a.add i) = some (.int .u32 x) := by
      intro i hi
      obtain ⟨hc, ht⟩ := hx i (by omega)
      obtain ⟨x, ex, _, hwf⟩ := DataW.trod_int Tryd.underlying52 ht
      simp at ex
      simp [Lit.wf, IntKind.min, IntKind.max, IntKind.signed, IntKind.bits] at hwf
      refine ⟨x, ex, by omega, by unfold B32; omega, by rw [hc, ex]⟩
    have hget : ∀ i, i < len → (((List.range len).map fun i => intOf (V i))[i]?.getD 0) = intOf (V i) := by
      intro i hi
      simp [hi]
    refine ⟨b, (List.range len).map fun i => intOf (V i), ⟨some a, cap, by simp, ?_⟩, ?_⟩
    · refine ⟨by simpa using hl, by unfold maxLen at hm; omega, fun hp => ?_, fun b off e i hi => ?_⟩
      · obtain ⟨x, _, _, _, hc⟩ := hw 0 (by simpa using hp)
        have hs := World.cell?_spot hc
        obtain ⟨ab, aoff, asp⟩ := a
        have : asp = none := by simpa [Addr.add] using hs
        exact ⟨ab, aoff, by rw [this]⟩
      · simp at hi
        obtain rfl := Option.some.inj e
        obtain ⟨x, ex, _, _, hc⟩ := hw i hi
        rw [hget i hi, ex]
        have ea : Addr.add ⟨b, off, none⟩ i = ⟨b, off + i, none⟩ := by
          by_cases h0 : i = 0 <;> simp [Addr.add, h0]
        rw [ea] at hc
        simpa [intOf] using hc
    · intro x hx
      obtain ⟨i, hi, rfl⟩ := List.mem_map.1 hx
      obtain ⟨y, ey, y0, y1, _⟩ := hw i (by simpa using hi)
      rw [ey]
      exact ⟨y0, y1⟩

/-- What lies below a bound reads as it did, whatever was made above it. -/
theorem allStays {H : Type} {enc : TypeId × Value → H} {P : Program} (hl : laidOutB P = true) {W W' : World} {sp' : Nat → Bool} : ∀ {ts : List TypeId} {vs : List Value} {ds : List (DataW H)} {ps : List MemPlace},
    (∀ t ∈ ts, P.readableRec t = true ∧ t < P.types.size) → DataW.TrodAll enc P W 0 (fun _ => true) true ts vs ds ps → (∀ p ∈ ps, W.sameAt W' p) → (∀ p ∈ ps, sp' p.block = true) → DataW.TrodAll enc P W' 0 sp' true ts vs ds ps
  | [], _, _, _, _, h, _, _ => by
    obtain ⟨rfl, rfl, rfl⟩ := trodAll_nil h
    exact trodAll_mk0
  | t :: ts, _, _, _, ht, h, hs, hp => by
    obtain ⟨v, vs1, d, ds1, a, b, rfl, rfl, rfl, h1, h2⟩ := trodAll_cons h
    refine ⟨a, b, ?_, ?_, rfl⟩
    · exact WideElems.Trod_stays hl (ht t (by simp)).1 (ht t (by simp)).2 h1 (fun p k => hs p (by simp [k])) (fun p k => hp p (by simp [k]))
    · exact allStays hl (fun u k => ht u (by simp [k])) h2 (fun p k => hs p (by simp [k])) (fun p k => hp p (by simp [k]))

/-- The last step of a row: the law returns true, its arguments read as they did. -/
theorem lawTrue {H : Type} {enc : TypeId × Value → H} {P : Program} {f : Func} {s : ChangeSpec} {apart fresh handsOn : Bool} {W W' : World} {args : Array Value} {ds gs : List (DataW H)} {before : List MemPlace} {tb : TypeId}
    (hl : laidOutB P = true) (hr : ∀ t ∈ f.params.toList, P.readableRec t = true ∧ t < P.types.size) (hv : s.vars = []) (hres : f.resultTypes = #[tb]) (hb : P.underlying tb = some .bool)
    (hfn : s.fn H (ds ++ gs) = { results := [.lit (.bool true)], args := ds })
    (hW : DataW.Whole enc P f.params.toList s.vars apart W args.toList ds gs before) (hlow : Below W.heap.size W W') :
    s.post enc P f apart fresh handsOn false W args (.bool true) W' := by
  have hW' := hW
  obtain ⟨p, q, hA, hV, hpq, _, _⟩ := hW
  rw [hv] at hV
  obtain ⟨rfl, rfl⟩ := trodVars_none hV
  have hlt := hW'.lt
  have e0 : before = p := by rw [hpq]; simp
  subst e0
  refine ⟨ds, [], before, [], before, [], hW', ?_, ?_, ?_, ?_, fun h => by cases h⟩
  · rw [hfn, hres]
    exact trodAll_mk1 (shut_bool hb _)
  · rw [hfn]
    exact allStays hl hr hA (fun p k => hlow.same (hlt p k)) (fun p k => by simpa using hlt p k)
  · rw [hfn, hv]
    rfl
  · exact World.keptBut_mono (fun p k => ⟨k, Or.inr (Or.inl k)⟩) (hlow.frame (· ∈ before))
end Go.Proofs.YthgccegjopieoaaDoor

/- The law ExactField, its walk. Written by gen_field.py. -/
namespace Go.Proofs.YthgccegjopieoaaDoor
open Go.RowKit

end Go.Proofs.YthgccegjopieoaaDoor

/- An api.Ratio argument of a law, opened. Written by gen_fieldrow.py. -/
namespace Go.Proofs.YthgccegjopieoaaDoor
open Go.ChangeShapes Go.WideShapes Go.ChangeAt Go.RowKit Go.Joins

end Go.Proofs.YthgccegjopieoaaDoor

/- A ratio argument whose words are known, as a value. -/
namespace Go.Proofs.YthgccegjopieoaaDoor
open Go.RowKit

end Go.Proofs.YthgccegjopieoaaDoor

/- The law ExactTexts at any arguments. Written by gen_rowx.py. -/
namespace Go.Proofs.YthgccegjopieoaaDoor
open Go.RowKit

set_option maxRecDepth 100000 in
set_option maxHeartbeats 1000000 in
theorem exactTexts_long (a1 : Bool) (p1 : Option Addr) (l1 q1 : Nat) (s2 : List UInt8) (w : World)  (h : (64 < l1) ∨ (¬ 64 < l1 ∧ 5000 < s2.length)) :
    Calls Tryd.prog 3 #[.agg #[.bool a1, .slice p1 l1 q1], .string ⟨s2.toArray⟩] w fun e w' => e = .returned (.bool true) ∧ Below w.heap.size w w' := by
  obtain ⟨W0, hW0⟩ : ∃ W0, W0 = (w.alloc (.cells #[.bool a1, .slice p1 l1 q1] 24)) := ⟨_, rfl⟩
  have hB0 : Below w.heap.size w W0 := by rw [hW0]; exact (Below.refl _ _).alloc (Nat.le_refl _) _
  have hz0 : W0.heap.size = w.heap.size + 1 := by rw [hW0]; simp
  have HS : Hid (∀ w', Below W0.heap.size W0 w' → w'.cell? ⟨w.heap.size, 0, none⟩ = some (.bool a1) ∧ w'.cell? ⟨w.heap.size, 1, none⟩ = some (.slice p1 l1 q1)) := hid (fun w' hb => by
    refine ⟨?_, ?_⟩ <;> (rw [hb.cell (by rw [hz0]; simp <;> omega), hW0]; simp [go_sem]))
  have HB0 := hid hB0; have HW := hid hW0
  clear hW0 hB0 hz0 
  rcases h with g1 | ⟨g1, g2⟩
  · have gi1 : (64 : Int) < (l1 : Int) := by omega
    go_enter Tryd.func3, Tryd.ntmps3
    go_upto_region 1 with (fail)
    rw [← HW.out]
    have hY0 := Below.refl W0.heap.size W0
    obtain ⟨k0, k1⟩ := HS.out _ hY0
    go_wp2
    go_ret
    exact ⟨rfl, HB0.out.trans (hY0.mono HB0.out.size)⟩
  · have gi1 : ¬ (64 : Int) < (l1 : Int) := by omega
    have gi2 : (5000 : Int) < (s2.length : Int) := by omega
    go_enter Tryd.func3, Tryd.ntmps3
    go_upto_region 1 with (fail)
    rw [← HW.out]
    have hY0 := Below.refl W0.heap.size W0
    obtain ⟨k0, k1⟩ := HS.out _ hY0
    go_wp2
    go_ret
    exact ⟨rfl, HB0.out.trans (hY0.mono HB0.out.size)⟩

theorem exactTexts_any (nA : Bool) (A : List Int) (s1 : List UInt8) (w : World) (u0 : Value) (hu0 : Lk w u0 nA A) (dA : Dig B32 A) (hT : Tab w) :
    Calls Tryd.prog 3 #[u0, .string ⟨s1.toArray⟩] w fun e w' => e = .returned (.bool true) ∧ Below w.heap.size w w' := by
  obtain ⟨aoA, cA, rfl, rA⟩ := hu0
  by_cases h1 : 64 < A.length
  · exact exactTexts_long _ _ _ _ _ w  (Or.inl (h1))
  by_cases h2 : 5000 < s1.length
  · exact exactTexts_long _ _ _ _ _ w  (Or.inr (⟨h1, h2⟩))
  exact exactTexts_walk _ _ _ _ (sgn nA (val B32 A)) s1 w ⟨_, _, _, _, rfl, rA, dA, by omega, rfl⟩ (by omega) (by omega) hT
end Go.Proofs.YthgccegjopieoaaDoor

/- A world for the rows' witnesses: the listed tables hold what they are said to hold. -/
namespace Go.Proofs.YthgccegjopieoaaDoor

/-- A number of a table as a value; a table's cells. -/
def litVal : Lit → Value | .int k x => .int k x | .bool b => .bool b | _ => undef
def datVal : DataW Unit → Value | .lit l => litVal l | _ => undef
def datCells : DataW Unit → Array Value | .agg l => (l.map datVal).toArray | _ => #[]
def laidAt (W : Array Obj) (b : Nat) (d : DataW Unit) : Array Obj := W.modify b fun
  | .cells _ t frozen => .cells (datCells d) t frozen
  | o => o
noncomputable def laidWorld (os : Os) : World :=
  { World.holding Tryd.prog os ⟨#[], #[], []⟩ with heap := laidAt (laidAt (laidAt (World.holding Tryd.prog os ⟨#[], #[], []⟩).heap 2 Rows.laid_internal_strconv_uint64pow10) 3 Rows.laid_math_bits_deBruijn32tab) 4 Rows.laid_math_bits_deBruijn64tab }
end Go.Proofs.YthgccegjopieoaaDoor
