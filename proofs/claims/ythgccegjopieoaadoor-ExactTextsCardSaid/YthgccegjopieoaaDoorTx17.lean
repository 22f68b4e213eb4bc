/- exact.Parse of any text. The texts of numbers, read again, are these numbers. The document's short division and decimal digits. -/
import Derived.Test.YthgccegjopieoaaDoorTx15
import Derived.Test.YthgccegjopieoaaDoorTx16
import Derived.Test.YthgccegjopieoaaDoorTx05
import Derived.Test.YthgccegjopieoaaDoorTx06
import Derived.Test.YthgccegjopieoaaDoorTx07
import Derived.Test.YthgccegjopieoaaDoorTx09
import Derived.Laws.IdiomStrings
/- exact.Parse of any text. -/
namespace Go.Proofs.YthgccegjopieoaaDoor
open Go.RowKit

/-- What Parse hands back. -/
def RetPZ (l : List UInt8) (K : Nat) (w : World) (e : Ending) (w' : World) : Prop :=
  ∃ b1 o1 m1 c1, e = .returned (.tuple #[.agg #[.bool b1, .slice o1 m1 c1], .int .i64 (prsE l)]) ∧ (prsE l = 0 → FrA w w' (.agg #[.bool b1, .slice o1 m1 c1]) (prsZ l) K) ∧ (prsE l ≠ 0 → b1 = false ∧ m1 = 0) ∧ Below w.heap.size w w'

set_option maxRecDepth 100000 in
set_option maxHeartbeats 1000000 in
theorem Parse_any (l : List UInt8) (hl : l.length ≤ 100000) (w : World) :
    Calls Tryd.prog 4 #[.string ⟨l.toArray⟩] w (RetPZ l (2 * (l.length + 1)) w) := by
  have HF := hid (fun w' => parseInteger_any l hl w')
  obtain ⟨K, hK⟩ : ∃ K, K = l.length + 1 := ⟨_, rfl⟩
  rw [← hK] at HF ⊢
  have HK := hid (show K ≤ 200000 by omega)
  clear hK hl
  go_enter Tryd.func4, Tryd.ntmps4
  obtain ⟨W0, hW0⟩ : ∃ W0, W0 = w.alloc (.cells #[.bool false, .slice none 0 0] 24) := ⟨_, rfl⟩
  have hB0 : Below w.heap.size w W0 := by rw [hW0]; exact (Below.refl _ _).alloc (Nat.le_refl _) _
  have hz0 : W0.heap.size = w.heap.size + 1 := by rw [hW0]; simp
  have HT : Hid (∀ w', Below W0.heap.size W0 w' → (w'.cell? ⟨w.heap.size, 0, none⟩ = some (.bool false) ∧ w'.cell? ⟨w.heap.size, 1, none⟩ = some (.slice none 0 0)) ∧ w'.frozen? ⟨w.heap.size, 0, none⟩ = false ∧ w'.frozen? ⟨w.heap.size, 1, none⟩ = false) := hid (fun w' hb => by
    refine ⟨⟨?_, ?_⟩, ?_, ?_⟩ <;> (first | (rw [hb.cell (by rw [hW0]; simp), hW0]; simp [go_sem]; done) | (rw [hb.frozen (by rw [hW0]; simp), hW0]; simp [go_sem]; done)))
  have HB0 := hid hB0; have HW := hid hW0; have Hz0 := hid hz0
  clear hW0 hB0 hz0
  obtain ⟨E, hE⟩ : ∃ E, E = prsE l := ⟨_, rfl⟩
  have HE := hid hE
  have Hbad := hid (show ∀ (w' : World) (E0 : Int), E = E0 → E0 ≠ 0 → Below W0.heap.size W0 w' → RetPZ l (2 * K) w (.returned (.tuple #[.agg #[.bool false, .slice none 0 0], .int .i64 E0])) ((w'.setCell ⟨w.heap.size, 0, none⟩ (.bool false)).setCell ⟨w.heap.size, 1, none⟩ (.slice none 0 0)) from fun w' E0 e1 e2 hb =>
    ⟨false, none, 0, 0, by rw [← e1, hE], (fun h => absurd (by rw [← e1, hE]; exact h) e2), (fun _ => ⟨rfl, rfl⟩), ((HB0.out.trans (hb.mono HB0.out.size)).setCell (p := ⟨w.heap.size, 0, none⟩) (Nat.le_refl _) _).setCell (p := ⟨w.heap.size, 1, none⟩) (Nat.le_refl _) _⟩)
  by_cases hlong : 4096 < l.length
  · have hlI : 4096 < (l.length : Int) := by omega
    have HE3 := hid (show E = 3 by rw [hE]; unfold prsE; rw [if_pos hlong])
    clear hlong hE
    go_upto_region 1 with (fail)
    rw [← HW.out]
    obtain ⟨⟨k0, k1⟩, f0, f1⟩ := HT.out W0 (Below.refl _ _)
    go_wp2
    refine bodyPost_ret (v := .tuple #[.agg #[.bool false, .slice none 0 0], .int .i64 3]) (by simp [results, Tryd.results4, go_sem, k0, k1]) rfl (Hbad.out _ 3 HE3.out (by decide) (Below.refl _ _))
  · have hlI : ¬ 4096 < (l.length : Int) := by omega
    obtain ⟨b, hb⟩ : ∃ b, b = prsB l := ⟨_, rfl⟩
    have hEb : E = if b then 0 else 5 := by rw [hE, hb]; unfold prsE; rw [if_neg hlong]
    have HEB := hid hEb
    have HF2 := hid (fun w' => show Calls Tryd.prog 10 #[.string ⟨l.toArray⟩] w' (RetPI b (prsZ l) K w') by rw [hb]; exact HF.out w')
    obtain ⟨N, hN⟩ : ∃ N, N = prsZ l := ⟨_, rfl⟩
    rw [← hN] at HF2
    have HN := hid hN
    clear hlong hE hEb hb HF hN
    go_upto_region 1 with (fail)
    rw [← HW.out]
    go_wp2_with fail
    refine (HF2.out _).mono ?_
    rintro e w2 ⟨v2, x, rfl, hf, he, hb2⟩
    obtain ⟨g5, o5, m5, c5, rfl, HF1, _, _⟩ := It.opened hf
    have HX2 := hid hb2; have HEq := hid he; have HFt := hid hf
    clear hb2 he hf
    go_upto_region 4 with (fail)
    obtain ⟨W3, hW3⟩ : ∃ W3, W3 = w2.alloc (.cells #[.bool g5, .slice o5 m5 c5] 41) := ⟨_, rfl⟩
    have HA3 := hid (show Below w2.heap.size w2 W3 by rw [hW3]; exact (Below.refl _ _).alloc (Nat.le_refl _) _)
    have hq0 : W3.cell? ⟨w2.heap.size, 0, none⟩ = some (.bool g5) := by rw [hW3]; simp [go_sem]
    have hq1 : W3.cell? ⟨w2.heap.size, 1, none⟩ = some (.slice o5 m5 c5) := by rw [hW3]; simp [go_sem]
    rw [← hW3]
    have HX3 := hid (show Below W0.heap.size W0 W3 from HX2.out.trans (HA3.out.mono HX2.out.size))
    clear hW3
    cases hbb : b with
    | false =>
      subst hbb
      have HE5 := hid (show E = 5 by rw [HEB.out]; rfl)
      clear HEB
      obtain ⟨⟨k0, k1⟩, f0, f1⟩ := HT.out W3 HX3.out
      go_wp2
      refine bodyPost_ret (v := .tuple #[.agg #[.bool false, .slice none 0 0], .int .i64 5]) (by simp [results, Tryd.results4, go_sem, k0, k1]) rfl (Hbad.out _ 5 HE5.out (by decide) HX3.out)
    | true =>
      subst hbb
      have HE0 := hid (show E = 0 by rw [HEB.out]; rfl)
      clear HEB
      have HXY := hid (show x = N from HEq.out rfl)
      have HV := hid (value_any _ x K W3 (HFt.out.below HA3.out (Nat.le_refl _)) (by have := HK.out; omega))
      go_wp2_with fail
      refine HV.out.mono ?_
      rintro e w4 ⟨v4, rfl, hv4, hb4⟩
      obtain ⟨z1, o7, m7, c7, rfl, H6⟩ := FrA.opened hv4
      have HX4 := hid (show Below W0.heap.size W0 w4 from HX3.out.trans (hb4.mono HX3.out.size))
      have hlt : w.heap.size < W3.heap.size := by have := HX3.out.size; have := Hz0.out; omega
      obtain ⟨⟨k0, k1⟩, f0, f1⟩ := HT.out w4 HX4.out
      have Hlt := hid hlt
      clear hv4 hb4 hlt
      go_wp2
      refine bodyPost_ret (v := .tuple #[.agg #[.bool z1, .slice o7 m7 c7], .int .i64 0]) (by simp [results, Tryd.results4, go_sem, k0, k1]) rfl ⟨z1, o7, m7, c7, by rw [← HE.out, HE0.out], (fun _ => ?_), (fun h => absurd (by rw [← HE.out, HE0.out]) h), ((HB0.out.trans (HX4.out.mono HB0.out.size)).setCell (p := ⟨w.heap.size, 0, none⟩) (Nat.le_refl _) _).setCell (p := ⟨w.heap.size, 1, none⟩) (Nat.le_refl _) _⟩
      have hsz : w.heap.size ≤ W3.heap.size := Nat.le_of_lt Hlt.out
      rw [← HN.out, ← HXY.out]
      exact ((H6.out.set Hlt.out _).set Hlt.out _).base hsz
end Go.Proofs.YthgccegjopieoaaDoor

/- The texts of numbers, read again, are these numbers. -/
namespace Go.Proofs.YthgccegjopieoaaDoor
open Go.RowKit

theorem pre_yes (c : UInt8) (l : List UInt8) : Lib.hasPrefix (c :: l) [c] = true := by simp [Lib.hasPrefix, List.isPrefixOf]
theorem neg_yes (l : List UInt8) : negB (45 :: l) = true ∧ bodyL (45 :: l) = l := by
  refine ⟨pre_yes 45 l, ?_⟩
  unfold bodyL Lib.trimPrefix
  rw [if_pos (pre_yes 45 l)]
  rfl
/-- A sign ahead of digits. -/
def sgL (b : Bool) (l : List UInt8) : List UInt8 := if b then 45 :: l else l
theorem dec_ne (n : Nat) : Lib.decDigits n ≠ [] := by
  intro e
  by_cases hn : n < 10
  · rw [dec_small hn] at e; cases e
  · rw [dec_big hn] at e; simp at e
theorem dec_ok (n : Nat) : (Lib.decDigits n).all isD = true ∧ digB (Lib.decDigits n) = true ∧ leadB (Lib.decDigits n) = true ∧ dv (Lib.decDigits n) = n := by
  obtain ⟨h1, h2⟩ := dec_digits n n (Nat.le_refl _)
  refine ⟨h1, ?_, ?_, h2⟩
  · unfold digB
    rw [h1, decide_eq_true (dec_ne n)]; rfl
  · by_cases h0 : n = 0
    · subst h0; rw [dec_small (by decide)]; rfl
    · obtain ⟨c, l, e, hc⟩ := dec_head n n (Nat.le_refl _) (by omega)
      unfold leadB
      rw [e]
      have : Lib.hasPrefix (c :: l) [48] = false := by simp [Lib.hasPrefix, List.isPrefixOf, Ne.symm hc]
      rw [this]
      simp

/-- The text of an integer, as a list. -/
def txL (z : Int) : List UInt8 := sgL (decide (z < 0)) (Lib.decDigits z.natAbs)
theorem tx_eq (z : Int) : tx z = ⟨(txL z).toArray⟩ := by
  unfold tx txL sgL
  by_cases h : z < 0
  · rw [if_pos h, decide_eq_true h]
    apply ByteArray.ext
    simp [ByteArray.data_append]
  · rw [if_neg h, decide_eq_false h]
    rfl
theorem txL_len {z : Int} {m : Nat} (h : z.natAbs < 10 ^ m) : (txL z).length ≤ m + 2 := by
  have := decs_len _ _ h
  unfold txL sgL
  split
  · rw [List.length_cons]; omega
  · omega
theorem sgn_nat (b : Bool) (n : Nat) : (sgn b (n : Int)).natAbs = n := by unfold sgn; cases b <;> simp
end Go.Proofs.YthgccegjopieoaaDoor

/- The document's short division and decimal digits. -/
namespace Go.Proofs.YthgccegjopieoaaDoor
open Go.RowKit

def RetSh (w : World) (n m : Int) (K : Nat) (e : Ending) (w' : World) : Prop := ∃ v, e = .returned (.tuple #[v, .int .i64 m]) ∧ Md w' v n K ∧ Below w.heap.size w w'
set_option maxRecDepth 100000 in
set_option maxHeartbeats 2000000 in
theorem rshort_any (va : Value) (a : Int) (K : Nat) (w : World) (hA : Md w va a K) (hK : K ≤ 1073741824) :
    Calls Tryd.prog 30 #[va, .int .i64 10] w (RetSh w (a / 10) (a % 10) K) := by
  obtain ⟨ao, ca, LA, rfl, hA⟩ := hA
  obtain ⟨n, hn⟩ : ∃ n, n = LA.length := ⟨_, rfl⟩
  have hn30 : n ≤ 1073741824 := by have := hA.le; omega
  rw [← hn]
  have HA := hid hA; have Hn := hid hn
  clear hA hn
  obtain ⟨i0, hi, hz0, hz1, hz2⟩ := info_parts Tryd.info3
  go_enter Tryd.func30, Tryd.ntmps30
  go_wp2_with (at_make; refine wpList_make_row w rfl _ _ 28 rfl 3 i0 .i64 Tryd.underlying28 hi hz0 hz1 .i64 .i64 _ _ n rfl rfl rfl rfl (by rw [hz2]; omega) (by unfold maxLen; omega) ?_)
  intro w1 hrow hg1
  have hb1 := grown_below hg1
  have H0 : DivR w w1 w.heap.size LA 10 n [] 0 := ⟨by simpa using hrow, grown_any hg1, by simpa using Hn.out, Dig.nil _, Int.le_refl 0, by decide, by rw [List.drop_of_length_le (by have := Hn.out; omega)]; simp [val]⟩
  have HG1 := hid (HA.out.rd.ne (Nat.le_refl w.heap.size))
  clear hrow hg1
  go_wp2
  go_loopw [7, 8] (fun rv iv wr => ∃ j : Nat, ∃ QT r, j ≤ n ∧ iv = .int .i64 ((j : Int) - 1) ∧ rv = .int .i64 r ∧ DivR w wr w.heap.size LA 10 j QT r ∧ Below w.heap.size w wr) (fun _ iv _ => (intOf iv + 1).toNat)
  case atStart => exact ⟨n, [], 0, Nat.le_refl _, rfl, rfl, H0, hb1⟩
  case round =>
    obtain ⟨j, QT, r, hj, rfl, rfl, H, hb⟩ := hrel
    cases j with
    | zero =>
      have hr : Row .i64 3 wr w.heap.size QT := by have := H.row; simpa using this
      have hl : QT.length = n := by have := H.len; have := Hn.out; omega
      have he := H.eq
      rw [List.drop_zero, HA.out.eq] at he
      have hq : val R16 QT = a / 10 := by have := H.r0; have := H.r1; omega
      have hm : r = a % 10 := by have := H.r0; have := H.r1; omega
      have ht := cut_any (some ⟨w.heap.size, 0, none⟩) n QT wr (rowi_rd hr (by omega) (by omega))
      have hres := md_row (c := n) (K := K) hr H.dig hq (by omega) (by omega) (by have := HA.out.le; have := Hn.out; omega)
      rw [hl] at ht
      have HT := hid ht; have Hres := hid hres; have HM := hid hm
      clear ht hres hr hl he hq hm H H0 hb1
      go_wp2_with (go_at_call 31; refine HT.out.mono ?_; rintro e w2 ⟨rfl, rfl⟩)
      go_ret2
      exact ⟨_, by rw [HM.out]; rfl, Hres.out, hb⟩
    | succ j =>
      have hjn : j < n := by omega
      obtain ⟨b, o, rfl⟩ := HA.out.rd.adr (by have := Hn.out; omega)
      have hc := (HA.out.rd.keptNew H.gr HG1.out).cell b o rfl j (by have := Hn.out; omega)
      have hd := HA.out.dig.at R16_pos j
      obtain ⟨y, hy⟩ : ∃ y, y = LA[j]?.getD 0 := ⟨_, rfl⟩
      rw [← hy] at hc hd
      obtain ⟨hS, hn0, hq1⟩ := H.step (by decide) y hy hd.1 hd.2
      have hq := H.row.cell j (by have := H.len; simp; omega)
      have hf := H.row.frozen j
      obtain ⟨u, hu⟩ : ∃ u, u = ((List.replicate (j + 1) 0 ++ QT)[j]?.getD 0 : Int) := ⟨_, rfl⟩
      rw [← hu] at hq
      have hr0 := H.r0; have hr1 := H.r1
      have hy0 := hd.1; have hy1 : y < 65536 := hd.2
      have hk0 : (0 : Int) ≤ (j : Int) := by omega
      have HS := hid hS
      clear hS H H0 hb1 hd hy hu
      go_wp2
      go_roundw
      case rel => exact ⟨j, _, _, by omega, by go_num, rfl, HS.out, hb.setCell (Nat.le_refl _) _⟩
      case measure => simp [intOf]

/-- The digits ahead: none of 0. -/
def decZ0 (y : Nat) : List UInt8 := if y = 0 then [] else Lib.decDigits y
theorem decZ0_step {y : Nat} (h : y ≠ 0) : decZ0 y = decZ0 (y / 10) ++ [UInt8.ofNat (48 + y % 10)] := by
  unfold decZ0
  rw [if_neg h]
  by_cases hy : y < 10
  · rw [if_pos (by omega), dec_small hy, show y % 10 = y by omega]; rfl
  · rw [if_neg (by omega), dec_big hy]
theorem Md.lenz {w : World} {ao : Option Addr} {m c : Nat} {n : Int} {K : Nat} (h : Md w (.slice ao m c) n K) : m = 0 ↔ n = 0 := by
  obtain ⟨ao', c', L, e, h⟩ := h
  cases e
  constructor
  · intro hl
    have : L = [] := List.eq_nil_of_length_eq_zero hl
    subst this
    have := h.eq
    simpa [val] using this.symm
  · intro hn
    by_cases hl : L.length = 0
    · exact hl
    · have h1 := Nrm.low R16_pos h.dig h.nrm (by omega)
      have h2 : 0 < R16 ^ (L.length - 1) := Int.pow_pos R16_pos
      rw [h.eq, hn] at h1
      omega

set_option maxRecDepth 100000 in
set_option maxHeartbeats 2000000 in
theorem rdecimals_any (va : Value) (y K : Nat) (w : World) (hA : Md w va (y : Int) K) (hK : K ≤ 100000) (hy : (Lib.decDigits y).length ≤ 1000000) :
    Calls Tryd.prog 16 #[va] w fun e w' => e = .returned (.string ⟨(Lib.decDigits y).toArray⟩) ∧ Below w.heap.size w w' := by
  obtain ⟨ao, m, c, rfl, _⟩ := Md.opened hA
  have HA := hid hA; have Hy := hid hy
  clear hA hy
  go_enter Tryd.func16, Tryd.ntmps16
  go_wp2_with fail
  go_loopw [0, 3] (fun av sv wr => ∃ (q : Nat) (s : List UInt8), Md wr av (q : Int) K ∧ sv = .string ⟨s.toArray⟩ ∧ decZ0 y = decZ0 q ++ s ∧ Below w.heap.size w wr) (fun av _ wr => mdOf wr av)
  case atStart => exact ⟨y, [], HA.out, rfl, by simp, Below.refl _ _⟩
  case round =>
    obtain ⟨q, s, hq, rfl, he, hb⟩ := hrel
    obtain ⟨ao', m', c', rfl, _⟩ := Md.opened hq
    have hz := Md.lenz hq
    by_cases hq0 : q = 0
    · subst hq0
      obtain rfl : m' = 0 := hz.2 rfl
      have hes : decZ0 y = s := by simpa [decZ0] using he
      by_cases hs : s = []
      · subst hs
        have hy0 : y = 0 := by
          by_cases h : y = 0
          · exact h
          · unfold decZ0 at hes
            rw [if_neg h] at hes
            exact absurd hes (dec_ne y)
        subst hy0
        have HB := hid hb
        clear hb he hes hq hz HA Hy
        go_wp2
        go_ret
        exact ⟨by rw [dec_small (by decide)]; rfl, HB.out⟩
      · have hse : s.isEmpty = false := by cases s with | nil => exact absurd rfl hs | cons _ _ => rfl
        have hy0 : s = Lib.decDigits y := by
          unfold decZ0 at hes
          split at hes
          · exact absurd hes.symm hs
          · exact hes.symm
        have HB := hid hb; have HS := hid hy0
        clear hb he hes hq hz HA Hy hy0 hs
        go_wp2
        go_ret
        exact ⟨by rw [HS.out]; rfl, HB.out⟩
    · have hm0 : m' ≠ 0 := fun h => hq0 (by have := hz.1 h; omega)
      have hmI : (0 : Int) < (m' : Int) := by omega
      have hl : s.length ≤ 1000000 := by
        have h1 := congrArg List.length he
        rw [List.length_append] at h1
        have h2 : (decZ0 y).length ≤ 1000000 := by
          unfold decZ0
          split
          · simp
          · exact Hy.out
        omega
      obtain ⟨dg, hdg⟩ : ∃ d : Int, d = (q : Int) % 10 := ⟨_, rfl⟩
      have HSh := hid (rshort_any _ (q : Int) K wr hq (by omega))
      rw [← hdg] at HSh
      have d0 : 0 ≤ dg := by omega
      have d1 : dg < 10 := by omega
      have w1 : IntKind.u8.wrap (48 + dg) = 48 + dg := by rw [IntKind.wrap_u8]; omega
      obtain ⟨ch, hch⟩ : ∃ c : UInt8, c = UInt8.ofNat (48 + q % 10) := ⟨_, rfl⟩
      have hcn : 48 + dg = ((ch.toNat : Nat) : Int) := by
        rw [hch, dig_nat (Nat.mod_lt _ (by decide)), hdg]; omega
      have hcv : ∀ W : World, (convert 68 9 (.slice (some ⟨W.heap.size, 0, none⟩) 1 1)).run Tryd.prog (W.alloc (.cells #[.int .u8 (48 + dg)] 5)) = .ok (.string ⟨#[ch]⟩) (W.alloc (.cells #[.int .u8 (48 + dg)] 5)) := fun W => by
        have h := run_convert_bytes_back (P := Tryd.prog) (W.alloc (.cells #[.int .u8 (48 + dg)] 5)) 68 9 5 ⟨W.heap.size, 0, none⟩ 1 [ch] Tryd.underlying68 Tryd.underlying5 Tryd.underlying9 (fun j hj => by
          obtain rfl : j = 0 := by simpa using hj
          exact (World.cell?_alloc_mark W #[.int .u8 (48 + dg)] 5 (0, 0) 0).trans (by rw [hcn]; rfl))
        simpa using h
      have hlen2 : ¬ 9223372036854775807 < 1 + s.length := by omega
      have HB := hid hb; have HE := hid he; have HDG := hid hdg; have Hq := hid hq; have HCH := hid hch
      clear hb he hq hz HA Hy hdg hm0 hch hcn
      go_wp2_with (go_at_call 30; refine HSh.out.mono ?_; rintro e w2 ⟨v2, rfl, hv2, hb2⟩; obtain ⟨ao2, m2, c2, rfl, _⟩ := Md.opened hv2)
      go_roundw
      case rel =>
        refine ⟨q / 10, ch :: s, ?_, ?_, ?_, (HB.out.trans (hb2.mono HB.out.size)).alloc (Nat.le_trans HB.out.size hb2.size) _⟩
        · have h := hv2.below (bl_new (w := w2) (.cells #[.int .u8 (48 + dg)] 5)) (Nat.le_refl _)
          rw [show ((q / 10 : Nat) : Int) = (q : Int) / 10 by omega]
          exact h
        · refine congrArg Value.string ?_
          apply ByteArray.ext
          simp [ByteArray.data_append]
        · rw [HE.out, decZ0_step hq0, HCH.out]; simp
      case measure =>
        rw [mdOf_eq (hv2.below (bl_new (w := w2) (.cells #[.int .u8 (48 + dg)] 5)) (Nat.le_refl _)), mdOf_eq Hq.out]
        omega
end Go.Proofs.YthgccegjopieoaaDoor
