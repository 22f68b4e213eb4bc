/- The document's find, fraction, ParseRatio. Written by gen_rpr.py. -/
import Derived.Test.YtbapeilpkhbbeaaGreatDoorYn37
import Derived.Test.YtbapeilpkhbbeaaGreatDoorYn46
import Derived.Test.YtbapeilpkhbbeaaGreatDoorYn33
/- The document's find, fraction, ParseRatio. Written by gen_rpr.py. -/
namespace Go.Proofs.YtbapeilpkhbbeaaGreatDoor
open Go.RowKit

set_option maxHeartbeats 1000000 in
theorem rfind_any (c : UInt8) (l : List UInt8) (i0 : Int) (w : World) (hl : l.length ≤ 10000) (hi : fiI c l = i0) :
    Calls Tryz.prog 34 #[.string ⟨l.toArray⟩, .int .u8 (c.toNat : Int)] w fun e w' => e = .returned (.int .i64 i0) ∧ w' = w := by
  have HL := hid hl; have HI := hid hi
  clear hl hi
  go_enter Tryz.func34, Tryz.ntmps34
  go_wp2
  go_loop [5] (fun iv => ∃ i : Nat, iv = .int .i64 (i : Int) ∧ i ≤ l.length ∧ c ∉ l.take i) (fun iv => l.length - (intOf iv).toNat)
  case atStart => exact ⟨0, rfl, Nat.zero_le _, by simp⟩
  case round =>
    obtain ⟨i, rfl, hi, hn⟩ := hrel
    have HN := hid hn
    clear hn
    by_cases hin : i < l.length
    · have hjI : (i : Int) < (l.length : Int) := by omega
      have hj0 : (0 : Int) ≤ (i : Int) := by omega
      have hj9 : (i : Int) ≤ 10000 := by have := HL.out; omega
      obtain ⟨x, hx⟩ : ∃ x, x = l[i] := ⟨_, rfl⟩
      have hch : (⟨l.toArray⟩ : ByteArray)[i] = x := by rw [hx]; rfl
      have htk : l.take (i + 1) = l.take i ++ [x] := by rw [hx]; exact (List.take_append_getElem hin).symm
      have HTk := hid htk; have HX := hid hx
      clear htk hx
      by_cases hxc : x = c
      · have he : ((x.toNat : Nat) : Int) = ((c.toNat : Nat) : Int) := by rw [hxc]
        have Hf := hid (show i0 = (i : Int) by
          have hm : c ∈ l := by rw [← hxc, HX.out]; exact List.getElem_mem hin
          obtain ⟨a1, a2, _⟩ := cut_parts hm
          rw [← HI.out, show fiI c l = ((cutA c l).length : Int) from if_pos hm]
          obtain ⟨A, hA⟩ : ∃ A, A = cutA c l := ⟨_, rfl⟩
          obtain ⟨Z, hZ⟩ : ∃ Z, Z = cutZ c l := ⟨_, rfl⟩
          rw [← hA, ← hZ] at a1
          rw [← hA] at a2 ⊢
          have h1 : ¬ A.length < i := fun h => HN.out (by
            rw [a1, List.take_append]
            have : 0 < i - A.length := by omega
            obtain ⟨m, hm⟩ : ∃ m, i - A.length = m + 1 := ⟨i - A.length - 1, by omega⟩
            rw [hm, List.take_succ_cons]
            simp)
          have h2 : ¬ i < A.length := fun h => a2 (by
            have e : l[i]? = some c := by rw [← hxc, HX.out]; exact List.getElem?_eq_getElem hin
            rw [a1, List.getElem?_append_left h] at e
            exact List.mem_of_getElem? e)
          omega)
        clear hxc
        go_wp2
        go_ret
        rw [Hf.out]
        exact ⟨rfl, rfl⟩
      · have he : ¬ ((x.toNat : Nat) : Int) = ((c.toNat : Nat) : Int) := fun h => hxc (UInt8.toNat_inj.1 (by omega))
        have Hx2 := hid hxc
        clear hxc
        go_wp2
        go_round
        case rel => exact ⟨i + 1, by go_num, by omega, by rw [HTk.out]; simp [HN.out, Ne.symm Hx2.out]⟩
        case measure => simp [intOf]; omega
    · obtain rfl : i = l.length := by omega
      have Hf := hid (show i0 = -1 by rw [← HI.out]; exact if_neg (by have := HN.out; rwa [List.take_length] at this))
      go_wp2
      go_ret
      rw [Hf.out]
      exact ⟨rfl, rfl⟩

/-- What the document's fraction hands back. -/
theorem fr_wraps {S A B : Nat} (h : S = A + 1 + B) (h2 : A + B ≤ 4096) : wrap64 ((A : Int) + 1) = (A : Int) + 1 ∧ wrap64 ((A : Int) + 1 + (B : Int) - (A : Int)) = 1 + (B : Int) ∧ wrap64 (1 + (B : Int) - 1) = (B : Int) ∧ (S : Int) = (A : Int) + 1 + (B : Int) ∧ (0 : Int) ≤ (A : Int) ∧ (A : Int) ≤ (S : Int) ∧ (A : Int) + 1 ≤ (S : Int) := by
  unfold wrap64
  omega
set_option maxRecDepth 100000 in
set_option maxHeartbeats 4000000 in
theorem rfraction_bad (a b : List UInt8) (hl : a.length + b.length ≤ 4096) (hB : frcB a b = false) (w : World) :
    Calls Tryz.prog 36 #[.string ⟨(a ++ 46 :: b).toArray⟩, .int .i64 (a.length : Int)] w (fun e w' => e = .returned (.tuple #[.agg #[.bool false, .slice none 0 0, .bool false, .slice none 0 0], .int .i64 5]) ∧ Below w.heap.size w w') := by
  obtain ⟨l, hlE⟩ : ∃ l, l = a ++ 46 :: b := ⟨_, rfl⟩
  rw [← hlE]
  have hll : l.length = a.length + 1 + b.length := by rw [hlE]; simp; omega
  have hx1 : (⟨l.toArray⟩ : ByteArray).extract 0 a.length = ⟨a.toArray⟩ := by rw [ba_take, hlE]; simp
  have hx2 : (⟨l.toArray⟩ : ByteArray).extract (a.length + 1) l.length = ⟨b.toArray⟩ := by
    have h := ba_drop l (a.length + 1)
    rw [show l.drop (a.length + 1) = b by rw [hlE, List.drop_append]; simp] at h
    exact h
  obtain ⟨t, ht⟩ : ∃ t, t = bodyL a := ⟨_, rfl⟩
  obtain ⟨ng, hng⟩ : ∃ x, x = negB a := ⟨_, rfl⟩
  obtain ⟨p, hp⟩ : ∃ p, p = prsB t := ⟨_, rfl⟩
  obtain ⟨z, hz⟩ : ∃ z, z = prsZ t := ⟨_, rfl⟩
  obtain ⟨E, hE⟩ : ∃ E : Int, E = if p then 0 else 5 := ⟨_, rfl⟩
  obtain ⟨dg, hdg⟩ : ∃ x, x = digB b := ⟨_, rfl⟩
  obtain ⟨A, hA⟩ : ∃ A, A = a.length := ⟨_, rfl⟩
  obtain ⟨Bn, hBn⟩ : ∃ B, B = b.length := ⟨_, rfl⟩
  have htl : t.length ≤ 4096 := by rw [ht]; have := bodyL_len a; omega
  have HM := hid (fun w' => show Calls Tryz.prog 75 #[.string ⟨a.toArray⟩] w' (fun e w2 => e = .returned (.tuple #[.string ⟨t.toArray⟩, .bool ng]) ∧ w2 = w') by rw [ht, hng]; exact rminus_any a w')
  have HPa := hid (fun w' => show Calls Tryz.prog 35 #[.string ⟨t.toArray⟩] w' (fun e w2 => ∃ b o m c, e = .returned (.tuple #[.agg #[.bool b, .slice o m c], .int .i64 E]) ∧ Hid (p = true → Zt w2 (.agg #[.bool b, .slice o m c]) z 30000) ∧ Below w'.heap.size w' w2) from (rParse_any t (by omega) w').mono (by
    rintro e w2 ⟨b, o, m, c, rfl, h1, h2⟩
    refine ⟨b, o, m, c, by rw [bytes_short htl, ← hp, hE], hid (fun hpt => ?_), h2⟩
    rw [hz]
    exact (h1 (by rw [bytes_short htl, ← hp, hpt]; rfl)).mono (by omega)))
  have HDi := hid (fun w' => show Calls Tryz.prog 76 #[.string ⟨b.toArray⟩] w' (fun e w2 => ∃ b' o m c, e = .returned (.tuple #[.agg #[.bool b', .slice o m c], .bool dg]) ∧ Hid (dg = true → Zt w2 (.agg #[.bool b', .slice o m c]) ((dv b : Nat) : Int) 30000) ∧ Below w'.heap.size w' w2) from (rdigits_any b (by omega) w').mono (by
    rintro e w2 ⟨v, y, rfl, h1, h2, h3⟩
    obtain ⟨b', o, m, c, rfl, _⟩ := Zt.opened h1
    refine ⟨b', o, m, c, by rw [hdg], hid (fun hd => ?_), h3⟩
    rw [← h2 (by rw [← hdg]; exact hd)]
    exact h1.mono (by omega)))
  have HB0 := hid hB
  unfold frcB at hB
  rw [← ht, ← hp, ← hz, ← hdg, ← hBn] at hB
  rw [← hA, ← hBn] at hll
  rw [← hA] at hx1 hx2
  rw [← hA]
  obtain ⟨S, hS⟩ : ∃ S : ByteArray, S = ⟨l.toArray⟩ := ⟨_, rfl⟩
  have hSs : S.size = A + 1 + Bn := by rw [hS]; exact hll
  rw [← hS] at hx1 hx2 ⊢
  rw [show l.length = S.size by rw [hSs, hll]] at hx2
  have hAB : A + Bn ≤ 4096 := by rw [hA, hBn]; exact hl
  obtain ⟨hw1, hw2, hw3, hSI, hA0, hA1, hA2⟩ := fr_wraps hSs hAB
  have hBl := hid hAB
  clear hAB
  obtain ⟨W0, hW0⟩ : ∃ W0, W0 = (w.alloc (.cells #[.bool false, .slice none 0 0, .bool false, .slice none 0 0] 33)) := ⟨_, rfl⟩
  have hB0 : Below w.heap.size w W0 := by rw [hW0]; exact (Below.refl _ _).alloc (Nat.le_refl _) _
  have hz0 : W0.heap.size = w.heap.size + 1 := by rw [hW0]; simp
  have HN0 := hid (show w.heap.size < W0.heap.size by rw [hz0]; omega)
  have HS0 : Hid (∀ w', Kp W0.heap.size (w.heap.size) W0 w' → True) := hid (fun _ _ => trivial)
  have HT : Hid (∀ w', Below W0.heap.size W0 w' → (w'.cell? ⟨w.heap.size, 0, none⟩ = some (.bool false) ∧ w'.cell? ⟨w.heap.size, 1, none⟩ = some (.slice none 0 0) ∧ w'.cell? ⟨w.heap.size, 2, none⟩ = some (.bool false) ∧ w'.cell? ⟨w.heap.size, 3, none⟩ = some (.slice none 0 0)) ∧ (w'.frozen? ⟨w.heap.size, 0, none⟩ = false ∧ w'.frozen? ⟨w.heap.size, 1, none⟩ = false ∧ w'.frozen? ⟨w.heap.size, 2, none⟩ = false ∧ w'.frozen? ⟨w.heap.size, 3, none⟩ = false)) := hid (fun w' hb => by
    refine ⟨⟨?_, ?_, ?_, ?_⟩, ?_, ?_, ?_, ?_⟩ <;> (first | (rw [hb.cell (by rw [hz0]; simp), hW0]; simp [go_sem]; done) | (rw [hb.frozen (by rw [hz0]; simp), hW0]; simp [go_sem]; done)))
  have HE := hid hE; have HZz := hid hz; have HDg := hid hdg; have HNg := hid hng; have HTt := hid ht; have HBn := hid hBn; have HPp := hid hp
  have hbq0 : ∀ w : World, (Instr.build 33 #[]).run Tryz.prog w = .ok (.agg #[.bool false, .slice none 0 0, .bool false, .slice none 0 0]) w := fun w => by kernel_rfl
  have HB0 := hid hB0; have HW0 := hid hW0
  clear hW0 hB0 hz0 hE hz hdg hng ht hp hA hBn htl hll hlE hl hS hSs
  go_enter Tryz.func36, Tryz.ntmps36
  go_upto_region 1 with (fail)
  rw [← HW0.out]
  go_wp2_with fail
  refine (HM.out _).mono ?_
  rintro e w1 ⟨rfl, hw⟩
  obtain rfl : W0 = w1 := hw.symm
  go_upto_region 2 with (fail)
  go_wp2_with fail
  refine (HPa.out _).mono ?_
  rintro e wq2 ⟨bn, on, mn, cn, rfl, Hn, hbq⟩
  have hXq : Below W0.heap.size W0 wq2 := hbq
  obtain ⟨W1, hW1⟩ : ∃ W, W = wq2.alloc (.cells #[.bool bn, .slice on mn cn] 31) := ⟨_, rfl⟩
  have hal1 : Below wq2.heap.size wq2 W1 := by rw [hW1]; exact bl_new _
  have hXn1 : Below W0.heap.size W0 W1 := bl_tr hXq hal1
  have hsz1 : w.heap.size < wq2.heap.size := Nat.lt_of_lt_of_le HN0.out hXq.size
  have HS1 : Hid (∀ w', Kp W1.heap.size (w.heap.size) W1 w' → w'.cell? ⟨wq2.heap.size, 0, none⟩ = some (.bool bn) ∧ w'.cell? ⟨wq2.heap.size, 1, none⟩ = some (.slice on mn cn)) := hid (fun w' hb => by
    refine ⟨?_, ?_⟩ <;> (rw [hb.cell _ (by rw [hW1]; simp) (by simp <;> omega), hW1]; simp [go_sem]))
  replace HT := hid (fun w' hb => HT.out w' (bl_tr hXn1 hb))
  have V8 : Hid (∀ w', Below W1.heap.size W1 w' → (p = true → Zt w' (.agg #[.bool bn, .slice on mn cn]) z 30000)) := hid (fun w' hb => fun hp => (Hn.out hp).below (bl_tr hal1 hb) (Nat.le_refl _))
  have HN1 := hid (show w.heap.size < W1.heap.size from Nat.lt_of_lt_of_le HN0.out hXn1.size)
  have HB1 := hid (HB0.out.trans (hXn1.mono HB0.out.size)); have HW1 := hid hW1
  clear hW1 hal1 hXn1 hsz1 HS0 HB0 HW0 HN0 hXq
  clear hbq Hn HM HPa
  go_upto_region 4 with (fail)
  rw [← HW1.out]
  obtain ⟨k0, k1⟩ := HS1.out _ (Kp.of_below (Below.refl _ _))
  go_wp2_with fail
  refine (HDi.out _).mono ?_
  rintro e wq4 ⟨bk, ok, mk, ck, rfl, Hk, hbq⟩
  have hXq : Below W1.heap.size W1 wq4 := hbq
  clear k0 k1
  obtain ⟨W2, hW2⟩ : ∃ W, W = wq4.alloc (.cells #[.bool bk, .slice ok mk ck] 31) := ⟨_, rfl⟩
  have hal2 : Below wq4.heap.size wq4 W2 := by rw [hW2]; exact bl_new _
  have hXn2 : Below W1.heap.size W1 W2 := bl_tr hXq hal2
  have hsz2 : w.heap.size < wq4.heap.size := Nat.lt_of_lt_of_le HN1.out hXq.size
  have HS2 : Hid (∀ w', Kp W2.heap.size (w.heap.size) W2 w' → (w'.cell? ⟨wq2.heap.size, 0, none⟩ = some (.bool bn) ∧ w'.cell? ⟨wq2.heap.size, 1, none⟩ = some (.slice on mn cn)) ∧ w'.cell? ⟨wq4.heap.size, 0, none⟩ = some (.bool bk) ∧ w'.cell? ⟨wq4.heap.size, 1, none⟩ = some (.slice ok mk ck)) := hid (fun w' hb => by
    refine ⟨HS1.out _ (hb.trans_below hXn2), ?_, ?_⟩ <;> (rw [hb.cell _ (by rw [hW2]; simp) (by simp <;> omega), hW2]; simp [go_sem]))
  replace HT := hid (fun w' hb => HT.out w' (bl_tr hXn2 hb))
  replace V8 := hid (fun w' hb => V8.out w' (bl_tr hXn2 hb))
  have V11 : Hid (∀ w', Below W2.heap.size W2 w' → (dg = true → Zt w' (.agg #[.bool bk, .slice ok mk ck]) ((dv b : Nat) : Int) 30000)) := hid (fun w' hb => fun hp => (Hk.out hp).below (bl_tr hal2 hb) (Nat.le_refl _))
  have HN2 := hid (show w.heap.size < W2.heap.size from Nat.lt_of_lt_of_le HN1.out hXn2.size)
  have HB2 := hid (HB1.out.trans (hXn2.mono HB1.out.size)); have HW2 := hid hW2
  clear hW2 hal2 hXn2 hsz2 HS1 HB1 HW1 HN1 hXq
  clear hbq Hk HDi
  go_upto_region 5 with (fail)
  rw [← HW2.out]
  cases p with
  | false =>
    have he : E = 5 := HE.out
    subst he
    obtain ⟨⟨k0, k1⟩, k2, k3⟩ := HS2.out _ (Kp.of_below (Below.refl _ _))
    obtain ⟨⟨hr0, hr1, hr2, hr3⟩, hf0, hf1, hf2, hf3⟩ := HT.out _ (Below.refl _ _)
    have hY := Below.refl W2.heap.size W2
    have hn0 := HN2.out
    have hbel : Below w.heap.size w W2 := HB2.out.trans (hY.mono HB2.out.size)
    go_wp2
    refine bodyPost_ret (v := .tuple #[.agg #[.bool false, .slice none 0 0, .bool false, .slice none 0 0], .int .i64 5]) (by simp [results, Tryz.results36, go_sem, hr0, hr1, hr2, hr3]) rfl ⟨rfl, ((((hbel.setCell (by simp <;> omega) _).setCell (by simp <;> omega) _).setCell (by simp <;> omega) _).setCell (by simp <;> omega) _)⟩
  | true =>
    have he : E = 0 := HE.out
    subst he
    have hbn : bn = decide (z < 0) := by have h := V8.out _ (Below.refl _ _) rfl; obtain ⟨s, e, _⟩ := h; cases e; rfl
    by_cases hz0 : z < 0
    · rw [decide_eq_true hz0] at hbn
      subst hbn
      obtain ⟨⟨k0, k1⟩, k2, k3⟩ := HS2.out _ (Kp.of_below (Below.refl _ _))
      obtain ⟨⟨hr0, hr1, hr2, hr3⟩, hf0, hf1, hf2, hf3⟩ := HT.out _ (Below.refl _ _)
      have hY := Below.refl W2.heap.size W2
      have hn0 := HN2.out
      have hbel : Below w.heap.size w W2 := HB2.out.trans (hY.mono HB2.out.size)
      go_wp2
      refine bodyPost_ret (v := .tuple #[.agg #[.bool false, .slice none 0 0, .bool false, .slice none 0 0], .int .i64 5]) (by simp [results, Tryz.results36, go_sem, hr0, hr1, hr2, hr3]) rfl ⟨rfl, ((((hbel.setCell (by simp <;> omega) _).setCell (by simp <;> omega) _).setCell (by simp <;> omega) _).setCell (by simp <;> omega) _)⟩
    · rw [decide_eq_false hz0] at hbn
      subst hbn
      rw [decide_eq_false hz0] at hB
      cases dg with
      | false =>
        skip
        obtain ⟨⟨k0, k1⟩, k2, k3⟩ := HS2.out _ (Kp.of_below (Below.refl _ _))
        obtain ⟨⟨hr0, hr1, hr2, hr3⟩, hf0, hf1, hf2, hf3⟩ := HT.out _ (Below.refl _ _)
        have hY := Below.refl W2.heap.size W2
        have hn0 := HN2.out
        have hbel : Below w.heap.size w W2 := HB2.out.trans (hY.mono HB2.out.size)
        go_wp2
        refine bodyPost_ret (v := .tuple #[.agg #[.bool false, .slice none 0 0, .bool false, .slice none 0 0], .int .i64 5]) (by simp [results, Tryz.results36, go_sem, hr0, hr1, hr2, hr3]) rfl ⟨rfl, ((((hbel.setCell (by simp <;> omega) _).setCell (by simp <;> omega) _).setCell (by simp <;> omega) _).setCell (by simp <;> omega) _)⟩
      | true =>
        have hBI : 100 < (Bn : Int) := by simp at hB; omega
        obtain ⟨⟨k0, k1⟩, k2, k3⟩ := HS2.out _ (Kp.of_below (Below.refl _ _))
        obtain ⟨⟨hr0, hr1, hr2, hr3⟩, hf0, hf1, hf2, hf3⟩ := HT.out _ (Below.refl _ _)
        have hY := Below.refl W2.heap.size W2
        have hn0 := HN2.out
        have hbel : Below w.heap.size w W2 := HB2.out.trans (hY.mono HB2.out.size)
        go_wp2
        refine bodyPost_ret (v := .tuple #[.agg #[.bool false, .slice none 0 0, .bool false, .slice none 0 0], .int .i64 5]) (by simp [results, Tryz.results36, go_sem, hr0, hr1, hr2, hr3]) rfl ⟨rfl, ((((hbel.setCell (by simp <;> omega) _).setCell (by simp <;> omega) _).setCell (by simp <;> omega) _).setCell (by simp <;> omega) _)⟩

set_option maxRecDepth 100000 in
set_option maxHeartbeats 4000000 in
theorem rfraction_good (a b : List UInt8) (hl : a.length + b.length ≤ 4096) (hB : frcB a b = true) (w : World) :
    Calls Tryz.prog 36 #[.string ⟨(a ++ 46 :: b).toArray⟩, .int .i64 (a.length : Int)] w (RetQvE w 0 (decZ a b) (10 ^ b.length)) := by
  obtain ⟨l, hlE⟩ : ∃ l, l = a ++ 46 :: b := ⟨_, rfl⟩
  rw [← hlE]
  have hll : l.length = a.length + 1 + b.length := by rw [hlE]; simp; omega
  have hx1 : (⟨l.toArray⟩ : ByteArray).extract 0 a.length = ⟨a.toArray⟩ := by rw [ba_take, hlE]; simp
  have hx2 : (⟨l.toArray⟩ : ByteArray).extract (a.length + 1) l.length = ⟨b.toArray⟩ := by
    have h := ba_drop l (a.length + 1)
    rw [show l.drop (a.length + 1) = b by rw [hlE, List.drop_append]; simp] at h
    exact h
  obtain ⟨t, ht⟩ : ∃ t, t = bodyL a := ⟨_, rfl⟩
  obtain ⟨ng, hng⟩ : ∃ x, x = negB a := ⟨_, rfl⟩
  obtain ⟨p, hp⟩ : ∃ p, p = prsB t := ⟨_, rfl⟩
  obtain ⟨z, hz⟩ : ∃ z, z = prsZ t := ⟨_, rfl⟩
  obtain ⟨E, hE⟩ : ∃ E : Int, E = if p then 0 else 5 := ⟨_, rfl⟩
  obtain ⟨dg, hdg⟩ : ∃ x, x = digB b := ⟨_, rfl⟩
  obtain ⟨A, hA⟩ : ∃ A, A = a.length := ⟨_, rfl⟩
  obtain ⟨Bn, hBn⟩ : ∃ B, B = b.length := ⟨_, rfl⟩
  have htl : t.length ≤ 4096 := by rw [ht]; have := bodyL_len a; omega
  have HM := hid (fun w' => show Calls Tryz.prog 75 #[.string ⟨a.toArray⟩] w' (fun e w2 => e = .returned (.tuple #[.string ⟨t.toArray⟩, .bool ng]) ∧ w2 = w') by rw [ht, hng]; exact rminus_any a w')
  have HPa := hid (fun w' => show Calls Tryz.prog 35 #[.string ⟨t.toArray⟩] w' (fun e w2 => ∃ b o m c, e = .returned (.tuple #[.agg #[.bool b, .slice o m c], .int .i64 E]) ∧ Hid (p = true → Zt w2 (.agg #[.bool b, .slice o m c]) z 30000) ∧ Below w'.heap.size w' w2) from (rParse_any t (by omega) w').mono (by
    rintro e w2 ⟨b, o, m, c, rfl, h1, h2⟩
    refine ⟨b, o, m, c, by rw [bytes_short htl, ← hp, hE], hid (fun hpt => ?_), h2⟩
    rw [hz]
    exact (h1 (by rw [bytes_short htl, ← hp, hpt]; rfl)).mono (by omega)))
  have HDi := hid (fun w' => show Calls Tryz.prog 76 #[.string ⟨b.toArray⟩] w' (fun e w2 => ∃ b' o m c, e = .returned (.tuple #[.agg #[.bool b', .slice o m c], .bool dg]) ∧ Hid (dg = true → Zt w2 (.agg #[.bool b', .slice o m c]) ((dv b : Nat) : Int) 30000) ∧ Below w'.heap.size w' w2) from (rdigits_any b (by omega) w').mono (by
    rintro e w2 ⟨v, y, rfl, h1, h2, h3⟩
    obtain ⟨b', o, m, c, rfl, _⟩ := Zt.opened h1
    refine ⟨b', o, m, c, by rw [hdg], hid (fun hd => ?_), h3⟩
    rw [← h2 (by rw [← hdg]; exact hd)]
    exact h1.mono (by omega)))
  have HB0 := hid hB
  unfold frcB at hB
  rw [← ht, ← hp, ← hz, ← hdg, ← hBn] at hB
  rw [← hA, ← hBn] at hll
  rw [← hA] at hx1 hx2
  rw [← hA]
  obtain ⟨S, hS⟩ : ∃ S : ByteArray, S = ⟨l.toArray⟩ := ⟨_, rfl⟩
  have hSs : S.size = A + 1 + Bn := by rw [hS]; exact hll
  rw [← hS] at hx1 hx2 ⊢
  rw [show l.length = S.size by rw [hSs, hll]] at hx2
  have hAB : A + Bn ≤ 4096 := by rw [hA, hBn]; exact hl
  obtain ⟨hw1, hw2, hw3, hSI, hA0, hA1, hA2⟩ := fr_wraps hSs hAB
  have hBl := hid hAB
  clear hAB
  obtain ⟨W0, hW0⟩ : ∃ W0, W0 = (w.alloc (.cells #[.bool false, .slice none 0 0, .bool false, .slice none 0 0] 33)) := ⟨_, rfl⟩
  have hB0 : Below w.heap.size w W0 := by rw [hW0]; exact (Below.refl _ _).alloc (Nat.le_refl _) _
  have hz0 : W0.heap.size = w.heap.size + 1 := by rw [hW0]; simp
  have HN0 := hid (show w.heap.size < W0.heap.size by rw [hz0]; omega)
  have HS0 : Hid (∀ w', Kp W0.heap.size (w.heap.size) W0 w' → True) := hid (fun _ _ => trivial)
  have HT : Hid (∀ w', Below W0.heap.size W0 w' → (w'.cell? ⟨w.heap.size, 0, none⟩ = some (.bool false) ∧ w'.cell? ⟨w.heap.size, 1, none⟩ = some (.slice none 0 0) ∧ w'.cell? ⟨w.heap.size, 2, none⟩ = some (.bool false) ∧ w'.cell? ⟨w.heap.size, 3, none⟩ = some (.slice none 0 0)) ∧ (w'.frozen? ⟨w.heap.size, 0, none⟩ = false ∧ w'.frozen? ⟨w.heap.size, 1, none⟩ = false ∧ w'.frozen? ⟨w.heap.size, 2, none⟩ = false ∧ w'.frozen? ⟨w.heap.size, 3, none⟩ = false)) := hid (fun w' hb => by
    refine ⟨⟨?_, ?_, ?_, ?_⟩, ?_, ?_, ?_, ?_⟩ <;> (first | (rw [hb.cell (by rw [hz0]; simp), hW0]; simp [go_sem]; done) | (rw [hb.frozen (by rw [hz0]; simp), hW0]; simp [go_sem]; done)))
  simp only [Bool.and_eq_true, Bool.not_eq_true', decide_eq_true_eq, decide_eq_false_iff_not] at hB
  obtain ⟨⟨⟨hpt, hz0⟩, hdt⟩, hBn100⟩ := hB
  have hfv : sgn ng (z * 10 ^ b.length + ((dv b : Nat) : Int)) = decZ a b := by rw [hng, hz, ht]; exact frc_val HB0.out
  subst hpt; subst hdt
  have he : E = 0 := hE
  subst he
  obtain ⟨P, hP⟩ : ∃ P : Int, P = 10 ^ b.length := ⟨_, rfl⟩
  have HP0 := hid (show 0 < P by rw [hP]; exact Int.pow_pos (by decide))
  have HTe := hid (fun (w' : World) => show Calls Tryz.prog 29 #[.int .i64 (Bn : Int)] w' (RetZo w' P 30000) by rw [hBn]; exact rtens_v b.length P 30000 w' (by omega) hP.symm (by omega))
  rw [← hP] at hfv ⊢
  have HFv := hid hfv; have HZ0 := hid hz0
  have HBI := hid (show ¬ 100 < (Bn : Int) by omega)
  clear hfv hP hBn100 hz0
  have HE := hid hE; have HZz := hid hz; have HDg := hid hdg; have HNg := hid hng; have HTt := hid ht; have HBn := hid hBn; have HPp := hid hp
  have hbq0 : ∀ w : World, (Instr.build 33 #[]).run Tryz.prog w = .ok (.agg #[.bool false, .slice none 0 0, .bool false, .slice none 0 0]) w := fun w => by kernel_rfl
  have HB0 := hid hB0; have HW0 := hid hW0
  clear hW0 hB0 hz0 hE hz hdg hng ht hp hA hBn htl hll hlE hl hS hSs
  go_enter Tryz.func36, Tryz.ntmps36
  go_upto_region 1 with (fail)
  rw [← HW0.out]
  go_wp2_with fail
  refine (HM.out _).mono ?_
  rintro e w1 ⟨rfl, hw⟩
  obtain rfl : W0 = w1 := hw.symm
  go_upto_region 2 with (fail)
  go_wp2_with fail
  refine (HPa.out _).mono ?_
  rintro e wq2 ⟨bn, on, mn, cn, rfl, Hn, hbq⟩
  have hXq : Below W0.heap.size W0 wq2 := hbq
  obtain ⟨W1, hW1⟩ : ∃ W, W = wq2.alloc (.cells #[.bool bn, .slice on mn cn] 31) := ⟨_, rfl⟩
  have hal1 : Below wq2.heap.size wq2 W1 := by rw [hW1]; exact bl_new _
  have hXn1 : Below W0.heap.size W0 W1 := bl_tr hXq hal1
  have hsz1 : w.heap.size < wq2.heap.size := Nat.lt_of_lt_of_le HN0.out hXq.size
  have HS1 : Hid (∀ w', Kp W1.heap.size (w.heap.size) W1 w' → w'.cell? ⟨wq2.heap.size, 0, none⟩ = some (.bool bn) ∧ w'.cell? ⟨wq2.heap.size, 1, none⟩ = some (.slice on mn cn)) := hid (fun w' hb => by
    refine ⟨?_, ?_⟩ <;> (rw [hb.cell _ (by rw [hW1]; simp) (by simp <;> omega), hW1]; simp [go_sem]))
  replace HT := hid (fun w' hb => HT.out w' (bl_tr hXn1 hb))
  have V8 : Hid (∀ w', Below W1.heap.size W1 w' → Zt w' (.agg #[.bool bn, .slice on mn cn]) z 30000) := hid (fun w' hb => (Hn.out (by simp)).below (bl_tr hal1 hb) (Nat.le_refl _))
  have HN1 := hid (show w.heap.size < W1.heap.size from Nat.lt_of_lt_of_le HN0.out hXn1.size)
  have HB1 := hid (HB0.out.trans (hXn1.mono HB0.out.size)); have HW1 := hid hW1
  clear hW1 hal1 hXn1 hsz1 HS0 HB0 HW0 HN0 hXq
  clear hbq Hn HM HPa
  go_upto_region 4 with (fail)
  rw [← HW1.out]
  obtain ⟨k0, k1⟩ := HS1.out _ (Kp.of_below (Below.refl _ _))
  go_wp2_with fail
  refine (HDi.out _).mono ?_
  rintro e wq4 ⟨bk, ok, mk, ck, rfl, Hk, hbq⟩
  have hXq : Below W1.heap.size W1 wq4 := hbq
  clear k0 k1
  obtain ⟨W2, hW2⟩ : ∃ W, W = wq4.alloc (.cells #[.bool bk, .slice ok mk ck] 31) := ⟨_, rfl⟩
  have hal2 : Below wq4.heap.size wq4 W2 := by rw [hW2]; exact bl_new _
  have hXn2 : Below W1.heap.size W1 W2 := bl_tr hXq hal2
  have hsz2 : w.heap.size < wq4.heap.size := Nat.lt_of_lt_of_le HN1.out hXq.size
  have HS2 : Hid (∀ w', Kp W2.heap.size (w.heap.size) W2 w' → (w'.cell? ⟨wq2.heap.size, 0, none⟩ = some (.bool bn) ∧ w'.cell? ⟨wq2.heap.size, 1, none⟩ = some (.slice on mn cn)) ∧ w'.cell? ⟨wq4.heap.size, 0, none⟩ = some (.bool bk) ∧ w'.cell? ⟨wq4.heap.size, 1, none⟩ = some (.slice ok mk ck)) := hid (fun w' hb => by
    refine ⟨HS1.out _ (hb.trans_below hXn2), ?_, ?_⟩ <;> (rw [hb.cell _ (by rw [hW2]; simp) (by simp <;> omega), hW2]; simp [go_sem]))
  replace HT := hid (fun w' hb => HT.out w' (bl_tr hXn2 hb))
  replace V8 := hid (fun w' hb => V8.out w' (bl_tr hXn2 hb))
  have V11 : Hid (∀ w', Below W2.heap.size W2 w' → Zt w' (.agg #[.bool bk, .slice ok mk ck]) ((dv b : Nat) : Int) 30000) := hid (fun w' hb => (Hk.out (by simp)).below (bl_tr hal2 hb) (Nat.le_refl _))
  have HN2 := hid (show w.heap.size < W2.heap.size from Nat.lt_of_lt_of_le HN1.out hXn2.size)
  have HB2 := hid (HB1.out.trans (hXn2.mono HB1.out.size)); have HW2 := hid hW2
  clear hW2 hal2 hXn2 hsz2 HS1 HB1 HW1 HN1 hXq
  clear hbq Hk HDi
  go_upto_region 5 with (fail)
  rw [← HW2.out]
  have hbn : bn = false := by have h := V8.out _ (Below.refl _ _); obtain ⟨s, e, _⟩ := h; cases e; exact decide_eq_false (by have := HZ0.out; omega)
  subst hbn
  obtain ⟨⟨k0, k1⟩, k2, k3⟩ := HS2.out _ (Kp.of_below (Below.refl _ _))
  have hBI := HBI.out
  go_upto_region 7 with (fail)
  clear k0 k1 k2 k3
  have hX0 := Below.refl W2.heap.size W2
  have HKG : Hid (AllKeep [(false, (fun wq vq => vq = (.agg #[.bool false, .slice on mn cn])), undef), (false, (fun wq vq => vq = .int .i64 (Bn : Int)), undef), (false, (fun wq vq => Zt wq vq (P) (30000)), undef), (false, (fun wq vq => Zt wq vq (z * P) (60001)), undef), (false, (fun wq vq => vq = (.agg #[.bool bk, .slice ok mk ck])), undef), (false, (fun wq vq => Zt wq vq (z * P + ((dv b : Nat) : Int)) (60002)), undef)]) := hid ⟨kcV _, kcV _, ztV _ _, ztV _ _, kcV _, ztV _ _, trivial⟩
  refine region_inv (by kernel_rfl) (fun L act w' => ∃ f0 f1 f2 f3 f4 f5 f6 f7, L = #[f0, f1, f2, f3, f4, f5, f6, f7] ∧ (f7 = true → f6 = true ∧ f5 = true) ∧ ∃ s54 s55 s56 s57 s58 s59 s13, act = { tmps := #[.string S, .int .i64 (A : Int), undef, undef, .pointer (some ⟨w.heap.size, 0, none⟩), .int .i64 0, .string ⟨t.toArray⟩, .bool ng, .pointer (some ⟨wq2.heap.size, 0, none⟩), .int .i64 0, .int .i64 (Bn : Int), .pointer (some ⟨wq4.heap.size, 0, none⟩), .bool true, s13, .tuple #[.string ⟨t.toArray⟩, .bool ng], .string S, .int .i64 (A : Int), .string ⟨a.toArray⟩, .tuple #[.string ⟨t.toArray⟩, .bool ng], .string ⟨t.toArray⟩, .bool ng, .tuple #[.agg #[.bool false, .slice on mn cn], .int .i64 0], .string ⟨t.toArray⟩, .tuple #[.agg #[.bool false, .slice on mn cn], .int .i64 0], .agg #[.bool false, .slice on mn cn], .int .i64 0, .string S, .int .i64 ((A : Int) + 1 + (Bn : Int)), .int .i64 (A : Int), .int .i64 (1 + (Bn : Int)), .int .i64 (Bn : Int), .tuple #[.agg #[.bool bk, .slice ok mk ck], .bool true], .string S, .int .i64 (A : Int), .int .i64 ((A : Int) + 1), .string ⟨b.toArray⟩, .tuple #[.agg #[.bool bk, .slice ok mk ck], .bool true], .agg #[.bool bk, .slice ok mk ck], .bool true, .int .i64 0, .bool false, .bool false, .pointer (some ⟨wq2.heap.size, 0, none⟩), .bool false, .bool false, .bool false, .bool true, .bool false, .bool false, .bool false, .int .i64 (Bn : Int), .bool (decide (100 < (Bn : Int))), .bool (decide (100 < (Bn : Int))), undef, s54, s55, s56, s57, s58, s59, undef, undef, undef, undef, undef, undef, undef], defers := [] } ∧ RX W2.heap.size W2 [(f0, (fun wq vq => vq = (.agg #[.bool false, .slice on mn cn])), s54), (f1, (fun wq vq => vq = .int .i64 (Bn : Int)), s55), (f2, (fun wq vq => Zt wq vq (P) (30000)), s56), (f3, (fun wq vq => Zt wq vq (z * P) (60001)), s57), (f4, (fun wq vq => vq = (.agg #[.bool bk, .slice ok mk ck])), s58), (f5, (fun wq vq => Zt wq vq (z * P + ((dv b : Nat) : Int)) (60002)), s59)] [(2, f6, f7, s13, s59)] w') ?_ ?_ ?_
  · exact ⟨_, _, _, _, _, _, _, _, rfl, nofun, _, _, _, _, _, _, _, rfl, hX0.drew, hX0.size, ⟨nofun, nofun, nofun, nofun, nofun, nofun, trivial⟩, ⟨nofun, trivial⟩, ⟨trivial, trivial⟩⟩
  · rintro L act w' i hs ⟨f0, f1, f2, f3, f4, f5, f6, f7, rfl, d0, s54, s55, s56, s57, s58, s59, s13, rfl, J⟩ hi
    obtain ⟨hi, hn, hd⟩ := waits_spec (dep := [[], [], [1], [0, 2], [], [3, 4], [], [6, 5]]) (by kernel_rfl) hi
    have hiN : i < 8 := hi
    obtain ⟨⟨k0, k1⟩, k2, k3⟩ := (hid (fun w' hb => HS2.out w' (Kp.of_below hb))).out w' J.bel
    have HJ := hid J
    rcases (show i = 0 ∨ i = 1 ∨ i = 2 ∨ i = 3 ∨ i = 4 ∨ i = 5 ∨ i = 6 ∨ i = 7 by omega) with rfl | rfl | rfl | rfl | rfl | rfl | rfl | rfl
    · clear J hd hi hiN hn
      refine wpOp_step rfl (fun kq hKq => ?_)
      go_simp
      exact hKq _ _ ⟨true, f1, f2, f3, f4, f5, f6, f7, rfl, d0, _, _, _, _, _, _, _, rfl, HJ.out.bel, HJ.out.siz, ⟨fun _ => rfl, HJ.out.vals.2.1, HJ.out.vals.2.2.1, HJ.out.vals.2.2.2.1, HJ.out.vals.2.2.2.2.1, HJ.out.vals.2.2.2.2.2.1, trivial⟩, ⟨HJ.out.boxes.1, trivial⟩, HJ.out.ne⟩
    · clear J hd hi hiN hn
      refine wpOp_step rfl (fun kq hKq => ?_)
      go_simp
      exact hKq _ _ ⟨f0, true, f2, f3, f4, f5, f6, f7, rfl, d0, _, _, _, _, _, _, _, rfl, HJ.out.bel, HJ.out.siz, ⟨HJ.out.vals.1, fun _ => rfl, HJ.out.vals.2.2.1, HJ.out.vals.2.2.2.1, HJ.out.vals.2.2.2.2.1, HJ.out.vals.2.2.2.2.2.1, trivial⟩, ⟨HJ.out.boxes.1, trivial⟩, HJ.out.ne⟩
    · obtain rfl : f2 = false := hn
      have e55 : s55 = .int .i64 (Bn : Int) := J.vals.2.1 (hd 1 (by simp))
      subst e55
      have hw := J.bel
      clear J hd hi hiN
      refine wpOp_step rfl (fun kq hKq => ?_)
      go_simp
      refine (HTe.out _).mono ?_
      rintro e wz ⟨ub, uo, um, uc, rfl, HZq, hb⟩
      have J2 := RX.step HJ.out HKG.out hb
      exact hKq _ _ ⟨f0, f1, true, f3, f4, f5, f6, f7, rfl, d0, _, _, _, _, _, _, _, rfl, J2.bel, J2.siz, ⟨J2.vals.1, J2.vals.2.1, fun _ => HZq.out, J2.vals.2.2.2.1, J2.vals.2.2.2.2.1, J2.vals.2.2.2.2.2.1, trivial⟩, ⟨J2.boxes.1, trivial⟩, J2.ne⟩
    · obtain rfl : f3 = false := hn
      have e54 : s54 = (.agg #[.bool false, .slice on mn cn]) := J.vals.1 (hd 0 (by simp))
      subst e54
      have h56 : (fun wq vq => Zt wq vq (P) (30000)) w' s56 := J.vals.2.2.1 (hd 2 (by simp))
      have hw := J.bel
      clear J hd hi hiN
      refine wpOp_step rfl (fun kq hKq => ?_)
      go_simp
      refine (rmul_o _ _ z P 30000 60001 _ (V8.out _ hw) h56 (by decide) (by decide)).mono ?_
      rintro e wz ⟨ub, uo, um, uc, rfl, HZq, hb⟩
      have J2 := RX.step HJ.out HKG.out hb
      exact hKq _ _ ⟨f0, f1, f2, true, f4, f5, f6, f7, rfl, d0, _, _, _, _, _, _, _, rfl, J2.bel, J2.siz, ⟨J2.vals.1, J2.vals.2.1, J2.vals.2.2.1, fun _ => HZq.out, J2.vals.2.2.2.2.1, J2.vals.2.2.2.2.2.1, trivial⟩, ⟨J2.boxes.1, trivial⟩, J2.ne⟩
    · clear J hd hi hiN hn
      refine wpOp_step rfl (fun kq hKq => ?_)
      go_simp
      exact hKq _ _ ⟨f0, f1, f2, f3, true, f5, f6, f7, rfl, d0, _, _, _, _, _, _, _, rfl, HJ.out.bel, HJ.out.siz, ⟨HJ.out.vals.1, HJ.out.vals.2.1, HJ.out.vals.2.2.1, HJ.out.vals.2.2.2.1, fun _ => rfl, HJ.out.vals.2.2.2.2.2.1, trivial⟩, ⟨HJ.out.boxes.1, trivial⟩, HJ.out.ne⟩
    · obtain rfl : f5 = false := hn
      obtain rfl : f7 = false := by cases f7 with | false => rfl | true => exact absurd (d0 rfl).2 (by simp)
      have h57 : (fun wq vq => Zt wq vq (z * P) (60001)) w' s57 := J.vals.2.2.2.1 (hd 3 (by simp))
      have e58 : s58 = (.agg #[.bool bk, .slice ok mk ck]) := J.vals.2.2.2.2.1 (hd 4 (by simp))
      subst e58
      have hw := J.bel
      clear J hd hi hiN d0
      refine wpOp_step rfl (fun kq hKq => ?_)
      go_simp
      refine (radd_o _ _ (z * P) ((dv b : Nat) : Int) 60001 60002 _ h57 ((V11.out _ hw).mono (by decide)) (by decide) (by decide)).mono ?_
      rintro e wz ⟨ub, uo, um, uc, rfl, HZq, hb⟩
      have J2 := RX.step HJ.out HKG.out hb
      exact hKq _ _ ⟨f0, f1, f2, f3, f4, true, f6, false, rfl, nofun, _, _, _, _, _, _, _, rfl, J2.bel, J2.siz, ⟨J2.vals.1, J2.vals.2.1, J2.vals.2.2.1, J2.vals.2.2.2.1, J2.vals.2.2.2.2.1, fun _ => HZq.out, trivial⟩, ⟨fun e => (J2.boxes.1 e).fresh, trivial⟩, J2.ne⟩
    · obtain rfl : f6 = false := hn
      obtain rfl : f7 = false := by cases f7 with | false => rfl | true => exact absurd (d0 rfl).1 (by simp)
      clear J hd hi hiN d0
      refine wpOp_step rfl (fun kq hKq => ?_)
      go_simp
      have J2 := RX.step HJ.out HKG.out (bl_new (w := w') (.cells #[.bool false, .slice none 0 0] 31))
      exact hKq _ _ ⟨f0, f1, f2, f3, f4, f5, true, false, rfl, nofun, _, _, _, _, _, _, _, rfl, J2.bel, J2.siz, J2.vals, ⟨fun _ => boxn_new _ w' _ _ [.bool false, .slice none 0 0] (by intro i k x hi; match i, hi with | 0, _ => nofun | 1, _ => nofun) HJ.out.siz, trivial⟩, ⟨trivial, trivial⟩⟩
    · obtain rfl : f6 = true := hd 6 (by simp)
      obtain rfl : f5 = true := hd 5 (by simp)
      obtain ⟨fb, fo, fm, fc, rfl, _⟩ := Zt.opened (J.vals.2.2.2.2.2.1 rfl)
      have HBX : Hid _ := hid (J.boxes.1 rfl)
      obtain ⟨p, vs, rfl, hp, hl, hnn, hc, hf, _⟩ := J.boxes.1 rfl
      have cc0 := hc 0 (by decide)
      have ff0 := hf 0 (by decide)
      have cc1 := hc 1 (by decide)
      have ff1 := hf 1 (by decide)
      clear J hd hi hiN hn hc hf hnn hl
      refine wpOp_step rfl (fun kq hKq => ?_)
      go_simp
      exact hKq _ _ ⟨f0, f1, f2, f3, f4, true, true, true, rfl, fun _ => ⟨rfl, rfl⟩, _, _, _, _, _, _, _, rfl, below_setCells hp [.bool fb, .slice fo fm fc] 0 HJ.out.bel, Nat.le_trans HJ.out.siz (Nat.le_of_eq (size_setCells p [.bool fb, .slice fo fm fc] 0 w').symm), Vals.keep HKG.out (BoxN.keeps HBX.out (us := [.bool fb, .slice fo fm fc]) rfl) HJ.out.vals, ⟨fun _ => BoxN.store HBX.out [.bool fb, .slice fo fm fc] rfl (by intro i k x hi; match i, hi with | 0, _ => nofun | 1, _ => nofun), trivial⟩, HJ.out.ne⟩
  rintro L act w' hs ⟨f0, f1, f2, f3, f4, f5, f6, f7, rfl, _, s54, s55, s56, s57, s58, s59, s13, rfl, J⟩ hr
  have hd := early_done (by kernel_rfl) hs hr 8
  obtain rfl : f0 = true := hd 0 (by omega) (by simp)
  obtain rfl : f1 = true := hd 1 (by omega) (by simp)
  obtain rfl : f2 = true := hd 2 (by omega) (by simp)
  obtain rfl : f3 = true := hd 3 (by omega) (by simp)
  obtain rfl : f4 = true := hd 4 (by omega) (by simp)
  obtain rfl : f5 = true := hd 5 (by omega) (by simp)
  obtain rfl : f6 = true := hd 6 (by omega) (by simp)
  obtain rfl : f7 = true := hd 7 (by omega) (by simp)
  have e54 : s54 = (.agg #[.bool false, .slice on mn cn]) := J.vals.1 rfl
  subst e54
  have e55 : s55 = .int .i64 (Bn : Int) := J.vals.2.1 rfl
  subst e55
  have e58 : s58 = (.agg #[.bool bk, .slice ok mk ck]) := J.vals.2.2.2.2.1 rfl
  subst e58
  have hg13 : (fun wq vq => Zt wq vq (z * P + ((dv b : Nat) : Int)) (60002)) w' s59 := J.vals.2.2.2.2.2.1 rfl
  obtain ⟨fb, fo, fm, fc, rfl, _⟩ := Zt.opened hg13
  obtain ⟨p13, rfl, hp13, hl13, hc13⟩ := BoxN.done (us := [.bool fb, .slice fo fm fc]) (J.boxes.1 rfl)
  have k13_0 : w'.cell? ⟨p13, 0, none⟩ = some (.bool fb) := (hc13 0 (by decide)).1
  have k13_1 : w'.cell? ⟨p13, 1, none⟩ = some (.slice fo fm fc) := (hc13 1 (by decide)).1
  have kf13_0 := (hc13 0 (by decide)).2; have kf13_1 := (hc13 1 (by decide)).2
  clear hc13
  have hbel := J.bel
  have hsiz := J.siz
  have hv56 : (fun wq vq => Zt wq vq (P) (30000)) w' s56 := J.vals.2.2.1 rfl
  have hv57 : (fun wq vq => Zt wq vq (z * P) (60001)) w' s57 := J.vals.2.2.2.1 rfl
  clear hd hr hs J
  obtain ⟨W3, hW3⟩ : ∃ W, W = w' := ⟨_, rfl⟩
  rw [← hW3] at hbel hg13 hl13 k13_0 k13_1 kf13_0 kf13_1
  have hgw : w.heap.size < p13 := Nat.lt_of_lt_of_le HN2.out hp13
  have HC13 := hid (fun w' (hb : Kp W3.heap.size w.heap.size W3 w') => show w'.cell? ⟨p13, 0, none⟩ = some (.bool fb) ∧ w'.cell? ⟨p13, 1, none⟩ = some (.slice fo fm fc) from ⟨(hb.cell _ (by simpa using hl13) (by simp; omega)).trans k13_0, (hb.cell _ (by simpa using hl13) (by simp; omega)).trans k13_1⟩)
  have HF13 := hid (fun w' (hb : Below W3.heap.size W3 w') => show w'.frozen? ⟨p13, 0, none⟩ = false ∧ w'.frozen? ⟨p13, 1, none⟩ = false from ⟨(hb.frozen (p := ⟨p13, 0, none⟩) hl13).trans kf13_0, (hb.frozen (p := ⟨p13, 1, none⟩) hl13).trans kf13_1⟩)
  have HV13 := hid (fun w' (hb : Below W3.heap.size W3 w') => show Zt w' (.agg #[.bool fb, .slice fo fm fc]) (z * P + ((dv b : Nat) : Int)) 60002 from hg13.below hb (Nat.le_refl _))
  have HTo := HT
  have HLB := hid hbel
  have HN3 := hid (show w.heap.size < W3.heap.size from Nat.lt_trans hgw hl13)
  replace HT := hid (fun w' hb => HT.out w' (bl_tr hbel hb))
  have HP13 := hid hp13; have HL13 := hid hl13; have HGw := hid hgw; have HB3 := hid (HB2.out.trans (hbel.mono HB2.out.size)); have HW3 := hid hW3
  have hWr := hW3
  rw [← hWr]
  clear hWr hW3 hbel hsiz hX0 hg13 hl13 hp13 hgw k13_0 k13_1 kf13_0 kf13_1 HW2 HS2 V8 V11
  cases ng with
  | false =>
    go_upto_region 10 with (fail)
    have hY0 := Below.refl W3.heap.size W3
    have tk1 := hid trivial
    have tk2 := hid trivial
    go_region_held3 (fun w' => w'.cell? ⟨p13, 0, none⟩ = some (.bool fb) ∧ w'.cell? ⟨p13, 1, none⟩ = some (.slice fo fm fc)) ((refine HC13.out _ ?_; (repeat (first | assumption | exact Kp.of_below (by assumption) | exact Kp.of_below (Below.drew (by assumption)) | exact Kp.of_below (Below.refl _ _) | exact Kp.of_below (Below.refl _ _).drew | (refine Kp.set ?_ (by simp) _))))) (first
      | (clear tk1; go_at_call 29; refine (HTe.out _).mono ?_; rintro e v1 ⟨bq, oq, mq, cq, rfl, Hq, hbq⟩; have hY1 : Below W3.heap.size W3 v1 := (hY0.drew).trans (hbq.mono (hY0.drew).size))
      | (clear tk2; go_at_call 18; refine (rlowest_v _ _ (z * P + ((dv b : Nat) : Int)) P 60002 60005 _ (HV13.out _ hY1) (Hq.out.mono (by decide)) HP0.out (by decide) (by decide) (by decide)).mono ?_; rintro e v2 ⟨br, or, mr, cr, bbr, oor, mmr, ccr, rfl, Hr, hbq⟩; have hY2 : Below W3.heap.size W3 v2 := hY1.trans (hbq.mono hY1.size); obtain ⟨⟨hr0, hr1, hr2, hr3⟩, hf0, hf1, hf2, hf3⟩ := HT.out _ hY2))
    have hn0 := HN3.out
    have hbel : Below w.heap.size w v2 := HB3.out.trans (hY2.mono HB3.out.size)
    go_wp2
    refine bodyPost_ret (v := .tuple #[(.agg #[.bool br, .slice or mr cr, .bool bbr, .slice oor mmr ccr]), .int .i64 0]) (by simp [results, Tryz.results36, go_sem, hr0, hr1, hr2, hr3]) rfl ⟨_, _, _, _, _, _, _, _, rfl, hid ⟨_, _, _, _, _, _, _, _, rfl, Or.inl ⟨rfl, 60005, by decide, Qv.keeps (((((Keeps.refl _ _).setCell (u := .bool false) hr0 (fun x h => (by cases h)) _).setCell (u := .slice none 0 0) (by simp [go_sem, hr1]) (fun x h => (by cases h)) _).setCell (u := .bool false) (by simp [go_sem, hr2]) (fun x h => (by cases h)) _).setCell (u := .slice none 0 0) (by simp [go_sem, hr3]) (fun x h => (by cases h)) _) (by rw [← HFv.out]; exact Hr.out)⟩⟩, ((((hbel.setCell (by simp <;> omega) _).setCell (by simp <;> omega) _).setCell (by simp <;> omega) _).setCell (by simp <;> omega) _)⟩
  | true =>
    obtain ⟨e0, e1⟩ := HC13.out _ (Kp.of_below (Below.refl _ _))
    go_upto_region 9 with (fail)
    go_wp2_with fail
    refine (rneg_o _ _ 60002 _ (HV13.out _ (Below.refl _ _))).mono ?_
    rintro e w9 ⟨bm, om, mm, cm, rfl, Hm, hbq⟩
    clear e0 e1
    obtain ⟨e0, e1⟩ := HC13.out _ (Kp.of_below hbq)
    obtain ⟨f0, f1⟩ := HF13.out _ hbq
    go_upto_region 10 with (fail)
    obtain ⟨W4, hW4⟩ : ∃ W, W = ((w9.setCell ⟨p13, 0, none⟩ (.bool bm)).setCell ⟨p13, 1, none⟩ (.slice om mm cm)) := ⟨_, rfl⟩
    rw [← hW4]
    have hkz : Keeps .i64 w9 W4 := by rw [hW4]; exact keeps_two e0 e1 nofun nofun _ _
    have hzm := zt_keeps hkz Hm.out
    have htc : W4.cell? ⟨p13, 0, none⟩ = some (.bool bm) ∧ W4.cell? ⟨p13, 1, none⟩ = some (.slice om mm cm) := by rw [hW4]; exact two_cells e0 e1 _ _
    have hsz : W4.heap.size = w9.heap.size := by rw [hW4]; simp
    have hlw : Below W3.heap.size W3 w9 := hbq
    have hl13 : p13 < W4.heap.size := by rw [hsz]; exact Nat.lt_of_lt_of_le HL13.out hlw.size
    have hX9 : Below W2.heap.size W2 W4 := by rw [hW4]; exact ((HLB.out.trans (hlw.mono HLB.out.size)).setCell HP13.out _).setCell HP13.out _
    have HC14 := hid (fun w' (hb : Kp W4.heap.size w.heap.size W4 w') => show w'.cell? ⟨p13, 0, none⟩ = some (.bool bm) ∧ w'.cell? ⟨p13, 1, none⟩ = some (.slice om mm cm) from ⟨(hb.cell _ (by simpa using hl13) (by simp; have := HGw.out; omega)).trans htc.1, (hb.cell _ (by simpa using hl13) (by simp; have := HGw.out; omega)).trans htc.2⟩)
    have HV14 := hid (fun w' (hb : Below W4.heap.size W4 w') => show Zt w' (.agg #[.bool bm, .slice om mm cm]) (-(z * P + ((dv b : Nat) : Int))) 60002 from hzm.below hb (Nat.le_refl _))
    have HT2 := hid (fun w' (hb : Below W4.heap.size W4 w') => HTo.out w' (bl_tr hX9 hb))
    clear HT; have HT := HT2; clear HT2
    have HN4 := hid (show w.heap.size < W4.heap.size by have := HGw.out; omega)
    have HB4 := hid (HB2.out.trans (hX9.mono HB2.out.size))
    clear hW4 e0 e1 f0 f1 hkz hzm htc hsz hlw hl13 hX9 hbq
    have hY0 := Below.refl W4.heap.size W4
    have tk1 := hid trivial
    have tk2 := hid trivial
    go_region_held3 (fun w' => w'.cell? ⟨p13, 0, none⟩ = some (.bool bm) ∧ w'.cell? ⟨p13, 1, none⟩ = some (.slice om mm cm)) ((refine HC14.out _ ?_; (repeat (first | assumption | exact Kp.of_below (by assumption) | exact Kp.of_below (Below.drew (by assumption)) | exact Kp.of_below (Below.refl _ _) | exact Kp.of_below (Below.refl _ _).drew | (refine Kp.set ?_ (by simp) _))))) (first
      | (clear tk1; go_at_call 29; refine (HTe.out _).mono ?_; rintro e v1 ⟨bq, oq, mq, cq, rfl, Hq, hbq⟩; have hY1 : Below W4.heap.size W4 v1 := (hY0.drew).trans (hbq.mono (hY0.drew).size))
      | (clear tk2; go_at_call 18; refine (rlowest_v _ _ (-(z * P + ((dv b : Nat) : Int))) P 60002 60005 _ (HV14.out _ hY1) (Hq.out.mono (by decide)) HP0.out (by decide) (by decide) (by decide)).mono ?_; rintro e v2 ⟨br, or, mr, cr, bbr, oor, mmr, ccr, rfl, Hr, hbq⟩; have hY2 : Below W4.heap.size W4 v2 := hY1.trans (hbq.mono hY1.size); obtain ⟨⟨hr0, hr1, hr2, hr3⟩, hf0, hf1, hf2, hf3⟩ := HT.out _ hY2))
    have hn0 := HN4.out
    have hbel : Below w.heap.size w v2 := HB4.out.trans (hY2.mono HB4.out.size)
    go_wp2
    refine bodyPost_ret (v := .tuple #[(.agg #[.bool br, .slice or mr cr, .bool bbr, .slice oor mmr ccr]), .int .i64 0]) (by simp [results, Tryz.results36, go_sem, hr0, hr1, hr2, hr3]) rfl ⟨_, _, _, _, _, _, _, _, rfl, hid ⟨_, _, _, _, _, _, _, _, rfl, Or.inl ⟨rfl, 60005, by decide, Qv.keeps (((((Keeps.refl _ _).setCell (u := .bool false) hr0 (fun x h => (by cases h)) _).setCell (u := .slice none 0 0) (by simp [go_sem, hr1]) (fun x h => (by cases h)) _).setCell (u := .bool false) (by simp [go_sem, hr2]) (fun x h => (by cases h)) _).setCell (u := .slice none 0 0) (by simp [go_sem, hr3]) (fun x h => (by cases h)) _) (by rw [← HFv.out]; exact Hr.out)⟩⟩, ((((hbel.setCell (by simp <;> omega) _).setCell (by simp <;> omega) _).setCell (by simp <;> omega) _).setCell (by simp <;> omega) _)⟩
end Go.Proofs.YtbapeilpkhbbeaaGreatDoor
