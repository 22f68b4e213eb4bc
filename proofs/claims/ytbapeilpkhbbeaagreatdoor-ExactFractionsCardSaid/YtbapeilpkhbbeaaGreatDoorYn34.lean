/- The document's short division and decimal digits. hodoscoperef01.Of: the integer of a number of 64 bits. -/
import Derived.Test.YtbapeilpkhbbeaaGreatDoorYn21
import Derived.Test.YtbapeilpkhbbeaaGreatDoorYn25
import Derived.Test.YtbapeilpkhbbeaaGreatDoorYn33
import Derived.Laws.IdiomStrings
import Derived.Test.YtbapeilpkhbbeaaGreatDoorYn23
/- The document's short division and decimal digits. -/
namespace Go.Proofs.YtbapeilpkhbbeaaGreatDoor
open Go.RowKit

def RetSh (w : World) (n m : Int) (K : Nat) (e : Ending) (w' : World) : Prop := ∃ v, e = .returned (.tuple #[v, .int .i64 m]) ∧ Md w' v n K ∧ Below w.heap.size w w'
set_option maxRecDepth 100000 in
set_option maxHeartbeats 2000000 in
theorem rshort_any (va : Value) (a : Int) (K : Nat) (w : World) (hA : Md w va a K) (hK : K ≤ 1073741824) :
    Calls Tryz.prog 67 #[va, .int .i64 10] w (RetSh w (a / 10) (a % 10) K) := by
  obtain ⟨ao, ca, LA, rfl, hA⟩ := hA
  obtain ⟨n, hn⟩ : ∃ n, n = LA.length := ⟨_, rfl⟩
  have hn30 : n ≤ 1073741824 := by have := hA.le; omega
  rw [← hn]
  have HA := hid hA; have Hn := hid hn
  clear hA hn
  obtain ⟨i0, hi, hz0, hz1, hz2⟩ := info_parts Tryz.info3
  go_enter Tryz.func67, Tryz.ntmps67
  go_wp2_with (at_make; refine wpList_make_row w rfl _ _ 29 rfl 3 i0 .i64 Tryz.underlying29 hi hz0 hz1 .i64 .i64 _ _ n rfl rfl rfl rfl (by rw [hz2]; omega) (by unfold maxLen; omega) ?_)
  intro w1 hrow hg1
  have hb1 := grown_below hg1
  have H0 : DivR w w1 w.heap.size LA 10 n [] 0 := ⟨by simpa using hrow, grown_any hg1, by simpa using Hn.out, Dig.nil _, Int.le_refl 0, by decide, by rw [List.drop_of_length_le (by have := Hn.out; omega)]; simp [val]⟩
  have HG1 := hid (HA.out.rd.ne (Nat.le_refl w.heap.size))
  clear hrow hg1
  go_wp2
  go_loopw [7, 8] (fun rv iv wr => ∃ j : Nat, ∃ QT r, j ≤ n ∧ iv = .int .i64 ((j : Int) - 1) ∧ rv = .int .i64 r ∧ DivR w wr w.heap.size LA 10 j QT r ∧ Below w.heap.size w wr) (fun _ iv _ => (intOf iv + 1).toNat)
  case atStart => exact ⟨n, [], 0, Nat.le_refl _, rfl, rfl, H0, hb1⟩
  case round =>
    obtain ⟨j, QT, r, hj, rfl, rfl, H, hb⟩ := hrel
    cases j with
    | zero =>
      have hr : Row .i64 3 wr w.heap.size QT := by have := H.row; simpa using this
      have hl : QT.length = n := by have := H.len; have := Hn.out; omega
      have he := H.eq
      rw [List.drop_zero, HA.out.eq] at he
      have hq : val R16 QT = a / 10 := by have := H.r0; have := H.r1; omega
      have hm : r = a % 10 := by have := H.r0; have := H.r1; omega
      have ht := cut_any (some ⟨w.heap.size, 0, none⟩) n QT wr (rowi_rd hr (by omega) (by omega))
      have hres := md_row (c := n) (K := K) hr H.dig hq (by omega) (by omega) (by have := HA.out.le; have := Hn.out; omega)
      rw [hl] at ht
      have HT := hid ht; have Hres := hid hres; have HM := hid hm
      clear ht hres hr hl he hq hm H H0 hb1
      go_wp2_with (go_at_call 84; refine HT.out.mono ?_; rintro e w2 ⟨rfl, rfl⟩)
      go_ret2
      exact ⟨_, by rw [HM.out]; rfl, Hres.out, hb⟩
    | succ j =>
      have hjn : j < n := by omega
      obtain ⟨b, o, rfl⟩ := HA.out.rd.adr (by have := Hn.out; omega)
      have hc := (HA.out.rd.keptNew H.gr HG1.out).cell b o rfl j (by have := Hn.out; omega)
      have hd := HA.out.dig.at R16_pos j
      obtain ⟨y, hy⟩ : ∃ y, y = LA[j]?.getD 0 := ⟨_, rfl⟩
      rw [← hy] at hc hd
      obtain ⟨hS, hn0, hq1⟩ := H.step (by decide) y hy hd.1 hd.2
      have hq := H.row.cell j (by have := H.len; simp; omega)
      have hf := H.row.frozen j
      obtain ⟨u, hu⟩ : ∃ u, u = ((List.replicate (j + 1) 0 ++ QT)[j]?.getD 0 : Int) := ⟨_, rfl⟩
      rw [← hu] at hq
      have hr0 := H.r0; have hr1 := H.r1
      have hy0 := hd.1; have hy1 : y < 65536 := hd.2
      have hk0 : (0 : Int) ≤ (j : Int) := by omega
      have HS := hid hS
      clear hS H H0 hb1 hd hy hu
      go_wp2
      go_roundw
      case rel => exact ⟨j, _, _, by omega, by go_num, rfl, HS.out, hb.setCell (Nat.le_refl _) _⟩
      case measure => simp [intOf]

/-- The digits ahead: none of 0. -/
def decZ0 (y : Nat) : List UInt8 := if y = 0 then [] else Lib.decDigits y
theorem decZ0_step {y : Nat} (h : y ≠ 0) : decZ0 y = decZ0 (y / 10) ++ [UInt8.ofNat (48 + y % 10)] := by
  unfold decZ0
  rw [if_neg h]
  by_cases hy : y < 10
  · rw [if_pos (by omega), dec_small hy, show y % 10 = y by omega]; rfl
  · rw [if_neg (by omega), dec_big hy]
theorem Md.lenz {w : World} {ao : Option Addr} {m c : Nat} {n : Int} {K : Nat} (h : Md w (.slice ao m c) n K) : m = 0 ↔ n = 0 := by
  obtain ⟨ao', c', L, e, h⟩ := h
  cases e
  constructor
  · intro hl
    have : L = [] := List.eq_nil_of_length_eq_zero hl
    subst this
    have := h.eq
    simpa [val] using this.symm
  · intro hn
    by_cases hl : L.length = 0
    · exact hl
    · have h1 := Nrm.low R16_pos h.dig h.nrm (by omega)
      have h2 : 0 < R16 ^ (L.length - 1) := Int.pow_pos R16_pos
      rw [h.eq, hn] at h1
      omega

set_option maxRecDepth 100000 in
set_option maxHeartbeats 2000000 in
theorem rdecimals_any (va : Value) (y K : Nat) (w : World) (hA : Md w va (y : Int) K) (hK : K ≤ 100000) (hy : (Lib.decDigits y).length ≤ 1000000) :
    Calls Tryz.prog 30 #[va] w fun e w' => e = .returned (.string ⟨(Lib.decDigits y).toArray⟩) ∧ Below w.heap.size w w' := by
  obtain ⟨ao, m, c, rfl, _⟩ := Md.opened hA
  have HA := hid hA; have Hy := hid hy
  clear hA hy
  go_enter Tryz.func30, Tryz.ntmps30
  go_wp2_with fail
  go_loopw [0, 3] (fun av sv wr => ∃ (q : Nat) (s : List UInt8), Md wr av (q : Int) K ∧ sv = .string ⟨s.toArray⟩ ∧ decZ0 y = decZ0 q ++ s ∧ Below w.heap.size w wr) (fun av _ wr => mdOf wr av)
  case atStart => exact ⟨y, [], HA.out, rfl, by simp, Below.refl _ _⟩
  case round =>
    obtain ⟨q, s, hq, rfl, he, hb⟩ := hrel
    obtain ⟨ao', m', c', rfl, _⟩ := Md.opened hq
    have hz := Md.lenz hq
    by_cases hq0 : q = 0
    · subst hq0
      obtain rfl : m' = 0 := hz.2 rfl
      have hes : decZ0 y = s := by simpa [decZ0] using he
      by_cases hs : s = []
      · subst hs
        have hy0 : y = 0 := by
          by_cases h : y = 0
          · exact h
          · unfold decZ0 at hes
            rw [if_neg h] at hes
            exact absurd hes (dec_ne y)
        subst hy0
        have HB := hid hb
        clear hb he hes hq hz HA Hy
        go_wp2
        go_ret
        exact ⟨by rw [dec_small (by decide)]; rfl, HB.out⟩
      · have hse : s.isEmpty = false := by cases s with | nil => exact absurd rfl hs | cons _ _ => rfl
        have hy0 : s = Lib.decDigits y := by
          unfold decZ0 at hes
          split at hes
          · exact absurd hes.symm hs
          · exact hes.symm
        have HB := hid hb; have HS := hid hy0
        clear hb he hes hq hz HA Hy hy0 hs
        go_wp2
        go_ret
        exact ⟨by rw [HS.out]; rfl, HB.out⟩
    · have hm0 : m' ≠ 0 := fun h => hq0 (by have := hz.1 h; omega)
      have hmI : (0 : Int) < (m' : Int) := by omega
      have hl : s.length ≤ 1000000 := by
        have h1 := congrArg List.length he
        rw [List.length_append] at h1
        have h2 : (decZ0 y).length ≤ 1000000 := by
          unfold decZ0
          split
          · simp
          · exact Hy.out
        omega
      obtain ⟨dg, hdg⟩ : ∃ d : Int, d = (q : Int) % 10 := ⟨_, rfl⟩
      have HSh := hid (rshort_any _ (q : Int) K wr hq (by omega))
      rw [← hdg] at HSh
      have d0 : 0 ≤ dg := by omega
      have d1 : dg < 10 := by omega
      have w1 : IntKind.u8.wrap (48 + dg) = 48 + dg := by rw [IntKind.wrap_u8]; omega
      obtain ⟨ch, hch⟩ : ∃ c : UInt8, c = UInt8.ofNat (48 + q % 10) := ⟨_, rfl⟩
      have hcn : 48 + dg = ((ch.toNat : Nat) : Int) := by
        rw [hch, dig_nat (Nat.mod_lt _ (by decide)), hdg]; omega
      have hcv : ∀ W : World, (convert 105 9 (.slice (some ⟨W.heap.size, 0, none⟩) 1 1)).run Tryz.prog (W.alloc (.cells #[.int .u8 (48 + dg)] 5)) = .ok (.string ⟨#[ch]⟩) (W.alloc (.cells #[.int .u8 (48 + dg)] 5)) := fun W => by
        have h := run_convert_bytes_back (P := Tryz.prog) (W.alloc (.cells #[.int .u8 (48 + dg)] 5)) 105 9 5 ⟨W.heap.size, 0, none⟩ 1 [ch] Tryz.underlying105 Tryz.underlying5 Tryz.underlying9 (fun j hj => by
          obtain rfl : j = 0 := by simpa using hj
          exact (World.cell?_alloc_mark W #[.int .u8 (48 + dg)] 5 (0, 0) 0).trans (by rw [hcn]; rfl))
        simpa using h
      have hlen2 : ¬ 9223372036854775807 < 1 + s.length := by omega
      have HB := hid hb; have HE := hid he; have HDG := hid hdg; have Hq := hid hq; have HCH := hid hch
      clear hb he hq hz HA Hy hdg hm0 hch hcn
      go_wp2_with (go_at_call 67; refine HSh.out.mono ?_; rintro e w2 ⟨v2, rfl, hv2, hb2⟩; obtain ⟨ao2, m2, c2, rfl, _⟩ := Md.opened hv2)
      go_roundw
      case rel =>
        refine ⟨q / 10, ch :: s, ?_, ?_, ?_, (HB.out.trans (hb2.mono HB.out.size)).alloc (Nat.le_trans HB.out.size hb2.size) _⟩
        · have h := hv2.below (bl_new (w := w2) (.cells #[.int .u8 (48 + dg)] 5)) (Nat.le_refl _)
          rw [show ((q / 10 : Nat) : Int) = (q : Int) / 10 by omega]
          exact h
        · refine congrArg Value.string ?_
          apply ByteArray.ext
          simp [ByteArray.data_append]
        · rw [HE.out, decZ0_step hq0, HCH.out]; simp
      case measure =>
        rw [mdOf_eq (hv2.below (bl_new (w := w2) (.cells #[.int .u8 (48 + dg)] 5)) (Nat.le_refl _)), mdOf_eq Hq.out]
        omega
end Go.Proofs.YtbapeilpkhbbeaaGreatDoor

/- hodoscoperef01.Of: the integer of a number of 64 bits. -/
namespace Go.Proofs.YtbapeilpkhbbeaaGreatDoor
open Go.RowKit

set_option maxRecDepth 100000 in
set_option maxHeartbeats 4000000 in
theorem rof_any (n : Int) (w : World) (n0 : -9223372036854775808 ≤ n) (n1 : n < 9223372036854775808) :
    Calls Tryz.prog 17 #[.int .i64 n] w (RetZ w n 4) := by
  obtain ⟨W0, hW0⟩ : ∃ W0, W0 = (w.alloc (.cells #[.bool false, .slice none 0 0] 31)) := ⟨_, rfl⟩
  have hB0 : Below w.heap.size w W0 := by rw [hW0]; exact (Below.refl _ _).alloc (Nat.le_refl _) _
  have hw0 : W0.heap.size = w.heap.size + 1 := by rw [hW0]; simp
  have HT : Hid (∀ w', Below W0.heap.size W0 w' → w'.cell? ⟨w.heap.size, 0, none⟩ = some (.bool false) ∧ w'.cell? ⟨w.heap.size, 1, none⟩ = some (.slice none 0 0) ∧ w'.frozen? ⟨w.heap.size, 0, none⟩ = false ∧ w'.frozen? ⟨w.heap.size, 1, none⟩ = false) := hid (fun w' hb => by
    refine ⟨?_, ?_, ?_, ?_⟩ <;> (first | (rw [hb.cell (by rw [hw0]; simp), hW0]; simp [go_sem]; done) | (rw [hb.frozen (by rw [hw0]; simp), hW0]; simp [go_sem]; done)))
  obtain ⟨a, ha⟩ : ∃ a, a = (n.natAbs : Int) := ⟨_, rfl⟩
  have a0 : 0 ≤ a := by omega
  have a1 : a < 18446744073709551616 := by omega
  have HI0 := hid (show SpI W0 W0 a 0 (.slice none 0 0) [] a from ⟨GrI.start W0, a0, Int.le_refl _, by simp [val], .inl rfl⟩)
  have HN := hid a1
  have HA := hid ha
  have HB0 := hid hB0; have Hw0 := hid hw0; have HW := hid hW0
  obtain ⟨i0, hi, hz0, hz1, hz2⟩ := info_parts Tryz.info3
  have e1 : n < 0 → IntKind.u64.wrap n = n + 18446744073709551616 := fun h => by rw [IntKind.wrap_u64]; omega
  have e2 : n < 0 → IntKind.u64.wrap (-(n + 18446744073709551616)) = a := fun h => by rw [IntKind.wrap_u64]; omega
  have e3 : ¬ n < 0 → IntKind.u64.wrap n = a := fun h => by rw [IntKind.wrap_u64]; omega
  clear hB0 hw0 hW0 ha a0 a1
  by_cases hs : n < 0
  · replace e1 := e1 hs; replace e2 := e2 hs
    clear e3
    have HS : Hid (sgn true a = n) := hid (by have := HA.out; unfold sgn; simp; omega)
    go_enter Tryz.func17, Tryz.ntmps17
    go_wp2
    rw [← HW.out]
    go_loopw [3, 4] (fun mv ov wr => ∃ k : Nat, ∃ Q m, mv = .int .u64 m ∧ SpI W0 wr a k ov Q m) (fun mv _ _ => (intOf mv).toNat)
    case atStart => exact ⟨0, [], a, rfl, HI0.out⟩
    case round =>
      obtain ⟨k, Q, m, rfl, H⟩ := hrel
      have m0 := H.m0
      have hk := H.few HN.out
      have m1 : m < 18446744073709551616 := Int.lt_of_le_of_lt H.m1 HN.out
      by_cases hm : 0 < m
      · have HH := hid H
        have HNx := hid (fun wx ov' hg => H.next (wx := wx) (ov' := ov') hm hg)
        have htm : m.tmod 65536 = m % 65536 := Int.tmod_eq_emod_of_nonneg m0
        clear H HI0
        go_wp2_with (at_builtin; refine wpList_append_own _ rfl _ _ 29 rfl W0.heap.size 3 i0 (.int .i64 0) 1 8 Tryz.underlying29 hi hz0 hz1 hz2 rfl (by decide) _ k (Q.map (Value.int .i64)) rfl (HH.out.g.own.alloc _) ⟨wr.heap.size, 0, none⟩ 1 1 [.int .i64 (m % 65536)] rfl rfl ?c1 ?c2 ?c3 ?c4 ?c5 ?_)
        case c1 => exact fun j u hj => new_one0 j u hj
        case c2 => intro u hu; simp at hu; subst hu; rfl
        case c3 => unfold maxLen; omega
        case c4 => omega
        case c5 => have := HH.out.g.low.size; simp; omega
        intro ov' w3 hown hg _
        have HI := hid (HNx.out _ _ (HH.out.g.next _ (Int.emod_nonneg _ (by decide)) (Int.emod_lt_of_pos _ (by decide)) _ hown hg))
        clear hown hg
        go_wp2
        go_roundw
        case rel => exact ⟨k + 1, _, _, rfl, HI.out⟩
        case measure => simp [intOf]; omega
      · obtain rfl : m = 0 := by omega
        have hd := H.done HN.out
        have hlow := H.g.low
        have hbw := HB0.out.trans (hlow.mono (by have := Hw0.out; omega))
        clear H HI0 hm
        go_wp2_with fail
        refine (made_any true _ _ 4 _ hd.dg).mono ?_
        rintro e w1 ⟨_, rfl, hv1, hb1⟩
        obtain ⟨b1, o1, m1, c1, rfl, H1, _, _⟩ := Zt.opened hv1
        obtain ⟨hr0, hr1, hr2, hr3⟩ := HT.out _ (hlow.trans (hb1.mono hlow.size))
        have HBW := hid (hbw.trans (hb1.mono hbw.size))
        clear hd hlow hbw hb1 hv1
        go_wp2
        refine bodyPost_ret (v := .agg #[.bool b1, .slice o1 m1 c1]) (by simp [results, Tryz.results17, go_sem, hr0, hr1]) rfl ⟨_, rfl, ?_, (HBW.out.setCell (Nat.le_refl _) _).setCell (Nat.le_refl _) _⟩
        rw [HS.out] at H1
        exact ((H1.out _ (Below.refl _ _)).set hr0 (fun x h => (by cases h)) _).set (u := .slice none 0 0) (by simp [go_sem, hr1]) (fun x h => (by cases h)) _
  · replace e3 := e3 hs
    clear e1 e2
    have HS : Hid (sgn (decide (n < 0)) a = n) := hid (by have := HA.out; rw [decide_eq_false hs]; unfold sgn; simp; omega)
    go_enter Tryz.func17, Tryz.ntmps17
    go_wp2
    rw [← HW.out]
    go_loopw [3, 4] (fun mv ov wr => ∃ k : Nat, ∃ Q m, mv = .int .u64 m ∧ SpI W0 wr a k ov Q m) (fun mv _ _ => (intOf mv).toNat)
    case atStart => exact ⟨0, [], a, rfl, HI0.out⟩
    case round =>
      obtain ⟨k, Q, m, rfl, H⟩ := hrel
      have m0 := H.m0
      have hk := H.few HN.out
      have m1 : m < 18446744073709551616 := Int.lt_of_le_of_lt H.m1 HN.out
      by_cases hm : 0 < m
      · have HH := hid H
        have HNx := hid (fun wx ov' hg => H.next (wx := wx) (ov' := ov') hm hg)
        have htm : m.tmod 65536 = m % 65536 := Int.tmod_eq_emod_of_nonneg m0
        clear H HI0
        go_wp2_with (at_builtin; refine wpList_append_own _ rfl _ _ 29 rfl W0.heap.size 3 i0 (.int .i64 0) 1 8 Tryz.underlying29 hi hz0 hz1 hz2 rfl (by decide) _ k (Q.map (Value.int .i64)) rfl (HH.out.g.own.alloc _) ⟨wr.heap.size, 0, none⟩ 1 1 [.int .i64 (m % 65536)] rfl rfl ?c1 ?c2 ?c3 ?c4 ?c5 ?_)
        case c1 => exact fun j u hj => new_one0 j u hj
        case c2 => intro u hu; simp at hu; subst hu; rfl
        case c3 => unfold maxLen; omega
        case c4 => omega
        case c5 => have := HH.out.g.low.size; simp; omega
        intro ov' w3 hown hg _
        have HI := hid (HNx.out _ _ (HH.out.g.next _ (Int.emod_nonneg _ (by decide)) (Int.emod_lt_of_pos _ (by decide)) _ hown hg))
        clear hown hg
        go_wp2
        go_roundw
        case rel => exact ⟨k + 1, _, _, rfl, HI.out⟩
        case measure => simp [intOf]; omega
      · obtain rfl : m = 0 := by omega
        have hd := H.done HN.out
        have hlow := H.g.low
        have hbw := HB0.out.trans (hlow.mono (by have := Hw0.out; omega))
        clear H HI0 hm
        go_wp2_with fail
        refine (made_any (decide (n < 0)) _ _ 4 _ hd.dg).mono ?_
        rintro e w1 ⟨_, rfl, hv1, hb1⟩
        obtain ⟨b1, o1, m1, c1, rfl, H1, _, _⟩ := Zt.opened hv1
        obtain ⟨hr0, hr1, hr2, hr3⟩ := HT.out _ (hlow.trans (hb1.mono hlow.size))
        have HBW := hid (hbw.trans (hb1.mono hbw.size))
        clear hd hlow hbw hb1 hv1
        go_wp2
        refine bodyPost_ret (v := .agg #[.bool b1, .slice o1 m1 c1]) (by simp [results, Tryz.results17, go_sem, hr0, hr1]) rfl ⟨_, rfl, ?_, (HBW.out.setCell (Nat.le_refl _) _).setCell (Nat.le_refl _) _⟩
        rw [HS.out] at H1
        exact ((H1.out _ (Below.refl _ _)).set hr0 (fun x h => (by cases h)) _).set (u := .slice none 0 0) (by simp [go_sem, hr1]) (fun x h => (by cases h)) _
end Go.Proofs.YtbapeilpkhbbeaaGreatDoor
