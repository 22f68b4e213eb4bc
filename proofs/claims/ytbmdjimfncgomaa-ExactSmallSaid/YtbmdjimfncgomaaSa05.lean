/- hodoscoperef01.long: its walk: the quotient and the rest of two naturals. hodoscoperef01.Of: the integer of a number of 64 bits. The document's own integers: Div (the quotient rounded down, and its rest). Written by gen_rdiv.py. The document's own integers: From. -/
import Derived.Test.YtbmdjimfncgomaaSa04
import Derived.Deep.DeepCutAuto
import Derived.Deep.AppendLies
import Derived.Deep.CutBlock
import Derived.IntWalk
/- hodoscoperef01.long: its walk: the quotient and the rest of two naturals. -/
namespace Go.Proofs.Ytbmdjimfncgomaa
open Go.RowKit

theorem cM_eq (c M : Int) : (2 * c + 1 + 1) * M = c * (2 * M) + M + M := by grind

set_option maxRecDepth 100000 in
set_option maxHeartbeats 1000000 in
theorem rlong_big (va vb : Value) (a b : Int) (Ka K : Nat) (w : World) (hA : Md w va a Ka) (hB : Md w vb b K) (hb3 : ¬ (∀ ao c m, vb = .slice ao m c → m ≤ 3)) (hKa : Ka ≤ 1073741822) (hK : K ≤ 1073741822) :
    Calls Try.prog 68 #[va, vb] w (RetMM w (a / b) (a % b) Ka K) := by
  have hbl := hB.lt
  have hB' := hB
  obtain ⟨ao, ca, LA, rfl, hA⟩ := hA
  obtain ⟨bo, cb, LB, rfl, hB⟩ := hB
  obtain ⟨n, hn⟩ : ∃ n, n = LA.length := ⟨_, rfl⟩
  obtain ⟨m, hm⟩ : ∃ m, m = LB.length := ⟨_, rfl⟩
  have hn30 : n ≤ 1073741822 := by have := hA.le; omega
  have hm3 : ¬ m ≤ 3 := fun h => hb3 (fun ao c m' e => by obtain ⟨_, e2, _⟩ := Value.slice.inj e; omega)
  have hb : 0 < b := by
    have := hB.nrm.low R16_pos hB.dig (by omega)
    rw [hB.eq] at this
    have h1 : 0 < R16 ^ (LB.length - 1) := Int.pow_pos R16_pos
    omega
  rw [← hm] at hB'
  rw [← hn, ← hm]
  have hmb := fun (w' : World) (hb : Below w.heap.size w w') => hB'.below hb (Nat.le_refl _)
  have hnle := hA.le
  rw [← hn] at hnle
  have HA := hid hA; have Hn := hid hn; have HMB := hid hmb; have HBL := hid hbl
  clear hA hn hB hm hmb hB' hb3 hbl
  obtain ⟨i0, hi, hz0, hz1, hz2⟩ := info_parts Try.info3
  go_enter Try.func68, Try.ntmps68
  go_wp2_with fail
  refine (few_any bo cb m w).mono ?_
  rintro e w0 ⟨rfl, h0⟩
  obtain rfl : w = w0 := h0.symm
  go_wp2_with (at_make; refine wpList_make_row w rfl _ _ 26 rfl 3 i0 .i64 Try.underlying26 hi hz0 hz1 .i64 .i64 _ _ n rfl rfl rfl rfl (by rw [hz2]; omega) (by unfold maxLen; omega) ?_)
  intro w1 hrow hg1
  have hsz : w.heap.size < w1.heap.size := hrow.lt
  have hb1 := grown_below hg1
  have H0 : LgI w w1 w.heap.size LA b n K [] (.slice none 0 0) 0 := ⟨by simpa using hrow, grown_any hg1, by simpa using Hn.out, Dig.nil _, Int.le_refl 0, hb, by rw [List.drop_of_length_le (by have := Hn.out; omega)]; simp [val], (Md.nil _).mono (Nat.zero_le _), (fun _ _ _ _ e => by cases e), hsz⟩
  have HG1 := hid (HA.out.rd.ne (Nat.le_refl w.heap.size))
  have HB1 := hid hb1
  have HI0 := hid H0
  clear hrow hg1 hb1 H0
  go_wp2
  go_loopw [7, 8] (fun rv iv wr => ∃ j : Nat, ∃ QT r, j ≤ n ∧ iv = .int .i64 ((j : Int) - 1) ∧ LgI w wr w.heap.size LA b j K QT rv r ∧ Below w.heap.size w wr) (fun _ iv _ => (intOf iv + 1).toNat)
  case atStart => exact ⟨n, [], 0, Nat.le_refl _, rfl, HI0.out, HB1.out⟩
  case round =>
    obtain ⟨j, QT, r, hj, rfl, H, hbl2⟩ := hrel
    cases j with
    | zero =>
      have hr : Row .i64 3 wr w.heap.size QT := by have := H.row; simpa using this
      have hl : QT.length = n := by have := H.len; have := Hn.out; omega
      have he := H.eq
      rw [List.drop_zero, HA.out.eq] at he
      have hq : a / b = val R16 QT ∧ a % b = r := (Int.ediv_emod_unique hb).2 ⟨by rw [Int.mul_comm b]; omega, H.r0, H.r1⟩
      have ht := cut_any (some ⟨w.heap.size, 0, none⟩) n QT wr (rowi_rd hr (by omega) (by omega))
      have hres := md_row (c := n) (K := Ka) hr H.dig hq.1.symm (by omega) (by omega) (by omega)
      rw [hl] at ht
      have hmd := H.md
      rw [← hq.2] at hmd
      obtain ⟨ro, rm, rc, rfl, Hmd⟩ := Md.opened hmd
      have HT := hid ht; have Hres := hid hres; have HL2 := hid hbl2
      clear ht hres hr hl he hq H HI0 hmd hbl2
      go_wp2_with (go_at_call 78; refine HT.out.mono ?_; rintro e w2 ⟨rfl, rfl⟩)
      go_ret2
      exact ⟨_, _, rfl, Hres.out, Hmd.out _ (Below.refl _ _), HL2.out⟩
    | succ j =>
      have hjn : j < n := by omega
      obtain ⟨bb, o, rfl⟩ := HA.out.rd.adr (by have := Hn.out; omega)
      have hd := HA.out.dig.at R16_pos j
      have hcel : ∀ wx, w.grownBy wx (some w.heap.size) → wx.cell? ⟨bb, o + j, none⟩ = some (.int .i64 (LA[j]?.getD 0)) := fun wx hg => (HA.out.rd.keptNew hg HG1.out).cell bb o rfl j (by have := Hn.out; omega)
      obtain ⟨x, hx⟩ : ∃ x, x = LA[j]?.getD 0 := ⟨_, rfl⟩
      rw [← hx] at hcel hd
      have x0 := hd.1; have x1 : x < 65536 := hd.2
      have hT := H.eq; have hrb := H.r1
      have HT := hid hT; have Hrb := hid hrb
      have HC := hid hcel; have HX := hid hx
      have HE := hid (H.enter x0 x1)
      have HL2 := hid hbl2
      obtain ⟨rT, hrT⟩ : ∃ rT, rT = r := ⟨_, rfl⟩
      have HrT := hid hrT
      have hj1 : IntKind.i64.wrap (((j + 1 : Nat) : Int) - 1) = (j : Int) := by rw [IntWalk.i64_in _ (by omega)]; omega
      have hjj : (((j + 1 : Nat) : Int) - 1) = (j : Int) := by omega
      clear hd hcel hx H hT hrb hbl2 HI0 hrT
      rw [hjj]
      go_wp2
      go_loopw [7, 9] (fun rv bv wr2 => ∃ s : Nat, ∃ P c r, s ≤ 16 ∧ bv = .int .i64 ((2 : Int) ^ s / 2) ∧ LnI w wr2 w.heap.size LA b j K QT x ((2 : Int) ^ s) P c rv r ∧ Below w.heap.size w wr2) (fun _ bv _ => (intOf bv).toNat)
      case atStart => exact ⟨16, 1, 0, rT, by decide, rfl, by rw [HrT.out]; exact HE.out, HL2.out⟩
      case round =>
        obtain ⟨s, P, c, r2, hs, rfl, H, hbl2⟩ := hrel
        cases s with
        | zero =>
          obtain rfl : P = 65536 := by have := H.p.mp; simpa using this
          have hl := LnI.leave (rT := r) (by simpa using H) HX.out x1 hb HT.out Hrb.out
          have HG := hid hl; have HL3 := hid hbl2
          have hz : (2 : Int) ^ 0 / 2 = 0 := by decide
          rw [hz]
          clear hl H hbl2 HE HL2
          go_wp2
          go_roundw
          case rel => exact ⟨j, _, _, by omega, by go_num, HG.out, HL3.out⟩
          case measure => simp [intOf]
        | succ s =>
          have hM0 : (2 : Int) ^ (s + 1) = 2 * 2 ^ s := by rw [Int.pow_succ, Int.mul_comm]
          have hs3 : (0 : Int) < 2 ^ s := Int.pow_pos (by decide)
          rw [hM0] at H
          rw [hM0]
          obtain ⟨M, hM⟩ : ∃ M, M = (2 : Int) ^ s := ⟨_, rfl⟩
          rw [← hM] at H hs3 ⊢
          have hbit : 2 * M / 2 = M := by omega
          rw [hbit]
          have hM1 : M ≤ 32768 := by
            have h1 := H.p.mp; have h2 := H.p.p0
            have h3 : 1 * (2 * M) ≤ P * (2 * M) := Int.mul_le_mul_of_nonneg_right (by omega) (by omega)
            omega
          obtain ⟨d, hd⟩ : ∃ d, d = x / M % 2 := ⟨_, rfl⟩
          have d0 : 0 ≤ d := by omega
          have d1 : d ≤ 1 := by omega
          have hxM0 : 0 ≤ x / M := Int.ediv_nonneg x0 (by omega)
          have hxM1 : x / M ≤ x := Int.ediv_le_self _ x0
          have u1 : x.tdiv M = x / M := Int.tdiv_eq_ediv_of_nonneg x0
          have u2 : IntKind.i64.wrap (x / M) = x / M := IntWalk.i64_in _ (by omega)
          have u3 : (x / M).tmod 2 = d := by rw [Int.tmod_eq_emod_of_nonneg hxM0, hd]
          have u4 : IntKind.i64.wrap d = d := IntWalk.i64_in _ (by omega)
          have hMz : M ≠ 0 := by omega
          have hc := HC.out wr H.gr
          have hk0 : (0 : Int) ≤ (j : Int) := by omega
          have hdb := double_new _ r2 d K wr H.md.dg d0 d1 (by omega)
          have HDB := hid hdb; have HH := hid H; have HD := hid hd; have HM := hid hM; have HL3 := hid hbl2
          have u5 : M.tdiv 2 = M / 2 := Int.tdiv_eq_ediv_of_nonneg (by omega)
          clear H hdb hd hM hbl2 HE HL2 hM0
          go_wp2_with fail
          refine HDB.out.mono ?_
          rintro e w2 ⟨v2, rfl, hv2, hb2⟩
          have hbw2 : Below w.heap.size w w2 := HL3.out.trans (hb2.mono HL3.out.size)
          have hor := order_md v2 _ (2 * r2 + d) b (K + 1) K w2 hv2.1 (HMB.out w2 hbw2)
          by_cases hge : b ≤ 2 * r2 + d
          · have hcm : 0 ≤ cmpI (2 * r2 + d) b := by unfold cmpI; split <;> (try split) <;> omega
            obtain ⟨t, ht⟩ : ∃ t, t = cmpI (2 * r2 + d) b := ⟨_, rfl⟩
            rw [← ht] at hor hcm
            have hls := less_new v2 _ (2 * r2 + d) b (K + 1) K w2 hv2.1 (HMB.out w2 hbw2) hge (by omega)
            have HOR := hid hor; have HLS := hid hls; have HB2 := hid hb2; have HBW2 := hid hbw2; have HGE := hid hge
            clear hor hls hb2 hbw2 hv2 ht hge
            go_wp2_with fail
            refine HOR.out.mono ?_
            rintro e w3 ⟨rfl, h3⟩
            obtain rfl : w2 = w3 := h3.symm
            go_wp2_with fail
            refine HLS.out.mono ?_
            rintro e w3 ⟨v3, rfl, hv3, hb3⟩
            have HN := hid (LnI.highStep HH.out hs3 (by rw [← HD.out]; exact HGE.out) HBL.out HB2.out hb3 (by rw [← HD.out]; exact hv3))
            have hrow := (HH.out.row.kept (below_grown HB2.out) (by simp)).kept (below_grown hb3) (by simp)
            have hq := hrow.cell j (by simp)
            have hf := hrow.frozen j
            rw [List.getElem?_append_right (by simp), List.length_replicate, Nat.sub_self] at hq
            have hbnd := (HH.out.p.high hs3 (by rw [← HD.out]; exact HGE.out)).small x1 HT.out Hrb.out hb
            have hcM : c * (2 * M) + M < 65536 ∧ 0 ≤ c * (2 * M) := by
              have h1 := (HH.out.p.high hs3 (by rw [← HD.out]; exact HGE.out)).mp
              have h2 : (2 * c + 1 + 1) * M ≤ 2 * P * M := Int.mul_le_mul_of_nonneg_right (by omega) (by omega)
              have h3 : 0 ≤ c * (2 * M) := Int.mul_nonneg HH.out.p.c0 (by omega)
              refine ⟨?_, h3⟩
              rw [h1] at h2
              have h4 : (2 * c + 1 + 1) * M = c * (2 * M) + M + M := cM_eq c M
              omega
            obtain ⟨cM, hcMe⟩ : ∃ cM, cM = c * (2 * M) := ⟨_, rfl⟩
            rw [← hcMe] at HN hq hcM
            have hq2 : w3.cell? ⟨w.heap.size, j, none⟩ = some (.int .i64 cM) := by simpa using hq
            have hcM1 := hcM.1; have hcM2 := hcM.2
            have u6 : IntKind.i64.wrap (cM + M) = cM + M := IntWalk.i64_in _ (by omega)
            have HBW3 := hid (HBW2.out.trans (hb3.mono HBW2.out.size))
            clear hrow hq hbnd hcM hcMe hb3 hv3 h3
            go_wp2
            go_roundw
            case rel => exact ⟨s, _, _, _, by omega, by rw [HM.out], by rw [← HM.out]; exact HN.out, HBW3.out.setCell (Nat.le_refl _) _⟩
            case measure => simp [intOf]; omega
          · have hcm : cmpI (2 * r2 + d) b < 0 := by unfold cmpI; split <;> (try split) <;> omega
            obtain ⟨t, ht⟩ : ∃ t, t = cmpI (2 * r2 + d) b := ⟨_, rfl⟩
            rw [← ht] at hor hcm
            have HOR := hid hor; have HB2 := hid hb2; have HBW2 := hid hbw2
            have HN := hid (LnI.lowStep HH.out hs3 (by rw [← HD.out]; omega) HBL.out hb2 (by rw [← HD.out]; exact hv2))
            clear hor hb2 hbw2 hv2 ht hge
            go_wp2_with fail
            refine HOR.out.mono ?_
            rintro e w3 ⟨rfl, h3⟩
            obtain rfl : w2 = w3 := h3.symm
            go_wp2
            go_roundw
            case rel => exact ⟨s, _, _, _, by omega, by rw [HM.out], by rw [← HM.out]; exact HN.out, HBW2.out⟩
            case measure => simp [intOf]; omega

set_option maxRecDepth 100000 in
set_option maxHeartbeats 1000000 in
theorem rlong_few (va : Value) (bo : Option Addr) (m cb : Nat) (a b : Int) (Ka : Nat) (w : World) (hA : Md w va a Ka) (hB : Md w (.slice bo m cb) b 3) (hb : 0 < b) (hm : m ≤ 3) (hKa : Ka ≤ 1073741822) :
    Calls Try.prog 68 #[va, .slice bo m cb] w (RetMM w (a / b) (a % b) Ka 3) := by
  have hf := byFew_any va _ a b Ka w hA hB hb (by omega)
  have HF := hid hf
  clear hf hA hB
  go_enter Try.func68, Try.ntmps68
  go_wp2_with fail
  refine (few_any bo cb m w).mono ?_
  rintro e w0 ⟨rfl, h0⟩
  obtain rfl : w = w0 := h0.symm
  go_wp2_with fail
  refine HF.out.mono ?_
  rintro e w1 ⟨v1, v2, rfl, h1, h2, h3⟩
  go_wp2
  go_ret2
  exact ⟨_, _, rfl, h1, h2, h3⟩

theorem rlong_any (va vb : Value) (a b : Int) (Ka K : Nat) (w : World) (hA : Md w va a Ka) (hB : Md w vb b K) (hb : 0 < b) (hKa : Ka ≤ 1073741822) (hK : K ≤ 1073741822) :
    Calls Try.prog 68 #[va, vb] w (RetMM w (a / b) (a % b) Ka K) := by
  obtain ⟨bo, cb, LB, rfl, hBl⟩ := id hB
  by_cases hm : LB.length ≤ 3
  · refine (rlong_few va bo LB.length cb a b Ka w hA ⟨bo, cb, LB, rfl, hBl.rd, hBl.dig, hBl.nrm, hBl.eq, hm⟩ hb hm hKa).mono ?_
    rintro e w' ⟨v1, v2, rfl, h1, h2, h3⟩
    exact ⟨v1, v2, rfl, h1, h2.tight (Int.lt_trans (Int.emod_lt_of_pos _ hb) hB.lt), h3⟩
  · exact rlong_big va _ a b Ka K w hA hB (fun h => hm (h bo cb LB.length rfl)) hKa hK
end Go.Proofs.Ytbmdjimfncgomaa

/- hodoscoperef01.Of: the integer of a number of 64 bits. -/
namespace Go.Proofs.Ytbmdjimfncgomaa
open Go.RowKit

set_option maxRecDepth 100000 in
set_option maxHeartbeats 4000000 in
theorem rof_any (n : Int) (w : World) (n0 : -9223372036854775808 ≤ n) (n1 : n < 9223372036854775808) :
    Calls Try.prog 35 #[.int .i64 n] w (RetZ w n 4) := by
  obtain ⟨W0, hW0⟩ : ∃ W0, W0 = (w.alloc (.cells #[.bool false, .slice none 0 0] 28)) := ⟨_, rfl⟩
  have hB0 : Below w.heap.size w W0 := by rw [hW0]; exact (Below.refl _ _).alloc (Nat.le_refl _) _
  have hw0 : W0.heap.size = w.heap.size + 1 := by rw [hW0]; simp
  have HT : Hid (∀ w', Below W0.heap.size W0 w' → w'.cell? ⟨w.heap.size, 0, none⟩ = some (.bool false) ∧ w'.cell? ⟨w.heap.size, 1, none⟩ = some (.slice none 0 0) ∧ w'.frozen? ⟨w.heap.size, 0, none⟩ = false ∧ w'.frozen? ⟨w.heap.size, 1, none⟩ = false) := hid (fun w' hb => by
    refine ⟨?_, ?_, ?_, ?_⟩ <;> (first | (rw [hb.cell (by rw [hw0]; simp), hW0]; simp [go_sem]; done) | (rw [hb.frozen (by rw [hw0]; simp), hW0]; simp [go_sem]; done)))
  obtain ⟨a, ha⟩ : ∃ a, a = (n.natAbs : Int) := ⟨_, rfl⟩
  have a0 : 0 ≤ a := by omega
  have a1 : a < 18446744073709551616 := by omega
  have HI0 := hid (show SpI W0 W0 a 0 (.slice none 0 0) [] a from ⟨GrI.start W0, a0, Int.le_refl _, by simp [val], .inl rfl⟩)
  have HN := hid a1
  have HA := hid ha
  have HB0 := hid hB0; have Hw0 := hid hw0; have HW := hid hW0
  obtain ⟨i0, hi, hz0, hz1, hz2⟩ := info_parts Try.info3
  have e1 : n < 0 → IntKind.u64.wrap n = n + 18446744073709551616 := fun h => by rw [IntKind.wrap_u64]; omega
  have e2 : n < 0 → IntKind.u64.wrap (-(n + 18446744073709551616)) = a := fun h => by rw [IntKind.wrap_u64]; omega
  have e3 : ¬ n < 0 → IntKind.u64.wrap n = a := fun h => by rw [IntKind.wrap_u64]; omega
  clear hB0 hw0 hW0 ha a0 a1
  by_cases hs : n < 0
  · replace e1 := e1 hs; replace e2 := e2 hs
    clear e3
    have HS : Hid (sgn true a = n) := hid (by have := HA.out; unfold sgn; simp; omega)
    go_enter Try.func35, Try.ntmps35
    go_wp2
    rw [← HW.out]
    go_loopw [3, 4] (fun mv ov wr => ∃ k : Nat, ∃ Q m, mv = .int .u64 m ∧ SpI W0 wr a k ov Q m) (fun mv _ _ => (intOf mv).toNat)
    case atStart => exact ⟨0, [], a, rfl, HI0.out⟩
    case round =>
      obtain ⟨k, Q, m, rfl, H⟩ := hrel
      have m0 := H.m0
      have hk := H.few HN.out
      have m1 : m < 18446744073709551616 := Int.lt_of_le_of_lt H.m1 HN.out
      by_cases hm : 0 < m
      · have HH := hid H
        have HNx := hid (fun wx ov' hg => H.next (wx := wx) (ov' := ov') hm hg)
        have htm : m.tmod 65536 = m % 65536 := Int.tmod_eq_emod_of_nonneg m0
        clear H HI0
        go_wp2_with (at_builtin; refine wpList_append_own _ rfl _ _ 26 rfl W0.heap.size 3 i0 (.int .i64 0) 1 8 Try.underlying26 hi hz0 hz1 hz2 rfl (by decide) _ k (Q.map (Value.int .i64)) rfl (HH.out.g.own.alloc _) ⟨wr.heap.size, 0, none⟩ 1 1 [.int .i64 (m % 65536)] rfl rfl ?c1 ?c2 ?c3 ?c4 ?c5 ?_)
        case c1 => exact fun j u hj => new_one0 j u hj
        case c2 => intro u hu; simp at hu; subst hu; rfl
        case c3 => unfold maxLen; omega
        case c4 => omega
        case c5 => have := HH.out.g.low.size; simp; omega
        intro ov' w3 hown hg _
        have HI := hid (HNx.out _ _ (HH.out.g.next _ (Int.emod_nonneg _ (by decide)) (Int.emod_lt_of_pos _ (by decide)) _ hown hg))
        clear hown hg
        go_wp2
        go_roundw
        case rel => exact ⟨k + 1, _, _, rfl, HI.out⟩
        case measure => simp [intOf]; omega
      · obtain rfl : m = 0 := by omega
        have hd := H.done HN.out
        have hlow := H.g.low
        have hbw := HB0.out.trans (hlow.mono (by have := Hw0.out; omega))
        clear H HI0 hm
        go_wp2_with fail
        refine (made_any true _ _ 4 _ hd.dg).mono ?_
        rintro e w1 ⟨_, rfl, hv1, hb1⟩
        obtain ⟨b1, o1, m1, c1, rfl, H1, _, _⟩ := Zt.opened hv1
        obtain ⟨hr0, hr1, hr2, hr3⟩ := HT.out _ (hlow.trans (hb1.mono hlow.size))
        have HBW := hid (hbw.trans (hb1.mono hbw.size))
        clear hd hlow hbw hb1 hv1
        go_wp2
        refine bodyPost_ret (v := .agg #[.bool b1, .slice o1 m1 c1]) (by simp [results, Try.results35, go_sem, hr0, hr1]) rfl ⟨_, rfl, ?_, (HBW.out.setCell (Nat.le_refl _) _).setCell (Nat.le_refl _) _⟩
        rw [HS.out] at H1
        exact ((H1.out _ (Below.refl _ _)).set hr0 (fun x h => (by cases h)) _).set (u := .slice none 0 0) (by simp [go_sem, hr1]) (fun x h => (by cases h)) _
  · replace e3 := e3 hs
    clear e1 e2
    have HS : Hid (sgn (decide (n < 0)) a = n) := hid (by have := HA.out; rw [decide_eq_false hs]; unfold sgn; simp; omega)
    go_enter Try.func35, Try.ntmps35
    go_wp2
    rw [← HW.out]
    go_loopw [3, 4] (fun mv ov wr => ∃ k : Nat, ∃ Q m, mv = .int .u64 m ∧ SpI W0 wr a k ov Q m) (fun mv _ _ => (intOf mv).toNat)
    case atStart => exact ⟨0, [], a, rfl, HI0.out⟩
    case round =>
      obtain ⟨k, Q, m, rfl, H⟩ := hrel
      have m0 := H.m0
      have hk := H.few HN.out
      have m1 : m < 18446744073709551616 := Int.lt_of_le_of_lt H.m1 HN.out
      by_cases hm : 0 < m
      · have HH := hid H
        have HNx := hid (fun wx ov' hg => H.next (wx := wx) (ov' := ov') hm hg)
        have htm : m.tmod 65536 = m % 65536 := Int.tmod_eq_emod_of_nonneg m0
        clear H HI0
        go_wp2_with (at_builtin; refine wpList_append_own _ rfl _ _ 26 rfl W0.heap.size 3 i0 (.int .i64 0) 1 8 Try.underlying26 hi hz0 hz1 hz2 rfl (by decide) _ k (Q.map (Value.int .i64)) rfl (HH.out.g.own.alloc _) ⟨wr.heap.size, 0, none⟩ 1 1 [.int .i64 (m % 65536)] rfl rfl ?c1 ?c2 ?c3 ?c4 ?c5 ?_)
        case c1 => exact fun j u hj => new_one0 j u hj
        case c2 => intro u hu; simp at hu; subst hu; rfl
        case c3 => unfold maxLen; omega
        case c4 => omega
        case c5 => have := HH.out.g.low.size; simp; omega
        intro ov' w3 hown hg _
        have HI := hid (HNx.out _ _ (HH.out.g.next _ (Int.emod_nonneg _ (by decide)) (Int.emod_lt_of_pos _ (by decide)) _ hown hg))
        clear hown hg
        go_wp2
        go_roundw
        case rel => exact ⟨k + 1, _, _, rfl, HI.out⟩
        case measure => simp [intOf]; omega
      · obtain rfl : m = 0 := by omega
        have hd := H.done HN.out
        have hlow := H.g.low
        have hbw := HB0.out.trans (hlow.mono (by have := Hw0.out; omega))
        clear H HI0 hm
        go_wp2_with fail
        refine (made_any (decide (n < 0)) _ _ 4 _ hd.dg).mono ?_
        rintro e w1 ⟨_, rfl, hv1, hb1⟩
        obtain ⟨b1, o1, m1, c1, rfl, H1, _, _⟩ := Zt.opened hv1
        obtain ⟨hr0, hr1, hr2, hr3⟩ := HT.out _ (hlow.trans (hb1.mono hlow.size))
        have HBW := hid (hbw.trans (hb1.mono hbw.size))
        clear hd hlow hbw hb1 hv1
        go_wp2
        refine bodyPost_ret (v := .agg #[.bool b1, .slice o1 m1 c1]) (by simp [results, Try.results35, go_sem, hr0, hr1]) rfl ⟨_, rfl, ?_, (HBW.out.setCell (Nat.le_refl _) _).setCell (Nat.le_refl _) _⟩
        rw [HS.out] at H1
        exact ((H1.out _ (Below.refl _ _)).set hr0 (fun x h => (by cases h)) _).set (u := .slice none 0 0) (by simp [go_sem, hr1]) (fun x h => (by cases h)) _
end Go.Proofs.Ytbmdjimfncgomaa

/- The document's own integers: Div (the quotient rounded down, and its rest). Written by gen_rdiv.py. -/
namespace Go.Proofs.Ytbmdjimfncgomaa
open Go.RowKit

/-- A result of Div: both numbers, and the error. -/
def RetZZ (w : World) (q r : Int) (Kq Kr : Nat) (err : Int) (e : Ending) (w' : World) : Prop := ∃ v1 v2, e = .returned (.tuple #[v1, v2, .int .i64 err]) ∧ Zt w' v1 q Kq ∧ Zt w' v2 r Kr ∧ Below w.heap.size w w'

theorem zt_keeps {z : Int} {K : Nat} {w w' : World} {v : Value} (hk : Keeps .i64 w w') (h : Zt w v z K) : Zt w' v z K := by
  obtain ⟨s, rfl, ao, c, L, rfl, h⟩ := h
  exact ⟨_, rfl, ao, c, L, rfl, h.rd.keeps hk, h.dig, h.nrm, h.eq, h.le⟩
theorem zt_zero (w : World) : Zt w (.agg #[.bool false, .slice none 0 0]) 0 0 := ⟨_, rfl, Md.nil w⟩
theorem one_md {w : World} : Md (w.alloc (.cells #[.int .i64 1] 3 (0, 0))) (.slice (some ⟨w.heap.size, 0, none⟩) 1 1) 1 1 :=
  ⟨_, 1, [1], rfl, rowi_rd (show Row .i64 3 _ _ [1] from heap_alloc_new w _) (by simp) (by simp), Dig.cons (by decide) (by decide) (Dig.nil _), by simp [Nrm, trimL], by decide, by decide⟩

set_option maxRecDepth 100000 in
set_option maxHeartbeats 2000000 in
theorem rdiv_zero (u v : Value) (x : Int) (K : Nat) (w : World) (hu : Zt w u x K) (hv : Zt w v 0 K) :
    Calls Try.prog 27 #[u, v] w (RetZZ w 0 0 0 0 10) := by
  obtain ⟨xb, xo, xm, xc, rfl, Hx, Hxs, Hxb⟩ := Zt.opened hu
  obtain ⟨_, rfl, yo, yc, YL, rfl, hy⟩ := hv
  obtain ⟨ym, hym⟩ : ∃ ym, ym = YL.length := ⟨_, rfl⟩
  have h0 : ym = 0 := by rw [hym]; exact hy.zero_iff.2 (by simp)
  rw [← hym]
  obtain ⟨yb, hyb⟩ : ∃ yb, yb = decide ((0 : Int) < 0) := ⟨_, rfl⟩
  rw [← hyb]
  subst h0
  clear hy hym hyb hu
  go_enter Try.func27, Try.ntmps27
  go_upto_region 1 with (fail)
  obtain ⟨W0, hW0⟩ : ∃ W0, W0 = ((((w.alloc (.cells #[.bool xb, .slice xo xm xc] 28)).alloc (.cells #[.bool yb, .slice yo 0 yc] 28)).alloc (.cells #[.bool false, .slice none 0 0] 28)).alloc (.cells #[.bool false, .slice none 0 0] 28)) := ⟨_, rfl⟩
  have hB0 : Below w.heap.size w W0 := by rw [hW0]; exact ((((Below.refl _ _).alloc (by simp <;> omega) _).alloc (by simp <;> omega) _).alloc (by simp <;> omega) _).alloc (by simp <;> omega) _
  have hz0 : W0.heap.size = w.heap.size + 4 := by rw [hW0]; simp
  have HS : Hid (∀ w', Below (w.heap.size + 2) W0 w' → w'.cell? ⟨w.heap.size, 0, none⟩ = some (.bool xb) ∧ w'.cell? ⟨w.heap.size, 1, none⟩ = some (.slice xo xm xc) ∧ w'.cell? ⟨w.heap.size + 1, 0, none⟩ = some (.bool yb) ∧ w'.cell? ⟨w.heap.size + 1, 1, none⟩ = some (.slice yo 0 yc)) := hid (fun w' hb => by
    refine ⟨?_, ?_, ?_, ?_⟩ <;> (first | (rw [hb.cell (by simp <;> omega), hW0]; simp [go_sem]; done) | (rw [hb.frozen (by simp <;> omega), hW0]; simp [go_sem]; done)))
  have HT : Hid (∀ w', Below (w.heap.size + 4) W0 w' → (w'.cell? ⟨w.heap.size + 2, 0, none⟩ = some (.bool false) ∧ w'.cell? ⟨w.heap.size + 2, 1, none⟩ = some (.slice none 0 0) ∧ w'.frozen? ⟨w.heap.size + 2, 0, none⟩ = false ∧ w'.frozen? ⟨w.heap.size + 2, 1, none⟩ = false) ∧ (w'.cell? ⟨w.heap.size + 3, 0, none⟩ = some (.bool false) ∧ w'.cell? ⟨w.heap.size + 3, 1, none⟩ = some (.slice none 0 0) ∧ w'.frozen? ⟨w.heap.size + 3, 0, none⟩ = false ∧ w'.frozen? ⟨w.heap.size + 3, 1, none⟩ = false)) := hid (fun w' hb => by
    refine ⟨⟨?_, ?_, ?_, ?_⟩, ?_, ?_, ?_, ?_⟩ <;> (first | (rw [hb.cell (by simp <;> omega), hW0]; simp [go_sem]; done) | (rw [hb.frozen (by simp <;> omega), hW0]; simp [go_sem]; done)))
  rw [← hW0]
  clear hW0
  obtain ⟨k0, k1, k2, k3⟩ := HS.out _ (Below.refl _ _)
  obtain ⟨⟨hr0, hr1, hr2, hr3⟩, hs0, hs1, hs2, hs3⟩ := HT.out _ (Below.refl _ _)
  go_wp2
  refine bodyPost_ret (v := .tuple #[.agg #[.bool false, .slice none 0 0], .agg #[.bool false, .slice none 0 0], .int .i64 10]) (by simp [results, Try.results27, go_sem, hr0, hr1, hs0, hs1]) rfl ⟨_, _, rfl, zt_zero _, zt_zero _, (((hB0.setCell (by simp <;> omega) _).setCell (by simp <;> omega) _).setCell (by simp <;> omega) _).setCell (by simp <;> omega) _⟩

theorem fdiv_uniq {x y q r : Int} (e : x = q * y + r) (h : (0 ≤ r ∧ r < y) ∨ (y < r ∧ r ≤ 0)) : x.fdiv y = q ∧ x.fmod y = r := by
  rcases h with ⟨h0, h1⟩ | ⟨h0, h1⟩
  · have hy : 0 < y := by omega
    rw [Int.fdiv_eq_ediv_of_nonneg _ (Int.le_of_lt hy), Int.fmod_eq_emod_of_nonneg _ (Int.le_of_lt hy)]
    exact (Int.ediv_emod_unique hy).2 ⟨by rw [e, Int.mul_comm]; omega, h0, h1⟩
  · have hy : 0 < -y := by omega
    have hq : x.fdiv y = q := by
      rw [← Int.neg_fdiv_neg, Int.fdiv_eq_ediv_of_nonneg _ (Int.le_of_lt hy)]
      exact ((Int.ediv_emod_unique (a := -x) (r := -r) (q := q) hy).2 ⟨by rw [e, Int.mul_comm q y, Int.neg_mul]; omega, by omega, by omega⟩).1
    refine ⟨hq, ?_⟩
    rw [Int.fmod_def, hq, e, Int.mul_comm]
    omega
theorem abs_div (x y : Int) (hy : y ≠ 0) : (x.natAbs : Int) = (x.natAbs : Int) / (y.natAbs : Int) * (y.natAbs : Int) + (x.natAbs : Int) % (y.natAbs : Int) ∧ 0 ≤ (x.natAbs : Int) % (y.natAbs : Int) ∧ (x.natAbs : Int) % (y.natAbs : Int) < (y.natAbs : Int) := by
  have h : (0 : Int) < (y.natAbs : Int) := by omega
  refine ⟨?_, Int.emod_nonneg _ (by omega), Int.emod_lt_of_pos _ h⟩
  have := Int.emod_add_mul_ediv (x.natAbs : Int) (y.natAbs : Int)
  rw [Int.mul_comm ((x.natAbs : Int) / (y.natAbs : Int))]
  omega
theorem fdiv_same (x y : Int) (hy : y ≠ 0) (hs : decide (x < 0) = decide (y < 0)) : sgn false ((x.natAbs : Int) / (y.natAbs : Int)) = x.fdiv y ∧ sgn (decide (x < 0)) ((x.natAbs : Int) % (y.natAbs : Int)) = x.fmod y := by
  obtain ⟨e, h0, h1⟩ := abs_div x y hy
  generalize (x.natAbs : Int) / (y.natAbs : Int) = q at *
  generalize (x.natAbs : Int) % (y.natAbs : Int) = r at *
  by_cases hx : x < 0
  · have hy2 : y < 0 := by simpa [hx] using hs.symm
    have ea : (x.natAbs : Int) = -x := by omega
    have eb : (y.natAbs : Int) = -y := by omega
    rw [ea, eb] at e
    rw [eb] at h1
    have h := fdiv_uniq (x := x) (y := y) (q := q) (r := -r) (by rw [Int.mul_neg] at e; omega) (Or.inr ⟨by omega, by omega⟩)
    simp only [sgn, hx, decide_true, if_true, h.1, h.2]
    simp
  · have hy2 : ¬ y < 0 := by simpa [hx] using hs.symm
    have ea : (x.natAbs : Int) = x := by omega
    have eb : (y.natAbs : Int) = y := by omega
    rw [ea, eb] at e
    rw [eb] at h1
    have h := fdiv_uniq (x := x) (y := y) (q := q) (r := r) (by omega) (Or.inl ⟨by omega, by omega⟩)
    simp [sgn, hx, h.1, h.2]
theorem fdiv_even (x y : Int) (hy : y ≠ 0) (hs : decide (x < 0) ≠ decide (y < 0)) (hr : (x.natAbs : Int) % (y.natAbs : Int) = 0) : sgn true ((x.natAbs : Int) / (y.natAbs : Int)) = x.fdiv y ∧ sgn (decide (x < 0)) ((x.natAbs : Int) % (y.natAbs : Int)) = x.fmod y := by
  obtain ⟨e, h0, h1⟩ := abs_div x y hy
  rw [hr] at e ⊢
  generalize (x.natAbs : Int) / (y.natAbs : Int) = q at *
  by_cases hx : x < 0
  · have hy2 : ¬ y < 0 := by simpa [hx] using hs
    have ea : (x.natAbs : Int) = -x := by omega
    have eb : (y.natAbs : Int) = y := by omega
    rw [ea, eb] at e
    have h := fdiv_uniq (x := x) (y := y) (q := -q) (r := 0) (by rw [Int.neg_mul]; omega) (Or.inl ⟨by omega, by omega⟩)
    simp [sgn, h.1, h.2]
  · have hy2 : y < 0 := by simpa [hx] using hs
    have ea : (x.natAbs : Int) = x := by omega
    have eb : (y.natAbs : Int) = -y := by omega
    rw [ea, eb] at e
    have h := fdiv_uniq (x := x) (y := y) (q := -q) (r := 0) (by rw [Int.neg_mul]; rw [Int.mul_neg] at e; omega) (Or.inr ⟨by omega, by omega⟩)
    simp [sgn, h.1, h.2]
theorem fdiv_floor (x y : Int) (hy : y ≠ 0) (hs : decide (x < 0) ≠ decide (y < 0)) (hr : (x.natAbs : Int) % (y.natAbs : Int) ≠ 0) :
    sgn true ((x.natAbs : Int) / (y.natAbs : Int) + 1) = x.fdiv y ∧ sgn (decide (y < 0)) ((y.natAbs : Int) - (x.natAbs : Int) % (y.natAbs : Int)) = x.fmod y := by
  obtain ⟨e, h0, h1⟩ := abs_div x y hy
  generalize (x.natAbs : Int) / (y.natAbs : Int) = q at *
  generalize (x.natAbs : Int) % (y.natAbs : Int) = r at *
  by_cases hx : x < 0
  · have hy2 : ¬ y < 0 := by simpa [hx] using hs
    have ea : (x.natAbs : Int) = -x := by omega
    have eb : (y.natAbs : Int) = y := by omega
    rw [ea, eb] at e
    rw [eb] at h1 ⊢
    have h := fdiv_uniq (x := x) (y := y) (q := -(q + 1)) (r := y - r) (by rw [Int.neg_mul, Int.add_mul]; omega) (Or.inl ⟨by omega, by omega⟩)
    simp [sgn, h.1, h.2, hy2]
  · have hy2 : y < 0 := by simpa [hx] using hs
    have ea : (x.natAbs : Int) = x := by omega
    have eb : (y.natAbs : Int) = -y := by omega
    rw [ea, eb] at e
    rw [eb] at h1 ⊢
    have h := fdiv_uniq (x := x) (y := y) (q := -(q + 1)) (r := y + r) (by rw [Int.neg_mul, Int.add_mul]; rw [Int.mul_neg] at e; omega) (Or.inr ⟨by omega, by omega⟩)
    simp [sgn, h.1, h.2, hy2]
    omega

set_option maxRecDepth 100000 in
set_option maxHeartbeats 2000000 in
theorem rdiv_same (u v : Value) (x y : Int) (K : Nat) (w : World) (hu : Zt w u x K) (hv : Zt w v y K) (hy : y ≠ 0) (hK : K ≤ 1073741822) (hs : decide (x < 0) = decide (y < 0)) :
    Calls Try.prog 27 #[u, v] w (RetZZ w (x.fdiv y) (x.fmod y) (K + 2) K 0) := by
  obtain ⟨xb, xo, xm, xc, rfl, Hx, Hxs, Hxb⟩ := Zt.opened hu
  obtain ⟨yb, yo, ym, yc, rfl, Hy, Hys, Hyb⟩ := Zt.opened hv
  have hy0 : (0 : Int) < (y.natAbs : Int) := by omega
  have hym : ym ≠ 0 := by
    obtain ⟨ao, c, L, e, hl⟩ := Hys.out _ (Below.refl _ _)
    obtain ⟨_, rfl, _⟩ := Value.slice.inj e
    intro h0
    have := hl.zero_iff.1 h0
    omega
  have hb : xb = yb := by rw [Hxb.out, Hyb.out, hs]
  subst hb
  have HE := hid (fdiv_same x y hy hs)
  clear hu hv
  go_enter Try.func27, Try.ntmps27
  go_upto_region 1 with (fail)
  obtain ⟨W0, hW0⟩ : ∃ W0, W0 = ((((w.alloc (.cells #[.bool xb, .slice xo xm xc] 28)).alloc (.cells #[.bool xb, .slice yo ym yc] 28)).alloc (.cells #[.bool false, .slice none 0 0] 28)).alloc (.cells #[.bool false, .slice none 0 0] 28)) := ⟨_, rfl⟩
  have hB0 : Below w.heap.size w W0 := by rw [hW0]; exact ((((Below.refl _ _).alloc (by simp <;> omega) _).alloc (by simp <;> omega) _).alloc (by simp <;> omega) _).alloc (by simp <;> omega) _
  have hz0 : W0.heap.size = w.heap.size + 4 := by rw [hW0]; simp
  have HS : Hid (∀ w', Below (w.heap.size + 2) W0 w' → w'.cell? ⟨w.heap.size, 0, none⟩ = some (.bool xb) ∧ w'.cell? ⟨w.heap.size, 1, none⟩ = some (.slice xo xm xc) ∧ w'.cell? ⟨w.heap.size + 1, 0, none⟩ = some (.bool xb) ∧ w'.cell? ⟨w.heap.size + 1, 1, none⟩ = some (.slice yo ym yc)) := hid (fun w' hb => by
    refine ⟨?_, ?_, ?_, ?_⟩ <;> (first | (rw [hb.cell (by simp <;> omega), hW0]; simp [go_sem]; done) | (rw [hb.frozen (by simp <;> omega), hW0]; simp [go_sem]; done)))
  have HT : Hid (∀ w', Below (w.heap.size + 4) W0 w' → (w'.cell? ⟨w.heap.size + 2, 0, none⟩ = some (.bool false) ∧ w'.cell? ⟨w.heap.size + 2, 1, none⟩ = some (.slice none 0 0) ∧ w'.frozen? ⟨w.heap.size + 2, 0, none⟩ = false ∧ w'.frozen? ⟨w.heap.size + 2, 1, none⟩ = false) ∧ (w'.cell? ⟨w.heap.size + 3, 0, none⟩ = some (.bool false) ∧ w'.cell? ⟨w.heap.size + 3, 1, none⟩ = some (.slice none 0 0) ∧ w'.frozen? ⟨w.heap.size + 3, 0, none⟩ = false ∧ w'.frozen? ⟨w.heap.size + 3, 1, none⟩ = false)) := hid (fun w' hb => by
    refine ⟨⟨?_, ?_, ?_, ?_⟩, ?_, ?_, ?_, ?_⟩ <;> (first | (rw [hb.cell (by simp <;> omega), hW0]; simp [go_sem]; done) | (rw [hb.frozen (by simp <;> omega), hW0]; simp [go_sem]; done)))
  rw [← hW0]
  clear hW0
  obtain ⟨k0, k1, k2, k3⟩ := HS.out _ (Below.refl _ _)
  go_wp2_with fail
  refine (rlong_any _ _ _ _ K K _ (Hxs.out _ hB0) (Hys.out _ hB0) hy0 hK hK).mono ?_
  rintro e w1 ⟨_, _, rfl, hq, hr, hb1⟩
  obtain ⟨qo, qm, qc, rfl, Hq⟩ := Md.opened hq
  obtain ⟨ro, rm, rc, rfl, Hr⟩ := Md.opened hr
  have hB1 : Below (w.heap.size + 4) W0 w1 := hb1.mono (by omega)
  have hB1s : Below (w.heap.size + 2) W0 w1 := hB1.mono (by omega)
  clear hq hr hb1 k0 k1 k2 k3
  obtain ⟨k0, k1, k2, k3⟩ := HS.out _ hB1s
  go_wp2
  clear k0 k1 k2 k3
  go_region_held3 (fun w' => w'.cell? ⟨w.heap.size, 0, none⟩ = some (.bool xb) ∧ w'.cell? ⟨w.heap.size, 1, none⟩ = some (.slice xo xm xc) ∧ w'.cell? ⟨w.heap.size + 1, 0, none⟩ = some (.bool xb) ∧ w'.cell? ⟨w.heap.size + 1, 1, none⟩ = some (.slice yo ym yc)) ((refine HS.out _ ?_; repeat (first | assumption | exact Below.refl _ _ | exact (Below.refl _ _).drew | exact Below.drew (by assumption) | (refine Below.setCell ?_ (by simp) _)))) (first
    | (go_at_call_of 44 (qo); refine (made_any false _ _ K _ ((Hq.out _ ((Below.refl _ _).drew)).dg)).mono ?_; rintro e w2 ⟨_, rfl, hv2, hb2⟩; obtain ⟨b2, o2, m2, c2, rfl, H2, H2s, H2b⟩ := Zt.opened hv2; have hB2 : Below (w.heap.size + 4) W0 w2 := hB1.drew.trans (hb2.mono (by have := hB1.size; simp; omega)); have hB2s : Below (w.heap.size + 2) W0 w2 := hB2.mono (by omega))
    | (go_at_call_of 44 (ro); refine (made_any xb _ _ K _ ((Hr.out _ ((Below.refl _ _).drew.trans (hb2.mono (Nat.le_refl _)))).dg)).mono ?_; rintro e w3 ⟨_, rfl, hv3, hb3⟩; obtain ⟨b3, o3, m3, c3, rfl, H3, H3s, H3b⟩ := Zt.opened hv3; have hB3 : Below (w.heap.size + 4) W0 w3 := hB2.trans (hb3.mono (by have := hB2.size; omega)); have hB3s : Below (w.heap.size + 2) W0 w3 := hB3.mono (by omega); obtain ⟨⟨hr0, hr1, hr2, hr3⟩, hs0, hs1, hs2, hs3⟩ := HT.out _ hB3))
  go_wp2
  have hbel : Below w.heap.size w w3 := hB0.trans (hB3.mono (by omega))
  have h23 := H2.out w3 hb3
  have h33 := H3.out w3 (Below.refl _ _)
  refine bodyPost_ret (v := .tuple #[.agg #[.bool b2, .slice o2 m2 c2], .agg #[.bool b3, .slice o3 m3 c3], .int .i64 0]) (by simp [results, Try.results27, go_sem, hr0, hr1, hs0, hs1]) rfl ⟨_, _, rfl, ?_, ?_, (((hbel.setCell (by simp <;> omega) _).setCell (by simp <;> omega) _).setCell (by simp <;> omega) _).setCell (by simp <;> omega) _⟩
  · rw [← HE.out.1]
    exact Zt.mono (zt_keeps ((((((Keeps.refl _ _).setCell (u := .bool false) hr0 (fun x h => (by cases h)) _).setCell (u := .slice none 0 0) (by simp [go_sem, hr1]) (fun x h => (by cases h)) _).setCell (u := .bool false) (by simp [go_sem, hs0]) (fun x h => (by cases h)) _).setCell (u := .slice none 0 0) (by simp [go_sem, hs1]) (fun x h => (by cases h)) _)) h23) (Nat.le_add_right _ _)
  · rw [← HE.out.2, ← Hxb.out]
    exact zt_keeps ((((((Keeps.refl _ _).setCell (u := .bool false) hr0 (fun x h => (by cases h)) _).setCell (u := .slice none 0 0) (by simp [go_sem, hr1]) (fun x h => (by cases h)) _).setCell (u := .bool false) (by simp [go_sem, hs0]) (fun x h => (by cases h)) _).setCell (u := .slice none 0 0) (by simp [go_sem, hs1]) (fun x h => (by cases h)) _)) h33

set_option maxRecDepth 100000 in
set_option maxHeartbeats 2000000 in
theorem rdiv_even (u v : Value) (x y : Int) (K : Nat) (w : World) (hu : Zt w u x K) (hv : Zt w v y K) (hy : y ≠ 0) (hK : K ≤ 1073741822) (hs : decide (x < 0) ≠ decide (y < 0)) (hrr : (x.natAbs : Int) % (y.natAbs : Int) = 0) :
    Calls Try.prog 27 #[u, v] w (RetZZ w (x.fdiv y) (x.fmod y) (K + 2) K 0) := by
  obtain ⟨xb, xo, xm, xc, rfl, Hx, Hxs, Hxb⟩ := Zt.opened hu
  obtain ⟨yb, yo, ym, yc, rfl, Hy, Hys, Hyb⟩ := Zt.opened hv
  have hy0 : (0 : Int) < (y.natAbs : Int) := by omega
  have hym : ym ≠ 0 := by
    obtain ⟨ao, c, L, e, hl⟩ := Hys.out _ (Below.refl _ _)
    obtain ⟨_, rfl, _⟩ := Value.slice.inj e
    intro h0
    have := hl.zero_iff.1 h0
    omega
  have hb : (xb == yb) = false := by rw [beq_eq_false_iff_ne, Hxb.out, Hyb.out]; exact hs
  have hb' : ¬ xb = yb := by simpa using hb
  have hbn : (xb != yb) = true := by simpa using hb'
  have HR0 := hid hrr
  have HE := hid (fdiv_even x y hy hs hrr)
  clear hu hv
  go_enter Try.func27, Try.ntmps27
  go_upto_region 1 with (fail)
  obtain ⟨W0, hW0⟩ : ∃ W0, W0 = ((((w.alloc (.cells #[.bool xb, .slice xo xm xc] 28)).alloc (.cells #[.bool yb, .slice yo ym yc] 28)).alloc (.cells #[.bool false, .slice none 0 0] 28)).alloc (.cells #[.bool false, .slice none 0 0] 28)) := ⟨_, rfl⟩
  have hB0 : Below w.heap.size w W0 := by rw [hW0]; exact ((((Below.refl _ _).alloc (by simp <;> omega) _).alloc (by simp <;> omega) _).alloc (by simp <;> omega) _).alloc (by simp <;> omega) _
  have hz0 : W0.heap.size = w.heap.size + 4 := by rw [hW0]; simp
  have HS : Hid (∀ w', Below (w.heap.size + 2) W0 w' → w'.cell? ⟨w.heap.size, 0, none⟩ = some (.bool xb) ∧ w'.cell? ⟨w.heap.size, 1, none⟩ = some (.slice xo xm xc) ∧ w'.cell? ⟨w.heap.size + 1, 0, none⟩ = some (.bool yb) ∧ w'.cell? ⟨w.heap.size + 1, 1, none⟩ = some (.slice yo ym yc)) := hid (fun w' hb => by
    refine ⟨?_, ?_, ?_, ?_⟩ <;> (first | (rw [hb.cell (by simp <;> omega), hW0]; simp [go_sem]; done) | (rw [hb.frozen (by simp <;> omega), hW0]; simp [go_sem]; done)))
  have HT : Hid (∀ w', Below (w.heap.size + 4) W0 w' → (w'.cell? ⟨w.heap.size + 2, 0, none⟩ = some (.bool false) ∧ w'.cell? ⟨w.heap.size + 2, 1, none⟩ = some (.slice none 0 0) ∧ w'.frozen? ⟨w.heap.size + 2, 0, none⟩ = false ∧ w'.frozen? ⟨w.heap.size + 2, 1, none⟩ = false) ∧ (w'.cell? ⟨w.heap.size + 3, 0, none⟩ = some (.bool false) ∧ w'.cell? ⟨w.heap.size + 3, 1, none⟩ = some (.slice none 0 0) ∧ w'.frozen? ⟨w.heap.size + 3, 0, none⟩ = false ∧ w'.frozen? ⟨w.heap.size + 3, 1, none⟩ = false)) := hid (fun w' hb => by
    refine ⟨⟨?_, ?_, ?_, ?_⟩, ?_, ?_, ?_, ?_⟩ <;> (first | (rw [hb.cell (by simp <;> omega), hW0]; simp [go_sem]; done) | (rw [hb.frozen (by simp <;> omega), hW0]; simp [go_sem]; done)))
  rw [← hW0]
  clear hW0
  obtain ⟨k0, k1, k2, k3⟩ := HS.out _ (Below.refl _ _)
  go_wp2_with fail
  refine (rlong_any _ _ _ _ K K _ (Hxs.out _ hB0) (Hys.out _ hB0) hy0 hK hK).mono ?_
  rintro e w1 ⟨_, _, rfl, hq, hr, hb1⟩
  obtain ⟨qo, qm, qc, rfl, Hq⟩ := Md.opened hq
  obtain ⟨ro, rm, rc, rfl, Hr⟩ := Md.opened hr
  have hB1 : Below (w.heap.size + 4) W0 w1 := hb1.mono (by omega)
  have hB1s : Below (w.heap.size + 2) W0 w1 := hB1.mono (by omega)
  have hrm : rm = 0 := by
    obtain ⟨ao, c, L, e, hl⟩ := hr
    obtain ⟨_, rfl, _⟩ := Value.slice.inj e
    exact hl.zero_iff.2 HR0.out
  subst hrm
  clear hq hr hb1 k0 k1 k2 k3
  obtain ⟨k0, k1, k2, k3⟩ := HS.out _ hB1s
  go_wp2
  clear k0 k1 k2 k3
  go_region_held3 (fun w' => w'.cell? ⟨w.heap.size, 0, none⟩ = some (.bool xb) ∧ w'.cell? ⟨w.heap.size, 1, none⟩ = some (.slice xo xm xc) ∧ w'.cell? ⟨w.heap.size + 1, 0, none⟩ = some (.bool yb) ∧ w'.cell? ⟨w.heap.size + 1, 1, none⟩ = some (.slice yo ym yc)) ((refine HS.out _ ?_; repeat (first | assumption | exact Below.refl _ _ | exact (Below.refl _ _).drew | exact Below.drew (by assumption) | (refine Below.setCell ?_ (by simp) _)))) (first
    | (go_at_call_of 44 (qo); refine (made_any true _ _ K _ ((Hq.out _ ((Below.refl _ _).drew)).dg)).mono ?_; rintro e w2 ⟨_, rfl, hv2, hb2⟩; obtain ⟨b2, o2, m2, c2, rfl, H2, H2s, H2b⟩ := Zt.opened hv2; have hB2 : Below (w.heap.size + 4) W0 w2 := hB1.drew.trans (hb2.mono (by have := hB1.size; simp; omega)); have hB2s : Below (w.heap.size + 2) W0 w2 := hB2.mono (by omega))
    | (go_at_call_of 44 (ro); refine (made_any xb _ _ K _ ((Hr.out _ ((Below.refl _ _).drew.trans (hb2.mono (Nat.le_refl _)))).dg)).mono ?_; rintro e w3 ⟨_, rfl, hv3, hb3⟩; obtain ⟨b3, o3, m3, c3, rfl, H3, H3s, H3b⟩ := Zt.opened hv3; have hB3 : Below (w.heap.size + 4) W0 w3 := hB2.trans (hb3.mono (by have := hB2.size; omega)); have hB3s : Below (w.heap.size + 2) W0 w3 := hB3.mono (by omega); obtain ⟨⟨hr0, hr1, hr2, hr3⟩, hs0, hs1, hs2, hs3⟩ := HT.out _ hB3))
  go_wp2
  have hbel : Below w.heap.size w w3 := hB0.trans (hB3.mono (by omega))
  have h23 := H2.out w3 hb3
  have h33 := H3.out w3 (Below.refl _ _)
  refine bodyPost_ret (v := .tuple #[.agg #[.bool b2, .slice o2 m2 c2], .agg #[.bool b3, .slice o3 m3 c3], .int .i64 0]) (by simp [results, Try.results27, go_sem, hr0, hr1, hs0, hs1]) rfl ⟨_, _, rfl, ?_, ?_, (((hbel.setCell (by simp <;> omega) _).setCell (by simp <;> omega) _).setCell (by simp <;> omega) _).setCell (by simp <;> omega) _⟩
  · rw [← HE.out.1]
    exact Zt.mono (zt_keeps ((((((Keeps.refl _ _).setCell (u := .bool false) hr0 (fun x h => (by cases h)) _).setCell (u := .slice none 0 0) (by simp [go_sem, hr1]) (fun x h => (by cases h)) _).setCell (u := .bool false) (by simp [go_sem, hs0]) (fun x h => (by cases h)) _).setCell (u := .slice none 0 0) (by simp [go_sem, hs1]) (fun x h => (by cases h)) _)) h23) (Nat.le_add_right _ _)
  · rw [← HE.out.2, ← Hxb.out]
    exact zt_keeps ((((((Keeps.refl _ _).setCell (u := .bool false) hr0 (fun x h => (by cases h)) _).setCell (u := .slice none 0 0) (by simp [go_sem, hr1]) (fun x h => (by cases h)) _).setCell (u := .bool false) (by simp [go_sem, hs0]) (fun x h => (by cases h)) _).setCell (u := .slice none 0 0) (by simp [go_sem, hs1]) (fun x h => (by cases h)) _)) h33

set_option maxRecDepth 100000 in
set_option maxHeartbeats 2000000 in
theorem rdiv_floor (u v : Value) (x y : Int) (K : Nat) (w : World) (hu : Zt w u x K) (hv : Zt w v y K) (hy : y ≠ 0) (hK : K ≤ 1073741822) (hs : decide (x < 0) ≠ decide (y < 0)) (hrr : (x.natAbs : Int) % (y.natAbs : Int) ≠ 0) :
    Calls Try.prog 27 #[u, v] w (RetZZ w (x.fdiv y) (x.fmod y) (K + 2) K 0) := by
  obtain ⟨xb, xo, xm, xc, rfl, Hx, Hxs, Hxb⟩ := Zt.opened hu
  obtain ⟨yb, yo, ym, yc, rfl, Hy, Hys, Hyb⟩ := Zt.opened hv
  have hy0 : (0 : Int) < (y.natAbs : Int) := by omega
  have hym : ym ≠ 0 := by
    obtain ⟨ao, c, L, e, hl⟩ := Hys.out _ (Below.refl _ _)
    obtain ⟨_, rfl, _⟩ := Value.slice.inj e
    intro h0
    have := hl.zero_iff.1 h0
    omega
  have hb : (xb == yb) = false := by rw [beq_eq_false_iff_ne, Hxb.out, Hyb.out]; exact hs
  have hb' : ¬ xb = yb := by simpa using hb
  have hbn : (xb != yb) = true := by simpa using hb'
  have HR0 := hid hrr
  have HE := hid (fdiv_floor x y hy hs hrr)
  have HRL := hid (abs_div x y hy).2.2
  clear hu hv
  go_enter Try.func27, Try.ntmps27
  go_upto_region 1 with (fail)
  obtain ⟨W0, hW0⟩ : ∃ W0, W0 = ((((w.alloc (.cells #[.bool xb, .slice xo xm xc] 28)).alloc (.cells #[.bool yb, .slice yo ym yc] 28)).alloc (.cells #[.bool false, .slice none 0 0] 28)).alloc (.cells #[.bool false, .slice none 0 0] 28)) := ⟨_, rfl⟩
  have hB0 : Below w.heap.size w W0 := by rw [hW0]; exact ((((Below.refl _ _).alloc (by simp <;> omega) _).alloc (by simp <;> omega) _).alloc (by simp <;> omega) _).alloc (by simp <;> omega) _
  have hz0 : W0.heap.size = w.heap.size + 4 := by rw [hW0]; simp
  have HS : Hid (∀ w', Below (w.heap.size + 2) W0 w' → w'.cell? ⟨w.heap.size, 0, none⟩ = some (.bool xb) ∧ w'.cell? ⟨w.heap.size, 1, none⟩ = some (.slice xo xm xc) ∧ w'.cell? ⟨w.heap.size + 1, 0, none⟩ = some (.bool yb) ∧ w'.cell? ⟨w.heap.size + 1, 1, none⟩ = some (.slice yo ym yc)) := hid (fun w' hb => by
    refine ⟨?_, ?_, ?_, ?_⟩ <;> (first | (rw [hb.cell (by simp <;> omega), hW0]; simp [go_sem]; done) | (rw [hb.frozen (by simp <;> omega), hW0]; simp [go_sem]; done)))
  have HT : Hid (∀ w', Below (w.heap.size + 4) W0 w' → (w'.cell? ⟨w.heap.size + 2, 0, none⟩ = some (.bool false) ∧ w'.cell? ⟨w.heap.size + 2, 1, none⟩ = some (.slice none 0 0) ∧ w'.frozen? ⟨w.heap.size + 2, 0, none⟩ = false ∧ w'.frozen? ⟨w.heap.size + 2, 1, none⟩ = false) ∧ (w'.cell? ⟨w.heap.size + 3, 0, none⟩ = some (.bool false) ∧ w'.cell? ⟨w.heap.size + 3, 1, none⟩ = some (.slice none 0 0) ∧ w'.frozen? ⟨w.heap.size + 3, 0, none⟩ = false ∧ w'.frozen? ⟨w.heap.size + 3, 1, none⟩ = false)) := hid (fun w' hb => by
    refine ⟨⟨?_, ?_, ?_, ?_⟩, ?_, ?_, ?_, ?_⟩ <;> (first | (rw [hb.cell (by simp <;> omega), hW0]; simp [go_sem]; done) | (rw [hb.frozen (by simp <;> omega), hW0]; simp [go_sem]; done)))
  rw [← hW0]
  clear hW0
  obtain ⟨k0, k1, k2, k3⟩ := HS.out _ (Below.refl _ _)
  go_wp2_with fail
  refine (rlong_any _ _ _ _ K K _ (Hxs.out _ hB0) (Hys.out _ hB0) hy0 hK hK).mono ?_
  rintro e w1 ⟨_, _, rfl, hq, hr, hb1⟩
  obtain ⟨qo, qm, qc, rfl, Hq⟩ := Md.opened hq
  obtain ⟨ro, rm, rc, rfl, Hr⟩ := Md.opened hr
  have hB1 : Below (w.heap.size + 4) W0 w1 := hb1.mono (by omega)
  have hB1s : Below (w.heap.size + 2) W0 w1 := hB1.mono (by omega)
  have hrm : rm ≠ 0 := by
    intro h
    obtain ⟨ao, c, L, e, hl⟩ := hr
    obtain ⟨_, rfl, _⟩ := Value.slice.inj e
    exact HR0.out (hl.zero_iff.1 h)
  have hB1a := hB1s.alloc (by have := hB1.size; omega) (.cells #[.int .i64 1] 3 (0, 0))
  clear hq hr hb1 k0 k1 k2 k3
  obtain ⟨k0, k1, k2, k3⟩ := HS.out _ hB1s
  go_wp2
  clear k0 k1 k2 k3
  go_region_held3 (fun w' => w'.cell? ⟨w.heap.size, 0, none⟩ = some (.bool xb) ∧ w'.cell? ⟨w.heap.size, 1, none⟩ = some (.slice xo xm xc) ∧ w'.cell? ⟨w.heap.size + 1, 0, none⟩ = some (.bool yb) ∧ w'.cell? ⟨w.heap.size + 1, 1, none⟩ = some (.slice yo ym yc)) ((refine HS.out _ ?_; repeat (first | assumption | exact Below.refl _ _ | exact (Below.refl _ _).drew | exact Below.drew (by assumption) | (refine Below.setCell ?_ (by simp) _)))) (first
    | (go_at_call 52; refine (sum_md _ _ _ 1 (K + 1) _ ((Hq.out _ ((Below.refl _ _).alloc (Nat.le_refl _) _).drew).mono (Nat.le_succ _)) ((one_md.below ((Below.refl _ _).drew) (Nat.le_refl _)).mono (Nat.le_add_left _ _)) (by omega)).mono ?_; rintro e w2 ⟨_, rfl, hv2, hb2⟩; obtain ⟨o2, m2, c2, rfl, H2⟩ := Dg.opened hv2; have hB2 : Below (w.heap.size + 4) W0 w2 := (hB1.alloc (by have := hB1.size; simp; omega) _).drew.trans (hb2.mono (by have := hB1.size; simp; omega)); have hB2s : Below (w.heap.size + 2) W0 w2 := hB2.mono (by omega); have hC2 : Below w1.heap.size w1 w2 := ((Below.refl _ _).alloc (Nat.le_refl _) _).drew.trans (hb2.mono (by simp)))
    | (go_at_call_of 44 (o2); refine (made_any true _ _ _ _ (H2.out _ (Below.refl _ _))).mono ?_; rintro e w3 ⟨_, rfl, hv3, hb3⟩; obtain ⟨b3, o3, m3, c3, rfl, H3, H3s, H3b⟩ := Zt.opened hv3; have hB3 : Below (w.heap.size + 4) W0 w3 := hB2.trans (hb3.mono (by have := hB2.size; omega)); have hB3s : Below (w.heap.size + 2) W0 w3 := hB3.mono (by omega); have hC3 : Below w1.heap.size w1 w3 := hC2.trans (hb3.mono hC2.size))
    | (go_at_call 54; refine (less_any _ _ _ _ K K _ (Hys.out _ (hB0.trans (hB3.mono (by omega)))) (Hr.out _ hC3) (Int.le_of_lt HRL.out) (by omega)).mono ?_; rintro e w4 ⟨_, rfl, hv4, hb4⟩; obtain ⟨o4, m4, c4, rfl, H4⟩ := Md.opened hv4; have hB4 : Below (w.heap.size + 4) W0 w4 := hB3.trans (hb4.mono (by have := hB3.size; omega)); have hB4s : Below (w.heap.size + 2) W0 w4 := hB4.mono (by omega))
    | (go_at_call_of 44 (o4); refine (made_any yb _ _ K _ (H4.out _ (Below.refl _ _)).dg).mono ?_; rintro e w5 ⟨_, rfl, hv5, hb5⟩; obtain ⟨b5, o5, m5, c5, rfl, H5, H5s, H5b⟩ := Zt.opened hv5; have hB5 : Below (w.heap.size + 4) W0 w5 := hB4.trans (hb5.mono (by have := hB4.size; omega)); have hB5s : Below (w.heap.size + 2) W0 w5 := hB5.mono (by omega); obtain ⟨⟨hr0, hr1, hr2, hr3⟩, hs0, hs1, hs2, hs3⟩ := HT.out _ hB5))
  go_wp2
  have hbel : Below w.heap.size w w5 := hB0.trans (hB5.mono (by omega))
  have h23 := H3.out w5 (hb4.trans (hb5.mono hb4.size))
  have h33 := H5.out w5 (Below.refl _ _)
  refine bodyPost_ret (v := .tuple #[.agg #[.bool b3, .slice o3 m3 c3], .agg #[.bool b5, .slice o5 m5 c5], .int .i64 0]) (by simp [results, Try.results27, go_sem, hr0, hr1, hs0, hs1]) rfl ⟨_, _, rfl, ?_, ?_, (((hbel.setCell (by simp <;> omega) _).setCell (by simp <;> omega) _).setCell (by simp <;> omega) _).setCell (by simp <;> omega) _⟩
  · rw [← HE.out.1]
    exact zt_keeps ((((((Keeps.refl _ _).setCell (u := .bool false) hr0 (fun x h => (by cases h)) _).setCell (u := .slice none 0 0) (by simp [go_sem, hr1]) (fun x h => (by cases h)) _).setCell (u := .bool false) (by simp [go_sem, hs0]) (fun x h => (by cases h)) _).setCell (u := .slice none 0 0) (by simp [go_sem, hs1]) (fun x h => (by cases h)) _)) h23
  · rw [← HE.out.2, ← Hyb.out]
    exact zt_keeps ((((((Keeps.refl _ _).setCell (u := .bool false) hr0 (fun x h => (by cases h)) _).setCell (u := .slice none 0 0) (by simp [go_sem, hr1]) (fun x h => (by cases h)) _).setCell (u := .bool false) (by simp [go_sem, hs0]) (fun x h => (by cases h)) _).setCell (u := .slice none 0 0) (by simp [go_sem, hs1]) (fun x h => (by cases h)) _)) h33

theorem rdiv_any (u v : Value) (x y : Int) (K : Nat) (w : World) (hu : Zt w u x K) (hv : Zt w v y K) (hy : y ≠ 0) (hK : K ≤ 1073741822) :
    Calls Try.prog 27 #[u, v] w (RetZZ w (x.fdiv y) (x.fmod y) (K + 2) K 0) := by
  by_cases hs : decide (x < 0) = decide (y < 0)
  · exact rdiv_same u v x y K w hu hv hy hK hs
  · by_cases hr : (x.natAbs : Int) % (y.natAbs : Int) = 0
    · exact rdiv_even u v x y K w hu hv hy hK hs hr
    · exact rdiv_floor u v x y K w hu hv hy hK hs hr

end Go.Proofs.Ytbmdjimfncgomaa

/- The document's own integers: From. -/
namespace Go.Proofs.Ytbmdjimfncgomaa
open Go.RowKit

def un16 : List Int → List Int
  | [] => []
  | x :: l => x % 65536 :: x / 65536 :: un16 l
theorem un16_val : ∀ l : List Int, val R16 (un16 l) = val B32 l
  | [] => rfl
  | x :: l => by
    have h := un16_val l
    have e : B32 = R16 * R16 := by decide
    have d := Int.emod_add_mul_ediv x R16
    simp only [un16, val, h, e]
    unfold R16 at *; grind
theorem un16_len : ∀ l : List Int, (un16 l).length = 2 * l.length
  | [] => rfl
  | x :: l => by simp only [un16, List.length_cons, un16_len l]; omega
theorem un16_dig : ∀ {l : List Int}, Dig B32 l → Dig R16 (un16 l)
  | [], _ => Dig.nil _
  | x :: l, h => by
    have h1 := h.head
    have e : B32 = 4294967296 := rfl
    rw [e] at h1
    refine Dig.cons (by omega) (by unfold R16; omega) (Dig.cons (by omega) (by unfold R16; omega) (un16_dig h.tail))
theorem un16_snoc : ∀ (l : List Int) (x : Int), un16 (l ++ [x]) = un16 l ++ [x % 65536, x / 65536]
  | [], x => rfl
  | y :: l, x => by simp [un16, un16_snoc l x]

structure FrI (W0 wr : World) (W : List Int) (k : Nat) (ov : Value) : Prop where
  own : wr.ownsRow W0.heap.size 3 1 ov (2 * k) ((un16 (W.take k)).map (Value.int .i64))
  low : Below W0.heap.size W0 wr

set_option maxRecDepth 100000 in
set_option maxHeartbeats 4000000 in
theorem rfrom_any (v : Value) (z : Int) (K : Nat) (w : World) (h : Ai w v z K) (hK : K ≤ 268435456) :
    Calls Try.prog 7 #[v] w (RetZ w z (2 * K)) := by
  obtain ⟨neg, ao, c, W, rfl, h⟩ := h
  obtain ⟨n, hn⟩ : ∃ n, n = W.length := ⟨_, rfl⟩
  have hnK := h.le
  rw [← hn] at hnK ⊢
  have H := hid h; have Hn := hid hn
  clear h hn
  obtain ⟨i0, hi, hz0, hz1, hz2⟩ := info_parts Try.info3
  go_enter Try.func7, Try.ntmps7
  go_upto_region 1 with (fail)
  obtain ⟨W0, hW0⟩ : ∃ W0, W0 = ((w.alloc (.cells #[.bool neg, .slice ao n c] 24)).alloc (.cells #[.bool false, .slice none 0 0] 28)) := ⟨_, rfl⟩
  have hB0 : Below w.heap.size w W0 := by rw [hW0]; exact ((Below.refl _ _).alloc (Nat.le_refl _) _).alloc (by simp) _
  have hw0 : W0.heap.size = w.heap.size + 2 := by rw [hW0]; simp
  have HS : Hid (∀ w', Below W0.heap.size W0 w' → w'.cell? ⟨w.heap.size, 0, none⟩ = some (.bool neg) ∧ w'.cell? ⟨w.heap.size, 1, none⟩ = some (.slice ao n c)) := hid (fun w' hb => by
    refine ⟨?_, ?_⟩ <;> (rw [hb.cell (by rw [hw0]; simp <;> omega), hW0]; simp [go_sem]))
  have HT : Hid (∀ w', Below W0.heap.size W0 w' → w'.cell? ⟨w.heap.size + 1, 0, none⟩ = some (.bool false) ∧ w'.cell? ⟨w.heap.size + 1, 1, none⟩ = some (.slice none 0 0) ∧ w'.frozen? ⟨w.heap.size + 1, 0, none⟩ = false ∧ w'.frozen? ⟨w.heap.size + 1, 1, none⟩ = false) := hid (fun w' hb => by
    refine ⟨?_, ?_, ?_, ?_⟩ <;> (first | (rw [hb.cell (by rw [hw0]; simp <;> omega), hW0]; simp [go_sem]; done) | (rw [hb.frozen (by rw [hw0]; simp <;> omega), hW0]; simp [go_sem]; done)))
  rw [← hW0]
  clear hW0
  have HI0 := hid (show FrI W0 W0 W 0 (.slice none 0 0) from ⟨⟨by simp [un16], .inl ⟨rfl, rfl⟩⟩, Below.refl _ _⟩)
  have HB0 := hid hB0; have Hw0 := hid hw0
  clear hB0 hw0
  go_wp2
  go_loopw [3, 4] (fun ov iv wr => ∃ k : Nat, k ≤ n ∧ iv = .int .i64 k ∧ FrI W0 wr W k ov) (fun _ iv _ => n - (intOf iv).toNat)
  case atStart => exact ⟨0, Nat.zero_le _, rfl, HI0.out⟩
  case round =>
    obtain ⟨k, hk, rfl, HI⟩ := hrel
    obtain ⟨hs0, hs1⟩ := HS.out _ HI.low
    by_cases hlt : k < n
    · obtain ⟨b, o, rfl⟩ := H.out.rd.adr (by have := Hn.out; omega)
      have hc : ∀ w', Below W0.heap.size W0 w' → w'.cell? ⟨b, o + k, none⟩ = some (.int .u32 (W[k]?.getD 0)) := fun w' hb => (H.out.rd.below (HB0.out.trans (hb.mono (by have := Hw0.out; omega))) (Nat.le_refl _)).cell b o rfl k (by have := Hn.out; omega)
      have hd := H.out.dig.at B32_pos k
      have hts := take_succ_getD W k (by have := Hn.out; omega)
      have hus := un16_snoc (W.take k) (W[k]?.getD 0)
      rw [← hts] at hus
      obtain ⟨x, hxe⟩ : ∃ x, x = W[k]?.getD 0 := ⟨_, rfl⟩
      rw [← hxe] at hc hd hus
      have HU := hid hus
      have d0 := hd.1; have d1 : x < 4294967296 := hd.2
      have HC2 := hid (fun w' (hb : Below W0.heap.size W0 w') => And.intro (HS.out w' hb).2 (hc w' hb))
      have HHI := hid HI
      have u1 : IntKind.i64.wrap (x % 65536) = x % 65536 := IntWalk.i64_in _ (by omega)
      have u2 : IntKind.i64.wrap (x / 65536) = x / 65536 := IntWalk.i64_in _ (by omega)
      have u3 : IntKind.u32.wrap (x % 65536) = x % 65536 := by rw [IntKind.wrap_u32]; omega
      have u4 : IntKind.u32.wrap (x / 65536) = x / 65536 := by rw [IntKind.wrap_u32]; omega
      have u5 : x.tmod 65536 = x % 65536 := Int.tmod_eq_emod_of_nonneg d0
      have u6 : x.tdiv 65536 = x / 65536 := Int.tdiv_eq_ediv_of_nonneg d0
      have hk0 : (0 : Int) ≤ (k : Int) := by omega
      have hkn : (k : Int) < (n : Int) := by omega
      have hbel := HI.low
      clear hts hus hxe HI0 HI hs0 hd hc
      go_wp2
      go_region_held3 (fun w' => w'.cell? ⟨w.heap.size, 1, none⟩ = some (.slice (some ⟨b, o, none⟩) n c) ∧ w'.cell? ⟨b, o + k, none⟩ = some (.int .u32 x)) ((refine HC2.out _ ?_; first | assumption | exact HHI.out.low.drew | exact HHI.out.low.alloc HHI.out.low.size _ | exact (HHI.out.low.alloc HHI.out.low.size _).drew | exact (HHI.out.low.drew.alloc HHI.out.low.size _)))
        ((refine step_append_lies _ (by rfl) _ _ _ (by rfl) W0.heap.size 3 i0 _ 1 8 Try.underlying26 hi hz0 hz1 hz2 rfl (by omega) _ (2 * k) _ (by rfl) ((HHI.out.own.alloc _).drew) ⟨wr.heap.size, 0, none⟩ 2 2 [.int .i64 (x % 65536), .int .i64 (x / 65536)] (by rfl) (by rfl) (World.news_of_block (cs := #[.int .i64 (x % 65536), .int .i64 (x / 65536)]) (t := 3) (fr := (0, 0)) (heap_alloc_new wr _)) (by simp [Value.oneCell']) (by omega) (by unfold maxLen; omega) (by omega) (by have := HHI.out.low.size; simp; omega) (wr.heap.size + 1) (by simp) ?_; intro gg cap w1 hown1 hgrow hat hlt1; have hB1 : Below W0.heap.size W0 w1 := ((HHI.out.low.alloc HHI.out.low.size _).drew).grown hgrow (by have := HHI.out.low.size; simp; omega) (fun i e => owns_block HHI.out.own i e)))
      have HN := hid (show FrI W0 w1 W (k + 1) (.slice (some ⟨gg, 0, none⟩) (2 * k + 2) cap) from ⟨by rw [HU.out, List.map_append]; exact hown1, hB1⟩)
      clear hB1 hown1 hgrow hat hlt1
      go_wp2
      go_roundw
      case rel => exact ⟨k + 1, by omega, by go_num, HN.out⟩
      case measure => simp [intOf]; omega
    · obtain rfl : k = n := by omega
      have hdg : Dg wr u3 (val B32 W) (2 * K) := by
        have ho := HI.own
        rw [Hn.out, List.take_length] at ho
        have hl : (un16 W).length = 2 * W.length := un16_len W
        rcases ho.2 with ⟨rfl, h0⟩ | ⟨g, cap, cur, rfl, hg, hh, hn, hcm, hs, ht⟩
        · have hW : W = [] := List.eq_nil_of_length_eq_zero (by omega)
          subst hW
          exact ⟨none, 0, [], rfl, Rd.nil _ _, Dig.nil _, rfl, by simp⟩
        · rw [← hl] at ho ⊢
          exact ⟨_, cap, un16 W, rfl, owns_rd ho hcm, un16_dig H.out.dig, un16_val W, by have := H.out.le; omega⟩
      have hm := made_any neg u3 _ _ wr hdg
      rw [← H.out.eq] at hm
      have HM := hid hm; have HL := hid HI.low
      clear hm hdg HI HI0 hk hnK
      go_wp2_with fail
      refine HM.out.mono ?_
      rintro e w1 ⟨_, rfl, hv1, hb1⟩
      obtain ⟨b1, o1, m1, c1, rfl, H1, H1s, H1b⟩ := Zt.opened hv1
      have hB1 : Below W0.heap.size W0 w1 := HL.out.trans (hb1.mono HL.out.size)
      obtain ⟨hr0, hr1, hr2, hr3⟩ := HT.out _ hB1
      go_wp2
      have hbel : Below w.heap.size w w1 := HB0.out.trans (hB1.mono (by have := Hw0.out; omega))
      refine bodyPost_ret (v := .agg #[.bool b1, .slice o1 m1 c1]) (by simp [results, Try.results7, go_sem, hr0, hr1]) rfl ⟨_, rfl, ?_, (hbel.setCell (by simp <;> omega) _).setCell (by simp <;> omega) _⟩
      exact ((H1.out _ (Below.refl _ _)).set hr0 (fun x h => (by cases h)) _).set (u := .slice none 0 0) (by simp [go_sem, hr1]) (fun x h => (by cases h)) _

end Go.Proofs.Ytbmdjimfncgomaa
