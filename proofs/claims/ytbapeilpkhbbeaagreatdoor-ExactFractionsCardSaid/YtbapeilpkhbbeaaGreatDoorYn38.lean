/- hodoscoperef01.long: its walk: the quotient and the rest of two naturals. The document's own integers: Div (the quotient rounded down, and its rest). Written by gen_rdiv.py. -/
import Derived.Test.YtbapeilpkhbbeaaGreatDoorYn37
import Derived.Test.YtbapeilpkhbbeaaGreatDoorYn34
import Derived.Test.YtbapeilpkhbbeaaGreatDoorYn10
import Derived.Deep.DeepCutAuto
/- hodoscoperef01.long: its walk: the quotient and the rest of two naturals. -/
namespace Go.Proofs.YtbapeilpkhbbeaaGreatDoor
open Go.RowKit

theorem cM_eq (c M : Int) : (2 * c + 1 + 1) * M = c * (2 * M) + M + M := by grind

set_option maxRecDepth 100000 in
set_option maxHeartbeats 1000000 in
theorem rlong_big (va vb : Value) (a b : Int) (Ka K : Nat) (w : World) (hA : Md w va a Ka) (hB : Md w vb b K) (hb3 : ¬ (∀ ao c m, vb = .slice ao m c → m ≤ 3)) (hKa : Ka ≤ 1073741822) (hK : K ≤ 1073741822) :
    Calls Tryz.prog 93 #[va, vb] w (RetMM w (a / b) (a % b) Ka K) := by
  have hbl := hB.lt
  have hB' := hB
  obtain ⟨ao, ca, LA, rfl, hA⟩ := hA
  obtain ⟨bo, cb, LB, rfl, hB⟩ := hB
  obtain ⟨n, hn⟩ : ∃ n, n = LA.length := ⟨_, rfl⟩
  obtain ⟨m, hm⟩ : ∃ m, m = LB.length := ⟨_, rfl⟩
  have hn30 : n ≤ 1073741822 := by have := hA.le; omega
  have hm3 : ¬ m ≤ 3 := fun h => hb3 (fun ao c m' e => by obtain ⟨_, e2, _⟩ := Value.slice.inj e; omega)
  have hb : 0 < b := by
    have := hB.nrm.low R16_pos hB.dig (by omega)
    rw [hB.eq] at this
    have h1 : 0 < R16 ^ (LB.length - 1) := Int.pow_pos R16_pos
    omega
  rw [← hm] at hB'
  rw [← hn, ← hm]
  have hmb := fun (w' : World) (hb : Below w.heap.size w w') => hB'.below hb (Nat.le_refl _)
  have hnle := hA.le
  rw [← hn] at hnle
  have HA := hid hA; have Hn := hid hn; have HMB := hid hmb; have HBL := hid hbl
  clear hA hn hB hm hmb hB' hb3 hbl
  obtain ⟨i0, hi, hz0, hz1, hz2⟩ := info_parts Tryz.info3
  go_enter Tryz.func93, Tryz.ntmps93
  go_wp2_with fail
  refine (few_any bo cb m w).mono ?_
  rintro e w0 ⟨rfl, h0⟩
  obtain rfl : w = w0 := h0.symm
  go_wp2_with (at_make; refine wpList_make_row w rfl _ _ 29 rfl 3 i0 .i64 Tryz.underlying29 hi hz0 hz1 .i64 .i64 _ _ n rfl rfl rfl rfl (by rw [hz2]; omega) (by unfold maxLen; omega) ?_)
  intro w1 hrow hg1
  have hsz : w.heap.size < w1.heap.size := hrow.lt
  have hb1 := grown_below hg1
  have H0 : LgI w w1 w.heap.size LA b n K [] (.slice none 0 0) 0 := ⟨by simpa using hrow, grown_any hg1, by simpa using Hn.out, Dig.nil _, Int.le_refl 0, hb, by rw [List.drop_of_length_le (by have := Hn.out; omega)]; simp [val], (Md.nil _).mono (Nat.zero_le _), (fun _ _ _ _ e => by cases e), hsz⟩
  have HG1 := hid (HA.out.rd.ne (Nat.le_refl w.heap.size))
  have HB1 := hid hb1
  have HI0 := hid H0
  clear hrow hg1 hb1 H0
  go_wp2
  go_loopw [7, 8] (fun rv iv wr => ∃ j : Nat, ∃ QT r, j ≤ n ∧ iv = .int .i64 ((j : Int) - 1) ∧ LgI w wr w.heap.size LA b j K QT rv r ∧ Below w.heap.size w wr) (fun _ iv _ => (intOf iv + 1).toNat)
  case atStart => exact ⟨n, [], 0, Nat.le_refl _, rfl, HI0.out, HB1.out⟩
  case round =>
    obtain ⟨j, QT, r, hj, rfl, H, hbl2⟩ := hrel
    cases j with
    | zero =>
      have hr : Row .i64 3 wr w.heap.size QT := by have := H.row; simpa using this
      have hl : QT.length = n := by have := H.len; have := Hn.out; omega
      have he := H.eq
      rw [List.drop_zero, HA.out.eq] at he
      have hq : a / b = val R16 QT ∧ a % b = r := (Int.ediv_emod_unique hb).2 ⟨by rw [Int.mul_comm b]; omega, H.r0, H.r1⟩
      have ht := cut_any (some ⟨w.heap.size, 0, none⟩) n QT wr (rowi_rd hr (by omega) (by omega))
      have hres := md_row (c := n) (K := Ka) hr H.dig hq.1.symm (by omega) (by omega) (by omega)
      rw [hl] at ht
      have hmd := H.md
      rw [← hq.2] at hmd
      obtain ⟨ro, rm, rc, rfl, Hmd⟩ := Md.opened hmd
      have HT := hid ht; have Hres := hid hres; have HL2 := hid hbl2
      clear ht hres hr hl he hq H HI0 hmd hbl2
      go_wp2_with (go_at_call 84; refine HT.out.mono ?_; rintro e w2 ⟨rfl, rfl⟩)
      go_ret2
      exact ⟨_, _, rfl, Hres.out, Hmd.out _ (Below.refl _ _), HL2.out⟩
    | succ j =>
      have hjn : j < n := by omega
      obtain ⟨bb, o, rfl⟩ := HA.out.rd.adr (by have := Hn.out; omega)
      have hd := HA.out.dig.at R16_pos j
      have hcel : ∀ wx, w.grownBy wx (some w.heap.size) → wx.cell? ⟨bb, o + j, none⟩ = some (.int .i64 (LA[j]?.getD 0)) := fun wx hg => (HA.out.rd.keptNew hg HG1.out).cell bb o rfl j (by have := Hn.out; omega)
      obtain ⟨x, hx⟩ : ∃ x, x = LA[j]?.getD 0 := ⟨_, rfl⟩
      rw [← hx] at hcel hd
      have x0 := hd.1; have x1 : x < 65536 := hd.2
      have hT := H.eq; have hrb := H.r1
      have HT := hid hT; have Hrb := hid hrb
      have HC := hid hcel; have HX := hid hx
      have HE := hid (H.enter x0 x1)
      have HL2 := hid hbl2
      obtain ⟨rT, hrT⟩ : ∃ rT, rT = r := ⟨_, rfl⟩
      have HrT := hid hrT
      have hj1 : IntKind.i64.wrap (((j + 1 : Nat) : Int) - 1) = (j : Int) := by rw [IntWalk.i64_in _ (by omega)]; omega
      have hjj : (((j + 1 : Nat) : Int) - 1) = (j : Int) := by omega
      clear hd hcel hx H hT hrb hbl2 HI0 hrT
      rw [hjj]
      go_wp2
      go_loopw [7, 9] (fun rv bv wr2 => ∃ s : Nat, ∃ P c r, s ≤ 16 ∧ bv = .int .i64 ((2 : Int) ^ s / 2) ∧ LnI w wr2 w.heap.size LA b j K QT x ((2 : Int) ^ s) P c rv r ∧ Below w.heap.size w wr2) (fun _ bv _ => (intOf bv).toNat)
      case atStart => exact ⟨16, 1, 0, rT, by decide, rfl, by rw [HrT.out]; exact HE.out, HL2.out⟩
      case round =>
        obtain ⟨s, P, c, r2, hs, rfl, H, hbl2⟩ := hrel
        cases s with
        | zero =>
          obtain rfl : P = 65536 := by have := H.p.mp; simpa using this
          have hl := LnI.leave (rT := r) (by simpa using H) HX.out x1 hb HT.out Hrb.out
          have HG := hid hl; have HL3 := hid hbl2
          have hz : (2 : Int) ^ 0 / 2 = 0 := by decide
          rw [hz]
          clear hl H hbl2 HE HL2
          go_wp2
          go_roundw
          case rel => exact ⟨j, _, _, by omega, by go_num, HG.out, HL3.out⟩
          case measure => simp [intOf]
        | succ s =>
          have hM0 : (2 : Int) ^ (s + 1) = 2 * 2 ^ s := by rw [Int.pow_succ, Int.mul_comm]
          have hs3 : (0 : Int) < 2 ^ s := Int.pow_pos (by decide)
          rw [hM0] at H
          rw [hM0]
          obtain ⟨M, hM⟩ : ∃ M, M = (2 : Int) ^ s := ⟨_, rfl⟩
          rw [← hM] at H hs3 ⊢
          have hbit : 2 * M / 2 = M := by omega
          rw [hbit]
          have hM1 : M ≤ 32768 := by
            have h1 := H.p.mp; have h2 := H.p.p0
            have h3 : 1 * (2 * M) ≤ P * (2 * M) := Int.mul_le_mul_of_nonneg_right (by omega) (by omega)
            omega
          obtain ⟨d, hd⟩ : ∃ d, d = x / M % 2 := ⟨_, rfl⟩
          have d0 : 0 ≤ d := by omega
          have d1 : d ≤ 1 := by omega
          have hxM0 : 0 ≤ x / M := Int.ediv_nonneg x0 (by omega)
          have hxM1 : x / M ≤ x := Int.ediv_le_self _ x0
          have u1 : x.tdiv M = x / M := Int.tdiv_eq_ediv_of_nonneg x0
          have u2 : IntKind.i64.wrap (x / M) = x / M := IntWalk.i64_in _ (by omega)
          have u3 : (x / M).tmod 2 = d := by rw [Int.tmod_eq_emod_of_nonneg hxM0, hd]
          have u4 : IntKind.i64.wrap d = d := IntWalk.i64_in _ (by omega)
          have hMz : M ≠ 0 := by omega
          have hc := HC.out wr H.gr
          have hk0 : (0 : Int) ≤ (j : Int) := by omega
          have hdb := double_new _ r2 d K wr H.md.dg d0 d1 (by omega)
          have HDB := hid hdb; have HH := hid H; have HD := hid hd; have HM := hid hM; have HL3 := hid hbl2
          have u5 : M.tdiv 2 = M / 2 := Int.tdiv_eq_ediv_of_nonneg (by omega)
          clear H hdb hd hM hbl2 HE HL2 hM0
          go_wp2_with fail
          refine HDB.out.mono ?_
          rintro e w2 ⟨v2, rfl, hv2, hb2⟩
          have hbw2 : Below w.heap.size w w2 := HL3.out.trans (hb2.mono HL3.out.size)
          have hor := order_md v2 _ (2 * r2 + d) b (K + 1) K w2 hv2.1 (HMB.out w2 hbw2)
          by_cases hge : b ≤ 2 * r2 + d
          · have hcm : 0 ≤ cmpI (2 * r2 + d) b := by unfold cmpI; split <;> (try split) <;> omega
            obtain ⟨t, ht⟩ : ∃ t, t = cmpI (2 * r2 + d) b := ⟨_, rfl⟩
            rw [← ht] at hor hcm
            have hls := less_new v2 _ (2 * r2 + d) b (K + 1) K w2 hv2.1 (HMB.out w2 hbw2) hge (by omega)
            have HOR := hid hor; have HLS := hid hls; have HB2 := hid hb2; have HBW2 := hid hbw2; have HGE := hid hge
            clear hor hls hb2 hbw2 hv2 ht hge
            go_wp2_with fail
            refine HOR.out.mono ?_
            rintro e w3 ⟨rfl, h3⟩
            obtain rfl : w2 = w3 := h3.symm
            go_wp2_with fail
            refine HLS.out.mono ?_
            rintro e w3 ⟨v3, rfl, hv3, hb3⟩
            have HN := hid (LnI.highStep HH.out hs3 (by rw [← HD.out]; exact HGE.out) HBL.out HB2.out hb3 (by rw [← HD.out]; exact hv3))
            have hrow := (HH.out.row.kept (below_grown HB2.out) (by simp)).kept (below_grown hb3) (by simp)
            have hq := hrow.cell j (by simp)
            have hf := hrow.frozen j
            rw [List.getElem?_append_right (by simp), List.length_replicate, Nat.sub_self] at hq
            have hbnd := (HH.out.p.high hs3 (by rw [← HD.out]; exact HGE.out)).small x1 HT.out Hrb.out hb
            have hcM : c * (2 * M) + M < 65536 ∧ 0 ≤ c * (2 * M) := by
              have h1 := (HH.out.p.high hs3 (by rw [← HD.out]; exact HGE.out)).mp
              have h2 : (2 * c + 1 + 1) * M ≤ 2 * P * M := Int.mul_le_mul_of_nonneg_right (by omega) (by omega)
              have h3 : 0 ≤ c * (2 * M) := Int.mul_nonneg HH.out.p.c0 (by omega)
              refine ⟨?_, h3⟩
              rw [h1] at h2
              have h4 : (2 * c + 1 + 1) * M = c * (2 * M) + M + M := cM_eq c M
              omega
            obtain ⟨cM, hcMe⟩ : ∃ cM, cM = c * (2 * M) := ⟨_, rfl⟩
            rw [← hcMe] at HN hq hcM
            have hq2 : w3.cell? ⟨w.heap.size, j, none⟩ = some (.int .i64 cM) := by simpa using hq
            have hcM1 := hcM.1; have hcM2 := hcM.2
            have u6 : IntKind.i64.wrap (cM + M) = cM + M := IntWalk.i64_in _ (by omega)
            have HBW3 := hid (HBW2.out.trans (hb3.mono HBW2.out.size))
            clear hrow hq hbnd hcM hcMe hb3 hv3 h3
            go_wp2
            go_roundw
            case rel => exact ⟨s, _, _, _, by omega, by rw [HM.out], by rw [← HM.out]; exact HN.out, HBW3.out.setCell (Nat.le_refl _) _⟩
            case measure => simp [intOf]; omega
          · have hcm : cmpI (2 * r2 + d) b < 0 := by unfold cmpI; split <;> (try split) <;> omega
            obtain ⟨t, ht⟩ : ∃ t, t = cmpI (2 * r2 + d) b := ⟨_, rfl⟩
            rw [← ht] at hor hcm
            have HOR := hid hor; have HB2 := hid hb2; have HBW2 := hid hbw2
            have HN := hid (LnI.lowStep HH.out hs3 (by rw [← HD.out]; omega) HBL.out hb2 (by rw [← HD.out]; exact hv2))
            clear hor hb2 hbw2 hv2 ht hge
            go_wp2_with fail
            refine HOR.out.mono ?_
            rintro e w3 ⟨rfl, h3⟩
            obtain rfl : w2 = w3 := h3.symm
            go_wp2
            go_roundw
            case rel => exact ⟨s, _, _, _, by omega, by rw [HM.out], by rw [← HM.out]; exact HN.out, HBW2.out⟩
            case measure => simp [intOf]; omega

set_option maxRecDepth 100000 in
set_option maxHeartbeats 1000000 in
theorem rlong_few (va : Value) (bo : Option Addr) (m cb : Nat) (a b : Int) (Ka : Nat) (w : World) (hA : Md w va a Ka) (hB : Md w (.slice bo m cb) b 3) (hb : 0 < b) (hm : m ≤ 3) (hKa : Ka ≤ 1073741822) :
    Calls Tryz.prog 93 #[va, .slice bo m cb] w (RetMM w (a / b) (a % b) Ka 3) := by
  have hf := byFew_any va _ a b Ka w hA hB hb (by omega)
  have HF := hid hf
  clear hf hA hB
  go_enter Tryz.func93, Tryz.ntmps93
  go_wp2_with fail
  refine (few_any bo cb m w).mono ?_
  rintro e w0 ⟨rfl, h0⟩
  obtain rfl : w = w0 := h0.symm
  go_wp2_with fail
  refine HF.out.mono ?_
  rintro e w1 ⟨v1, v2, rfl, h1, h2, h3⟩
  go_wp2
  go_ret2
  exact ⟨_, _, rfl, h1, h2, h3⟩

theorem rlong_any (va vb : Value) (a b : Int) (Ka K : Nat) (w : World) (hA : Md w va a Ka) (hB : Md w vb b K) (hb : 0 < b) (hKa : Ka ≤ 1073741822) (hK : K ≤ 1073741822) :
    Calls Tryz.prog 93 #[va, vb] w (RetMM w (a / b) (a % b) Ka K) := by
  obtain ⟨bo, cb, LB, rfl, hBl⟩ := id hB
  by_cases hm : LB.length ≤ 3
  · refine (rlong_few va bo LB.length cb a b Ka w hA ⟨bo, cb, LB, rfl, hBl.rd, hBl.dig, hBl.nrm, hBl.eq, hm⟩ hb hm hKa).mono ?_
    rintro e w' ⟨v1, v2, rfl, h1, h2, h3⟩
    exact ⟨v1, v2, rfl, h1, h2.tight (Int.lt_trans (Int.emod_lt_of_pos _ hb) hB.lt), h3⟩
  · exact rlong_big va _ a b Ka K w hA hB (fun h => hm (h bo cb LB.length rfl)) hKa hK
end Go.Proofs.YtbapeilpkhbbeaaGreatDoor

/- The document's own integers: Div (the quotient rounded down, and its rest). Written by gen_rdiv.py. -/
namespace Go.Proofs.YtbapeilpkhbbeaaGreatDoor
open Go.RowKit

/-- A result of Div: both numbers, and the error. -/
def RetZZ (w : World) (q r : Int) (Kq Kr : Nat) (err : Int) (e : Ending) (w' : World) : Prop := ∃ v1 v2, e = .returned (.tuple #[v1, v2, .int .i64 err]) ∧ Zt w' v1 q Kq ∧ Zt w' v2 r Kr ∧ Below w.heap.size w w'

theorem zt_keeps {z : Int} {K : Nat} {w w' : World} {v : Value} (hk : Keeps .i64 w w') (h : Zt w v z K) : Zt w' v z K := by
  obtain ⟨s, rfl, ao, c, L, rfl, h⟩ := h
  exact ⟨_, rfl, ao, c, L, rfl, h.rd.keeps hk, h.dig, h.nrm, h.eq, h.le⟩
theorem zt_zero (w : World) : Zt w (.agg #[.bool false, .slice none 0 0]) 0 0 := ⟨_, rfl, Md.nil w⟩
theorem one_md {w : World} : Md (w.alloc (.cells #[.int .i64 1] 3 (0, 0))) (.slice (some ⟨w.heap.size, 0, none⟩) 1 1) 1 1 :=
  ⟨_, 1, [1], rfl, rowi_rd (show Row .i64 3 _ _ [1] from heap_alloc_new w _) (by simp) (by simp), Dig.cons (by decide) (by decide) (Dig.nil _), by simp [Nrm, trimL], by decide, by decide⟩

set_option maxRecDepth 100000 in
set_option maxHeartbeats 2000000 in
theorem rdiv_same (u v : Value) (x y : Int) (K : Nat) (w : World) (hu : Zt w u x K) (hv : Zt w v y K) (hy : y ≠ 0) (hK : K ≤ 1073741822) (hs : decide (x < 0) = decide (y < 0)) :
    Calls Tryz.prog 49 #[u, v] w (RetZZ w (x.fdiv y) (x.fmod y) (K + 2) K 0) := by
  obtain ⟨xb, xo, xm, xc, rfl, Hx, Hxs, Hxb⟩ := Zt.opened hu
  obtain ⟨yb, yo, ym, yc, rfl, Hy, Hys, Hyb⟩ := Zt.opened hv
  have hy0 : (0 : Int) < (y.natAbs : Int) := by omega
  have hym : ym ≠ 0 := by
    obtain ⟨ao, c, L, e, hl⟩ := Hys.out _ (Below.refl _ _)
    obtain ⟨_, rfl, _⟩ := Value.slice.inj e
    intro h0
    have := hl.zero_iff.1 h0
    omega
  have hb : xb = yb := by rw [Hxb.out, Hyb.out, hs]
  subst hb
  have HE := hid (fdiv_same x y hy hs)
  clear hu hv
  go_enter Tryz.func49, Tryz.ntmps49
  go_upto_region 1 with (fail)
  obtain ⟨W0, hW0⟩ : ∃ W0, W0 = ((((w.alloc (.cells #[.bool xb, .slice xo xm xc] 31)).alloc (.cells #[.bool xb, .slice yo ym yc] 31)).alloc (.cells #[.bool false, .slice none 0 0] 31)).alloc (.cells #[.bool false, .slice none 0 0] 31)) := ⟨_, rfl⟩
  have hB0 : Below w.heap.size w W0 := by rw [hW0]; exact ((((Below.refl _ _).alloc (by simp <;> omega) _).alloc (by simp <;> omega) _).alloc (by simp <;> omega) _).alloc (by simp <;> omega) _
  have hz0 : W0.heap.size = w.heap.size + 4 := by rw [hW0]; simp
  have HS : Hid (∀ w', Below (w.heap.size + 2) W0 w' → w'.cell? ⟨w.heap.size, 0, none⟩ = some (.bool xb) ∧ w'.cell? ⟨w.heap.size, 1, none⟩ = some (.slice xo xm xc) ∧ w'.cell? ⟨w.heap.size + 1, 0, none⟩ = some (.bool xb) ∧ w'.cell? ⟨w.heap.size + 1, 1, none⟩ = some (.slice yo ym yc)) := hid (fun w' hb => by
    refine ⟨?_, ?_, ?_, ?_⟩ <;> (first | (rw [hb.cell (by simp <;> omega), hW0]; simp [go_sem]; done) | (rw [hb.frozen (by simp <;> omega), hW0]; simp [go_sem]; done)))
  have HT : Hid (∀ w', Below (w.heap.size + 4) W0 w' → (w'.cell? ⟨w.heap.size + 2, 0, none⟩ = some (.bool false) ∧ w'.cell? ⟨w.heap.size + 2, 1, none⟩ = some (.slice none 0 0) ∧ w'.frozen? ⟨w.heap.size + 2, 0, none⟩ = false ∧ w'.frozen? ⟨w.heap.size + 2, 1, none⟩ = false) ∧ (w'.cell? ⟨w.heap.size + 3, 0, none⟩ = some (.bool false) ∧ w'.cell? ⟨w.heap.size + 3, 1, none⟩ = some (.slice none 0 0) ∧ w'.frozen? ⟨w.heap.size + 3, 0, none⟩ = false ∧ w'.frozen? ⟨w.heap.size + 3, 1, none⟩ = false)) := hid (fun w' hb => by
    refine ⟨⟨?_, ?_, ?_, ?_⟩, ?_, ?_, ?_, ?_⟩ <;> (first | (rw [hb.cell (by simp <;> omega), hW0]; simp [go_sem]; done) | (rw [hb.frozen (by simp <;> omega), hW0]; simp [go_sem]; done)))
  rw [← hW0]
  clear hW0
  obtain ⟨k0, k1, k2, k3⟩ := HS.out _ (Below.refl _ _)
  go_wp2_with fail
  refine (rlong_any _ _ _ _ K K _ (Hxs.out _ hB0) (Hys.out _ hB0) hy0 hK hK).mono ?_
  rintro e w1 ⟨_, _, rfl, hq, hr, hb1⟩
  obtain ⟨qo, qm, qc, rfl, Hq⟩ := Md.opened hq
  obtain ⟨ro, rm, rc, rfl, Hr⟩ := Md.opened hr
  have hB1 : Below (w.heap.size + 4) W0 w1 := hb1.mono (by omega)
  have hB1s : Below (w.heap.size + 2) W0 w1 := hB1.mono (by omega)
  clear hq hr hb1 k0 k1 k2 k3
  obtain ⟨k0, k1, k2, k3⟩ := HS.out _ hB1s
  go_wp2
  clear k0 k1 k2 k3
  go_region_held3 (fun w' => w'.cell? ⟨w.heap.size, 0, none⟩ = some (.bool xb) ∧ w'.cell? ⟨w.heap.size, 1, none⟩ = some (.slice xo xm xc) ∧ w'.cell? ⟨w.heap.size + 1, 0, none⟩ = some (.bool xb) ∧ w'.cell? ⟨w.heap.size + 1, 1, none⟩ = some (.slice yo ym yc)) ((refine HS.out _ ?_; repeat (first | assumption | exact Below.refl _ _ | exact (Below.refl _ _).drew | exact Below.drew (by assumption) | (refine Below.setCell ?_ (by simp) _)))) (first
    | (go_at_call_of 46 (qo); refine (made_any false _ _ K _ ((Hq.out _ ((Below.refl _ _).drew)).dg)).mono ?_; rintro e w2 ⟨_, rfl, hv2, hb2⟩; obtain ⟨b2, o2, m2, c2, rfl, H2, H2s, H2b⟩ := Zt.opened hv2; have hB2 : Below (w.heap.size + 4) W0 w2 := hB1.drew.trans (hb2.mono (by have := hB1.size; simp; omega)); have hB2s : Below (w.heap.size + 2) W0 w2 := hB2.mono (by omega))
    | (go_at_call_of 46 (ro); refine (made_any xb _ _ K _ ((Hr.out _ ((Below.refl _ _).drew.trans (hb2.mono (Nat.le_refl _)))).dg)).mono ?_; rintro e w3 ⟨_, rfl, hv3, hb3⟩; obtain ⟨b3, o3, m3, c3, rfl, H3, H3s, H3b⟩ := Zt.opened hv3; have hB3 : Below (w.heap.size + 4) W0 w3 := hB2.trans (hb3.mono (by have := hB2.size; omega)); have hB3s : Below (w.heap.size + 2) W0 w3 := hB3.mono (by omega); obtain ⟨⟨hr0, hr1, hr2, hr3⟩, hs0, hs1, hs2, hs3⟩ := HT.out _ hB3))
  go_wp2
  have hbel : Below w.heap.size w w3 := hB0.trans (hB3.mono (by omega))
  have h23 := H2.out w3 hb3
  have h33 := H3.out w3 (Below.refl _ _)
  refine bodyPost_ret (v := .tuple #[.agg #[.bool b2, .slice o2 m2 c2], .agg #[.bool b3, .slice o3 m3 c3], .int .i64 0]) (by simp [results, Tryz.results49, go_sem, hr0, hr1, hs0, hs1]) rfl ⟨_, _, rfl, ?_, ?_, (((hbel.setCell (by simp <;> omega) _).setCell (by simp <;> omega) _).setCell (by simp <;> omega) _).setCell (by simp <;> omega) _⟩
  · rw [← HE.out.1]
    exact Zt.mono (zt_keeps ((((((Keeps.refl _ _).setCell (u := .bool false) hr0 (fun x h => (by cases h)) _).setCell (u := .slice none 0 0) (by simp [go_sem, hr1]) (fun x h => (by cases h)) _).setCell (u := .bool false) (by simp [go_sem, hs0]) (fun x h => (by cases h)) _).setCell (u := .slice none 0 0) (by simp [go_sem, hs1]) (fun x h => (by cases h)) _)) h23) (Nat.le_add_right _ _)
  · rw [← HE.out.2, ← Hxb.out]
    exact zt_keeps ((((((Keeps.refl _ _).setCell (u := .bool false) hr0 (fun x h => (by cases h)) _).setCell (u := .slice none 0 0) (by simp [go_sem, hr1]) (fun x h => (by cases h)) _).setCell (u := .bool false) (by simp [go_sem, hs0]) (fun x h => (by cases h)) _).setCell (u := .slice none 0 0) (by simp [go_sem, hs1]) (fun x h => (by cases h)) _)) h33

set_option maxRecDepth 100000 in
set_option maxHeartbeats 2000000 in
theorem rdiv_even (u v : Value) (x y : Int) (K : Nat) (w : World) (hu : Zt w u x K) (hv : Zt w v y K) (hy : y ≠ 0) (hK : K ≤ 1073741822) (hs : decide (x < 0) ≠ decide (y < 0)) (hrr : (x.natAbs : Int) % (y.natAbs : Int) = 0) :
    Calls Tryz.prog 49 #[u, v] w (RetZZ w (x.fdiv y) (x.fmod y) (K + 2) K 0) := by
  obtain ⟨xb, xo, xm, xc, rfl, Hx, Hxs, Hxb⟩ := Zt.opened hu
  obtain ⟨yb, yo, ym, yc, rfl, Hy, Hys, Hyb⟩ := Zt.opened hv
  have hy0 : (0 : Int) < (y.natAbs : Int) := by omega
  have hym : ym ≠ 0 := by
    obtain ⟨ao, c, L, e, hl⟩ := Hys.out _ (Below.refl _ _)
    obtain ⟨_, rfl, _⟩ := Value.slice.inj e
    intro h0
    have := hl.zero_iff.1 h0
    omega
  have hb : (xb == yb) = false := by rw [beq_eq_false_iff_ne, Hxb.out, Hyb.out]; exact hs
  have hb' : ¬ xb = yb := by simpa using hb
  have hbn : (xb != yb) = true := by simpa using hb'
  have HR0 := hid hrr
  have HE := hid (fdiv_even x y hy hs hrr)
  clear hu hv
  go_enter Tryz.func49, Tryz.ntmps49
  go_upto_region 1 with (fail)
  obtain ⟨W0, hW0⟩ : ∃ W0, W0 = ((((w.alloc (.cells #[.bool xb, .slice xo xm xc] 31)).alloc (.cells #[.bool yb, .slice yo ym yc] 31)).alloc (.cells #[.bool false, .slice none 0 0] 31)).alloc (.cells #[.bool false, .slice none 0 0] 31)) := ⟨_, rfl⟩
  have hB0 : Below w.heap.size w W0 := by rw [hW0]; exact ((((Below.refl _ _).alloc (by simp <;> omega) _).alloc (by simp <;> omega) _).alloc (by simp <;> omega) _).alloc (by simp <;> omega) _
  have hz0 : W0.heap.size = w.heap.size + 4 := by rw [hW0]; simp
  have HS : Hid (∀ w', Below (w.heap.size + 2) W0 w' → w'.cell? ⟨w.heap.size, 0, none⟩ = some (.bool xb) ∧ w'.cell? ⟨w.heap.size, 1, none⟩ = some (.slice xo xm xc) ∧ w'.cell? ⟨w.heap.size + 1, 0, none⟩ = some (.bool yb) ∧ w'.cell? ⟨w.heap.size + 1, 1, none⟩ = some (.slice yo ym yc)) := hid (fun w' hb => by
    refine ⟨?_, ?_, ?_, ?_⟩ <;> (first | (rw [hb.cell (by simp <;> omega), hW0]; simp [go_sem]; done) | (rw [hb.frozen (by simp <;> omega), hW0]; simp [go_sem]; done)))
  have HT : Hid (∀ w', Below (w.heap.size + 4) W0 w' → (w'.cell? ⟨w.heap.size + 2, 0, none⟩ = some (.bool false) ∧ w'.cell? ⟨w.heap.size + 2, 1, none⟩ = some (.slice none 0 0) ∧ w'.frozen? ⟨w.heap.size + 2, 0, none⟩ = false ∧ w'.frozen? ⟨w.heap.size + 2, 1, none⟩ = false) ∧ (w'.cell? ⟨w.heap.size + 3, 0, none⟩ = some (.bool false) ∧ w'.cell? ⟨w.heap.size + 3, 1, none⟩ = some (.slice none 0 0) ∧ w'.frozen? ⟨w.heap.size + 3, 0, none⟩ = false ∧ w'.frozen? ⟨w.heap.size + 3, 1, none⟩ = false)) := hid (fun w' hb => by
    refine ⟨⟨?_, ?_, ?_, ?_⟩, ?_, ?_, ?_, ?_⟩ <;> (first | (rw [hb.cell (by simp <;> omega), hW0]; simp [go_sem]; done) | (rw [hb.frozen (by simp <;> omega), hW0]; simp [go_sem]; done)))
  rw [← hW0]
  clear hW0
  obtain ⟨k0, k1, k2, k3⟩ := HS.out _ (Below.refl _ _)
  go_wp2_with fail
  refine (rlong_any _ _ _ _ K K _ (Hxs.out _ hB0) (Hys.out _ hB0) hy0 hK hK).mono ?_
  rintro e w1 ⟨_, _, rfl, hq, hr, hb1⟩
  obtain ⟨qo, qm, qc, rfl, Hq⟩ := Md.opened hq
  obtain ⟨ro, rm, rc, rfl, Hr⟩ := Md.opened hr
  have hB1 : Below (w.heap.size + 4) W0 w1 := hb1.mono (by omega)
  have hB1s : Below (w.heap.size + 2) W0 w1 := hB1.mono (by omega)
  have hrm : rm = 0 := by
    obtain ⟨ao, c, L, e, hl⟩ := hr
    obtain ⟨_, rfl, _⟩ := Value.slice.inj e
    exact hl.zero_iff.2 HR0.out
  subst hrm
  clear hq hr hb1 k0 k1 k2 k3
  obtain ⟨k0, k1, k2, k3⟩ := HS.out _ hB1s
  go_wp2
  clear k0 k1 k2 k3
  go_region_held3 (fun w' => w'.cell? ⟨w.heap.size, 0, none⟩ = some (.bool xb) ∧ w'.cell? ⟨w.heap.size, 1, none⟩ = some (.slice xo xm xc) ∧ w'.cell? ⟨w.heap.size + 1, 0, none⟩ = some (.bool yb) ∧ w'.cell? ⟨w.heap.size + 1, 1, none⟩ = some (.slice yo ym yc)) ((refine HS.out _ ?_; repeat (first | assumption | exact Below.refl _ _ | exact (Below.refl _ _).drew | exact Below.drew (by assumption) | (refine Below.setCell ?_ (by simp) _)))) (first
    | (go_at_call_of 46 (qo); refine (made_any true _ _ K _ ((Hq.out _ ((Below.refl _ _).drew)).dg)).mono ?_; rintro e w2 ⟨_, rfl, hv2, hb2⟩; obtain ⟨b2, o2, m2, c2, rfl, H2, H2s, H2b⟩ := Zt.opened hv2; have hB2 : Below (w.heap.size + 4) W0 w2 := hB1.drew.trans (hb2.mono (by have := hB1.size; simp; omega)); have hB2s : Below (w.heap.size + 2) W0 w2 := hB2.mono (by omega))
    | (go_at_call_of 46 (ro); refine (made_any xb _ _ K _ ((Hr.out _ ((Below.refl _ _).drew.trans (hb2.mono (Nat.le_refl _)))).dg)).mono ?_; rintro e w3 ⟨_, rfl, hv3, hb3⟩; obtain ⟨b3, o3, m3, c3, rfl, H3, H3s, H3b⟩ := Zt.opened hv3; have hB3 : Below (w.heap.size + 4) W0 w3 := hB2.trans (hb3.mono (by have := hB2.size; omega)); have hB3s : Below (w.heap.size + 2) W0 w3 := hB3.mono (by omega); obtain ⟨⟨hr0, hr1, hr2, hr3⟩, hs0, hs1, hs2, hs3⟩ := HT.out _ hB3))
  go_wp2
  have hbel : Below w.heap.size w w3 := hB0.trans (hB3.mono (by omega))
  have h23 := H2.out w3 hb3
  have h33 := H3.out w3 (Below.refl _ _)
  refine bodyPost_ret (v := .tuple #[.agg #[.bool b2, .slice o2 m2 c2], .agg #[.bool b3, .slice o3 m3 c3], .int .i64 0]) (by simp [results, Tryz.results49, go_sem, hr0, hr1, hs0, hs1]) rfl ⟨_, _, rfl, ?_, ?_, (((hbel.setCell (by simp <;> omega) _).setCell (by simp <;> omega) _).setCell (by simp <;> omega) _).setCell (by simp <;> omega) _⟩
  · rw [← HE.out.1]
    exact Zt.mono (zt_keeps ((((((Keeps.refl _ _).setCell (u := .bool false) hr0 (fun x h => (by cases h)) _).setCell (u := .slice none 0 0) (by simp [go_sem, hr1]) (fun x h => (by cases h)) _).setCell (u := .bool false) (by simp [go_sem, hs0]) (fun x h => (by cases h)) _).setCell (u := .slice none 0 0) (by simp [go_sem, hs1]) (fun x h => (by cases h)) _)) h23) (Nat.le_add_right _ _)
  · rw [← HE.out.2, ← Hxb.out]
    exact zt_keeps ((((((Keeps.refl _ _).setCell (u := .bool false) hr0 (fun x h => (by cases h)) _).setCell (u := .slice none 0 0) (by simp [go_sem, hr1]) (fun x h => (by cases h)) _).setCell (u := .bool false) (by simp [go_sem, hs0]) (fun x h => (by cases h)) _).setCell (u := .slice none 0 0) (by simp [go_sem, hs1]) (fun x h => (by cases h)) _)) h33

set_option maxRecDepth 100000 in
set_option maxHeartbeats 2000000 in
theorem rdiv_floor (u v : Value) (x y : Int) (K : Nat) (w : World) (hu : Zt w u x K) (hv : Zt w v y K) (hy : y ≠ 0) (hK : K ≤ 1073741822) (hs : decide (x < 0) ≠ decide (y < 0)) (hrr : (x.natAbs : Int) % (y.natAbs : Int) ≠ 0) :
    Calls Tryz.prog 49 #[u, v] w (RetZZ w (x.fdiv y) (x.fmod y) (K + 2) K 0) := by
  obtain ⟨xb, xo, xm, xc, rfl, Hx, Hxs, Hxb⟩ := Zt.opened hu
  obtain ⟨yb, yo, ym, yc, rfl, Hy, Hys, Hyb⟩ := Zt.opened hv
  have hy0 : (0 : Int) < (y.natAbs : Int) := by omega
  have hym : ym ≠ 0 := by
    obtain ⟨ao, c, L, e, hl⟩ := Hys.out _ (Below.refl _ _)
    obtain ⟨_, rfl, _⟩ := Value.slice.inj e
    intro h0
    have := hl.zero_iff.1 h0
    omega
  have hb : (xb == yb) = false := by rw [beq_eq_false_iff_ne, Hxb.out, Hyb.out]; exact hs
  have hb' : ¬ xb = yb := by simpa using hb
  have hbn : (xb != yb) = true := by simpa using hb'
  have HR0 := hid hrr
  have HE := hid (fdiv_floor x y hy hs hrr)
  have HRL := hid (abs_div x y hy).2.2
  clear hu hv
  go_enter Tryz.func49, Tryz.ntmps49
  go_upto_region 1 with (fail)
  obtain ⟨W0, hW0⟩ : ∃ W0, W0 = ((((w.alloc (.cells #[.bool xb, .slice xo xm xc] 31)).alloc (.cells #[.bool yb, .slice yo ym yc] 31)).alloc (.cells #[.bool false, .slice none 0 0] 31)).alloc (.cells #[.bool false, .slice none 0 0] 31)) := ⟨_, rfl⟩
  have hB0 : Below w.heap.size w W0 := by rw [hW0]; exact ((((Below.refl _ _).alloc (by simp <;> omega) _).alloc (by simp <;> omega) _).alloc (by simp <;> omega) _).alloc (by simp <;> omega) _
  have hz0 : W0.heap.size = w.heap.size + 4 := by rw [hW0]; simp
  have HS : Hid (∀ w', Below (w.heap.size + 2) W0 w' → w'.cell? ⟨w.heap.size, 0, none⟩ = some (.bool xb) ∧ w'.cell? ⟨w.heap.size, 1, none⟩ = some (.slice xo xm xc) ∧ w'.cell? ⟨w.heap.size + 1, 0, none⟩ = some (.bool yb) ∧ w'.cell? ⟨w.heap.size + 1, 1, none⟩ = some (.slice yo ym yc)) := hid (fun w' hb => by
    refine ⟨?_, ?_, ?_, ?_⟩ <;> (first | (rw [hb.cell (by simp <;> omega), hW0]; simp [go_sem]; done) | (rw [hb.frozen (by simp <;> omega), hW0]; simp [go_sem]; done)))
  have HT : Hid (∀ w', Below (w.heap.size + 4) W0 w' → (w'.cell? ⟨w.heap.size + 2, 0, none⟩ = some (.bool false) ∧ w'.cell? ⟨w.heap.size + 2, 1, none⟩ = some (.slice none 0 0) ∧ w'.frozen? ⟨w.heap.size + 2, 0, none⟩ = false ∧ w'.frozen? ⟨w.heap.size + 2, 1, none⟩ = false) ∧ (w'.cell? ⟨w.heap.size + 3, 0, none⟩ = some (.bool false) ∧ w'.cell? ⟨w.heap.size + 3, 1, none⟩ = some (.slice none 0 0) ∧ w'.frozen? ⟨w.heap.size + 3, 0, none⟩ = false ∧ w'.frozen? ⟨w.heap.size + 3, 1, none⟩ = false)) := hid (fun w' hb => by
    refine ⟨⟨?_, ?_, ?_, ?_⟩, ?_, ?_, ?_, ?_⟩ <;> (first | (rw [hb.cell (by simp <;> omega), hW0]; simp [go_sem]; done) | (rw [hb.frozen (by simp <;> omega), hW0]; simp [go_sem]; done)))
  rw [← hW0]
  clear hW0
  obtain ⟨k0, k1, k2, k3⟩ := HS.out _ (Below.refl _ _)
  go_wp2_with fail
  refine (rlong_any _ _ _ _ K K _ (Hxs.out _ hB0) (Hys.out _ hB0) hy0 hK hK).mono ?_
  rintro e w1 ⟨_, _, rfl, hq, hr, hb1⟩
  obtain ⟨qo, qm, qc, rfl, Hq⟩ := Md.opened hq
  obtain ⟨ro, rm, rc, rfl, Hr⟩ := Md.opened hr
  have hB1 : Below (w.heap.size + 4) W0 w1 := hb1.mono (by omega)
  have hB1s : Below (w.heap.size + 2) W0 w1 := hB1.mono (by omega)
  have hrm : rm ≠ 0 := by
    intro h
    obtain ⟨ao, c, L, e, hl⟩ := hr
    obtain ⟨_, rfl, _⟩ := Value.slice.inj e
    exact HR0.out (hl.zero_iff.1 h)
  have hB1a := hB1s.alloc (by have := hB1.size; omega) (.cells #[.int .i64 1] 3 (0, 0))
  clear hq hr hb1 k0 k1 k2 k3
  obtain ⟨k0, k1, k2, k3⟩ := HS.out _ hB1s
  go_wp2
  clear k0 k1 k2 k3
  go_region_held3 (fun w' => w'.cell? ⟨w.heap.size, 0, none⟩ = some (.bool xb) ∧ w'.cell? ⟨w.heap.size, 1, none⟩ = some (.slice xo xm xc) ∧ w'.cell? ⟨w.heap.size + 1, 0, none⟩ = some (.bool yb) ∧ w'.cell? ⟨w.heap.size + 1, 1, none⟩ = some (.slice yo ym yc)) ((refine HS.out _ ?_; repeat (first | assumption | exact Below.refl _ _ | exact (Below.refl _ _).drew | exact Below.drew (by assumption) | (refine Below.setCell ?_ (by simp) _)))) (first
    | (go_at_call 91; refine (sum_md _ _ _ 1 (K + 1) _ ((Hq.out _ ((Below.refl _ _).alloc (Nat.le_refl _) _).drew).mono (Nat.le_succ _)) ((one_md.below ((Below.refl _ _).drew) (Nat.le_refl _)).mono (Nat.le_add_left _ _)) (by omega)).mono ?_; rintro e w2 ⟨_, rfl, hv2, hb2⟩; obtain ⟨o2, m2, c2, rfl, H2⟩ := Dg.opened hv2; have hB2 : Below (w.heap.size + 4) W0 w2 := (hB1.alloc (by have := hB1.size; simp; omega) _).drew.trans (hb2.mono (by have := hB1.size; simp; omega)); have hB2s : Below (w.heap.size + 2) W0 w2 := hB2.mono (by omega); have hC2 : Below w1.heap.size w1 w2 := ((Below.refl _ _).alloc (Nat.le_refl _) _).drew.trans (hb2.mono (by simp)))
    | (go_at_call_of 46 (o2); refine (made_any true _ _ _ _ (H2.out _ (Below.refl _ _))).mono ?_; rintro e w3 ⟨_, rfl, hv3, hb3⟩; obtain ⟨b3, o3, m3, c3, rfl, H3, H3s, H3b⟩ := Zt.opened hv3; have hB3 : Below (w.heap.size + 4) W0 w3 := hB2.trans (hb3.mono (by have := hB2.size; omega)); have hB3s : Below (w.heap.size + 2) W0 w3 := hB3.mono (by omega); have hC3 : Below w1.heap.size w1 w3 := hC2.trans (hb3.mono hC2.size))
    | (go_at_call 90; refine (less_any _ _ _ _ K K _ (Hys.out _ (hB0.trans (hB3.mono (by omega)))) (Hr.out _ hC3) (Int.le_of_lt HRL.out) (by omega)).mono ?_; rintro e w4 ⟨_, rfl, hv4, hb4⟩; obtain ⟨o4, m4, c4, rfl, H4⟩ := Md.opened hv4; have hB4 : Below (w.heap.size + 4) W0 w4 := hB3.trans (hb4.mono (by have := hB3.size; omega)); have hB4s : Below (w.heap.size + 2) W0 w4 := hB4.mono (by omega))
    | (go_at_call_of 46 (o4); refine (made_any yb _ _ K _ (H4.out _ (Below.refl _ _)).dg).mono ?_; rintro e w5 ⟨_, rfl, hv5, hb5⟩; obtain ⟨b5, o5, m5, c5, rfl, H5, H5s, H5b⟩ := Zt.opened hv5; have hB5 : Below (w.heap.size + 4) W0 w5 := hB4.trans (hb5.mono (by have := hB4.size; omega)); have hB5s : Below (w.heap.size + 2) W0 w5 := hB5.mono (by omega); obtain ⟨⟨hr0, hr1, hr2, hr3⟩, hs0, hs1, hs2, hs3⟩ := HT.out _ hB5))
  go_wp2
  have hbel : Below w.heap.size w w5 := hB0.trans (hB5.mono (by omega))
  have h23 := H3.out w5 (hb4.trans (hb5.mono hb4.size))
  have h33 := H5.out w5 (Below.refl _ _)
  refine bodyPost_ret (v := .tuple #[.agg #[.bool b3, .slice o3 m3 c3], .agg #[.bool b5, .slice o5 m5 c5], .int .i64 0]) (by simp [results, Tryz.results49, go_sem, hr0, hr1, hs0, hs1]) rfl ⟨_, _, rfl, ?_, ?_, (((hbel.setCell (by simp <;> omega) _).setCell (by simp <;> omega) _).setCell (by simp <;> omega) _).setCell (by simp <;> omega) _⟩
  · rw [← HE.out.1]
    exact zt_keeps ((((((Keeps.refl _ _).setCell (u := .bool false) hr0 (fun x h => (by cases h)) _).setCell (u := .slice none 0 0) (by simp [go_sem, hr1]) (fun x h => (by cases h)) _).setCell (u := .bool false) (by simp [go_sem, hs0]) (fun x h => (by cases h)) _).setCell (u := .slice none 0 0) (by simp [go_sem, hs1]) (fun x h => (by cases h)) _)) h23
  · rw [← HE.out.2, ← Hyb.out]
    exact zt_keeps ((((((Keeps.refl _ _).setCell (u := .bool false) hr0 (fun x h => (by cases h)) _).setCell (u := .slice none 0 0) (by simp [go_sem, hr1]) (fun x h => (by cases h)) _).setCell (u := .bool false) (by simp [go_sem, hs0]) (fun x h => (by cases h)) _).setCell (u := .slice none 0 0) (by simp [go_sem, hs1]) (fun x h => (by cases h)) _)) h33

theorem rdiv_any (u v : Value) (x y : Int) (K : Nat) (w : World) (hu : Zt w u x K) (hv : Zt w v y K) (hy : y ≠ 0) (hK : K ≤ 1073741822) :
    Calls Tryz.prog 49 #[u, v] w (RetZZ w (x.fdiv y) (x.fmod y) (K + 2) K 0) := by
  by_cases hs : decide (x < 0) = decide (y < 0)
  · exact rdiv_same u v x y K w hu hv hy hK hs
  · by_cases hr : (x.natAbs : Int) % (y.natAbs : Int) = 0
    · exact rdiv_even u v x y K w hu hv hy hK hs hr
    · exact rdiv_floor u v x y K w hu hv hy hK hs hr

end Go.Proofs.YtbapeilpkhbbeaaGreatDoor
