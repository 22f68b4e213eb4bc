/- hodoscoperef01.long: the quotient and the rest of two naturals, bit by bit. hodoscoperef01.long: its walk: the quotient and the rest of two naturals. hodoscoperef01.Of: the integer of a number of 64 bits. -/
import Derived.Test.YtbapeilpkhbbeaaGreatBn17
/- hodoscoperef01.long: the quotient and the rest of two naturals, bit by bit. -/
namespace Go.Proofs.YtbapeilpkhbbeaaGreat
open Go.RowKit

theorem Fr.mono {B B' : Nat} {v : Value} (h : Fr B v) (hB : B' ≤ B) : Fr B' v := fun b off l c e => Nat.le_trans hB (h b off l c e)
theorem Md.kept {w : World} {v : Value} {n : Int} {K g : Nat} (h : Md w v n K) (hf : Fr (g + 1) v) (i : Nat) (u : Value) : Md (w.setCell ⟨g, i, none⟩ u) v n K := by
  obtain ⟨ao, c, L, rfl, h⟩ := h
  refine ⟨ao, c, L, rfl, h.rd.keptNew (grown_set _ _ _ _) (fun _ b off e hb => ?_), h.dig, h.nrm, h.eq, h.le⟩
  subst e
  have := hf b off _ _ rfl
  omega

/-- One digit x of the dividend, whose higher digits T are H * b + ..: its bits above M are done. -/
structure LnP (T H x b M P c r : Int) : Prop where
  p0 : 0 < P
  m0 : 0 < M
  mp : P * M = 65536
  c0 : 0 ≤ c
  r0 : 0 ≤ r
  r1 : r < b
  eq : T * P + x / M = (H * P + c) * b + r

theorem LnP.start {T H x b r : Int} (x0 : 0 ≤ x) (x1 : x < 65536) (r0 : 0 ≤ r) (r1 : r < b) (e : T = H * b + r) : LnP T H x b 65536 1 0 r :=
  ⟨by decide, by decide, by decide, Int.le_refl 0, r0, r1, by rw [Int.ediv_eq_zero_of_lt x0 x1, e]; simp⟩
theorem half_bits {x M : Int} (m0 : 0 < M) : x / M = 2 * (x / (2 * M)) + x / M % 2 := by
  have h : x / (2 * M) = x / M / 2 := by rw [Int.mul_comm]; exact (Int.ediv_ediv_of_nonneg (by omega)).symm
  rw [h]
  omega
theorem LnP.low {T H x b M P c r : Int} (h : LnP T H x b (2 * M) P c r) (hM : 0 < M) (hlt : 2 * r + x / M % 2 < b) : LnP T H x b M (2 * P) (2 * c) (2 * r + x / M % 2) := by
  have p0 := h.p0; have c0 := h.c0; have r0 := h.r0; have e := h.eq; have mp := h.mp
  have hb := half_bits (x := x) hM
  refine ⟨by omega, hM, ?_, by omega, by omega, hlt, ?_⟩
  · rw [← mp, Int.mul_assoc 2 P M, Int.mul_left_comm P 2 M]
  · generalize x / M % 2 = d at *
    generalize x / M = y at *
    generalize x / (2 * M) = z at *
    subst hb
    grind
theorem LnP.high {T H x b M P c r : Int} (h : LnP T H x b (2 * M) P c r) (hM : 0 < M) (hge : b ≤ 2 * r + x / M % 2) : LnP T H x b M (2 * P) (2 * c + 1) (2 * r + x / M % 2 - b) := by
  have p0 := h.p0; have c0 := h.c0; have r0 := h.r0; have r1 := h.r1; have e := h.eq; have mp := h.mp
  have hb := half_bits (x := x) hM
  refine ⟨by omega, hM, ?_, by omega, by omega, by omega, ?_⟩
  · rw [← mp, Int.mul_assoc 2 P M, Int.mul_left_comm P 2 M]
  · generalize x / M % 2 = d at *
    generalize x / M = y at *
    generalize x / (2 * M) = z at *
    subst hb
    grind
theorem LnP.small {T H x b M P c r rT : Int} (h : LnP T H x b M P c r) (hx : x < 65536) (e : T = H * b + rT) (hr : rT < b) (hb : 0 < b) : c < P := by
  have hM : x / M < P := by
    apply Int.ediv_lt_of_lt_mul h.m0
    rw [h.mp]; exact hx
  have he := h.eq; have r0 := h.r0; have p0 := h.p0
  subst e
  by_cases hc : c < P
  · exact hc
  · exfalso
    have h1 : rT * P + x / M = c * b + r := by grind
    have h2 : P * b ≤ c * b := Int.mul_le_mul_of_nonneg_right (by omega) (by omega)
    have h3 : rT * P ≤ (b - 1) * P := Int.mul_le_mul_of_nonneg_right (by omega) (by omega)
    grind

/-- Behind the digits from j on. -/
structure LgI (w wr : World) (g : Nat) (LA : List Int) (b : Int) (j K : Nat) (QT : List Int) (rv : Value) (r : Int) : Prop where
  row : Row .i64 3 wr g (List.replicate j 0 ++ QT)
  gr : w.grownBy wr (some g)
  len : j + QT.length = LA.length
  dig : Dig R16 QT
  r0 : 0 ≤ r
  r1 : r < b
  eq : val R16 (LA.drop j) = val R16 QT * b + r
  md : Md wr rv r K
  fr : Fr (g + 1) rv
  sz : g < wr.heap.size
/-- .. and the bits of the digit j above M. -/
structure LnI (w wr : World) (g : Nat) (LA : List Int) (b : Int) (j K : Nat) (QT : List Int) (x M P c : Int) (rv : Value) (r : Int) : Prop where
  row : Row .i64 3 wr g (List.replicate j 0 ++ (c * M) :: QT)
  gr : w.grownBy wr (some g)
  len : j + 1 + QT.length = LA.length
  dig : Dig R16 QT
  p : LnP (val R16 (LA.drop (j + 1))) (val R16 QT) x b M P c r
  md : Md wr rv r K
  fr : Fr (g + 1) rv
  sz : g < wr.heap.size

theorem LgI.enter {w wr : World} {g : Nat} {LA QT : List Int} {b r x : Int} {j K : Nat} {rv : Value} (h : LgI w wr g LA b (j + 1) K QT rv r) (x0 : 0 ≤ x) (x1 : x < 65536) : LnI w wr g LA b j K QT x 65536 1 0 rv r :=
  ⟨by have := h.row; rw [List.replicate_succ', List.append_assoc] at this; simpa using this, h.gr, h.len, h.dig, LnP.start x0 x1 h.r0 h.r1 h.eq, h.md, h.fr, h.sz⟩
theorem LnI.leave {w wr : World} {g : Nat} {LA QT : List Int} {b r x c rT : Int} {j K : Nat} {rv : Value} (h : LnI w wr g LA b j K QT x 1 65536 c rv r) (hx : x = LA[j]?.getD 0) (x1 : x < 65536) (hb : 0 < b)
    (hT : val R16 (LA.drop (j + 1)) = val R16 QT * b + rT) (hr : rT < b) : LgI w wr g LA b j K (c :: QT) rv r := by
  have hc := h.p.small x1 hT hr hb
  refine ⟨by have := h.row; rwa [Int.mul_one] at this, h.gr, by have := h.len; simp; omega, Dig.cons h.p.c0 (by unfold R16; omega) h.dig, h.p.r0, h.p.r1, ?_, h.md, h.fr, h.sz⟩
  have e := h.p.eq
  rw [Int.ediv_one] at e
  rw [val_drop R16 LA j (by have := h.len; omega), ← hx]
  simp only [val]
  generalize val R16 (LA.drop (j + 1)) = T at *
  generalize val R16 QT = t at *
  unfold R16
  grind

theorem LnI.lowStep {w wr w2 : World} {g : Nat} {LA QT : List Int} {b r x c M P : Int} {j K : Nat} {rv v : Value} (h : LnI w wr g LA b j K QT x (2 * M) P c rv r) (hM : 0 < M) (hlt : 2 * r + x / M % 2 < b) (hbK : b < R16 ^ K)
    (hb : Below wr.heap.size wr w2) (hv : Md w2 v (2 * r + x / M % 2) (K + 1) ∧ Fr wr.heap.size v) : LnI w w2 g LA b j K QT x M (2 * P) (2 * c) v (2 * r + x / M % 2) := by
  have hr := h.row.kept (below_grown hb) (by simp)
  rw [show c * (2 * M) = 2 * c * M by rw [Int.mul_left_comm, Int.mul_assoc]] at hr
  exact ⟨hr, grown_trans h.gr (grown_any (below_grown hb)), h.len, h.dig, h.p.low hM hlt, hv.1.tight (by omega), hv.2.mono h.sz, Nat.lt_of_lt_of_le h.sz hb.size⟩
theorem LnI.highStep {w wr w2 w3 : World} {g : Nat} {LA QT : List Int} {b r x c M P : Int} {j K : Nat} {rv v : Value} (h : LnI w wr g LA b j K QT x (2 * M) P c rv r) (hM : 0 < M) (hge : b ≤ 2 * r + x / M % 2) (hbK : b < R16 ^ K)
    (hb : Below wr.heap.size wr w2) (hb3 : Below w2.heap.size w2 w3) (hv : Md w3 v (2 * r + x / M % 2 - b) (K + 1) ∧ Fr w2.heap.size v) :
    LnI w (w3.setCell ⟨g, j, none⟩ (.int .i64 (c * (2 * M) + M))) g LA b j K QT x M (2 * P) (2 * c + 1) v (2 * r + x / M % 2 - b) := by
  have hr := ((h.row.kept (below_grown hb) (by simp)).kept (below_grown hb3) (by simp)).set j (c * (2 * M) + M)
  have hp := h.p.high hM hge
  have hsz2 : g < w2.heap.size := Nat.lt_of_lt_of_le h.sz hb.size
  rw [List.set_append_right _ _ (by simp), List.length_replicate, Nat.sub_self, List.set_cons_zero] at hr
  rw [show c * (2 * M) + M = (2 * c + 1) * M by rw [Int.add_mul, Int.one_mul, Int.mul_left_comm, Int.mul_assoc]] at hr ⊢
  exact ⟨hr, grown_trans (grown_trans h.gr (grown_any ((below_grown hb)))) (grown_trans (grown_any (below_grown hb3)) (grown_set _ _ _ _)), h.len, h.dig, hp, (hv.1.tight (by have := hp.r1; omega)).kept (hv.2.mono hsz2) _ _, hv.2.mono hsz2, by have := hb3.size; simp; omega⟩
end Go.Proofs.YtbapeilpkhbbeaaGreat

/- hodoscoperef01.long: its walk: the quotient and the rest of two naturals. -/
namespace Go.Proofs.YtbapeilpkhbbeaaGreat
open Go.RowKit

theorem cM_eq (c M : Int) : (2 * c + 1 + 1) * M = c * (2 * M) + M + M := by grind

set_option maxRecDepth 100000 in
set_option maxHeartbeats 1000000 in
theorem rlong_big (va vb : Value) (a b : Int) (Ka K : Nat) (w : World) (hA : Md w va a Ka) (hB : Md w vb b K) (hb3 : ¬ (∀ ao c m, vb = .slice ao m c → m ≤ 3)) (hKa : Ka ≤ 1073741822) (hK : K ≤ 1073741822) :
    Calls Tryz.prog 123 #[va, vb] w (RetMM w (a / b) (a % b) Ka K) := by
  have hbl := hB.lt
  have hB' := hB
  obtain ⟨ao, ca, LA, rfl, hA⟩ := hA
  obtain ⟨bo, cb, LB, rfl, hB⟩ := hB
  obtain ⟨n, hn⟩ : ∃ n, n = LA.length := ⟨_, rfl⟩
  obtain ⟨m, hm⟩ : ∃ m, m = LB.length := ⟨_, rfl⟩
  have hn30 : n ≤ 1073741822 := by have := hA.le; omega
  have hm3 : ¬ m ≤ 3 := fun h => hb3 (fun ao c m' e => by obtain ⟨_, e2, _⟩ := Value.slice.inj e; omega)
  have hb : 0 < b := by
    have := hB.nrm.low R16_pos hB.dig (by omega)
    rw [hB.eq] at this
    have h1 : 0 < R16 ^ (LB.length - 1) := Int.pow_pos R16_pos
    omega
  rw [← hm] at hB'
  rw [← hn, ← hm]
  have hmb := fun (w' : World) (hb : Below w.heap.size w w') => hB'.below hb (Nat.le_refl _)
  have hnle := hA.le
  rw [← hn] at hnle
  have HA := hid hA; have Hn := hid hn; have HMB := hid hmb; have HBL := hid hbl
  clear hA hn hB hm hmb hB' hb3 hbl
  obtain ⟨i0, hi, hz0, hz1, hz2⟩ := info_parts Tryz.info3
  go_enter Tryz.func123, Tryz.ntmps123
  go_wp2_with fail
  refine (few_any bo cb m w).mono ?_
  rintro e w0 ⟨rfl, h0⟩
  obtain rfl : w = w0 := h0.symm
  go_wp2_with (at_make; refine wpList_make_row w rfl _ _ 31 rfl 3 i0 .i64 Tryz.underlying31 hi hz0 hz1 .i64 .i64 _ _ n rfl rfl rfl rfl (by rw [hz2]; omega) (by unfold maxLen; omega) ?_)
  intro w1 hrow hg1
  have hsz : w.heap.size < w1.heap.size := hrow.lt
  have hb1 := grown_below hg1
  have H0 : LgI w w1 w.heap.size LA b n K [] (.slice none 0 0) 0 := ⟨by simpa using hrow, grown_any hg1, by simpa using Hn.out, Dig.nil _, Int.le_refl 0, hb, by rw [List.drop_of_length_le (by have := Hn.out; omega)]; simp [val], (Md.nil _).mono (Nat.zero_le _), (fun _ _ _ _ e => by cases e), hsz⟩
  have HG1 := hid (HA.out.rd.ne (Nat.le_refl w.heap.size))
  have HB1 := hid hb1
  have HI0 := hid H0
  clear hrow hg1 hb1 H0
  go_wp2
  go_loopw [7, 8] (fun rv iv wr => ∃ j : Nat, ∃ QT r, j ≤ n ∧ iv = .int .i64 ((j : Int) - 1) ∧ LgI w wr w.heap.size LA b j K QT rv r ∧ Below w.heap.size w wr) (fun _ iv _ => (intOf iv + 1).toNat)
  case atStart => exact ⟨n, [], 0, Nat.le_refl _, rfl, HI0.out, HB1.out⟩
  case round =>
    obtain ⟨j, QT, r, hj, rfl, H, hbl2⟩ := hrel
    cases j with
    | zero =>
      have hr : Row .i64 3 wr w.heap.size QT := by have := H.row; simpa using this
      have hl : QT.length = n := by have := H.len; have := Hn.out; omega
      have he := H.eq
      rw [List.drop_zero, HA.out.eq] at he
      have hq : a / b = val R16 QT ∧ a % b = r := (Int.ediv_emod_unique hb).2 ⟨by rw [Int.mul_comm b]; omega, H.r0, H.r1⟩
      have ht := cut_any (some ⟨w.heap.size, 0, none⟩) n QT wr (rowi_rd hr (by omega) (by omega))
      have hres := md_row (c := n) (K := Ka) hr H.dig hq.1.symm (by omega) (by omega) (by omega)
      rw [hl] at ht
      have hmd := H.md
      rw [← hq.2] at hmd
      obtain ⟨ro, rm, rc, rfl, Hmd⟩ := Md.opened hmd
      have HT := hid ht; have Hres := hid hres; have HL2 := hid hbl2
      clear ht hres hr hl he hq H HI0 hmd hbl2
      go_wp2_with (go_at_call 115; refine HT.out.mono ?_; rintro e w2 ⟨rfl, rfl⟩)
      go_ret2
      exact ⟨_, _, rfl, Hres.out, Hmd.out _ (Below.refl _ _), HL2.out⟩
    | succ j =>
      have hjn : j < n := by omega
      obtain ⟨bb, o, rfl⟩ := HA.out.rd.adr (by have := Hn.out; omega)
      have hd := HA.out.dig.at R16_pos j
      have hcel : ∀ wx, w.grownBy wx (some w.heap.size) → wx.cell? ⟨bb, o + j, none⟩ = some (.int .i64 (LA[j]?.getD 0)) := fun wx hg => (HA.out.rd.keptNew hg HG1.out).cell bb o rfl j (by have := Hn.out; omega)
      obtain ⟨x, hx⟩ : ∃ x, x = LA[j]?.getD 0 := ⟨_, rfl⟩
      rw [← hx] at hcel hd
      have x0 := hd.1; have x1 : x < 65536 := hd.2
      have hT := H.eq; have hrb := H.r1
      have HT := hid hT; have Hrb := hid hrb
      have HC := hid hcel; have HX := hid hx
      have HE := hid (H.enter x0 x1)
      have HL2 := hid hbl2
      obtain ⟨rT, hrT⟩ : ∃ rT, rT = r := ⟨_, rfl⟩
      have HrT := hid hrT
      have hj1 : IntKind.i64.wrap (((j + 1 : Nat) : Int) - 1) = (j : Int) := by rw [IntWalk.i64_in _ (by omega)]; omega
      have hjj : (((j + 1 : Nat) : Int) - 1) = (j : Int) := by omega
      clear hd hcel hx H hT hrb hbl2 HI0 hrT
      rw [hjj]
      go_wp2
      go_loopw [7, 9] (fun rv bv wr2 => ∃ s : Nat, ∃ P c r, s ≤ 16 ∧ bv = .int .i64 ((2 : Int) ^ s / 2) ∧ LnI w wr2 w.heap.size LA b j K QT x ((2 : Int) ^ s) P c rv r ∧ Below w.heap.size w wr2) (fun _ bv _ => (intOf bv).toNat)
      case atStart => exact ⟨16, 1, 0, rT, by decide, rfl, by rw [HrT.out]; exact HE.out, HL2.out⟩
      case round =>
        obtain ⟨s, P, c, r2, hs, rfl, H, hbl2⟩ := hrel
        cases s with
        | zero =>
          obtain rfl : P = 65536 := by have := H.p.mp; simpa using this
          have hl := LnI.leave (rT := r) (by simpa using H) HX.out x1 hb HT.out Hrb.out
          have HG := hid hl; have HL3 := hid hbl2
          have hz : (2 : Int) ^ 0 / 2 = 0 := by decide
          rw [hz]
          clear hl H hbl2 HE HL2
          go_wp2
          go_roundw
          case rel => exact ⟨j, _, _, by omega, by go_num, HG.out, HL3.out⟩
          case measure => simp [intOf]
        | succ s =>
          have hM0 : (2 : Int) ^ (s + 1) = 2 * 2 ^ s := by rw [Int.pow_succ, Int.mul_comm]
          have hs3 : (0 : Int) < 2 ^ s := Int.pow_pos (by decide)
          rw [hM0] at H
          rw [hM0]
          obtain ⟨M, hM⟩ : ∃ M, M = (2 : Int) ^ s := ⟨_, rfl⟩
          rw [← hM] at H hs3 ⊢
          have hbit : 2 * M / 2 = M := by omega
          rw [hbit]
          have hM1 : M ≤ 32768 := by
            have h1 := H.p.mp; have h2 := H.p.p0
            have h3 : 1 * (2 * M) ≤ P * (2 * M) := Int.mul_le_mul_of_nonneg_right (by omega) (by omega)
            omega
          obtain ⟨d, hd⟩ : ∃ d, d = x / M % 2 := ⟨_, rfl⟩
          have d0 : 0 ≤ d := by omega
          have d1 : d ≤ 1 := by omega
          have hxM0 : 0 ≤ x / M := Int.ediv_nonneg x0 (by omega)
          have hxM1 : x / M ≤ x := Int.ediv_le_self _ x0
          have u1 : x.tdiv M = x / M := Int.tdiv_eq_ediv_of_nonneg x0
          have u2 : IntKind.i64.wrap (x / M) = x / M := IntWalk.i64_in _ (by omega)
          have u3 : (x / M).tmod 2 = d := by rw [Int.tmod_eq_emod_of_nonneg hxM0, hd]
          have u4 : IntKind.i64.wrap d = d := IntWalk.i64_in _ (by omega)
          have hMz : M ≠ 0 := by omega
          have hc := HC.out wr H.gr
          have hk0 : (0 : Int) ≤ (j : Int) := by omega
          have hdb := double_new _ r2 d K wr H.md.dg d0 d1 (by omega)
          have HDB := hid hdb; have HH := hid H; have HD := hid hd; have HM := hid hM; have HL3 := hid hbl2
          have u5 : M.tdiv 2 = M / 2 := Int.tdiv_eq_ediv_of_nonneg (by omega)
          clear H hdb hd hM hbl2 HE HL2 hM0
          go_wp2_with fail
          refine HDB.out.mono ?_
          rintro e w2 ⟨v2, rfl, hv2, hb2⟩
          have hbw2 : Below w.heap.size w w2 := HL3.out.trans (hb2.mono HL3.out.size)
          have hor := order_md v2 _ (2 * r2 + d) b (K + 1) K w2 hv2.1 (HMB.out w2 hbw2)
          by_cases hge : b ≤ 2 * r2 + d
          · have hcm : 0 ≤ cmpI (2 * r2 + d) b := by unfold cmpI; split <;> (try split) <;> omega
            obtain ⟨t, ht⟩ : ∃ t, t = cmpI (2 * r2 + d) b := ⟨_, rfl⟩
            rw [← ht] at hor hcm
            have hls := less_new v2 _ (2 * r2 + d) b (K + 1) K w2 hv2.1 (HMB.out w2 hbw2) hge (by omega)
            have HOR := hid hor; have HLS := hid hls; have HB2 := hid hb2; have HBW2 := hid hbw2; have HGE := hid hge
            clear hor hls hb2 hbw2 hv2 ht hge
            go_wp2_with fail
            refine HOR.out.mono ?_
            rintro e w3 ⟨rfl, h3⟩
            obtain rfl : w2 = w3 := h3.symm
            go_wp2_with fail
            refine HLS.out.mono ?_
            rintro e w3 ⟨v3, rfl, hv3, hb3⟩
            have HN := hid (LnI.highStep HH.out hs3 (by rw [← HD.out]; exact HGE.out) HBL.out HB2.out hb3 (by rw [← HD.out]; exact hv3))
            have hrow := (HH.out.row.kept (below_grown HB2.out) (by simp)).kept (below_grown hb3) (by simp)
            have hq := hrow.cell j (by simp)
            have hf := hrow.frozen j
            rw [List.getElem?_append_right (by simp), List.length_replicate, Nat.sub_self] at hq
            have hbnd := (HH.out.p.high hs3 (by rw [← HD.out]; exact HGE.out)).small x1 HT.out Hrb.out hb
            have hcM : c * (2 * M) + M < 65536 ∧ 0 ≤ c * (2 * M) := by
              have h1 := (HH.out.p.high hs3 (by rw [← HD.out]; exact HGE.out)).mp
              have h2 : (2 * c + 1 + 1) * M ≤ 2 * P * M := Int.mul_le_mul_of_nonneg_right (by omega) (by omega)
              have h3 : 0 ≤ c * (2 * M) := Int.mul_nonneg HH.out.p.c0 (by omega)
              refine ⟨?_, h3⟩
              rw [h1] at h2
              have h4 : (2 * c + 1 + 1) * M = c * (2 * M) + M + M := cM_eq c M
              omega
            obtain ⟨cM, hcMe⟩ : ∃ cM, cM = c * (2 * M) := ⟨_, rfl⟩
            rw [← hcMe] at HN hq hcM
            have hq2 : w3.cell? ⟨w.heap.size, j, none⟩ = some (.int .i64 cM) := by simpa using hq
            have hcM1 := hcM.1; have hcM2 := hcM.2
            have u6 : IntKind.i64.wrap (cM + M) = cM + M := IntWalk.i64_in _ (by omega)
            have HBW3 := hid (HBW2.out.trans (hb3.mono HBW2.out.size))
            clear hrow hq hbnd hcM hcMe hb3 hv3 h3
            go_wp2
            go_roundw
            case rel => exact ⟨s, _, _, _, by omega, by rw [HM.out], by rw [← HM.out]; exact HN.out, HBW3.out.setCell (Nat.le_refl _) _⟩
            case measure => simp [intOf]; omega
          · have hcm : cmpI (2 * r2 + d) b < 0 := by unfold cmpI; split <;> (try split) <;> omega
            obtain ⟨t, ht⟩ : ∃ t, t = cmpI (2 * r2 + d) b := ⟨_, rfl⟩
            rw [← ht] at hor hcm
            have HOR := hid hor; have HB2 := hid hb2; have HBW2 := hid hbw2
            have HN := hid (LnI.lowStep HH.out hs3 (by rw [← HD.out]; omega) HBL.out hb2 (by rw [← HD.out]; exact hv2))
            clear hor hb2 hbw2 hv2 ht hge
            go_wp2_with fail
            refine HOR.out.mono ?_
            rintro e w3 ⟨rfl, h3⟩
            obtain rfl : w2 = w3 := h3.symm
            go_wp2
            go_roundw
            case rel => exact ⟨s, _, _, _, by omega, by rw [HM.out], by rw [← HM.out]; exact HN.out, HBW2.out⟩
            case measure => simp [intOf]; omega

set_option maxRecDepth 100000 in
set_option maxHeartbeats 1000000 in
theorem rlong_few (va : Value) (bo : Option Addr) (m cb : Nat) (a b : Int) (Ka : Nat) (w : World) (hA : Md w va a Ka) (hB : Md w (.slice bo m cb) b 3) (hb : 0 < b) (hm : m ≤ 3) (hKa : Ka ≤ 1073741822) :
    Calls Tryz.prog 123 #[va, .slice bo m cb] w (RetMM w (a / b) (a % b) Ka 3) := by
  have hf := byFew_any va _ a b Ka w hA hB hb (by omega)
  have HF := hid hf
  clear hf hA hB
  go_enter Tryz.func123, Tryz.ntmps123
  go_wp2_with fail
  refine (few_any bo cb m w).mono ?_
  rintro e w0 ⟨rfl, h0⟩
  obtain rfl : w = w0 := h0.symm
  go_wp2_with fail
  refine HF.out.mono ?_
  rintro e w1 ⟨v1, v2, rfl, h1, h2, h3⟩
  go_wp2
  go_ret2
  exact ⟨_, _, rfl, h1, h2, h3⟩

theorem rlong_any (va vb : Value) (a b : Int) (Ka K : Nat) (w : World) (hA : Md w va a Ka) (hB : Md w vb b K) (hb : 0 < b) (hKa : Ka ≤ 1073741822) (hK : K ≤ 1073741822) :
    Calls Tryz.prog 123 #[va, vb] w (RetMM w (a / b) (a % b) Ka K) := by
  obtain ⟨bo, cb, LB, rfl, hBl⟩ := id hB
  by_cases hm : LB.length ≤ 3
  · refine (rlong_few va bo LB.length cb a b Ka w hA ⟨bo, cb, LB, rfl, hBl.rd, hBl.dig, hBl.nrm, hBl.eq, hm⟩ hb hm hKa).mono ?_
    rintro e w' ⟨v1, v2, rfl, h1, h2, h3⟩
    exact ⟨v1, v2, rfl, h1, h2.tight (Int.lt_trans (Int.emod_lt_of_pos _ hb) hB.lt), h3⟩
  · exact rlong_big va _ a b Ka K w hA hB (fun h => hm (h bo cb LB.length rfl)) hKa hK
end Go.Proofs.YtbapeilpkhbbeaaGreat

/- hodoscoperef01.Of: the integer of a number of 64 bits. -/
namespace Go.Proofs.YtbapeilpkhbbeaaGreat
open Go.RowKit

set_option maxRecDepth 100000 in
set_option maxHeartbeats 4000000 in
theorem rof_any (n : Int) (w : World) (n0 : -9223372036854775808 ≤ n) (n1 : n < 9223372036854775808) :
    Calls Tryz.prog 50 #[.int .i64 n] w (RetZ w n 4) := by
  obtain ⟨W0, hW0⟩ : ∃ W0, W0 = (w.alloc (.cells #[.bool false, .slice none 0 0] 33)) := ⟨_, rfl⟩
  have hB0 : Below w.heap.size w W0 := by rw [hW0]; exact (Below.refl _ _).alloc (Nat.le_refl _) _
  have hw0 : W0.heap.size = w.heap.size + 1 := by rw [hW0]; simp
  have HT : Hid (∀ w', Below W0.heap.size W0 w' → w'.cell? ⟨w.heap.size, 0, none⟩ = some (.bool false) ∧ w'.cell? ⟨w.heap.size, 1, none⟩ = some (.slice none 0 0) ∧ w'.frozen? ⟨w.heap.size, 0, none⟩ = false ∧ w'.frozen? ⟨w.heap.size, 1, none⟩ = false) := hid (fun w' hb => by
    refine ⟨?_, ?_, ?_, ?_⟩ <;> (first | (rw [hb.cell (by rw [hw0]; simp), hW0]; simp [go_sem]; done) | (rw [hb.frozen (by rw [hw0]; simp), hW0]; simp [go_sem]; done)))
  obtain ⟨a, ha⟩ : ∃ a, a = (n.natAbs : Int) := ⟨_, rfl⟩
  have a0 : 0 ≤ a := by omega
  have a1 : a < 18446744073709551616 := by omega
  have HI0 := hid (show SpI W0 W0 a 0 (.slice none 0 0) [] a from ⟨GrI.start W0, a0, Int.le_refl _, by simp [val], .inl rfl⟩)
  have HN := hid a1
  have HA := hid ha
  have HB0 := hid hB0; have Hw0 := hid hw0; have HW := hid hW0
  obtain ⟨i0, hi, hz0, hz1, hz2⟩ := info_parts Tryz.info3
  have e1 : n < 0 → IntKind.u64.wrap n = n + 18446744073709551616 := fun h => by rw [IntKind.wrap_u64]; omega
  have e2 : n < 0 → IntKind.u64.wrap (-(n + 18446744073709551616)) = a := fun h => by rw [IntKind.wrap_u64]; omega
  have e3 : ¬ n < 0 → IntKind.u64.wrap n = a := fun h => by rw [IntKind.wrap_u64]; omega
  clear hB0 hw0 hW0 ha a0 a1
  by_cases hs : n < 0
  · replace e1 := e1 hs; replace e2 := e2 hs
    clear e3
    have HS : Hid (sgn true a = n) := hid (by have := HA.out; unfold sgn; simp; omega)
    go_enter Tryz.func50, Tryz.ntmps50
    go_wp2
    rw [← HW.out]
    go_loopw [3, 4] (fun mv ov wr => ∃ k : Nat, ∃ Q m, mv = .int .u64 m ∧ SpI W0 wr a k ov Q m) (fun mv _ _ => (intOf mv).toNat)
    case atStart => exact ⟨0, [], a, rfl, HI0.out⟩
    case round =>
      obtain ⟨k, Q, m, rfl, H⟩ := hrel
      have m0 := H.m0
      have hk := H.few HN.out
      have m1 : m < 18446744073709551616 := Int.lt_of_le_of_lt H.m1 HN.out
      by_cases hm : 0 < m
      · have HH := hid H
        have HNx := hid (fun wx ov' hg => H.next (wx := wx) (ov' := ov') hm hg)
        have htm : m.tmod 65536 = m % 65536 := Int.tmod_eq_emod_of_nonneg m0
        clear H HI0
        go_wp2_with (at_builtin; refine wpList_append_own _ rfl _ _ 31 rfl W0.heap.size 3 i0 (.int .i64 0) 1 8 Tryz.underlying31 hi hz0 hz1 hz2 rfl (by decide) _ k (Q.map (Value.int .i64)) rfl (HH.out.g.own.alloc _) ⟨wr.heap.size, 0, none⟩ 1 1 [.int .i64 (m % 65536)] rfl rfl ?c1 ?c2 ?c3 ?c4 ?c5 ?_)
        case c1 => exact fun j u hj => new_one0 j u hj
        case c2 => intro u hu; simp at hu; subst hu; rfl
        case c3 => unfold maxLen; omega
        case c4 => omega
        case c5 => have := HH.out.g.low.size; simp; omega
        intro ov' w3 hown hg _
        have HI := hid (HNx.out _ _ (HH.out.g.next _ (Int.emod_nonneg _ (by decide)) (Int.emod_lt_of_pos _ (by decide)) _ hown hg))
        clear hown hg
        go_wp2
        go_roundw
        case rel => exact ⟨k + 1, _, _, rfl, HI.out⟩
        case measure => simp [intOf]; omega
      · obtain rfl : m = 0 := by omega
        have hd := H.done HN.out
        have hlow := H.g.low
        have hbw := HB0.out.trans (hlow.mono (by have := Hw0.out; omega))
        clear H HI0 hm
        go_wp2_with fail
        refine (made_any true _ _ 4 _ hd.dg).mono ?_
        rintro e w1 ⟨_, rfl, hv1, hb1⟩
        obtain ⟨b1, o1, m1, c1, rfl, H1, _, _⟩ := Zt.opened hv1
        obtain ⟨hr0, hr1, hr2, hr3⟩ := HT.out _ (hlow.trans (hb1.mono hlow.size))
        have HBW := hid (hbw.trans (hb1.mono hbw.size))
        clear hd hlow hbw hb1 hv1
        go_wp2
        refine bodyPost_ret (v := .agg #[.bool b1, .slice o1 m1 c1]) (by simp [results, Tryz.results50, go_sem, hr0, hr1]) rfl ⟨_, rfl, ?_, (HBW.out.setCell (Nat.le_refl _) _).setCell (Nat.le_refl _) _⟩
        rw [HS.out] at H1
        exact ((H1.out _ (Below.refl _ _)).set hr0 (fun x h => (by cases h)) _).set (u := .slice none 0 0) (by simp [go_sem, hr1]) (fun x h => (by cases h)) _
  · replace e3 := e3 hs
    clear e1 e2
    have HS : Hid (sgn (decide (n < 0)) a = n) := hid (by have := HA.out; rw [decide_eq_false hs]; unfold sgn; simp; omega)
    go_enter Tryz.func50, Tryz.ntmps50
    go_wp2
    rw [← HW.out]
    go_loopw [3, 4] (fun mv ov wr => ∃ k : Nat, ∃ Q m, mv = .int .u64 m ∧ SpI W0 wr a k ov Q m) (fun mv _ _ => (intOf mv).toNat)
    case atStart => exact ⟨0, [], a, rfl, HI0.out⟩
    case round =>
      obtain ⟨k, Q, m, rfl, H⟩ := hrel
      have m0 := H.m0
      have hk := H.few HN.out
      have m1 : m < 18446744073709551616 := Int.lt_of_le_of_lt H.m1 HN.out
      by_cases hm : 0 < m
      · have HH := hid H
        have HNx := hid (fun wx ov' hg => H.next (wx := wx) (ov' := ov') hm hg)
        have htm : m.tmod 65536 = m % 65536 := Int.tmod_eq_emod_of_nonneg m0
        clear H HI0
        go_wp2_with (at_builtin; refine wpList_append_own _ rfl _ _ 31 rfl W0.heap.size 3 i0 (.int .i64 0) 1 8 Tryz.underlying31 hi hz0 hz1 hz2 rfl (by decide) _ k (Q.map (Value.int .i64)) rfl (HH.out.g.own.alloc _) ⟨wr.heap.size, 0, none⟩ 1 1 [.int .i64 (m % 65536)] rfl rfl ?c1 ?c2 ?c3 ?c4 ?c5 ?_)
        case c1 => exact fun j u hj => new_one0 j u hj
        case c2 => intro u hu; simp at hu; subst hu; rfl
        case c3 => unfold maxLen; omega
        case c4 => omega
        case c5 => have := HH.out.g.low.size; simp; omega
        intro ov' w3 hown hg _
        have HI := hid (HNx.out _ _ (HH.out.g.next _ (Int.emod_nonneg _ (by decide)) (Int.emod_lt_of_pos _ (by decide)) _ hown hg))
        clear hown hg
        go_wp2
        go_roundw
        case rel => exact ⟨k + 1, _, _, rfl, HI.out⟩
        case measure => simp [intOf]; omega
      · obtain rfl : m = 0 := by omega
        have hd := H.done HN.out
        have hlow := H.g.low
        have hbw := HB0.out.trans (hlow.mono (by have := Hw0.out; omega))
        clear H HI0 hm
        go_wp2_with fail
        refine (made_any (decide (n < 0)) _ _ 4 _ hd.dg).mono ?_
        rintro e w1 ⟨_, rfl, hv1, hb1⟩
        obtain ⟨b1, o1, m1, c1, rfl, H1, _, _⟩ := Zt.opened hv1
        obtain ⟨hr0, hr1, hr2, hr3⟩ := HT.out _ (hlow.trans (hb1.mono hlow.size))
        have HBW := hid (hbw.trans (hb1.mono hbw.size))
        clear hd hlow hbw hb1 hv1
        go_wp2
        refine bodyPost_ret (v := .agg #[.bool b1, .slice o1 m1 c1]) (by simp [results, Tryz.results50, go_sem, hr0, hr1]) rfl ⟨_, rfl, ?_, (HBW.out.setCell (Nat.le_refl _) _).setCell (Nat.le_refl _) _⟩
        rw [HS.out] at H1
        exact ((H1.out _ (Below.refl _ _)).set hr0 (fun x h => (by cases h)) _).set (u := .slice none 0 0) (by simp [go_sem, hr1]) (fun x h => (by cases h)) _
end Go.Proofs.YtbapeilpkhbbeaaGreat
