/- exact.multiplyHalves, if multiply is right at shorter factors. exact.multiply at any factors (of 500,000 limbs together). Written by gen_mulany.py. -/
import Derived.Test.YtilpkocmdpofpaaGreatDoorNb24
import Derived.Test.YtilpkocmdpofpaaGreatDoorNb08
import Derived.Test.YtilpkocmdpofpaaGreatDoorNb10
import Derived.Deep.RegionHeld3
/- exact.multiplyHalves, if multiply is right at shorter factors. -/
namespace Go.Proofs.YtilpkocmdpofpaaGreatDoor
open Go.RowKit

theorem Rd.drop {w : World} {k : IntKind} {b o : Nat} {c : Nat} {L : List Int} (h : Rd w k (some ⟨b, o, none⟩) c L) (n : Nat) (hn : n ≤ L.length) : Rd w k (some ⟨b, o + n, none⟩) (c - n) (L.drop n) := by
  have hc := h.cap
  refine ⟨by rw [List.length_drop]; omega, by have := h.most; omega, fun _ => ⟨_, _, rfl⟩, fun b' o' e i hi => ?_⟩
  cases e
  rw [List.length_drop] at hi
  rw [Nat.add_assoc, h.cell b o rfl (n + i) (by omega), List.getElem?_drop]

/-- multiply is right at factors of fewer than N limbs together. -/
def MulAt (N : Nat) : Prop := ∀ (va vb : Value) (a b : Int) (Ka Kb : Nat) (w : World), Nt w va a Ka → Nt w vb b Kb → Ka + Kb < N → Ka + Kb ≤ 500000 →
  Calls Tryz.prog 97 #[va, vb] w (RetOwn w (a * b) (Ka + Kb))

theorem Nrm.drop {L : List Int} (h : Nrm L) : ∀ n, Nrm (L.drop n) := by
  induction L with
  | nil => intro n; simpa using Nrm.nil
  | cons x l ih =>
    intro n
    cases n with
    | zero => simpa using h
    | succ n => simpa using ih h.tail n
theorem val_parts (L : List Int) (n : Nat) (hn : n ≤ L.length) : val B64 L = val B64 (L.take n) + B64 ^ n * val B64 (L.drop n) := by
  have e := val_append B64 (L.take n) (L.drop n)
  rw [List.take_append_drop, List.length_take, Nat.min_eq_left hn] at e
  exact e
theorem kara (al ah bl bh p : Int) : al * bl + p * ((al + ah) * (bl + bh) - al * bl - ah * bh + p * (ah * bh)) = (al + p * ah) * (bl + p * bh) := by grind
theorem kara_le {al ah bl bh : Int} (h1 : 0 ≤ al) (h2 : 0 ≤ ah) (h3 : 0 ≤ bl) (h4 : 0 ≤ bh) : al * bl ≤ (al + ah) * (bl + bh) ∧ ah * bh ≤ (al + ah) * (bl + bh) ∧ ah * bh ≤ (al + ah) * (bl + bh) - al * bl := by
  have a := Int.mul_nonneg h1 h3; have b := Int.mul_nonneg h1 h4; have c := Int.mul_nonneg h2 h3; have d := Int.mul_nonneg h2 h4
  have e : (al + ah) * (bl + bh) = al * bl + al * bh + ah * bl + ah * bh := by grind
  omega

/-- Behind a difference in place that is not below 0. -/
theorem subs_done {w wr : World} {g : Nat} {A S M A1 : List Int} {cc : Int} (hle : val B64 M ≤ val B64 A)
    (h : SubI w wr g [] A S A.length (val B64 M) A1 cc) : Row .u64 91 wr g (A1 ++ S) ∧ Dig B64 A1 ∧ val B64 A1 = val B64 A - val B64 M ∧ A1.length = A.length := by
  have e := h.eq
  have h1 := val_lt B64_pos h.dig
  rw [h.len] at h1
  have hcc : cc = 0 := by
    rcases (show cc = 0 ∨ cc = 1 by have := h.c0; have := h.c1; omega) with h | h
    · exact h
    · subst h; omega
  subst hcc
  exact ⟨by simpa using h.row, h.dig, by simpa using e, h.len⟩

set_option maxRecDepth 100000 in
set_option maxHeartbeats 4000000 in
theorem halves_any (N : Nat) (IH : MulAt N) (ao bo : Option Addr) (ca cb la lb h : Nat) (LA LB : List Int) (a b : Int) (w : World) (hA : NtL w ao ca LA a la) (hB : NtL w bo cb LB b lb) (hla : LA.length = la) (hlb : LB.length = lb)
    (hh : h = (la + 1) / 2) (h80 : 80 ≤ lb) (hhb : h < lb) (hba : lb ≤ la) (hN : la + lb ≤ N) (hM : la + lb ≤ 500000) :
    Calls Tryz.prog 145 #[.slice ao la ca, .slice bo lb cb, .int .i64 h] w (RetOwn w (a * b) (la + lb)) := by
  obtain ⟨ab, aof, rfl⟩ := hA.rd.adr (by omega)
  obtain ⟨bb, bof, rfl⟩ := hB.rd.adr (by omega)
  have hcA := hA.rd.cap; have hcB := hB.rd.cap; have hmA := hA.rd.most; have hmB := hB.rd.most
  rw [hla] at hcA; rw [hlb] at hcB
  -- the parts
  obtain ⟨al, hal⟩ : ∃ al, al = val B64 (LA.take h) := ⟨_, rfl⟩
  obtain ⟨ah, hah⟩ : ∃ ah, ah = val B64 (LA.drop h) := ⟨_, rfl⟩
  obtain ⟨bl, hbl⟩ : ∃ bl, bl = val B64 (LB.take h) := ⟨_, rfl⟩
  obtain ⟨bh, hbh⟩ : ∃ bh, bh = val B64 (LB.drop h) := ⟨_, rfl⟩
  have ea : a = al + B64 ^ h * ah := by rw [← hA.eq, val_parts LA h (by omega), hal, hah]
  have eb : b = bl + B64 ^ h * bh := by rw [← hB.eq, val_parts LB h (by omega), hbl, hbh]
  have al0 : 0 ≤ al := by rw [hal]; exact val_nonneg B64_pos (hA.dig.take h)
  have ah0 : 0 ≤ ah := by rw [hah]; exact val_nonneg B64_pos (hA.dig.drop h)
  have bl0 : 0 ≤ bl := by rw [hbl]; exact val_nonneg B64_pos (hB.dig.take h)
  have bh0 : 0 ≤ bh := by rw [hbh]; exact val_nonneg B64_pos (hB.dig.drop h)
  have hahp : 0 < ah := by
    rcases Int.lt_or_eq_of_le ah0 with k | k
    · exact k
    · have := Nrm.eq_nil B64_pos (hA.dig.drop h) (hA.nrm.drop h) (by rw [← hah]; exact k.symm)
      have hl := congrArg List.length this
      simp at hl; omega
  have hbhp : 0 < bh := by
    rcases Int.lt_or_eq_of_le bh0 with k | k
    · exact k
    · have := Nrm.eq_nil B64_pos (hB.dig.drop h) (hB.nrm.drop h) (by rw [← hbh]; exact k.symm)
      have hl := congrArg List.length this
      simp at hl; omega
  have hmid0 : 0 < (al + ah) * (bl + bh) := Int.mul_pos (by omega) (by omega)
  have hkl := kara_le al0 ah0 bl0 bh0
  have hfin : a * b < B64 ^ (la + lb) := by
    rw [Int.pow_add]
    have x1 := val_lt B64_pos hA.dig; have x2 := val_lt B64_pos hB.dig
    rw [hA.eq, hla] at x1; rw [hB.eq, hlb] at x2
    have y1 : 0 ≤ a := hA.nonneg
    have y2 : 0 ≤ b := hB.nonneg
    have p1 : (0 : Int) < B64 ^ la := Int.pow_pos B64_pos
    have z1 : a * b ≤ a * B64 ^ lb := Int.mul_le_mul_of_nonneg_left (Int.le_of_lt x2) y1
    have z2 : a * B64 ^ lb < B64 ^ la * B64 ^ lb := Int.mul_lt_mul_of_pos_right x1 (Int.pow_pos B64_pos)
    omega
  have hkar := kara al ah bl bh (B64 ^ h)
  rw [← ea, ← eb] at hkar
  -- what the slices read
  have htA := fun (w' : World) (hb : Below w.heap.size w w') => trim64_any (some ⟨ab, aof, none⟩) ca (LA.take h) w' ((hA.rd.take h).below hb (Nat.le_refl _))
  have htB := fun (w' : World) (hb : Below w.heap.size w w') => trim64_any (some ⟨bb, bof, none⟩) cb (LB.take h) w' ((hB.rd.take h).below hb (Nat.le_refl _))
  have hlA : (LA.take h).length = h := by rw [List.length_take]; omega
  have hlB : (LB.take h).length = h := by rw [List.length_take]; omega
  rw [hlA] at htA; rw [hlB] at htB
  obtain ⟨ma, hma⟩ : ∃ ma, ma = (trimL (LA.take h)).length := ⟨_, rfl⟩
  obtain ⟨mb, hmb⟩ : ∃ mb, mb = (trimL (LB.take h)).length := ⟨_, rfl⟩
  have hmah : ma ≤ h := by have := trimL_len (LA.take h); omega
  have hmbh : mb ≤ h := by have := trimL_len (LB.take h); omega
  have hNal : ∀ w', Below w.heap.size w w' → Nt w' (.slice (some ⟨ab, aof, none⟩) ma ca) al h := fun w' hb => ⟨_, ca, trimL (LA.take h), by rw [hma], by
    have := ((hA.rd.take h).take (trimL (LA.take h)).length).below hb (Nat.le_refl _)
    rw [← trimL_take] at this; exact this, (hA.dig.take h).trim, Nrm.trim _, by rw [val_trim, hal], by rw [← hma]; exact hmah⟩
  have hNbl : ∀ w', Below w.heap.size w w' → Nt w' (.slice (some ⟨bb, bof, none⟩) mb cb) bl h := fun w' hb => ⟨_, cb, trimL (LB.take h), by rw [hmb], by
    have := ((hB.rd.take h).take (trimL (LB.take h)).length).below hb (Nat.le_refl _)
    rw [← trimL_take] at this; exact this, (hB.dig.take h).trim, Nrm.trim _, by rw [val_trim, hbl], by rw [← hmb]; exact hmbh⟩
  have hNah : ∀ w', Below w.heap.size w w' → Nt w' (.slice (some ⟨ab, aof + h, none⟩) (la - h) (ca - h)) ah (la - h) := fun w' hb => ⟨_, _, LA.drop h, by rw [List.length_drop, hla], (hA.rd.drop h (by omega)).below hb (Nat.le_refl _), hA.dig.drop h, hA.nrm.drop h, hah.symm, by rw [List.length_drop]; omega⟩
  have hNbh : ∀ w', Below w.heap.size w w' → Nt w' (.slice (some ⟨bb, bof + h, none⟩) (lb - h) (cb - h)) bh (lb - h) := fun w' hb => ⟨_, _, LB.drop h, by rw [List.length_drop, hlb], (hB.rd.drop h (by omega)).below hb (Nat.le_refl _), hB.dig.drop h, hB.nrm.drop h, hbh.symm, by rw [List.length_drop]; omega⟩
  rw [← hma] at htA; rw [← hmb] at htB
  have HtA := hid htA; have HtB := hid htB; have HNal := hid hNal; have HNbl := hid hNbl; have HNah := hid hNah; have HNbh := hid hNbh
  have HM0 := hid hmid0; have HKL := hid hkl; have HFin := hid hfin; have HKar := hid hkar; have HIH := hid IH; have HN := hid hN
  have HP0 := hid (show 0 ≤ al ∧ 0 ≤ ah ∧ 0 ≤ bl ∧ 0 ≤ bh from ⟨al0, ah0, bl0, bh0⟩)
  have hh2 : 2 * h ≤ la + 1 := by omega
  have hh3 : la ≤ 2 * h := by omega
  have hh4 : 40 ≤ h := by omega
  have hhl : h < la := by omega
  have hha : h < ca := by omega
  have hhc : h < cb := by omega
  have Hh := hid hh
  clear htA htB hNal hNbl hNah hNbh hmid0 hkl hfin hkar IH hN hA hB hal hah hbl hbh ea eb al0 ah0 bl0 bh0 hahp hbhp hlA hlB hma hmb hh hla hlb
  go_enter Tryz.func145, Tryz.ntmps145
  go_wp2
  go_quiet ((go_at_call 136; exact Calls.quiet_of_same ((HtA.out _ (below_drewN (Below.refl _ _) _)).mono (fun _ _ ⟨e, h⟩ => ⟨e, h.symm⟩))))
  go_wp2
  go_quiet ((go_at_call 136; exact quietMore ((HtB.out _ (below_drewN (Below.refl _ _) _)).mono (fun _ _ ⟨e, h⟩ => ⟨e, h.symm⟩))))
  go_wp2_with fail
  refine (HIH.out _ _ al bl h h _ (HNal.out _ (below_drewN (Below.refl _ _) _)) (HNbl.out _ (below_drewN (Below.refl _ _) _)) (by have := HN.out; omega) (by omega)).mono ?_
  rintro e w1 ⟨_, rfl, ho1, hb1⟩
  obtain ⟨lo, lm, lc, rfl, HLo⟩ := Nt.opened ho1.nt
  have HB1 := hid ((below_drewN (Below.refl w.heap.size w) _).trans hb1)
  clear ho1 hb1
  go_wp2_with fail
  refine (HIH.out _ _ ah bh (la - h) (lb - h) _ (HNah.out _ HB1.out) (HNbh.out _ HB1.out) (by have := HN.out; omega) (by omega)).mono ?_
  rintro e w2 ⟨_, rfl, ho2, hb2⟩
  obtain ⟨ho, hm, hc, rfl, HHi⟩ := Nt.opened ho2.nt
  have HB2 := hid (HB1.out.trans (hb2.mono HB1.out.size))
  have HLo2 := hid (fun w' (hb : Below w2.heap.size w2 w') => HLo.out w' (hb2.trans (hb.mono hb2.size)))
  clear ho2 hb2 HLo
  go_wp2_with fail
  refine (add_any _ _ al ah h h (h + 1) _ (HNal.out _ HB2.out) ((HNah.out _ HB2.out).mono (by omega)) (by omega) (by omega) (by omega) (by omega)).mono ?_
  rintro e w3 ⟨_, rfl, hv3, hb3⟩
  obtain ⟨o3, m3, c3, rfl, H3⟩ := Nt.opened hv3
  have HB3 := hid (HB2.out.trans (hb3.mono HB2.out.size))
  have HB23 := hid hb3
  clear hv3 hb3
  go_wp2_with fail
  refine (add_any _ _ bl bh h h (h + 1) _ (HNbl.out _ HB3.out) ((HNbh.out _ HB3.out).mono (by omega)) (by omega) (by omega) (by omega) (by omega)).mono ?_
  rintro e w4 ⟨_, rfl, hv4, hb4⟩
  have HB4 := hid (HB3.out.trans (hb4.mono HB3.out.size))
  have HB24 := hid (HB23.out.trans (hb4.mono HB23.out.size))
  have H3' := hid (H3.out _ hb4)
  have H4' := hid hv4
  clear hv4 hb4 H3 HB23
  go_wp2_with fail
  refine (HIH.out _ _ (al + ah) (bl + bh) (h + 1) (h + 1) _ H3'.out H4'.out (by have := HN.out; omega) (by omega)).mono ?_
  rintro e w5 ⟨_, rfl, ho5, hb5⟩
  rcases ho5 with ⟨g, gc, L, S, rfl, HO, hLK⟩ | ⟨_, hz⟩
  · have hB5 := HB4.out.trans (hb5.mono HB4.out.size)
    have hB25 := HB24.out.trans (hb5.mono HB24.out.size)
    have hgb := HO.base
    obtain ⟨_, _, LL, ell, hLL⟩ := HLo2.out w5 hB25
    obtain ⟨_, _, LH, elh, hLH⟩ := HHi.out w5 hB25
    obtain ⟨rfl, elm, rfl⟩ := Value.slice.inj ell
    obtain ⟨rfl, ehm, rfl⟩ := Value.slice.inj elh
    obtain ⟨_, _, LL2, ell2, hLL2⟩ := HLo2.out w4 HB24.out
    obtain ⟨_, _, LH2, elh2, hLH2⟩ := HHi.out w4 HB24.out
    obtain ⟨rfl, elm2, rfl⟩ := Value.slice.inj ell2
    obtain ⟨rfl, ehm2, rfl⟩ := Value.slice.inj elh2
    have hneL := hLL2.rd.ne hgb
    have hneH := hLH2.rd.ne hgb
    rw [← elm2, elm] at hneL; rw [← ehm2, ehm] at hneH
    have hvL : val B64 LL ≤ val B64 L := by rw [hLL.eq, HO.eq]; exact HKL.out.1
    have hvH : val B64 LH ≤ val B64 L := by rw [hLH.eq, HO.eq]; exact HKL.out.2.1
    have hlL := len_of_le HO.dig hLL.dig hLL.nrm hvL
    have hlH := len_of_le HO.dig hLH.dig hLH.nrm hvH
    have hs1 := subFrom_any g [] L S LL gc _ _ w5 (by simpa using HO.row) HO.dig hLL.dig HO.cap HO.most hLL.rd hlL hneL
    have hd1 := fun (w' : World) (A1 : List Int) (cc : Int) (HI : SubI w5 w' g [] L S L.length (val B64 LL) A1 cc) => subs_done hvL HI
    obtain ⟨n, hn⟩ : ∃ n, n = L.length := ⟨_, rfl⟩
    rw [show ([] : List Int).length = 0 from rfl, ← hn, ← elm] at hs1
    rw [← hn] at hd1 hlL hlH hLK ⊢
    have hcap := HO.cap; have hmost := HO.most
    rw [← hn] at hcap
    have Hs1 := hid hs1; have Hd1 := hid hd1; have HB5 := hid hB5
    have HLL := hid hLL; have HLH := hid hLH; have HneL := hid hneL; have HneH := hid hneH; have Hn := hid hn
    have HvO := hid HO.eq; have HlH := hid hlH; have Hlm := hid elm; have Hhm := hid ehm
    have HB45 := hid hb5; have Hgb := hid hgb
    have hgw : w.heap.size ≤ g := Nat.le_trans HB4.out.size hgb
    have HLK := hid hLK
    clear ell elh ell2 elh2 elm ehm elm2 ehm2 hLL hLH hLL2 hLH2 hneL hneH hvL hvH hlL hlH hs1 hd1 hn HO hB5 hB25 hb5 HLo2 HHi hgb hLK
    clear H3' H4' HB1 HB2 HB3 HB4 HB24 HNal HNbl HNah HNbh HtA HtB HIH
    go_wp2_with fail
    refine Hs1.out.mono ?_
    rintro e w6 ⟨A1, cc, rfl, HI⟩
    obtain ⟨hrow6, hd6, hv6, hl6⟩ := Hd1.out _ _ _ HI
    have hB6 := HB5.out.grown HI.gr (by have := HB5.out.size; omega) (fun k e => by cases e; exact hgw)
    have hrdL6 := HLL.out.rd.keptNew HI.gr HneL.out
    have hrdH6 := HLH.out.rd.keptNew HI.gr HneH.out
    have hvH6 : val B64 LH ≤ val B64 A1 := by rw [hv6, HLH.out.eq, HvO.out, HLL.out.eq]; exact HKL.out.2.2
    have hs2 := subFrom_any g [] A1 S LH gc _ _ w6 (by simpa using hrow6) hd6 HLH.out.dig (by have := Hn.out; omega) hmost hrdH6 (by have := HlH.out; omega) HneH.out
    have hd2 := fun (w' : World) (A2 : List Int) (cc : Int) (HI : SubI w6 w' g [] A1 S A1.length (val B64 LH) A2 cc) => subs_done hvH6 HI
    have hlA1 : A1.length = n := by have := Hn.out; omega
    rw [show ([] : List Int).length = 0 from rfl, hlA1, ← Hhm.out] at hs2
    rw [hlA1] at hd2
    have Hs2 := hid hs2; have Hd2 := hid hd2; have HB6 := hid hB6; have HrdL6 := hid hrdL6; have HrdH6 := hid hrdH6; have Hv6 := hid hv6
    clear hs2 hd2 hB6 hrdL6 hrdH6 hvH6 hl6 hrow6 hd6 hv6 HI hlA1 Hs1 Hd1
    go_wp2_with fail
    refine Hs2.out.mono ?_
    rintro e w7 ⟨A2, cc2, rfl, HI⟩
    obtain ⟨hrow7, hd7, hv7, hl7⟩ := Hd2.out _ _ _ HI
    have hB7 := HB6.out.grown HI.gr (by have := HB6.out.size; omega) (fun k e => by cases e; exact hgw)
    have hNtL : Nt w7 (.slice lo lm lc) (al * bl) (h + h) := ⟨_, _, LL, by rw [Hlm.out], HrdL6.out.keptNew HI.gr HneL.out, HLL.out.dig, HLL.out.nrm, HLL.out.eq, HLL.out.le⟩
    have hNtH : Nt w7 (.slice ho hm hc) (ah * bh) ((la - h) + (lb - h)) := ⟨_, _, LH, by rw [Hhm.out], HrdH6.out.keptNew HI.gr HneH.out, HLH.out.dig, HLH.out.nrm, HLH.out.eq, HLH.out.le⟩
    have hrd7 : Rd w7 .u64 (some ⟨g, 0, none⟩) gc A2 := by
      have h' : Row .u64 91 w7 g ([] ++ A2 ++ S) := by simpa using hrow7
      exact h'.rd (by have := Hn.out; omega) hmost
    have ht := trim64_any (some ⟨g, 0, none⟩) gc A2 w7 hrd7
    have hlA2 : A2.length = n := by omega
    rw [hlA2] at ht
    have hvA2 : val B64 A2 = (al + ah) * (bl + bh) - al * bl - ah * bh := by rw [hv7, Hv6.out, HvO.out, HLL.out.eq, HLH.out.eq]
    have hNtM : Nt w7 (.slice (some ⟨g, 0, none⟩) (trimL A2).length gc) ((al + ah) * (bl + bh) - al * bl - ah * bh) (h + 1 + (h + 1)) :=
      ⟨_, gc, trimL A2, rfl, by have := hrd7.take (trimL A2).length; rw [← trimL_take] at this; exact this, hd7.trim, Nrm.trim _, by rw [val_trim]; exact hvA2, by have := trimL_len A2; have := HLK.out; omega⟩
    have Ht := hid ht; have HNtL := hid hNtL; have HNtM := hid hNtM; have HNtH := hid hNtH; have HB7 := hid hB7
    clear ht hNtL hNtM hNtH hB7 hrow7 hd7 hv7 hl7 hrd7 hlA2 hvA2 HI Hs2 Hd2
    go_wp2_with fail
    refine Ht.out.mono ?_
    rintro e w8 ⟨rfl, rfl⟩
    go_wp2_with fail
    refine (join_any _ _ _ _ _ _ h (la + lb + 5) _ HNtM.out HNtH.out (by omega) (by omega) (by omega)).mono ?_
    rintro e w8 ⟨_, rfl, ho8, hb8⟩
    obtain ⟨o8, m8, c8, rfl, H8⟩ := Nt.opened ho8.nt
    have HB8 := hid hb8
    have HNtL8 := hid (HNtL.out.below hb8 (Nat.le_refl _))
    clear ho8 hb8
    go_wp2_with fail
    refine (join_any _ _ _ _ _ _ h (la + lb + 5 + h + 1) _ HNtL8.out (H8.out _ (Below.refl _ _)) (by omega) (by omega) (by omega)).mono ?_
    rintro e w9 ⟨v9, rfl, ho9, hb9⟩
    rw [HKar.out] at ho9
    have HBf := hid ((HB7.out.trans (HB8.out.mono HB7.out.size)).trans (hb9.mono (by have := HB7.out.size; have := HB8.out.size; omega)))
    have Ho9 := hid ((ho9.base_le (by have := HB7.out.size; have := HB8.out.size; omega : w.heap.size ≤ w8.heap.size)).tight HFin.out)
    clear ho9 hb9
    go_wp2
    go_ret
    exact ⟨_, rfl, Ho9.out, HBf.out⟩
  · exfalso
    have := HM0.out
    omega

end Go.Proofs.YtilpkocmdpofpaaGreatDoor

/- exact.multiply at any factors (of 500,000 limbs together). Written by gen_mulany.py. -/
namespace Go.Proofs.YtilpkocmdpofpaaGreatDoor
open Go.RowKit

theorem OwnV.mono {w : World} {B : Nat} {v : Value} {n : Int} {K K' : Nat} (h : OwnV w B v n K) (hk : K ≤ K') : OwnV w B v n K' := by
  rcases h with ⟨g, c, L, S, e, h, hK⟩ | h
  · exact .inl ⟨g, c, L, S, e, h, Nat.le_trans hK hk⟩
  · exact .inr h
theorem RetOwn.mono {w : World} {n : Int} {K K' : Nat} {e : Ending} {w' : World} (h : RetOwn w n K e w') (hk : K ≤ K') : RetOwn w n K' e w' := by
  obtain ⟨v, h1, h2, h3⟩ := h
  exact ⟨v, h1, h2.mono hk, h3⟩
theorem prod_lt {a b : Int} {la lb : Nat} (a0 : 0 ≤ a) (a1 : a < B64 ^ la) (b1 : b < B64 ^ lb) : a * b < B64 ^ (la + lb) := by
  rw [Int.pow_add]
  have z1 : a * b ≤ a * B64 ^ lb := Int.mul_le_mul_of_nonneg_left (Int.le_of_lt b1) a0
  have z2 : a * B64 ^ lb < B64 ^ la * B64 ^ lb := Int.mul_lt_mul_of_pos_right a1 (Int.pow_pos B64_pos)
  omega

set_option maxRecDepth 100000 in
set_option maxHeartbeats 4000000 in
theorem mul_same (N : Nat) (IH : MulAt N) (xo yo : Option Addr) (xc yc lx ly : Nat) (LX LY : List Int) (x y : Int) (w : World) (hX : NtL w xo xc LX x lx) (hY : NtL w yo yc LY y ly) (hlx : LX.length = lx) (hly : LY.length = ly)
    (hyx : ly ≤ lx) (hN : lx + ly ≤ N) (hM : lx + ly ≤ 500000) :
    Calls Tryz.prog 97 #[.slice xo lx xc, .slice yo ly yc] w (RetOwn w (x * y) (lx + ly)) := by
  by_cases h80 : ly < 80
  · have hC := multiplyLimbs_own (.slice xo lx xc) (.slice yo ly yc) x y lx ly w ⟨xo, xc, LX, by rw [hlx], hX⟩ ⟨yo, yc, LY, by rw [hly], hY⟩ (by omega) (by omega)
    have HC := hid hC
    clear hX hY hlx hly hC IH
    go_enter Tryz.func97, Tryz.ntmps97
    go_wp2_with fail
    refine HC.out.mono ?_
    rintro e w' ⟨v, rfl, hv, hb⟩
    go_wp2
    go_ret
    exact ⟨v, rfl, hv, hb⟩
  · obtain ⟨t, hh⟩ : ∃ t, t = (lx + 1) / 2 := ⟨_, rfl⟩
    have e1 : ((lx : Int) + 1) / 2 = (t : Int) := by omega
    have e2 : ((lx : Int) + 1).tdiv 2 = (t : Int) := by rw [Int.tdiv_eq_ediv_of_nonneg (by omega)]; exact e1
    by_cases hyh : ly ≤ t
    · have hhl : t < lx := by omega
      obtain ⟨ab, aof, rfl⟩ := hX.rd.adr (by omega)
      have hcX := hX.rd.cap
      rw [hlx] at hcX
      obtain ⟨xl, hxl⟩ : ∃ xl, xl = val B64 (LX.take t) := ⟨_, rfl⟩
      obtain ⟨xh, hxh⟩ : ∃ xh, xh = val B64 (LX.drop t) := ⟨_, rfl⟩
      have ex : x = xl + B64 ^ t * xh := by rw [← hX.eq, val_parts LX t (by omega), hxl, hxh]
      have eres : xl * y + B64 ^ t * (xh * y) = x * y := by rw [ex]; grind
      have htX := fun (w' : World) (hb : Below w.heap.size w w') => trim64_any (some ⟨ab, aof, none⟩) xc (LX.take t) w' ((hX.rd.take t).below hb (Nat.le_refl _))
      have hlX : (LX.take t).length = t := by rw [List.length_take]; omega
      rw [hlX] at htX
      obtain ⟨ma, hma⟩ : ∃ ma, ma = (trimL (LX.take t)).length := ⟨_, rfl⟩
      have hmah : ma ≤ t := by have := trimL_len (LX.take t); omega
      rw [← hma] at htX
      have hNxl : ∀ w', Below w.heap.size w w' → Nt w' (.slice (some ⟨ab, aof, none⟩) ma xc) xl t := fun w' hb => ⟨_, xc, trimL (LX.take t), by rw [hma], by
        have := ((hX.rd.take t).take (trimL (LX.take t)).length).below hb (Nat.le_refl _)
        rw [← trimL_take] at this; exact this, (hX.dig.take t).trim, Nrm.trim _, by rw [val_trim, hxl], by rw [← hma]; exact hmah⟩
      have hNxh : ∀ w', Below w.heap.size w w' → Nt w' (.slice (some ⟨ab, aof + t, none⟩) (lx - t) (xc - t)) xh (lx - t) := fun w' hb => ⟨_, _, LX.drop t, by rw [List.length_drop, hlx], (hX.rd.drop t (by omega)).below hb (Nat.le_refl _), hX.dig.drop t, hX.nrm.drop t, hxh.symm, by rw [List.length_drop]; omega⟩
      have hNy : ∀ w', Below w.heap.size w w' → Nt w' (.slice yo ly yc) y ly := fun w' hb => ⟨yo, yc, LY, by rw [hly], hY.rd.below hb (Nat.le_refl _), hY.dig, hY.nrm, hY.eq, hY.le⟩
      have hfin : x * y < B64 ^ (lx + ly) := prod_lt hX.nonneg (by have := val_lt B64_pos hX.dig; rw [hX.eq, hlx] at this; exact this) (by have := val_lt B64_pos hY.dig; rw [hY.eq, hly] at this; exact this)
      have hM1 := fun (w' : World) (hb : Below w.heap.size w w') => IH _ _ xl y t ly w' (hNxl w' hb) (hNy w' hb) (by omega) (by omega)
      have hM2 := fun (w' : World) (hb : Below w.heap.size w w') => IH _ _ xh y (lx - t) ly w' (hNxh w' hb) (hNy w' hb) (by omega) (by omega)
      have HM1 := hid hM1; have HM2 := hid hM2
      clear hM1 hM2
      have HtX := hid htX; have HFin := hid hfin; have HRes := hid eres
      have hhc : t < xc := by omega
      have hh0 : (0 : Int) ≤ (t : Int) := by omega
      have hh5 : (t : Int) ≤ (lx : Int) := by omega
      have hh6 : (t : Int) ≤ (xc : Int) := by omega
      have hh8 : ¬ xc = t := by omega
      have hh9 : ¬ lx = t := by omega
      have hh7 : (lx : Int) ≤ (xc : Int) := by omega
      clear htX hNxl hNxh hNy hfin eres IH hX hY hlx hly hxl hxh ex hlX hma hN hh
      go_enter Tryz.func97, Tryz.ntmps97
      go_wp2
      go_region_held3 (fun _ => True) (trivial) (first
        | (go_at_call 136; refine (HtX.out _ (Below.refl _ _).drew).mono ?_; rintro e w1 ⟨rfl, rfl⟩)
        | (go_at_call_of 97 (ma); refine (HM1.out _ (Below.refl _ _).drew).mono ?_; rintro e w1 ⟨_, rfl, ho1, hb1⟩; obtain ⟨o1, m1, c1, rfl, H1⟩ := Nt.opened ho1.nt; have hB1 : Below w.heap.size w w1 := (Below.refl _ _).drew.trans hb1)
        | (go_at_call 97; refine (HM2.out _ hB1).mono ?_; rintro e w2 ⟨_, rfl, ho2, hb2⟩; obtain ⟨o2, m2, c2, rfl, H2⟩ := Nt.opened ho2.nt; have hB2 : Below w.heap.size w w2 := hB1.trans (hb2.mono hB1.size))
        | (go_at_call 144; refine (join_any _ _ _ _ _ _ t (lx + ly + t + 1) _ (H1.out _ hb2) (H2.out _ (Below.refl _ _)) (by omega) (by omega) (by omega)).mono ?_; rintro e w3 ⟨v3, rfl, ho3, hb3⟩; have hB3 : Below w.heap.size w w3 := hB2.trans (hb3.mono hB2.size)))
      rw [HRes.out] at ho3
      have Ho3 := hid ((ho3.base_le hB2.size).tight HFin.out)
      have HB3 := hid hB3
      clear ho3 hb3 hB3 ho1 ho2 hb1 hb2 hB1 hB2
      go_wp2
      go_ret
      exact ⟨_, rfl, Ho3.out, HB3.out⟩
    · have hC := halves_any N IH xo yo xc yc lx ly t LX LY x y w hX hY hlx hly hh (by omega) (by omega) (by omega) hN hM
      have HC := hid hC
      clear hX hY hlx hly hC IH hN hh
      go_enter Tryz.func97, Tryz.ntmps97
      go_wp2_with fail
      refine HC.out.mono ?_
      rintro e w' ⟨v, rfl, hv, hb⟩
      go_wp2
      go_ret
      exact ⟨v, rfl, hv, hb⟩

set_option maxRecDepth 100000 in
set_option maxHeartbeats 4000000 in
theorem mul_swap (N : Nat) (IH : MulAt N) (xo yo : Option Addr) (xc yc lx ly : Nat) (LX LY : List Int) (x y : Int) (w : World) (hX : NtL w xo xc LX x lx) (hY : NtL w yo yc LY y ly) (hlx : LX.length = lx) (hly : LY.length = ly)
    (hyx : ly < lx) (hN : lx + ly ≤ N) (hM : lx + ly ≤ 500000) :
    Calls Tryz.prog 97 #[.slice yo ly yc, .slice xo lx xc] w (RetOwn w (x * y) (lx + ly)) := by
  by_cases h80 : ly < 80
  · have hC := multiplyLimbs_own (.slice xo lx xc) (.slice yo ly yc) x y lx ly w ⟨xo, xc, LX, by rw [hlx], hX⟩ ⟨yo, yc, LY, by rw [hly], hY⟩ (by omega) (by omega)
    have HC := hid hC
    clear hX hY hlx hly hC IH
    go_enter Tryz.func97, Tryz.ntmps97
    go_wp2_with fail
    refine HC.out.mono ?_
    rintro e w' ⟨v, rfl, hv, hb⟩
    go_wp2
    go_ret
    exact ⟨v, rfl, hv, hb⟩
  · obtain ⟨t, hh⟩ : ∃ t, t = (lx + 1) / 2 := ⟨_, rfl⟩
    have e1 : ((lx : Int) + 1) / 2 = (t : Int) := by omega
    have e2 : ((lx : Int) + 1).tdiv 2 = (t : Int) := by rw [Int.tdiv_eq_ediv_of_nonneg (by omega)]; exact e1
    by_cases hyh : ly ≤ t
    · have hhl : t < lx := by omega
      obtain ⟨ab, aof, rfl⟩ := hX.rd.adr (by omega)
      have hcX := hX.rd.cap
      rw [hlx] at hcX
      obtain ⟨xl, hxl⟩ : ∃ xl, xl = val B64 (LX.take t) := ⟨_, rfl⟩
      obtain ⟨xh, hxh⟩ : ∃ xh, xh = val B64 (LX.drop t) := ⟨_, rfl⟩
      have ex : x = xl + B64 ^ t * xh := by rw [← hX.eq, val_parts LX t (by omega), hxl, hxh]
      have eres : xl * y + B64 ^ t * (xh * y) = x * y := by rw [ex]; grind
      have htX := fun (w' : World) (hb : Below w.heap.size w w') => trim64_any (some ⟨ab, aof, none⟩) xc (LX.take t) w' ((hX.rd.take t).below hb (Nat.le_refl _))
      have hlX : (LX.take t).length = t := by rw [List.length_take]; omega
      rw [hlX] at htX
      obtain ⟨ma, hma⟩ : ∃ ma, ma = (trimL (LX.take t)).length := ⟨_, rfl⟩
      have hmah : ma ≤ t := by have := trimL_len (LX.take t); omega
      rw [← hma] at htX
      have hNxl : ∀ w', Below w.heap.size w w' → Nt w' (.slice (some ⟨ab, aof, none⟩) ma xc) xl t := fun w' hb => ⟨_, xc, trimL (LX.take t), by rw [hma], by
        have := ((hX.rd.take t).take (trimL (LX.take t)).length).below hb (Nat.le_refl _)
        rw [← trimL_take] at this; exact this, (hX.dig.take t).trim, Nrm.trim _, by rw [val_trim, hxl], by rw [← hma]; exact hmah⟩
      have hNxh : ∀ w', Below w.heap.size w w' → Nt w' (.slice (some ⟨ab, aof + t, none⟩) (lx - t) (xc - t)) xh (lx - t) := fun w' hb => ⟨_, _, LX.drop t, by rw [List.length_drop, hlx], (hX.rd.drop t (by omega)).below hb (Nat.le_refl _), hX.dig.drop t, hX.nrm.drop t, hxh.symm, by rw [List.length_drop]; omega⟩
      have hNy : ∀ w', Below w.heap.size w w' → Nt w' (.slice yo ly yc) y ly := fun w' hb => ⟨yo, yc, LY, by rw [hly], hY.rd.below hb (Nat.le_refl _), hY.dig, hY.nrm, hY.eq, hY.le⟩
      have hfin : x * y < B64 ^ (lx + ly) := prod_lt hX.nonneg (by have := val_lt B64_pos hX.dig; rw [hX.eq, hlx] at this; exact this) (by have := val_lt B64_pos hY.dig; rw [hY.eq, hly] at this; exact this)
      have hM1 := fun (w' : World) (hb : Below w.heap.size w w') => IH _ _ xl y t ly w' (hNxl w' hb) (hNy w' hb) (by omega) (by omega)
      have hM2 := fun (w' : World) (hb : Below w.heap.size w w') => IH _ _ xh y (lx - t) ly w' (hNxh w' hb) (hNy w' hb) (by omega) (by omega)
      have HM1 := hid hM1; have HM2 := hid hM2
      clear hM1 hM2
      have HtX := hid htX; have HFin := hid hfin; have HRes := hid eres
      have hhc : t < xc := by omega
      have hh0 : (0 : Int) ≤ (t : Int) := by omega
      have hh5 : (t : Int) ≤ (lx : Int) := by omega
      have hh6 : (t : Int) ≤ (xc : Int) := by omega
      have hh8 : ¬ xc = t := by omega
      have hh9 : ¬ lx = t := by omega
      have hh7 : (lx : Int) ≤ (xc : Int) := by omega
      clear htX hNxl hNxh hNy hfin eres IH hX hY hlx hly hxl hxh ex hlX hma hN hh
      go_enter Tryz.func97, Tryz.ntmps97
      go_wp2
      go_region_held3 (fun _ => True) (trivial) (first
        | (go_at_call 136; refine (HtX.out _ (Below.refl _ _).drew).mono ?_; rintro e w1 ⟨rfl, rfl⟩)
        | (go_at_call_of 97 (ma); refine (HM1.out _ (Below.refl _ _).drew).mono ?_; rintro e w1 ⟨_, rfl, ho1, hb1⟩; obtain ⟨o1, m1, c1, rfl, H1⟩ := Nt.opened ho1.nt; have hB1 : Below w.heap.size w w1 := (Below.refl _ _).drew.trans hb1)
        | (go_at_call 97; refine (HM2.out _ hB1).mono ?_; rintro e w2 ⟨_, rfl, ho2, hb2⟩; obtain ⟨o2, m2, c2, rfl, H2⟩ := Nt.opened ho2.nt; have hB2 : Below w.heap.size w w2 := hB1.trans (hb2.mono hB1.size))
        | (go_at_call 144; refine (join_any _ _ _ _ _ _ t (lx + ly + t + 1) _ (H1.out _ hb2) (H2.out _ (Below.refl _ _)) (by omega) (by omega) (by omega)).mono ?_; rintro e w3 ⟨v3, rfl, ho3, hb3⟩; have hB3 : Below w.heap.size w w3 := hB2.trans (hb3.mono hB2.size)))
      rw [HRes.out] at ho3
      have Ho3 := hid ((ho3.base_le hB2.size).tight HFin.out)
      have HB3 := hid hB3
      clear ho3 hb3 hB3 ho1 ho2 hb1 hb2 hB1 hB2
      go_wp2
      go_ret
      exact ⟨_, rfl, Ho3.out, HB3.out⟩
    · have hC := halves_any N IH xo yo xc yc lx ly t LX LY x y w hX hY hlx hly hh (by omega) (by omega) (by omega) hN hM
      have HC := hid hC
      clear hX hY hlx hly hC IH hN hh
      go_enter Tryz.func97, Tryz.ntmps97
      go_wp2_with fail
      refine HC.out.mono ?_
      rintro e w' ⟨v, rfl, hv, hb⟩
      go_wp2
      go_ret
      exact ⟨v, rfl, hv, hb⟩

theorem mulAt_all : ∀ N, MulAt N := by
  intro N
  induction N with
  | zero => intro _ _ _ _ _ _ _ _ _ h; omega
  | succ N IH =>
    intro va vb a b Ka Kb w hA hB hN hM
    obtain ⟨ao, ca, LA, rfl, hA⟩ := hA
    obtain ⟨bo, cb, LB, rfl, hB⟩ := hB
    have hA' : NtL w ao ca LA a LA.length := ⟨hA.rd, hA.dig, hA.nrm, hA.eq, Nat.le_refl _⟩
    have hB' : NtL w bo cb LB b LB.length := ⟨hB.rd, hB.dig, hB.nrm, hB.eq, Nat.le_refl _⟩
    have h1 := hA.le; have h2 := hB.le
    by_cases h : LA.length < LB.length
    · refine (mul_swap N IH bo ao cb ca LB.length LA.length LB LA b a w hB' hA' rfl rfl h (by omega) (by omega)).mono ?_
      intro e w' hr
      rw [Int.mul_comm, Nat.add_comm] at hr
      exact hr.mono (by omega)
    · refine (mul_same N IH ao bo ca cb LA.length LB.length LA LB a b w hA' hB' rfl rfl (by omega) (by omega) (by omega)).mono ?_
      intro e w' hr
      exact hr.mono (by omega)

theorem multiply_any (va vb : Value) (a b : Int) (Ka Kb : Nat) (w : World) (hA : Nt w va a Ka) (hB : Nt w vb b Kb) (hK : Ka + Kb ≤ 500000) :
    Calls Tryz.prog 97 #[va, vb] w (RetN w (a * b) (Ka + Kb)) := by
  refine (mulAt_all (Ka + Kb + 1) va vb a b Ka Kb w hA hB (by omega) hK).mono ?_
  rintro e w' ⟨v, rfl, ho, hb⟩
  exact ⟨v, rfl, ho.nt, hb⟩

end Go.Proofs.YtilpkocmdpofpaaGreatDoor
