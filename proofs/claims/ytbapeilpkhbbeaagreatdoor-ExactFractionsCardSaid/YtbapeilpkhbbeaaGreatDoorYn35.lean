/- The document's texts of integers, and their parts. The document's Parse of any text. -/
import Derived.Test.YtbapeilpkhbbeaaGreatDoorYn34
import Derived.Test.YtbapeilpkhbbeaaGreatDoorYn24
import Derived.Test.YtbapeilpkhbbeaaGreatDoorYn16
import Derived.Test.YtbapeilpkhbbeaaGreatDoorYn23
/- The document's texts of integers, and their parts. -/
namespace Go.Proofs.YtbapeilpkhbbeaaGreatDoor
open Go.RowKit

theorem lead_snoc {t : List UInt8} {c : UInt8} (h : leadB (t ++ [c]) = true) (ht : t ≠ []) : ∃ d l, t = d :: l ∧ d ≠ 48 := by
  cases t with
  | nil => exact absurd rfl ht
  | cons d l =>
    refine ⟨d, l, rfl, fun e => ?_⟩
    subst e
    unfold leadB at h
    simp [Lib.hasPrefix, List.isPrefixOf] at h
/-- Digits that begin as a number's do are the number's digits. -/
theorem dec_dv : ∀ (k : Nat) (t : List UInt8), t.length ≤ k → t.all isD = true → leadB t = true → t ≠ [] → Lib.decDigits (dv t) = t
  | 0, t, hk, _, _, h0 => absurd (List.eq_nil_of_length_eq_zero (by omega)) h0
  | k + 1, t, hk, hall, hl, h0 => by
    obtain ⟨t', c, rfl⟩ : ∃ t' c, t = t' ++ [c] := ⟨t.dropLast, t.getLast h0, (List.dropLast_concat_getLast h0).symm⟩
    rw [List.all_append, Bool.and_eq_true] at hall
    have hc : isD c = true := by simpa using hall.2
    have hcb := isD_le hc
    have hc9 := dC_le hc
    have hch : UInt8.ofNat (48 + dC c) = c := by
      apply UInt8.toNat_inj.1
      rw [dig_nat (by omega)]
      unfold dC; omega
    have e1 : dv [c] = dC c := by show 10 * 0 + dC c = dC c; omega
    by_cases ht : t' = []
    · subst ht
      rw [List.nil_append, e1, dec_small (by omega), hch]
    · obtain ⟨d, l, hd, hd48⟩ := lead_snoc hl ht
      have hl' : leadB t' = true := by
        unfold leadB
        rw [hd]
        have : Lib.hasPrefix (d :: l) [48] = false := by simp [Lib.hasPrefix, List.isPrefixOf, Ne.symm hd48]
        rw [this]; simp
      have ih := dec_dv k t' (by simp at hk; omega) hall.1 hl' ht
      have hpos : 0 < dv t' := by
        rcases Nat.eq_zero_or_pos (dv t') with h | h
        · rw [h, dec_small (by decide)] at ih
          rw [hd] at ih
          injection ih with i1 i2
          exact absurd i1.symm (by intro e; exact hd48 (by rw [e]; rfl))
        · exact h
      rw [dv_append, e1, List.length_singleton, Nat.pow_one]
      rw [dec_big (by omega)]
      rw [show (dv t' * 10 + dC c) / 10 = dv t' by omega, show (dv t' * 10 + dC c) % 10 = dC c by omega, ih, hch]
theorem neg_split (l : List UInt8) : l = sgL (negB l) (bodyL l) := by
  by_cases h : Lib.hasPrefix l [45] = true
  · unfold negB bodyL Lib.trimPrefix
    rw [if_pos h, h]
    cases l with
    | nil => simp [Lib.hasPrefix, List.isPrefixOf] at h
    | cons c l =>
      have : c = 45 := by
        simp [Lib.hasPrefix, List.isPrefixOf] at h
        exact h.symm
      subst this
      rfl
  · have h' : Lib.hasPrefix l [45] = false := by simpa using h
    unfold negB bodyL Lib.trimPrefix
    rw [if_neg h, h']
    rfl
theorem sgL_inj {b : Bool} {l m : List UInt8} (h : sgL b l = sgL b m) : l = m := by
  cases b with
  | false => exact h
  | true => injection h
/-- A text is an integer's text just when it is that of the number that its digits stand for. -/
theorem prs_text (l : List UInt8) : prsB l = (digB (bodyL l) && decide (txL (prsZ l) = l)) := by
  unfold prsB
  cases hd : digB (bodyL l) with
  | false => rfl
  | true =>
    rw [Bool.true_and, Bool.true_and]
    have hdg : bodyL l ≠ [] ∧ (bodyL l).all isD = true := by
      unfold digB at hd
      simpa using hd
    have hs := neg_split l
    obtain ⟨g1, g2, g3, g4⟩ := dec_ok (dv (bodyL l))
    by_cases h0 : negB l = true ∧ dv (bodyL l) = 0
    · rw [h0.1, h0.2]
      have e : prsZ l = 0 := by unfold prsZ; rw [h0.1, h0.2]; rfl
      have : ¬ txL (prsZ l) = l := by
        rw [e, hs, h0.1]
        intro h
        unfold txL at h
        rw [show (0 : Int).natAbs = 0 from rfl, dec_small (by decide)] at h
        simp [sgL] at h
      rw [decide_eq_false this]
      simp
    · have e : txL (prsZ l) = sgL (negB l) (Lib.decDigits (dv (bodyL l))) := by
        unfold txL prsZ
        rw [sgn_nat]
        refine congrArg (fun b => sgL b _) ?_
        cases hn : negB l with
        | false => simp [sgn]
        | true =>
          have : dv (bodyL l) ≠ 0 := fun h => h0 ⟨hn, h⟩
          simp [sgn]; omega
      have e2 : (negB l && decide (dv (bodyL l) = 0)) = false := by
        rw [← Bool.not_eq_true]
        intro h
        rw [Bool.and_eq_true, decide_eq_true_eq] at h
        exact h0 h
      rw [e2, Bool.not_false, Bool.and_true, e]
      by_cases hl : leadB (bodyL l) = true
      · rw [hl, dec_dv _ _ (Nat.le_refl _) hdg.2 hl hdg.1, ← hs]
        simp
      · have : ¬ sgL (negB l) (Lib.decDigits (dv (bodyL l))) = l := by
          intro h
          have h2 := sgL_inj (h.trans hs)
          rw [h2] at g3
          exact hl g3
        rw [decide_eq_false this]
        simpa using hl

set_option maxRecDepth 100000 in
set_option maxHeartbeats 1000000 in
theorem rText_any (v : Value) (z : Int) (K : Nat) (w : World) (h : Zt w v z K) (hK : K ≤ 100000) (hs : (txL z).length ≤ 1000000) :
    Calls Tryz.prog 42 #[v] w fun e w' => e = .returned (.string ⟨(txL z).toArray⟩) ∧ Below w.heap.size w w' := by
  have hdl : (Lib.decDigits z.natAbs).length ≤ 1000000 := by
    unfold txL sgL at hs
    split at hs
    · rw [List.length_cons] at hs; omega
    · exact hs
  obtain ⟨xb, xo, xm, xc, rfl, Hx, Hxs, Hxb⟩ := Zt.opened h
  have hB0 : Below w.heap.size w (w.alloc (.cells #[.bool xb, .slice xo xm xc] 31)) := (Below.refl _ _).alloc (Nat.le_refl _) _
  obtain ⟨ds, hds⟩ : ∃ ds, ds = Lib.decDigits z.natAbs := ⟨_, rfl⟩
  have HD := hid (show Calls Tryz.prog 30 #[.slice xo xm xc] (w.alloc (.cells #[.bool xb, .slice xo xm xc] 31)) (fun e w' => e = .returned (.string ⟨ds.toArray⟩) ∧ Below (w.alloc (.cells #[.bool xb, .slice xo xm xc] 31)).heap.size (w.alloc (.cells #[.bool xb, .slice xo xm xc] 31)) w') by
    rw [hds]; exact rdecimals_any _ z.natAbs K _ (Hxs.out _ hB0) hK hdl)
  have he : txL z = sgL xb ds := by rw [Hxb.out, hds]; rfl
  rw [he]
  have hlen2 : ¬ 9223372036854775807 < 1 + ds.length := by rw [hds]; omega
  clear h hs hdl hds he Hxb
  cases hb : xb with
  | false =>
    subst hb
    go_enter Tryz.func42, Tryz.ntmps42
    go_wp2_with fail
    refine HD.out.mono ?_
    rintro e w2 ⟨rfl, hb2⟩
    have hbel := hB0.trans (hb2.mono (by simp))
    go_wp2
    go_ret
    exact ⟨rfl, hbel⟩
  | true =>
    subst hb
    go_enter Tryz.func42, Tryz.ntmps42
    go_wp2_with fail
    refine HD.out.mono ?_
    rintro e w2 ⟨rfl, hb2⟩
    have hbel := hB0.trans (hb2.mono (by simp))
    go_wp2
    go_ret
    refine ⟨?_, hbel⟩
    refine congrArg (fun t => Ending.returned (Value.string t)) ?_
    apply ByteArray.ext
    simp [ByteArray.data_append, sgL]

set_option maxRecDepth 100000 in
set_option maxHeartbeats 1000000 in
theorem rminus_any (l : List UInt8) (w : World) :
    Calls Tryz.prog 75 #[.string ⟨l.toArray⟩] w fun e w' => e = .returned (.tuple #[.string ⟨(bodyL l).toArray⟩, .bool (negB l)]) ∧ w' = w := by
  cases l with
  | nil =>
    go_enter Tryz.func75, Tryz.ntmps75
    go_wp2
    go_ret2
    exact ⟨rfl, rfl⟩
  | cons c l =>
    have hch : ∀ h, (⟨(c :: l).toArray⟩ : ByteArray)[0]'h = c := fun _ => rfl
    have hsl : (⟨(c :: l).toArray⟩ : ByteArray).extract 1 (c :: l).length = ⟨l.toArray⟩ := ba_drop (c :: l) 1
    have hpos : (0 : Int) < ((c :: l).length : Int) := by rw [List.length_cons]; omega
    obtain ⟨n, hn⟩ : ∃ n, n = (c :: l).length := ⟨_, rfl⟩
    obtain ⟨S, hS⟩ : ∃ S : ByteArray, S = ⟨(c :: l).toArray⟩ := ⟨_, rfl⟩
    by_cases h45 : c = 45
    · subst h45
      obtain ⟨e1, e2⟩ := neg_yes l
      rw [e1, e2]
      clear hn hS
      go_enter Tryz.func75, Tryz.ntmps75
      go_wp2
      go_ret2
      refine ⟨congrArg (fun t => Ending.returned (Value.tuple #[Value.string t, Value.bool true])) ?_, rfl⟩
      exact hsl
    · have hp : Lib.hasPrefix (c :: l) [45] = false := by simp [Lib.hasPrefix, List.isPrefixOf, Ne.symm h45]
      have e1 : negB (c :: l) = false := hp
      have e2 : bodyL (c :: l) = c :: l := by
        unfold bodyL Lib.trimPrefix
        rw [if_neg (by rw [hp]; exact Bool.false_ne_true)]
      have hcI : ¬ ((c.toNat : Nat) : Int) = 45 := fun h => h45 (UInt8.toNat_inj.1 (by have e : (45 : UInt8).toNat = 45 := rfl; omega))
      rw [e1, e2]
      clear hn hS hp h45
      go_enter Tryz.func75, Tryz.ntmps75
      go_wp2
      go_ret2
      exact ⟨rfl, rfl⟩

/-- What the document's digits hands back. -/
def RetRD (l : List UInt8) (K : Nat) (w : World) (e : Ending) (w' : World) : Prop :=
  ∃ v y, e = .returned (.tuple #[v, .bool (digB l)]) ∧ Zt w' v y K ∧ (digB l = true → y = ((dv l : Nat) : Int)) ∧ Below w.heap.size w w'
theorem rset_two {w : World} {b : Nat} {v0 v1 : Value} {T : TypeId} (u0 u1 : Value) (h : w.heap[b]? = some (.cells #[v0, v1] T (0, 0))) : ((w.setCell ⟨b, 0, none⟩ u0).setCell ⟨b, 1, none⟩ u1).heap[b]? = some (.cells #[u0, u1] T (0, 0)) := by
  obtain ⟨hlt, hk⟩ := Array.getElem?_eq_some_iff.1 h
  have h1 : (w.setCell ⟨b, 0, none⟩ u0).heap[b]? = some (.cells #[u0, v1] T (0, 0)) := by
    show (w.heap.modify b _)[b]? = _
    rw [Array.getElem?_eq_getElem (by rw [Array.size_modify]; exact hlt), Array.getElem_modify_self, hk]
    rfl
  obtain ⟨hlt1, hk1⟩ := Array.getElem?_eq_some_iff.1 h1
  show ((w.setCell ⟨b, 0, none⟩ u0).heap.modify b _)[b]? = _
  rw [Array.getElem?_eq_getElem (by rw [Array.size_modify]; exact hlt1), Array.getElem_modify_self, hk1]
  rfl
theorem rset_other {w : World} {b k : Nat} {o : Obj} (u0 u1 : Value) (h : w.heap[k]? = some o) (hne : k ≠ b) : ((w.setCell ⟨b, 0, none⟩ u0).setCell ⟨b, 1, none⟩ u1).heap[k]? = some o := by
  exact (Below.heap_setCell _ ⟨b, 1, none⟩ _ k (fun e => hne (by simpa using e))).trans ((Below.heap_setCell _ ⟨b, 0, none⟩ _ k (fun e => hne (by simpa using e))).trans h)
/-- Behind some digits. -/
structure RDI (w wr : World) (p q : Nat) (l : List UInt8) (i K : Nat) : Prop where
  bel : Below w.heap.size w wr
  out : ∃ b ao m c, wr.heap[p]? = some (.cells #[.bool b, .slice ao m c] 31 (0, 0)) ∧ Zt wr (.agg #[.bool b, .slice ao m c]) ((dv (l.take i) : Nat) : Int) K
  ten : ∃ b ao m c, wr.heap[q]? = some (.cells #[.bool b, .slice ao m c] 31 (0, 0)) ∧ Zt wr (.agg #[.bool b, .slice ao m c]) 10 4
  box : wr.heap[w.heap.size]? = some (.cells #[.bool false, .slice none 0 0] 31 (0, 0))

set_option maxRecDepth 100000 in
set_option maxHeartbeats 8000000 in
theorem rdigits_any (l : List UInt8) (hl : l.length ≤ 10000) (w : World) :
    Calls Tryz.prog 76 #[.string ⟨l.toArray⟩] w (RetRD l (6 * l.length + 6) w) := by
  have HL := hid hl
  clear hl
  go_enter Tryz.func76, Tryz.ntmps76
  have hbld : ∀ w : World, (Instr.build 31 #[]).run Tryz.prog w = .ok (.agg #[.bool false, .slice none 0 0]) w := fun w => by kernel_rfl
  obtain ⟨W0, hW0⟩ : ∃ W0, W0 = (w.alloc (.cells #[.bool false, .slice none 0 0] 31)).alloc (.cells #[.bool false, .slice none 0 0] 31) := ⟨_, rfl⟩
  have hB0 : Below w.heap.size w W0 := by rw [hW0]; exact ((Below.refl _ _).alloc (Nat.le_refl _) _).alloc (by simp) _
  have hz0 : W0.heap.size = w.heap.size + 2 := by rw [hW0]; simp
  have hx0 : W0.heap[w.heap.size]? = some (.cells #[.bool false, .slice none 0 0] 31 (0, 0)) := by
    rw [hW0]; exact (Below.heap_alloc _ _ _ (by simp)).trans (World.alloc_heap_new w _)
  have hx1 : W0.heap[w.heap.size + 1]? = some (.cells #[.bool false, .slice none 0 0] 31 (0, 0)) := by
    rw [hW0]
    have := World.alloc_heap_new (w.alloc (.cells #[.bool false, .slice none 0 0] 31)) (.cells #[.bool false, .slice none 0 0] 31)
    rwa [World.size_alloc] at this
  go_wp2_with fail
  rw [← hW0]
  refine (rof_any 10 W0 (by decide) (by decide)).mono ?_
  rintro e w2 ⟨v10, rfl, h10, hb2⟩
  obtain ⟨tb, t_o, tm, tc, rfl, H10, _, _⟩ := Zt.opened h10
  have hs2 := hb2.size
  obtain ⟨W1, hW1⟩ : ∃ W1, W1 = w2.alloc (.cells #[.bool tb, .slice t_o tm tc] 31) := ⟨_, rfl⟩
  have hal : Below w2.heap.size w2 W1 := by rw [hW1]; exact bl_new _
  have HI := hid (show RDI w W1 (w.heap.size + 1) w2.heap.size l 0 4 from ⟨(hB0.trans (hb2.mono hB0.size)).trans (hal.mono (by omega)), ⟨false, none, 0, 0, (hal.block _ (by omega)).trans ((hb2.block _ (by omega)).trans hx1), ⟨.slice none 0 0, by rw [show ((dv (l.take 0) : Nat) : Int) = 0 from rfl]; rfl, Md.nil _ |>.mono (by omega)⟩⟩, ⟨tb, t_o, tm, tc, by rw [hW1]; exact World.alloc_heap_new _ _, H10.out _ hal⟩, (hal.block _ (by omega)).trans ((hb2.block _ (by omega)).trans hx0)⟩)
  have hpq : w.heap.size + 1 < w2.heap.size := by omega
  have HW1 := hid hW1
  clear hW1 hal hs2 hb2 h10 H10 hx0 hx1 hB0 hW0
  go_upto_region 3 with (fail)
  rw [← HW1.out]
  go_wp2_with fail
  go_loopw [6] (fun iv wr => ∃ i : Nat, i ≤ l.length ∧ iv = .int .i64 (i : Int) ∧ (l.take i).all isD = true ∧ RDI w wr (w.heap.size + 1) w2.heap.size l i (6 * i + 4)) (fun iv _ => l.length - (intOf iv).toNat)
  case atStart => exact ⟨0, Nat.zero_le _, rfl, by simp, HI.out⟩
  case round =>
    obtain ⟨i, hi, rfl, hall, hR⟩ := hrel
    obtain ⟨ob, oo, om, oc, ho, hoz⟩ := hR.out
    obtain ⟨sb, so, sm, sc, ht, htz⟩ := hR.ten
    have hx := hR.box
    have c0 : wr.cell? ⟨w.heap.size, 0, none⟩ = some (.bool false) := (cell_of_row wr _ 0 _ _ (0, 0) hx).trans rfl
    have c1 : wr.cell? ⟨w.heap.size, 1, none⟩ = some (.slice none 0 0) := (cell_of_row wr _ 1 _ _ (0, 0) hx).trans rfl
    have f0 := frozen_of_row wr _ 0 _ _ hx
    have f1 := frozen_of_row wr _ 1 _ _ hx
    have o0 : wr.cell? ⟨w.heap.size + 1, 0, none⟩ = some (.bool ob) := (cell_of_row wr _ 0 _ _ (0, 0) ho).trans rfl
    have o1 : wr.cell? ⟨w.heap.size + 1, 1, none⟩ = some (.slice oo om oc) := (cell_of_row wr _ 1 _ _ (0, 0) ho).trans rfl
    have HRR := hid hR
    by_cases hil : i = l.length
    · subst hil
      rw [List.take_length] at hall hoz
      have hnI : ¬ (l.length : Int) < (l.length : Int) := by omega
      have hb : Below w.heap.size w wr := hR.bel
      have HZ := hid hoz; have HB := hid hb; have HG := hid hall
      clear hoz hb hall ht htz ho hx hR HI hpq
      go_wp2
      refine bodyPost_ret (v := .tuple #[.agg #[.bool ob, .slice oo om oc], .bool (decide (0 < l.length))]) (by simp [results, Tryz.results76, go_sem, c0, c1]) rfl ⟨_, ((dv l : Nat) : Int), ?_, ((HZ.out.set (u := .bool false) c0 (fun x h => by cases h) _).set (u := .slice none 0 0) (by simp [go_sem, c1]) (fun x h => by cases h) _).mono (by omega), fun _ => rfl, (HB.out.setCell (p := ⟨w.heap.size, 0, none⟩) (Nat.le_refl _) _).setCell (p := ⟨w.heap.size, 1, none⟩) (Nat.le_refl _) _⟩
      have e : decide (0 < l.length) = digB l := by
        unfold digB
        rw [HG.out, Bool.and_true]
        cases l <;> simp
      rw [e]
    · have hin : i < l.length := by omega
      have hjI : (i : Int) < (l.length : Int) := by omega
      have hj0 : (0 : Int) ≤ (i : Int) := by omega
      have hj9 : (i : Int) ≤ 10000 := by have := HL.out; omega
      obtain ⟨c, hc⟩ : ∃ c, c = l[i] := ⟨_, rfl⟩
      have hch : (⟨l.toArray⟩ : ByteArray)[i] = c := by rw [hc]; rfl
      have htk : l.take (i + 1) = l.take i ++ [c] := by rw [hc]; exact (List.take_append_getElem hin).symm
      by_cases hd : isD c = true
      · have hb1 := isD_le hd
        have hlo : 48 ≤ (c.toNat : Int) := by omega
        have hhi : (c.toNat : Int) ≤ 57 := by omega
        have hn1 : ¬ (c.toNat : Int) < 48 := by omega
        have hn2 : ¬ 57 < (c.toNat : Int) := by omega
        have w8 : IntKind.u8.wrap ((c.toNat : Int) - 48) = (c.toNat : Int) - 48 := by rw [IntKind.wrap_u8]; omega
        have HM := hid (fun (w' : World) (hb : Below wr.heap.size wr w') => rmul_any _ _ ((dv (l.take i) : Nat) : Int) 10 (6 * i + 4) 4 w' (hoz.below hb (Nat.le_refl _)) (htz.below hb (Nat.le_refl _)) (by have := HL.out; omega) (by omega))
        have HTen := hid (fun (w' : World) (hb : Below wr.heap.size wr w') => htz.below hb (Nat.le_refl _))
        have HO := hid (fun (w' : World) => show Calls Tryz.prog 17 #[.int .i64 (IntKind.i64.wrap ((c.toNat : Int) - 48))] w' (RetZ w' ((c.toNat : Int) - 48) 4) by
          rw [show IntKind.i64.wrap ((c.toNat : Int) - 48) = (c.toNat : Int) - 48 from IntWalk.i64_in _ (by omega)]
          exact rof_any ((c.toNat : Int) - 48) w' (by omega) (by omega))
        have HA := hid (fun (u v : Value) (w' : World) (hu : Zt w' u (((dv (l.take i) : Nat) : Int) * 10) (6 * i + 4 + 4 + 1)) (hv : Zt w' v ((c.toNat : Int) - 48) 4) => radd_any u v _ _ (6 * i + 9) w' (hu.mono (by omega)) (hv.mono (by omega)) (by have := HL.out; omega))
        have HCell := hid (fun (w' : World) (hb : Below wr.heap.size wr w') => show (w'.cell? ⟨w.heap.size + 1, 0, none⟩ = some (.bool ob) ∧ w'.cell? ⟨w.heap.size + 1, 1, none⟩ = some (.slice oo om oc)) ∧ w'.frozen? ⟨w.heap.size + 1, 0, none⟩ = false ∧ w'.frozen? ⟨w.heap.size + 1, 1, none⟩ = false from by
          have h := (hb.block _ (Array.getElem?_eq_some_iff.1 ho).1).trans ho
          exact ⟨⟨(cell_of_row w' _ 0 _ _ (0, 0) h).trans rfl, (cell_of_row w' _ 1 _ _ (0, 0) h).trans rfl⟩, frozen_of_row w' _ 0 _ _ h, frozen_of_row w' _ 1 _ _ h⟩)
        have t0 : wr.cell? ⟨w2.heap.size, 0, none⟩ = some (.bool sb) := (cell_of_row wr _ 0 _ _ (0, 0) ht).trans rfl
        have t1 : wr.cell? ⟨w2.heap.size, 1, none⟩ = some (.slice so sm sc) := (cell_of_row wr _ 1 _ _ (0, 0) ht).trans rfl
        have Hrel := hid (show ((dv (l.take i) : Nat) : Int) * 10 + ((c.toNat : Int) - 48) = ((dv (l.take (i + 1)) : Nat) : Int) ∧ (l.take (i + 1)).all isD = true by
          refine ⟨?_, ?_⟩
          · rw [htk, dv_append]
            show _ = ((dv (l.take i) * 10 ^ 1 + (10 * 0 + dC c) : Nat) : Int)
            unfold dC
            omega
          · rw [htk, List.all_append, hall]; simp [hd])
        have HSS := hid (fun (w' : World) (hb : Below wr.heap.size wr w') => show w'.cell? ⟨w.heap.size + 1, 0, none⟩ = some (.bool ob) ∧ w'.cell? ⟨w.heap.size + 1, 1, none⟩ = some (.slice oo om oc) ∧ w'.cell? ⟨w2.heap.size, 0, none⟩ = some (.bool sb) ∧ w'.cell? ⟨w2.heap.size, 1, none⟩ = some (.slice so sm sc) from by
          have h := (hb.block _ (Array.getElem?_eq_some_iff.1 ho).1).trans ho
          have h2 := (hb.block _ (Array.getElem?_eq_some_iff.1 ht).1).trans ht
          exact ⟨(cell_of_row w' _ 0 _ _ (0, 0) h).trans rfl, (cell_of_row w' _ 1 _ _ (0, 0) h).trans rfl, (cell_of_row w' _ 0 _ _ (0, 0) h2).trans rfl, (cell_of_row w' _ 1 _ _ (0, 0) h2).trans rfl⟩)
        have hX0 := Below.refl wr.heap.size wr
        have hmx : Tryz.prog.follows .mixedOrders = true := by kernel_rfl
        obtain ⟨d, hdv⟩ : ∃ d : Int, d = ((dv (l.take i) : Nat) : Int) := ⟨_, rfl⟩
        rw [← hdv] at HM HA Hrel
        have Ho := hid ho; have Ht := hid ht; have Hx := hid hx; have Hpq := hid hpq
        clear hoz htz ho ht hx hR hall htk hd hc hb1 hdv HI hpq
        go_wp2
        go_region_with (first
          | (go_at_call 65; refine (HM.out _ hX0.drew).mono ?_; rintro e v1 ⟨_, rfl, hv1, hb1⟩; obtain ⟨b1, o1, m1, q1, rfl, H1, _, _⟩ := Zt.opened hv1; have hY1 : Below wr.heap.size wr v1 := hX0.drew.trans hb1)
          | (go_at_call 17; refine (HO.out _).mono ?_; rintro e v2 ⟨_, rfl, hv2, hb2⟩; obtain ⟨b2, o2, m2, q2, rfl, H2, _, _⟩ := Zt.opened hv2; have hY2 : Below wr.heap.size wr v2 := hY1.trans (hb2.mono hY1.size))
          | (go_at_call 77; refine (HA.out _ _ _ (H1.out _ hb2) (H2.out _ (Below.refl _ _))).mono ?_; rintro e v3 ⟨_, rfl, hv3, hb3⟩; obtain ⟨b3, o3, m3, q3, rfl, H3, _, _⟩ := Zt.opened hv3; have hY3 : Below wr.heap.size wr v3 := hY2.trans (hb3.mono hY2.size); obtain ⟨⟨r0, r1⟩, g0, g1⟩ := HCell.out v3 hY3))
        all_goals
          go_wp2
          go_roundw
          · refine ⟨i + 1, by omega, by go_num, Hrel.out.2, ⟨((HRR.out.bel.trans (hY3.mono HRR.out.bel.size)).setCell (p := ⟨w.heap.size + 1, 0, none⟩) (by simp) _).setCell (p := ⟨w.heap.size + 1, 1, none⟩) (by simp) _, ⟨b3, o3, m3, q3, rset_two _ _ ((hY3.block _ (Array.getElem?_eq_some_iff.1 Ho.out).1).trans Ho.out), ?_⟩, ⟨sb, so, sm, sc, rset_other _ _ ((hY3.block _ (Array.getElem?_eq_some_iff.1 Ht.out).1).trans Ht.out) (by have := Hpq.out; omega), ?_⟩, rset_other _ _ ((hY3.block _ (Array.getElem?_eq_some_iff.1 Hx.out).1).trans Hx.out) (by omega)⟩⟩
            · rw [← Hrel.out.1]
              exact (((H3.out v3 (Below.refl _ _)).set (u := .bool ob) r0 (fun x h => by cases h) _).set (u := .slice oo om oc) (by simp [go_sem, r1]) (fun x h => by cases h) _).mono (by omega)
            · exact (((HTen.out v3 hY3)).set (u := .bool ob) r0 (fun x h => by cases h) _).set (u := .slice oo om oc) (by simp [go_sem, r1]) (fun x h => by cases h) _
          · simp [intOf]
            omega
      · have hbad : digB l = false := by
          unfold digB
          have : l.all isD = false := by
            rw [← Bool.not_eq_true]
            intro h
            rw [List.all_eq_true] at h
            exact hd (by rw [hc]; exact h _ (List.getElem_mem hin))
          rw [this, Bool.and_false]
        have hb : Below w.heap.size w wr := hR.bel
        have HB := hid hb; have HBad := hid hbad
        have hnd : ¬ (48 ≤ (c.toNat : Int) ∧ (c.toNat : Int) ≤ 57) := by
          intro h
          apply hd
          unfold isD
          simp
          omega
        clear hoz htz ho ht hx hR hall htk hd hc HI hpq hb hbad
        by_cases hlo : (c.toNat : Int) < 48
        · go_wp2
          refine bodyPost_ret (v := .tuple #[.agg #[.bool false, .slice none 0 0], .bool false]) (by simp [results, Tryz.results76, go_sem, c0, c1]) rfl ⟨.agg #[.bool false, .slice none 0 0], 0, by rw [HBad.out], ⟨.slice none 0 0, rfl, (Md.nil _).mono (Nat.zero_le _)⟩, (fun h => by rw [HBad.out] at h; cases h), (HB.out.setCell (p := ⟨w.heap.size, 0, none⟩) (Nat.le_refl _) _).setCell (p := ⟨w.heap.size, 1, none⟩) (Nat.le_refl _) _⟩
        · have hhi : 57 < (c.toNat : Int) := by omega
          go_wp2
          refine bodyPost_ret (v := .tuple #[.agg #[.bool false, .slice none 0 0], .bool false]) (by simp [results, Tryz.results76, go_sem, c0, c1]) rfl ⟨.agg #[.bool false, .slice none 0 0], 0, by rw [HBad.out], ⟨.slice none 0 0, rfl, (Md.nil _).mono (Nat.zero_le _)⟩, (fun h => by rw [HBad.out] at h; cases h), (HB.out.setCell (p := ⟨w.heap.size, 0, none⟩) (Nat.le_refl _) _).setCell (p := ⟨w.heap.size, 1, none⟩) (Nat.le_refl _) _⟩
end Go.Proofs.YtbapeilpkhbbeaaGreatDoor

/- The document's Parse of any text. -/
namespace Go.Proofs.YtbapeilpkhbbeaaGreatDoor
open Go.RowKit

/-- What the document's Parse hands back. -/
def RetRP (l : List UInt8) (K : Nat) (w : World) (e : Ending) (w' : World) : Prop :=
  ∃ b o m c, e = .returned (.tuple #[.agg #[.bool b, .slice o m c], .int .i64 (prsE l)]) ∧ (prsE l = 0 → Zt w' (.agg #[.bool b, .slice o m c]) (prsZ l) K) ∧ Below w.heap.size w w'
theorem zt_sgn {w : World} {s : Value} {n K : Nat} (b : Bool) (h : Md w s (n : Int) K) : Zt w (.agg #[.bool (b && decide (0 < n)), s]) (sgn b (n : Int)) K := by
  refine ⟨s, ?_, by rw [sgn_nat]; exact h⟩
  refine congrArg (fun t => Value.agg #[.bool t, s]) ?_
  cases b with
  | false => simp [sgn]
  | true => by_cases hn : 0 < n <;> simp [sgn, hn] <;> omega

theorem bytes_ne {a b : ByteArray} (h : ¬ a = b) : (a.toList == b.toList) = false :=
  beq_eq_false_iff_ne.2 (fun e => h (by
    rw [ByteArray.toList_eq, ByteArray.toList_eq] at e
    exact (Lib.mk_data a).symm.trans ((congrArg (fun l => (⟨l.toArray⟩ : ByteArray)) e).trans (Lib.mk_data b))))

set_option maxRecDepth 100000 in
set_option maxHeartbeats 30000000 in
theorem rParse_long (l : List UInt8) (hl : l.length ≤ 10000) (hlong : 4096 < l.length) (w : World) :
    Calls Tryz.prog 35 #[.string ⟨l.toArray⟩] w (RetRP l (6 * l.length + 6) w) := by
  have hlen := bodyL_len l
  obtain ⟨K, hK⟩ : ∃ K, K = 6 * l.length + 6 := ⟨_, rfl⟩
  rw [← hK]
  have HKb := hid (show K ≤ 100000 by omega)
  obtain ⟨t, ht⟩ : ∃ t, t = bodyL l := ⟨_, rfl⟩
  obtain ⟨neg, hneg⟩ : ∃ b, b = negB l := ⟨_, rfl⟩
  obtain ⟨s, hs⟩ : ∃ s : ByteArray, s = ⟨l.toArray⟩ := ⟨_, rfl⟩
  have hsl : (s.size : Int) = (l.length : Int) := by rw [hs]; rfl
  rw [← hs]
  have HMi := hid (fun w' => show Calls Tryz.prog 75 #[.string s] w' (fun e w2 => e = .returned (.tuple #[.string ⟨t.toArray⟩, .bool neg]) ∧ w2 = w') by rw [ht, hneg, hs]; exact rminus_any l w')
  obtain ⟨b, hb⟩ : ∃ b, b = digB t := ⟨_, rfl⟩
  have HDi := hid (fun w' => show Calls Tryz.prog 76 #[.string ⟨t.toArray⟩] w' (fun e w2 => ∃ v y, e = .returned (.tuple #[v, .bool b]) ∧ Zt w2 v y K ∧ (b = true → y = ((dv t : Nat) : Int)) ∧ Below w'.heap.size w' w2) from (rdigits_any t (by rw [ht]; omega) w').mono (by
    rintro e w2 ⟨v, y, rfl, h1, h2, h3⟩
    exact ⟨v, y, by rw [hb], h1.mono (by rw [hK, ht]; omega), by rw [hb]; exact h2, h3⟩))
  obtain ⟨E, hE⟩ : ∃ E, E = prsE l := ⟨_, rfl⟩
  obtain ⟨Z, hZ⟩ : ∃ Z, Z = prsZ l := ⟨_, rfl⟩
  have hZs : Z = sgn neg ((dv t : Nat) : Int) := by rw [hZ, hneg, ht]; rfl
  have hpt := prs_text l
  rw [← ht, ← hb, ← hZ] at hpt
  have HE := hid hE; have HZ := hid hZ
  have Hbad := hid (show ∀ (w' : World) (E0 : Int), E = E0 → E0 ≠ 0 → Below w.heap.size w w' → RetRP l K w (.returned (.tuple #[.agg #[.bool false, .slice none 0 0], .int .i64 E0])) w' from fun w' E0 e1 e2 hb =>
    ⟨false, none, 0, 0, by rw [← e1, hE], (fun h => absurd (by rw [← e1, hE]; exact h) e2), hb⟩)
  have hbld : ∀ w : World, (Instr.build 31 #[]).run Tryz.prog w = .ok (.agg #[.bool false, .slice none 0 0]) w := fun w => by kernel_rfl
  obtain ⟨W0, hW0⟩ : ∃ W0, W0 = w.alloc (.cells #[.bool false, .slice none 0 0] 31) := ⟨_, rfl⟩
  have hB0 : Below w.heap.size w W0 := by rw [hW0]; exact (Below.refl _ _).alloc (Nat.le_refl _) _
  have hz0 : W0.heap.size = w.heap.size + 1 := by rw [hW0]; simp
  have HT : Hid (∀ w', Below W0.heap.size W0 w' → (w'.cell? ⟨w.heap.size, 0, none⟩ = some (.bool false) ∧ w'.cell? ⟨w.heap.size, 1, none⟩ = some (.slice none 0 0)) ∧ w'.frozen? ⟨w.heap.size, 0, none⟩ = false ∧ w'.frozen? ⟨w.heap.size, 1, none⟩ = false) := hid (fun w' hb => by
    refine ⟨⟨?_, ?_⟩, ?_, ?_⟩ <;> (first | (rw [hb.cell (by rw [hW0]; simp), hW0]; simp [go_sem]; done) | (rw [hb.frozen (by rw [hW0]; simp), hW0]; simp [go_sem]; done)))
  have HB0 := hid hB0; have HW := hid hW0; have Hz0 := hid hz0
  clear hW0 hB0 hz0 hlen
  have hlI : 4096 < (s.size : Int) := by omega
  have HE3 := hid (show E = 3 by rw [hE]; unfold prsE; rw [if_pos hlong])
  clear hlong hE hZ hZs hpt hK ht hneg hb hl
  go_enter Tryz.func35, Tryz.ntmps35
  go_upto_region 1 with (fail)
  rw [← HW.out]
  obtain ⟨⟨k0, k1⟩, f0, f1⟩ := HT.out W0 (Below.refl _ _)
  go_wp2
  refine bodyPost_ret (v := .tuple #[.agg #[.bool false, .slice none 0 0], .int .i64 3]) (by simp [results, Tryz.results35, go_sem, k0, k1]) rfl (Hbad.out _ 3 HE3.out (by decide) ((HB0.out.setCell (p := ⟨w.heap.size, 0, none⟩) (Nat.le_refl _) _).setCell (p := ⟨w.heap.size, 1, none⟩) (Nat.le_refl _) _))
end Go.Proofs.YtbapeilpkhbbeaaGreatDoor
