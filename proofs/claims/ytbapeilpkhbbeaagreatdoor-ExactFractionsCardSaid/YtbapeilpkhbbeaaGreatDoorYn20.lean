/- exact.parseDigits of any text: the number of its digits, if it is one or more digits. exact.leading: a number's digits do not begin with a zero, but for 0 itself. exact.parseInteger of any text. -/
import Derived.Test.YtbapeilpkhbbeaaGreatDoorYn18
import Derived.Test.YtbapeilpkhbbeaaGreatDoorYn19
import Derived.Scope
import Derived.Sort.QuietIn
import Derived.Test.YtbapeilpkhbbeaaGreatDoorYn17
import Derived.Test.YtbapeilpkhbbeaaGreatDoorYn16
/- exact.parseDigits of any text: the number of its digits, if it is one or more digits. -/
namespace Go.Proofs.YtbapeilpkhbbeaaGreatDoor
open Go.RowKit Go.Shelf
attribute [local go_sem] Oper.semAt_some

set_option maxHeartbeats 1000000 in
theorem pieces_in (n : Nat) (s : ByteArray) (w : World) :
    CallsIn Fence.wide n Tryz.prog 143 #[.string s] w fun e w' => e = .returned (.func (.func 163) #[] #[.pointer (some ⟨w.heap.size, 0, none⟩)]) ∧ w' = w.alloc (.cells #[.string s] 9) := by
  refine callsIn_of_wp Tryz.func143 rfl trivial ?_ rfl
  simp only [Tryz.ntmps143, List.size_toArray, List.length_cons, List.length_nil, Nat.reduceAdd, Nat.reduceSub, Array.replicate_succ, Array.replicate_zero, List.push_toArray, List.append_toArray, List.nil_append, List.cons_append]
  gi_wp2
  go_ret
  exact ⟨rfl, rfl⟩

/-- A block that is no cells may turn. -/
abbrev NoCells (W : World) (row : Option Nat) : Prop := ∀ r, row = some r → ∃ o : Obj, W.heap[r]? = some o ∧ o.isCells = false
theorem Nt.turn {W W' : World} {row : Option Nat} {v : Value} {n : Int} {K : Nat} (h : Nt W v n K) (hg : W.grownBy W' row) (hr : NoCells W row) : Nt W' v n K := by
  obtain ⟨ao, c, L, rfl, h⟩ := h
  exact ⟨ao, c, L, rfl, ⟨h.rd.cap, h.rd.most, h.rd.adr, fun b off e i hi => cell_kept (h.rd.cell b off e i hi) hg hr⟩, h.dig, h.nrm, h.eq, h.le⟩
theorem Boxed.turn {W W' : World} {row : Option Nat} {B : Nat} {t : TypeId} {v : Value} (h : Boxed W B t v) (hg : W.grownBy W' row) (hr : NoCells W row) : Boxed W' B t v := by
  refine h.kept hg (fun e => ?_)
  obtain ⟨o, ho, hc⟩ := hr B e.symm
  rw [show W.heap[B]? = _ from h] at ho; cases ho; cases hc

/-- The bytes of pieces. -/
abbrev flat (pre : List Pc) : List UInt8 := (pre.map (·.1)).flatten
theorem flat_snoc (pre : List Pc) (x : Pc) : flat (pre ++ [x]) = flat pre ++ x.1 := by simp [flat]

/-- Behind some pieces, all of digits. -/
structure DI (b0 : Bool) (Bn Bv n₀ : Nat) (w : World) (pre : List Pc) (W : World) : Prop where
  nb : ∃ v, Boxed W Bn 54 v ∧ Nt W v ((dv (flat pre) : Nat) : Int) pre.length
  vb : Boxed W Bv 4 (.bool b0)
  dg : (flat pre).all isD = true
  bel : Below n₀ w W
/-- Behind a piece with another byte. -/
structure DX (Bn Bv n₀ : Nat) (w : World) (pre : List Pc) (W : World) : Prop where
  nb : ∃ v y, Boxed W Bn 54 v ∧ Nt W v y pre.length
  vb : Boxed W Bv 4 (.bool false)
  bad : (flat pre).all isD = false
  bel : Below n₀ w W
theorem di_own (b0 : Bool) (Bn Bv n₀ B : Nat) (w : World) (hn : n₀ ≤ w.heap.size) (hB : n₀ ≤ B) : OwnFrom B (fun pre W => DI b0 Bn Bv n₀ w pre W) := fun pre W W' row h hg hr => by
  have hr2 : NoCells W row := fun r e => (hr r e).2
  obtain ⟨v, h1, h2⟩ := h.nb
  exact ⟨⟨v, Boxed.turn h1 hg hr2, h2.turn hg hr2⟩, Boxed.turn h.vb hg hr2, h.dg, ownFrom_below (β := List Pc) hn hB pre W W' row h.bel hg hr⟩
theorem dx_own (Bn Bv n₀ B : Nat) (w : World) (hn : n₀ ≤ w.heap.size) (hB : n₀ ≤ B) (c : Code) : OwnFrom B (fun pre W => c = .exit 0 ∧ DX Bn Bv n₀ w pre W) := fun pre W W' row h hg hr => by
  have hr2 : NoCells W row := fun r e => (hr r e).2
  obtain ⟨hc, h⟩ := h
  obtain ⟨v, y, h1, h2⟩ := h.nb
  exact ⟨hc, ⟨v, y, Boxed.turn h1 hg hr2, h2.turn hg hr2⟩, Boxed.turn h.vb hg hr2, h.bad, ownFrom_below (β := List Pc) hn hB pre W W' row h.bel hg hr⟩

/-- What parseDigits hands back. -/
def RetPD (l : List UInt8) (w : World) (e : Ending) (w' : World) : Prop :=
  ∃ v y, e = .returned (.tuple #[v, .bool (decide (l ≠ []) && l.all isD)]) ∧ Nt w' v y (l.length + 1) ∧ ((l ≠ [] ∧ l.all isD = true) → y = ((dv l : Nat) : Int)) ∧ Below w.heap.size w w'

theorem wpIn_scope_wide {n : Nat} {P : Program} {Q : Exit → Act → World → Prop} {a : Act} {w : World} {c : Code} (h : c.wpIn Fence.wide n P (Exit.noGoto Q) a w) : (Code.scope c).wpIn Fence.wide n P Q a w :=
  wpIn_wide.2 (wp_scope_straight (wpIn_wide.1 h))

set_option maxRecDepth 100000 in
set_option maxHeartbeats 1000000 in
theorem parseDigits_any (t : List UInt8) (ht : t.length ≤ 100000) (w : World) :
    Calls Tryz.prog 114 #[.string ⟨t.toArray⟩] w (RetPD t w) := by
  have HT := hid ht
  clear ht
  refine (callsIn_wide (n := 5)).1 ?_
  refine callsIn_of_wp_marks Tryz.func114 rfl trivial ?_ rfl
  simp only [Tryz.ntmps114, List.size_toArray, List.length_cons, List.length_nil, Nat.reduceAdd, Nat.reduceSub, Array.replicate_succ, Array.replicate_zero, List.push_toArray, List.append_toArray, List.nil_append, List.cons_append]
  gi_wp2
  refine wpIn_scope_wide ?_
  gi_wp2_with (first | (apply wpIn_label) | (refine ⟨trivial, ?_⟩; gi_at_call 143; refine (pieces_in _ _ _).mono ?_; rintro e w' ⟨rfl, rfl⟩))
  obtain ⟨w0, hw0⟩ : ∃ w0, ((w.alloc (.cells #[.slice none 0 0] 54)).alloc (.cells #[.bool !t.isEmpty] 4)) = w0 := ⟨_, rfl⟩
  have hB0 : Below w.heap.size w w0 := by rw [← hw0]; exact ((Below.refl _ w).alloc (Nat.le_refl _) _).alloc (by simp) _
  have hsz : w0.heap.size = w.heap.size + 2 := by rw [← hw0]; simp
  have hn0 : Boxed w0 w.heap.size 54 (.slice none 0 0) := by rw [← hw0]; exact (Boxed.new w _ _).alloc _
  have hv0 : Boxed w0 (w.heap.size + 1) 4 (.bool !t.isEmpty) := by
    rw [← hw0]
    have := Boxed.new (w.alloc (.cells #[.slice none 0 0] 54)) 4 (.bool !t.isEmpty)
    rwa [World.size_alloc] at this
  rw [hw0]
  have bN := Boxed.new w0 9 (.string ⟨t.toArray⟩)
  have hB1 : Below w.heap.size w (w0.alloc (.cells #[.string ⟨t.toArray⟩] 9)) := hB0.alloc hB0.size _
  refine wpIn_rangeFunc_ownG rfl (by omega) (gf := 163) (lb := #[.pointer (some ⟨w.heap.size + 1 + 1, 0, none⟩)]) rfl trivial (enters_of Tryz.func163 (by kernel_rfl) rfl)
    (pieces1_any _ (by omega) (w.heap.size + 1 + 1) t (by have := HT.out; omega) _ (by simp; omega) (by rw [← hsz]; exact bN.cell)) (Kp := fun _ _ => True) (fun _ _ => trivial) (fun _ _ _ _ _ _ _ _ => trivial) (Below.refl _ _) (fun _ => rfl)
    (fun pre W => DI (!t.isEmpty) w.heap.size (w.heap.size + 1) w.heap.size w pre W)
    (fun c pre W => c = .exit 0 ∧ DX w.heap.size (w.heap.size + 1) w.heap.size w pre W)
    (di_own _ _ _ _ _ _ (Nat.le_refl _) (by simp; omega)) (fun c => dx_own _ _ _ _ _ (Nat.le_refl _) (by simp; omega) c)
    ⟨⟨_, hn0.alloc _, Nt.nil _⟩, hv0.alloc _, rfl, hB1⟩
    (fun x => { tmps := #[.string ⟨t.toArray⟩, undef, .slice none 0 0, .bool false, .pointer (some ⟨w.heap.size, 0, none⟩), .pointer (some ⟨w.heap.size + 1, 0, none⟩), .string ⟨x.1.toArray⟩, undef, undef, undef, .string ⟨t.toArray⟩, .bool !t.isEmpty, .string ⟨t.toArray⟩, .func (.func 163) #[] #[.pointer (some ⟨w.heap.size + 1 + 1, 0, none⟩)], .string ⟨x.1.toArray⟩, undef, undef, undef, undef, undef, undef, undef, undef, undef, undef, undef, undef, undef, undef, undef, undef, undef, undef, undef, undef, undef, undef, undef, undef, undef, undef, undef, undef, undef, undef, undef, undef], defers := [] }) ?assign ?body ?done ?stop
  case assign =>
    intro l x W K hK
    gi_wp2
    exact hK
  case body =>
    rintro l pre ⟨x, hx0, hx1⟩ W ⟨⟨nv, hnb, hnt⟩, hvb, hdg, hbel⟩ hlt
    have HN := hid hnt; have HNB := hid hnb; have HV := hid hvb; have HG := hid hdg; have HB := hid hbel; have HL := hid hlt
    clear hnt hnb hvb hdg hbel hlt hB0 hB1 hn0 hv0 bN hsz hw0
    gi_wp2
    gi_loopw [7, 8, 17] (fun v s i wr => ∃ (j : Nat) (vv ss : Int), j ≤ x.length ∧ i = .int .i64 (j : Int) ∧ v = .int .u64 vv ∧ s = .int .u64 ss ∧ vv = ((dv (x.take j) : Nat) : Int) ∧ ss = ((10 ^ j : Nat) : Int) ∧ (x.take j).all isD = true ∧ wr = W) (fun _ _ i _ => x.length - (intOf i).toNat)
    case atStart => exact ⟨0, 0, 1, Nat.zero_le _, rfl, rfl, rfl, by simp [dvA_nil], by simp, by simp, rfl⟩
    case round =>
      obtain ⟨j, vv, ss, hj, rfl, rfl, rfl, hvv, hss, hall, rfl⟩ := hrel
      have hvb : vv < ((10 ^ j : Nat) : Int) := by
        have := dv_lt _ hall
        rw [List.length_take, Nat.min_eq_left hj] at this
        omega
      have hp19 : (10 ^ j : Nat) ≤ 10 ^ 19 := Nat.pow_le_pow_right (by decide) (by omega)
      have hp1 : 0 < (10 ^ j : Nat) := Nat.pow_pos (by decide)
      have hv0 : 0 ≤ vv := by omega
      by_cases hjx : j = x.length
      · subst hjx
        rw [List.take_length] at hvv hall
        obtain ⟨na, nk, nc, rfl, _⟩ := Nt.opened HN.out
        have hc := HNB.out.cell
        have hlt0 : w.heap.size < wr.heap.size := HNB.out.lt
        have hK : pre.length ≤ 1073741823 := by
          have h1 := pcs_len t.length t (Nat.le_refl _)
          have := HL.out; have := HT.out
          omega
        have hv64 : vv < B64 := by unfold B64; omega
        have hs64 : ss < B64 := by unfold B64; omega
        have hs0 : 0 ≤ ss := by omega
        have HM := hid (CallsIn.inRound l (callsIn_wide (n := 2).2 (multiplyAdd_any _ _ ss vv pre.length wr HN.out hK hs0 hs64 hv0 hv64)))
        have hfv : ((dv (flat (pre ++ [(⟨x, hx0, hx1⟩ : Pc)])) : Nat) : Int) = ((dv (flat pre) : Nat) : Int) * ss + vv := by
          rw [flat_snoc, dv_append, hss, hvv]
          simp
        have HF := hid hfv
        have hdg2 : (flat (pre ++ [(⟨x, hx0, hx1⟩ : Pc)])).all isD = true := by
          rw [flat_snoc, List.all_append, HG.out, hall]; rfl
        have HG2 := hid hdg2
        clear hfv hdg2 hall hvv hss hp19 hp1 hvb hv64 hs64 hs0 hv0 hK
        have hnI : ¬ (x.length : Int) < (x.length : Int) := by omega
        gi_wp2_with (refine ⟨trivial, ?_⟩; gi_at_call 144; refine HM.out.mono ?_; rintro e w2 ⟨v1, rfl, hv1, hb2⟩; obtain ⟨va, vk, vc, rfl, _⟩ := Nt.opened hv1; have hx2 := boxed_below HNB.out hb2; have hc2 := hx2.cell; have hf2 := hx2.frozen)
        have hne : some (w.heap.size + 1) ≠ some w.heap.size := by simp
        refine ⟨((others_below hb2).trans (KeepsOthers.setCell _ _ _)).from _, trivial, ⟨_, hx2.set _, ?_⟩, (boxed_below HV.out hb2).kept (grownBy_setCell' w2 w.heap.size _) hne, HG2.out, (HB.out.trans (hb2.mono HB.out.size)).setCell (p := ⟨w.heap.size, 0, none⟩) (Nat.le_refl _) _⟩
        rw [HF.out, List.length_append, List.length_singleton]
        exact hv1.set hc2 (fun x h => by cases h) _
      · have hjI : (j : Int) < (x.length : Int) := by omega
        have hjn : j < x.length := by omega
        have hj0 : (0 : Int) ≤ (j : Int) := by omega
        obtain ⟨c, hc⟩ : ∃ c, c = x[j] := ⟨_, rfl⟩
        have hch : (⟨x.toArray⟩ : ByteArray)[j] = c := by rw [hc]; rfl
        have htk : x.take (j + 1) = x.take j ++ [c] := by rw [hc]; exact (List.take_append_getElem hjn).symm
        by_cases hd : isD c = true
        · have hb := isD_le hd
          have hlo : 48 ≤ (c.toNat : Int) := by omega
          have hhi : (c.toNat : Int) ≤ 57 := by omega
          have hn1 : ¬ (c.toNat : Int) < 48 := by omega
          have hn2 : ¬ 57 < (c.toNat : Int) := by omega
          have hp18 : (10 ^ j : Nat) ≤ 10 ^ 18 := Nat.pow_le_pow_right (by decide) (by omega)
          have w1 : IntKind.u64.wrap (10 * vv) = 10 * vv := by rw [IntKind.wrap_u64]; omega
          have w2 : IntKind.u8.wrap ((c.toNat : Int) - 48) = (c.toNat : Int) - 48 := by rw [IntKind.wrap_u8]; omega
          have w3 : IntKind.u64.wrap ((c.toNat : Int) - 48) = (c.toNat : Int) - 48 := by rw [IntKind.wrap_u64]; omega
          have w4 : IntKind.u64.wrap (10 * vv + ((c.toNat : Int) - 48)) = 10 * vv + ((c.toNat : Int) - 48) := by rw [IntKind.wrap_u64]; omega
          have w5 : IntKind.u64.wrap (10 * ss) = 10 * ss := by rw [IntKind.wrap_u64]; omega
          have Hrel := hid (show (10 * vv + ((c.toNat : Int) - 48)) = ((dv (x.take (j + 1)) : Nat) : Int) ∧ 10 * ss = ((10 ^ (j + 1) : Nat) : Int) ∧ (x.take (j + 1)).all isD = true by
            refine ⟨?_, ?_, ?_⟩
            · rw [htk, dv_append, hvv]
              show _ = ((dv (x.take j) * 10 ^ 1 + (10 * 0 + dC c) : Nat) : Int)
              unfold dC
              omega
            · rw [hss, Nat.pow_succ]; omega
            · rw [htk, List.all_append, hall]; simp [hd])
          clear hvv hss hall htk hp18 hp19 hp1 hvb hd hb hc
          gi_wp2
          go_roundw
          case rel => exact ⟨j + 1, _, _, hjn, by go_num, rfl, rfl, Hrel.out.1, Hrel.out.2.1, Hrel.out.2.2, trivial⟩
          case measure =>
            simp [intOf]
            omega
        · have hbad : ¬ (48 ≤ (c.toNat : Int) ∧ (c.toNat : Int) ≤ 57) := by
            intro h
            apply hd
            unfold isD
            simp
            omega
          have hbx := HV.out.cell
          have hfx := HV.out.frozen
          have Hbad := hid (show (flat (pre ++ [(⟨x, hx0, hx1⟩ : Pc)])).all isD = false by
            rw [flat_snoc, List.all_append]
            have : x.all isD = false := by
              rw [← Bool.not_eq_true]
              intro h
              rw [List.all_eq_true] at h
              exact hd (by rw [hc]; exact h _ (List.getElem_mem hjn))
            rw [this, Bool.and_false])
          clear hvv hss hall htk hp19 hp1 hvb hd hc
          by_cases hlo : (c.toNat : Int) < 48
          · gi_wp2
            exact ⟨(KeepsOthers.setCell _ _ _).from _, rfl, ⟨_, _, HNB.out.kept (grownBy_setCell' _ (w.heap.size + 1) _) (by simp), (HN.out.set HV.out.cell (fun x h => by cases h) _).mono (by simp)⟩, HV.out.set _, Hbad.out, HB.out.setCell (p := ⟨w.heap.size + 1, 0, none⟩) (by simp) _⟩
          · have hhi : 57 < (c.toNat : Int) := by omega
            gi_wp2
            exact ⟨(KeepsOthers.setCell _ _ _).from _, rfl, ⟨_, _, HNB.out.kept (grownBy_setCell' _ (w.heap.size + 1) _) (by simp), (HN.out.set HV.out.cell (fun x h => by cases h) _).mono (by simp)⟩, HV.out.set _, Hbad.out, HB.out.setCell (p := ⟨w.heap.size + 1, 0, none⟩) (by simp) _⟩
  case done =>
    rintro D ys W hD hys ⟨⟨nv, hnb, hnt⟩, hvb, hdg, hbel⟩ hK
    have hfl : flat ys = t := by rw [flat, hys]; exact pcs_join t.length t (Nat.le_refl _)
    rw [hfl] at hdg hnt
    have hlen : ys.length ≤ t.length + 1 := by
      have := congrArg List.length hys
      rw [List.length_map] at this
      have := pcs_len t.length t (Nat.le_refl _)
      omega
    obtain ⟨na, nk, nc, rfl, _⟩ := Nt.opened hnt
    have hc1 := hnb.cell
    have hc2 := hvb.cell
    have HN := hid (hnt.mono hlen); have HG := hid hdg; have HB := hid hbel; have HK := hid hK; have HD := hid hD
    clear hnt hnb hvb hdg hbel hB0 hB1 hn0 hv0 bN hw0 hys hfl hlen hK hD
    gi_wp2
    gi_quiet (fail)
    gi_wp2
    show bodyPostM Fence.wide 5 Tryz.prog Tryz.f114 (RetPD t w) Exit.ret _ _
    have hKD : (W.drewN nq).heap[D]? = some (.deferred (some [])) := HK.out
    refine ⟨by simp, .inl ⟨_, _, rfl, run_takeDeferred hKD, ?_⟩⟩
    have hDw : w.heap.size ≤ D := by have := HD.out; simp at this; omega
    refine ⟨_, results_tmp2 rfl _ _ _, _, _, ?_, Nt.turn (HN.out.below (below_drewN (Below.refl _ _) nq) (Nat.le_refl _)) (grownBy_putObj' (W.drewN nq) D _) (fun r e => by cases e; exact ⟨_, hKD, rfl⟩), ?_, (below_drewN HB.out nq).trans (belowK_b (w := w) (Nat.le_refl _) (W.drewN nq) D _ _ hDw hKD rfl rfl)⟩
    · have e : (!t.isEmpty) = (decide (t ≠ []) && t.all isD) := by rw [HG.out]; cases t <;> simp
      rw [← e]
      rfl
    · intro _
      rfl
  case stop =>
    rintro D c ys W hD ⟨r, hr⟩ ⟨rfl, ⟨nv, y, hnb, hnt⟩, hvb, hbad, hbel⟩ hK
    have hta : t.all isD = false := by
      have h := pcs_join t.length t (Nat.le_refl _)
      rw [hr, List.flatten_append] at h
      rw [← h, List.all_append]
      have h2 : ((ys.map (·.1)).flatten).all isD = false := hbad
      rw [h2, Bool.false_and]
    have hlen : ys.length ≤ t.length + 1 := by
      have h := congrArg List.length hr
      rw [List.length_append, List.length_map] at h
      have := pcs_len t.length t (Nat.le_refl _)
      omega
    obtain ⟨na, nk, nc, rfl, _⟩ := Nt.opened hnt
    have hc1 := hnb.cell
    have hc2 := hvb.cell
    have HN := hid (hnt.mono hlen); have HG := hid hta; have HB := hid hbel; have HK := hid hK; have HD := hid hD
    clear hnt hnb hvb hta hbad hbel hB0 hB1 hn0 hv0 bN hw0 hr hlen hK hD
    gi_wp2
    gi_quiet (fail)
    gi_wp2
    show bodyPostM Fence.wide 5 Tryz.prog Tryz.f114 (RetPD t w) Exit.ret _ _
    have hKD : (W.drewN nq).heap[D]? = some (.deferred (some [])) := HK.out
    refine ⟨by simp, .inl ⟨_, _, rfl, run_takeDeferred hKD, ?_⟩⟩
    have hDw : w.heap.size ≤ D := by have := HD.out; simp at this; omega
    refine ⟨_, results_tmp2 rfl _ _ _, _, _, ?_, Nt.turn (HN.out.below (below_drewN (Below.refl _ _) nq) (Nat.le_refl _)) (grownBy_putObj' (W.drewN nq) D _) (fun r e => by cases e; exact ⟨_, hKD, rfl⟩), ?_, (below_drewN HB.out nq).trans (belowK_b (w := w) (Nat.le_refl _) (W.drewN nq) D _ _ hDw hKD rfl rfl)⟩
    · rw [HG.out, Bool.and_false]
      rfl
    · intro h
      rw [HG.out] at h
      exact absurd h.2 (by simp)
end Go.Proofs.YtbapeilpkhbbeaaGreatDoor

/- exact.leading: a number's digits do not begin with a zero, but for 0 itself. -/
namespace Go.Proofs.YtbapeilpkhbbeaaGreatDoor
open Go.RowKit

/-- A text may be a number's digits, as its first byte goes. -/
def leadB (l : List UInt8) : Bool := decide (l.length = 1) || !Lib.hasPrefix l [48]

set_option maxRecDepth 100000 in
set_option maxHeartbeats 1000000 in
theorem leading_any (l : List UInt8) (w : World) : Calls Tryz.prog 113 #[.string ⟨l.toArray⟩] w fun e w' => e = .returned (.bool (leadB l)) ∧ w' = w := by
  have HP := hid (Tryz.strings_HasPrefix ⟨l.toArray⟩ ⟨#[48]⟩ w)
  obtain ⟨b, hb⟩ : ∃ b, b = Lib.hasPrefix l [48] := ⟨_, rfl⟩
  have HB : Hid (Calls Tryz.prog 103 #[.string ⟨l.toArray⟩, .string ⟨#[48]⟩] w fun e w' => e = .returned (.bool b) ∧ w' = w) := hid (by rw [hb]; exact HP.out)
  by_cases h1 : l.length = 1
  · have e : leadB l = true := by unfold leadB; simp [h1]
    rw [e]
    have hI : (l.length : Int) = 1 := by omega
    clear HP hb e h1
    go_enter Tryz.func113, Tryz.ntmps113
    go_wp2
    go_ret
    exact ⟨rfl, rfl⟩
  · have e : leadB l = !b := by unfold leadB; rw [hb]; simp [h1]
    rw [e]
    have hI : ¬ (l.length : Int) = 1 := by omega
    clear HP hb e h1
    go_enter Tryz.func113, Tryz.ntmps113
    go_wp2_with fail
    refine HB.out.mono ?_
    rintro e w' ⟨rfl, rfl⟩
    go_wp2
    go_ret
    refine ⟨?_, rfl⟩
    show Ending.returned (Value.bool ((l.length : Int) == 1 || !b)) = _
    rw [show ((l.length : Int) == 1) = false from beq_eq_false_iff_ne.2 hI, Bool.false_or]
end Go.Proofs.YtbapeilpkhbbeaaGreatDoor

/- exact.parseInteger of any text. -/
namespace Go.Proofs.YtbapeilpkhbbeaaGreatDoor
open Go.RowKit

/-- A text behind a minus sign, if it begins with one. -/
def bodyL (l : List UInt8) : List UInt8 := Lib.trimPrefix l [45]
def negB (l : List UInt8) : Bool := Lib.hasPrefix l [45]
/-- One or more digits. -/
def digB (l : List UInt8) : Bool := decide (l ≠ []) && l.all isD
/-- The text of an integer. -/
def prsB (l : List UInt8) : Bool := digB (bodyL l) && leadB (bodyL l) && !(negB l && decide (dv (bodyL l) = 0))
/-- The integer that it stands for. -/
def prsZ (l : List UInt8) : Int := sgn (negB l) ((dv (bodyL l) : Nat) : Int)
/-- What parseInteger hands back. -/
def RetPI (b : Bool) (z : Int) (K : Nat) (w : World) (e : Ending) (w' : World) : Prop :=
  ∃ v y, e = .returned (.tuple #[v, .bool b]) ∧ It w' v y K ∧ (b = true → y = z) ∧ Below w.heap.size w w'
theorem bodyL_len (l : List UInt8) : (bodyL l).length ≤ l.length := by
  unfold bodyL Lib.trimPrefix
  split <;> simp

set_option maxRecDepth 100000 in
set_option maxHeartbeats 1000000 in
theorem parseInteger_any (l : List UInt8) (hl : l.length ≤ 100000) (w : World) :
    Calls Tryz.prog 71 #[.string ⟨l.toArray⟩] w (RetPI (prsB l) (prsZ l) (l.length + 1) w) := by
  obtain ⟨K, hK⟩ : ∃ K, K = l.length + 1 := ⟨_, rfl⟩
  rw [← hK]
  have hlen := bodyL_len l
  have HC := hid (fun w' => Tryz.strings_CutPrefix ⟨l.toArray⟩ ⟨#[45]⟩ w')
  obtain ⟨ds, hds⟩ : ∃ ds, ds = bodyL l := ⟨_, rfl⟩
  obtain ⟨neg, hneg⟩ : ∃ b, b = negB l := ⟨_, rfl⟩
  have HC2 : Hid (∀ w', Calls Tryz.prog 112 #[.string ⟨l.toArray⟩, .string ⟨#[45]⟩] w' fun e w2 => e = .returned (.tuple #[.string ⟨ds.toArray⟩, .bool neg]) ∧ w2 = w') := hid (fun w' => by rw [hds, hneg]; exact HC.out w')
  have HP0 := fun w' => parseDigits_any ds (by rw [hds]; omega) w'
  obtain ⟨b, hb⟩ : ∃ b, b = digB ds := ⟨_, rfl⟩
  have HP : Hid (∀ w', Calls Tryz.prog 114 #[.string ⟨ds.toArray⟩] w' fun e w2 => ∃ v y, e = .returned (.tuple #[v, .bool b]) ∧ Nt w2 v y K ∧ (b = true → y = ((dv ds : Nat) : Int)) ∧ Below w'.heap.size w' w2) := hid (fun w' => (HP0 w').mono (by
    rintro e w2 ⟨v, y, rfl, h1, h2, h3⟩
    refine ⟨v, y, by rw [hb]; rfl, h1.mono (by rw [hK, hds]; omega), fun h => h2 ?_, h3⟩
    rw [hb] at h
    unfold digB at h
    simpa using h))
  obtain ⟨ld, hld⟩ : ∃ b, b = leadB ds := ⟨_, rfl⟩
  have HL : Hid (∀ w', Calls Tryz.prog 113 #[.string ⟨ds.toArray⟩] w' fun e w2 => e = .returned (.bool ld) ∧ w2 = w') := hid (fun w' => by rw [hld]; exact leading_any ds w')
  have hB : prsB l = (b && ld && !(neg && decide (dv ds = 0))) := by unfold prsB; rw [← hds, ← hneg, ← hb, ← hld]
  have hZ : prsZ l = sgn neg ((dv ds : Nat) : Int) := by unfold prsZ; rw [← hds, ← hneg]
  obtain ⟨B, hBB⟩ : ∃ B, B = prsB l := ⟨_, rfl⟩
  obtain ⟨Z, hZZ⟩ : ∃ Z, Z = prsZ l := ⟨_, rfl⟩
  rw [← hBB, ← hZZ]
  rw [← hBB] at hB
  rw [← hZZ] at hZ
  have HBB := hid hB; have HZZ := hid hZ
  clear hB hZ hBB hZZ hld HP0 hb hneg hds HC hlen hK hl
  have hbld : ∀ (b : Bool) (o : Option Addr) (m c : Nat) (w : World), (Instr.build 56 #[(0, .bool b), (1, .slice o m c)]).run Tryz.prog w = .ok (.agg #[.bool b, .slice o m c]) w := fun b o m c w => by kernel_rfl
  go_enter Tryz.func71, Tryz.ntmps71
  obtain ⟨W0, hW0⟩ : ∃ W0, W0 = w.alloc (.cells #[.bool false, .slice none 0 0] 56) := ⟨_, rfl⟩
  have hB0 : Below w.heap.size w W0 := by rw [hW0]; exact (Below.refl _ _).alloc (Nat.le_refl _) _
  have HT : Hid (∀ w', Below W0.heap.size W0 w' → (w'.cell? ⟨w.heap.size, 0, none⟩ = some (.bool false) ∧ w'.cell? ⟨w.heap.size, 1, none⟩ = some (.slice none 0 0)) ∧ w'.frozen? ⟨w.heap.size, 0, none⟩ = false ∧ w'.frozen? ⟨w.heap.size, 1, none⟩ = false) := hid (fun w' hb => by
    refine ⟨⟨?_, ?_⟩, ?_, ?_⟩ <;> (first | (rw [hb.cell (by rw [hW0]; simp), hW0]; simp [go_sem]; done) | (rw [hb.frozen (by rw [hW0]; simp), hW0]; simp [go_sem]; done)))
  have HB0 := hid hB0; have HW := hid hW0
  clear hW0 hB0
  go_wp2_with fail
  rw [← HW.out]
  refine (HC2.out W0).mono ?_
  rintro e w1 ⟨rfl, rfl⟩
  go_wp2_with fail
  refine (HP.out _).mono ?_
  rintro e w2 ⟨v, y, rfl, hv, hy, hb2⟩
  obtain ⟨ao, m, c, rfl, HV⟩ := Nt.opened hv
  have hz := Nt.zero hv
  obtain ⟨⟨k0, k1⟩, f0, f1⟩ := HT.out _ hb2
  have HB2 := hid (HB0.out.trans (hb2.mono HB0.out.size))
  have HY := hid hy
  have hy0 := hv.nonneg
  clear hb2 hv hy
  have bad : ∀ (w' : World), w' = w2 → B = false → RetPI B Z K w (.returned (.tuple #[.agg #[.bool false, .slice none 0 0], .bool false])) ((w'.setCell ⟨w.heap.size, 0, none⟩ (.bool false)).setCell ⟨w.heap.size, 1, none⟩ (.slice none 0 0)) := fun w' e hb => by
    subst e
    refine ⟨_, 0, by rw [hb], ⟨.slice none 0 0, ?_, (Nt.nil _).mono (Nat.zero_le _)⟩, (fun h => by rw [hb] at h; cases h), (HB2.out.setCell (p := ⟨w.heap.size, 0, none⟩) (Nat.le_refl _) _).setCell (p := ⟨w.heap.size, 1, none⟩) (Nat.le_refl _) _⟩
    rw [show decide ((0 : Int) < 0) = false from rfl]
  have good : B = true → (b = true → y = ((dv ds : Nat) : Int)) → b = true → neg = decide (sgn neg y < 0) → RetPI B Z K w (.returned (.tuple #[.agg #[.bool neg, .slice ao m c], .bool true])) ((w2.setCell ⟨w.heap.size, 0, none⟩ (.bool neg)).setCell ⟨w.heap.size, 1, none⟩ (.slice ao m c)) := fun hB hy hbt hn => by
    refine ⟨_, sgn neg y, by rw [hB], ⟨.slice ao m c, by rw [← hn], ?_⟩, (fun _ => by rw [HZZ.out, hy hbt]), (HB2.out.setCell (p := ⟨w.heap.size, 0, none⟩) (Nat.le_refl _) _).setCell (p := ⟨w.heap.size, 1, none⟩) (Nat.le_refl _) _⟩
    rw [sgn_abs neg hy0]
    exact ((HV.out w2 (Below.refl _ _)).set k0 (fun x h => by cases h) _).set (u := .slice none 0 0) (by simp [go_sem, k1]) (fun x h => by cases h) _
  have HBad := hid bad; have HGood := hid good
  clear bad good
  cases hb : b with
  | false =>
    subst hb
    have hB0 : B = false := by rw [HBB.out]; rfl
    go_wp2
    refine bodyPost_ret (v := .tuple #[.agg #[.bool false, .slice none 0 0], .bool false]) (by simp [results, Tryz.results71, go_sem, k0, k1]) rfl (HBad.out _ rfl hB0)
  | true =>
    subst hb
    have hyv := HY.out rfl
    cases hl : ld with
    | false =>
      subst hl
      have hB0 : B = false := by rw [HBB.out]; rfl
      go_wp2_with (go_at_call 113; refine (HL.out _).mono ?_; rintro e w3 ⟨rfl, rfl⟩)
      refine bodyPost_ret (v := .tuple #[.agg #[.bool false, .slice none 0 0], .bool false]) (by simp [results, Tryz.results71, go_sem, k0, k1]) rfl (HBad.out _ rfl hB0)
    | true =>
      subst hl
      cases hn : neg with
      | false =>
        subst hn
        have hB1 : B = true := by rw [HBB.out]; rfl
        have hsn : false = decide (sgn false y < 0) := by unfold sgn; simp; omega
        have HSn := hid hsn
        clear hsn
        go_wp2_with (go_at_call 113; refine (HL.out _).mono ?_; rintro e w3 ⟨rfl, rfl⟩)
        refine bodyPost_ret (v := .tuple #[.agg #[.bool false, .slice ao m c], .bool true]) (by simp [results, Tryz.results71, go_sem, k0, k1]) rfl (HGood.out hB1 HY.out (by trivial) HSn.out)
      | true =>
        subst hn
        by_cases hm : m = 0
        · have hy1 : y = 0 := hz.1 hm
          have hmI : (m : Int) = 0 := by omega
          have hB0 : B = false := by rw [HBB.out, decide_eq_true (show dv ds = 0 by omega)]; rfl
          clear hz hm hyv hy1
          go_wp2_with (go_at_call 113; refine (HL.out _).mono ?_; rintro e w3 ⟨rfl, rfl⟩)
          refine bodyPost_ret (v := .tuple #[.agg #[.bool false, .slice none 0 0], .bool false]) (by simp [results, Tryz.results71, go_sem, k0, k1]) rfl (HBad.out _ rfl hB0)
        · have hy1 : y ≠ 0 := fun h => hm (hz.2 h)
          have hB1 : B = true := by rw [HBB.out, decide_eq_false (show ¬ dv ds = 0 by omega)]; rfl
          have hsn : true = decide (sgn true y < 0) := by unfold sgn; simp; omega
          have hmI : ¬ (m : Int) = 0 := by omega
          have HSn := hid hsn
          clear hsn
          go_wp2_with (go_at_call 113; refine (HL.out _).mono ?_; rintro e w3 ⟨rfl, rfl⟩)
          refine bodyPost_ret (v := .tuple #[.agg #[.bool true, .slice ao m c], .bool true]) (by simp [results, Tryz.results71, go_sem, k0, k1]) rfl (HGood.out hB1 HY.out (by trivial) HSn.out)
end Go.Proofs.YtbapeilpkhbbeaaGreatDoor
