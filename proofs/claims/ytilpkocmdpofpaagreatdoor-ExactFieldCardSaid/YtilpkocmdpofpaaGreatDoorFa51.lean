/- The statement ExactField and its card: whatever the three ratios are, the law returns true, and they read behind the call as they read before. Written by gen_ringrow.py. -/
import Derived.Test.YtilpkocmdpofpaaGreatDoorFa26
import Derived.Test.YtilpkocmdpofpaaGreatDoorFa50
import Derived.Test.YtilpkocmdpofpaaGreatDoorCards
import Derived.Test.YtilpkocmdpofpaaGreatDoorTie
import Derived.Lib.LaidTab
import Derived.OpenShut
import Derived.Deep.DeepHandedRow
import Derived.SevenTiedAt
/- An api.Ratio argument of a law, opened. Written by gen_fieldrow.py. -/
namespace Go.Proofs.YtilpkocmdpofpaaGreatDoor
open Go.ChangeShapes Go.WideShapes Go.ChangeAt Go.RowKit Go.Joins

set_option maxRecDepth 100000 in
theorem openIntT {H : Type} {enc : TypeId × Value → H} {W : World} {sp : Nat → Bool} {c0 c1 : Value} {y : DataW H × List MemPlace} {fuel : Nat}
    (h : DataW.trod enc Tryz.prog W 0 sp true fuel 24 [c0, c1] = some y) : ∃ neg L, Lk W (.agg #[c0, c1]) neg L ∧ Dig B32 L := by
  obtain ⟨y0, y1, m, _, _, h0, h1⟩ := trod_struct2 Tryz.underlying24 h
  have k0 : Tryz.prog.cellsOf 4 = 1 := by kernel_rfl
  have k1 : Tryz.prog.cellsOf 22 = 1 := by kernel_rfl
  have hy0 : DataW.trod enc Tryz.prog W 0 sp true m 4 [c0] = some y0 := by simpa [k0] using h0
  have hy1 : DataW.trod enc Tryz.prog W 0 sp true m 22 [c1] = some y1 := by simpa [k1] using h1
  clear h0 h1
  obtain ⟨b, e0, _⟩ := DataW.trod_bool Tryz.underlying4 hy0
  simp at e0
  subst e0
  rcases Go.Deep.open_slice1 Tryz.underlying22 (by kernel_rfl) hy1 with ⟨e1, _⟩ | ⟨a, len, cap, k, n, V, D, Pl, e1, hb, hl, hm, hmm, _, hx⟩
  · simp at e1
    subst e1
    exact ⟨b, [], ⟨none, 0, rfl, Rd.nil _ _⟩, fun x hx => by cases hx⟩
  · simp at e1
    subst e1
    have hk : len ≤ k := by rw [hmm]; split <;> omega
    have hw : ∀ i, i < len → ∃ x, V i = .int .u32 x ∧ 0 ≤ x ∧ x < B32 ∧ W.cell? (a.add i) = some (.int .u32 x) := by
      intro i hi
      obtain ⟨hc, ht⟩ := hx i (by omega)
      obtain ⟨x, ex, _, hwf⟩ := DataW.trod_int Tryz.underlying53 ht
      simp at ex
      simp [Lit.wf, IntKind.min, IntKind.max, IntKind.signed, IntKind.bits] at hwf
      refine ⟨x, ex, by omega, by unfold B32; omega, by rw [hc, ex]⟩
    have hget : ∀ i, i < len → (((List.range len).map fun i => intOf (V i))[i]?.getD 0) = intOf (V i) := by
      intro i hi
      simp [hi]
    refine ⟨b, (List.range len).map fun i => intOf (V i), ⟨some a, cap, by simp, ?_⟩, ?_⟩
    · refine ⟨by simpa using hl, by unfold maxLen at hm; omega, fun hp => ?_, fun b off e i hi => ?_⟩
      · obtain ⟨x, _, _, _, hc⟩ := hw 0 (by simpa using hp)
        have hs := World.cell?_spot hc
        obtain ⟨ab, aoff, asp⟩ := a
        have : asp = none := by simpa [Addr.add] using hs
        exact ⟨ab, aoff, by rw [this]⟩
      · simp at hi
        obtain rfl := Option.some.inj e
        obtain ⟨x, ex, _, _, hc⟩ := hw i hi
        rw [hget i hi, ex]
        have ea : Addr.add ⟨b, off, none⟩ i = ⟨b, off + i, none⟩ := by
          by_cases h0 : i = 0 <;> simp [Addr.add, h0]
        rw [ea] at hc
        simpa [intOf] using hc
    · intro x hx
      obtain ⟨i, hi, rfl⟩ := List.mem_map.1 hx
      obtain ⟨y, ey, y0, y1, _⟩ := hw i (by simpa using hi)
      rw [ey]
      exact ⟨y0, y1⟩


set_option maxRecDepth 100000 in
theorem openRatio {H : Type} {enc : TypeId × Value → H} {r : Reach} {b0 : Nat} {W : World} {sp : Nat → Bool} {v : Value} {d : DataW H} {p : List MemPlace}
    (hv : Value.okWide Tryz.prog W r b0 26 v) (h : DataW.Trod enc Tryz.prog W 0 sp true 26 v d p) : ∃ c0 c1 c2 c3 na LA nb LB, v = .agg #[c0, c1, c2, c3] ∧ Lk W (.agg #[c0, c1]) na LA ∧ Dig B32 LA ∧ Lk W (.agg #[c2, c3]) nb LB ∧ Dig B32 LB := by
  obtain ⟨cs, rfl, hsz⟩ := okWide_struct Tryz.underlying26 hv
  obtain ⟨c0, c1, c2, c3, rfl⟩ := array4 (hsz.trans (show Tryz.prog.cellsOf 26 = 4 by kernel_rfl))
  obtain ⟨fuel, hf⟩ := h
  obtain ⟨y0, y1, n, _, _, h0, h1⟩ := trod_struct2 Tryz.underlying26 hf
  have k : Tryz.prog.cellsOf 24 = 2 := by kernel_rfl
  obtain ⟨na, LA, hA, dA⟩ := openIntT (enc := enc) (c0 := c0) (c1 := c1) (by simpa [k, Value.cells] using h0)
  obtain ⟨nb, LB, hB, dB⟩ := openIntT (enc := enc) (c0 := c2) (c1 := c3) (by simpa [k, Value.cells] using h1)
  exact ⟨c0, c1, c2, c3, na, LA, nb, LB, rfl, hA, dA, hB, dB⟩

/-- The four cells of a ratio whose words are these. -/
def Lr (w : World) (v : Value) (na : Bool) (LA : List Int) (nb : Bool) (LB : List Int) : Prop := ∃ ao ca bo cb, v = .agg #[.bool na, .slice ao LA.length ca, .bool nb, .slice bo LB.length cb] ∧ Rd w .u32 ao ca LA ∧ Rd w .u32 bo cb LB ∧ Dig B32 LA ∧ Dig B32 LB
set_option maxRecDepth 100000 in
theorem openLr {H : Type} {enc : TypeId × Value → H} {r : Reach} {b0 : Nat} {W : World} {sp : Nat → Bool} {v : Value} {d : DataW H} {p : List MemPlace}
    (hv : Value.okWide Tryz.prog W r b0 26 v) (h : DataW.Trod enc Tryz.prog W 0 sp true 26 v d p) : ∃ na LA nb LB, Lr W v na LA nb LB := by
  obtain ⟨c0, c1, c2, c3, na, LA, nb, LB, rfl, ⟨ao, ca, e1, hA⟩, dA, ⟨bo, cb, e2, hB⟩, dB⟩ := openRatio hv h
  simp only [Value.agg.injEq, Array.mk.injEq, List.cons.injEq, and_true] at e1 e2
  obtain ⟨rfl, rfl⟩ := e1
  obtain ⟨rfl, rfl⟩ := e2
  exact ⟨na, LA, nb, LB, ao, ca, bo, cb, rfl, hA, hB, dA, dB⟩
end Go.Proofs.YtilpkocmdpofpaaGreatDoor

/- The law ExactField at any three arguments. Written by gen_fieldrow.py. -/
namespace Go.Proofs.YtilpkocmdpofpaaGreatDoor
open Go.RowKit

set_option maxRecDepth 100000 in
set_option maxHeartbeats 1000000 in
theorem exactField_long (a1 a2 a3 aa1 aa2 aa3 : Bool) (p1 p2 p3 pp1 pp2 pp3 : Option Addr) (l1 l2 l3 ll1 ll2 ll3 q1 q2 q3 qq1 qq2 qq3 : Nat) (w : World) (t1 t2 t3 : Int) (ht1 : max (l1 : Int) (ll1 : Int) = t1) (ht2 : max (l2 : Int) (ll2 : Int) = t2) (ht3 : max (l3 : Int) (ll3 : Int) = t3) (h : 8 < t1 ∨ (¬ 8 < t1 ∧ 8 < t2) ∨ (¬ 8 < t1 ∧ ¬ 8 < t2 ∧ 8 < t3)) :
    Calls Tryz.prog 5 #[.agg #[.bool a1, .slice p1 l1 q1, .bool aa1, .slice pp1 ll1 qq1], .agg #[.bool a2, .slice p2 l2 q2, .bool aa2, .slice pp2 ll2 qq2], .agg #[.bool a3, .slice p3 l3 q3, .bool aa3, .slice pp3 ll3 qq3]] w fun e w' => e = .returned (.bool true) ∧ Below w.heap.size w w' := by
  obtain ⟨W0, hW0⟩ : ∃ W0, W0 = (((w.alloc (.cells #[.bool a1, .slice p1 l1 q1, .bool aa1, .slice pp1 ll1 qq1] 26)).alloc (.cells #[.bool a2, .slice p2 l2 q2, .bool aa2, .slice pp2 ll2 qq2] 26)).alloc (.cells #[.bool a3, .slice p3 l3 q3, .bool aa3, .slice pp3 ll3 qq3] 26)) := ⟨_, rfl⟩
  have hB0 : Below w.heap.size w W0 := by rw [hW0]; exact (((Below.refl _ _).alloc (Nat.le_refl _) _).alloc (by simp) _).alloc (by simp <;> omega) _
  have hz0 : W0.heap.size = w.heap.size + 3 := by rw [hW0]; simp
  have HS : Hid (∀ w', Below W0.heap.size W0 w' → w'.cell? ⟨w.heap.size, 0, none⟩ = some (.bool a1) ∧ w'.cell? ⟨w.heap.size, 1, none⟩ = some (.slice p1 l1 q1) ∧ w'.cell? ⟨w.heap.size, 2, none⟩ = some (.bool aa1) ∧ w'.cell? ⟨w.heap.size, 3, none⟩ = some (.slice pp1 ll1 qq1) ∧ w'.cell? ⟨w.heap.size + 1, 0, none⟩ = some (.bool a2) ∧ w'.cell? ⟨w.heap.size + 1, 1, none⟩ = some (.slice p2 l2 q2) ∧ w'.cell? ⟨w.heap.size + 1, 2, none⟩ = some (.bool aa2) ∧ w'.cell? ⟨w.heap.size + 1, 3, none⟩ = some (.slice pp2 ll2 qq2) ∧ w'.cell? ⟨w.heap.size + 2, 0, none⟩ = some (.bool a3) ∧ w'.cell? ⟨w.heap.size + 2, 1, none⟩ = some (.slice p3 l3 q3) ∧ w'.cell? ⟨w.heap.size + 2, 2, none⟩ = some (.bool aa3) ∧ w'.cell? ⟨w.heap.size + 2, 3, none⟩ = some (.slice pp3 ll3 qq3)) := hid (fun w' hb => by
    refine ⟨?_, ?_, ?_, ?_, ?_, ?_, ?_, ?_, ?_, ?_, ?_, ?_⟩ <;> (rw [hb.cell (by rw [hz0]; simp <;> omega), hW0]; simp [go_sem]))
  have HB0 := hid hB0; have HW := hid hW0; have T1 := hid ht1; have T2 := hid ht2; have T3 := hid ht3
  clear hW0 hB0 hz0 ht1 ht2 ht3
  rcases h with g1 | ⟨g1, g2⟩ | ⟨g1, g2, g3⟩
  · go_enter Tryz.func5, Tryz.ntmps5
    go_wp2_with fail
    rw [← HW.out]
    refine (alive_any _).mono ?_
    rintro e w0 ⟨rfl, hY0⟩
    obtain ⟨k0, k1, k2, k3, k4, k5, k6, k7, k8, k9, k10, k11⟩ := HS.out _ hY0
    go_wp2_with fail
    refine (wide_t _ _ _ _ _ _ _ _ t1 _ T1.out).mono ?_
    rintro e v1 ⟨rfl, hb1⟩
    have hY1 := bl_tr hY0 hb1
    clear k0 k1 k2 k3 k4 k5 k6 k7 k8 k9 k10 k11 hb1
    go_wp2
    go_ret
    exact ⟨rfl, HB0.out.trans (hY1.mono HB0.out.size)⟩
  · go_enter Tryz.func5, Tryz.ntmps5
    go_wp2_with fail
    rw [← HW.out]
    refine (alive_any _).mono ?_
    rintro e w0 ⟨rfl, hY0⟩
    obtain ⟨k0, k1, k2, k3, k4, k5, k6, k7, k8, k9, k10, k11⟩ := HS.out _ hY0
    go_wp2_with fail
    refine (wide_t _ _ _ _ _ _ _ _ t1 _ T1.out).mono ?_
    rintro e v1 ⟨rfl, hb1⟩
    have hY1 := bl_tr hY0 hb1
    clear k0 k1 k2 k3 k4 k5 k6 k7 k8 k9 k10 k11 hb1
    obtain ⟨k0, k1, k2, k3, k4, k5, k6, k7, k8, k9, k10, k11⟩ := HS.out _ hY1
    go_wp2_with fail
    refine (wide_t _ _ _ _ _ _ _ _ t2 _ T2.out).mono ?_
    rintro e v2 ⟨rfl, hb2⟩
    have hY2 := bl_tr hY1 hb2
    clear k0 k1 k2 k3 k4 k5 k6 k7 k8 k9 k10 k11 hb2
    go_wp2
    go_ret
    exact ⟨rfl, HB0.out.trans (hY2.mono HB0.out.size)⟩
  · go_enter Tryz.func5, Tryz.ntmps5
    go_wp2_with fail
    rw [← HW.out]
    refine (alive_any _).mono ?_
    rintro e w0 ⟨rfl, hY0⟩
    obtain ⟨k0, k1, k2, k3, k4, k5, k6, k7, k8, k9, k10, k11⟩ := HS.out _ hY0
    go_wp2_with fail
    refine (wide_t _ _ _ _ _ _ _ _ t1 _ T1.out).mono ?_
    rintro e v1 ⟨rfl, hb1⟩
    have hY1 := bl_tr hY0 hb1
    clear k0 k1 k2 k3 k4 k5 k6 k7 k8 k9 k10 k11 hb1
    obtain ⟨k0, k1, k2, k3, k4, k5, k6, k7, k8, k9, k10, k11⟩ := HS.out _ hY1
    go_wp2_with fail
    refine (wide_t _ _ _ _ _ _ _ _ t2 _ T2.out).mono ?_
    rintro e v2 ⟨rfl, hb2⟩
    have hY2 := bl_tr hY1 hb2
    clear k0 k1 k2 k3 k4 k5 k6 k7 k8 k9 k10 k11 hb2
    obtain ⟨k0, k1, k2, k3, k4, k5, k6, k7, k8, k9, k10, k11⟩ := HS.out _ hY2
    go_wp2_with fail
    refine (wide_t _ _ _ _ _ _ _ _ t3 _ T3.out).mono ?_
    rintro e v3 ⟨rfl, hb3⟩
    have hY3 := bl_tr hY2 hb3
    clear k0 k1 k2 k3 k4 k5 k6 k7 k8 k9 k10 k11 hb3
    go_wp2
    go_ret
    exact ⟨rfl, HB0.out.trans (hY3.mono HB0.out.size)⟩

theorem rv_of {w : World} {na nb : Bool} {ao bo : Option Addr} {ca cb : Nat} {LA LB : List Int} (hA : Rd w .u32 ao ca LA) (hB : Rd w .u32 bo cb LB) (dA : Dig B32 LA) (dB : Dig B32 LB) (h : ¬ (8 : Int) < max (LA.length : Int) (LB.length : Int)) : Rv w (.agg #[.bool na, .slice ao LA.length ca, .bool nb, .slice bo LB.length cb]) (rn (sgn na (val B32 LA)) (sgn nb (val B32 LB))) (rd (sgn nb (val B32 LB))) 8 :=
  ⟨rd_pos _, sgn na (val B32 LA), sgn nb (val B32 LB), ⟨na, ao, LA.length, ca, nb, bo, LB.length, cb, rfl, ⟨na, ao, ca, LA, rfl, hA, dA, by omega, rfl⟩, ⟨nb, bo, cb, LB, rfl, hB, dB, by omega, rfl⟩⟩, rfl⟩
theorem exactField_any (u v t : Value) (na nb nc nd ne nf : Bool) (A B C D E F : List Int) (w : World) (hu : Lr w u na A nb B) (hv : Lr w v nc C nd D) (ht : Lr w t ne E nf F) :
    Calls Tryz.prog 5 #[u, v, t] w fun e w' => e = .returned (.bool true) ∧ Below w.heap.size w w' := by
  obtain ⟨ao, ca, bo, cb, rfl, rA, rB, dA, dB⟩ := hu
  obtain ⟨co, cc, d_o, cd, rfl, rC, rD, dC, dD⟩ := hv
  obtain ⟨eo, ce, fo, cf, rfl, rE, rF, dE, dF⟩ := ht
  by_cases h1 : (8 : Int) < max (A.length : Int) (B.length : Int)
  · exact exactField_long _ _ _ _ _ _ _ _ _ _ _ _ _ _ _ _ _ _ _ _ _ _ _ _ w _ _ _ rfl rfl rfl (Or.inl h1)
  by_cases h2 : (8 : Int) < max (C.length : Int) (D.length : Int)
  · exact exactField_long _ _ _ _ _ _ _ _ _ _ _ _ _ _ _ _ _ _ _ _ _ _ _ _ w _ _ _ rfl rfl rfl (Or.inr (Or.inl ⟨h1, h2⟩))
  by_cases h3 : (8 : Int) < max (E.length : Int) (F.length : Int)
  · exact exactField_long _ _ _ _ _ _ _ _ _ _ _ _ _ _ _ _ _ _ _ _ _ _ _ _ w _ _ _ rfl rfl rfl (Or.inr (Or.inr ⟨h1, h2, h3⟩))
  exact exactField_walk _ _ _ _ _ _ _ _ _ _ _ _ _ _ _ _ _ _ _ _ _ _ _ _ _ _ _ _ _ _ w (rv_of rA rB dA dB h1) (rv_of rC rD dC dD h2) (rv_of rE rF dE dF h3) _ _ _ rfl rfl rfl h1 h2 h3
end Go.Proofs.YtilpkocmdpofpaaGreatDoor

/- A world for the rows' witnesses: the listed tables hold what they are said to hold. -/
namespace Go.Proofs.YtilpkocmdpofpaaGreatDoor

/-- A number of a table as a value; a table's cells. -/
def litVal : Lit → Value | .int k x => .int k x | .bool b => .bool b | _ => undef
def datVal : DataW Unit → Value | .lit l => litVal l | _ => undef
def datCells : DataW Unit → Array Value | .agg l => (l.map datVal).toArray | _ => #[]
def laidAt (W : Array Obj) (b : Nat) (d : DataW Unit) : Array Obj := W.modify b fun
  | .cells _ t frozen => .cells (datCells d) t frozen
  | o => o
noncomputable def laidWorld (os : Os) : World :=
  { World.holding Tryz.prog os ⟨#[], #[], []⟩ with heap := laidAt (laidAt (laidAt (World.holding Tryz.prog os ⟨#[], #[], []⟩).heap 2 Rows.laid_internal_strconv_uint64pow10) 4 Rows.laid_math_bits_deBruijn32tab) 5 Rows.laid_math_bits_deBruijn64tab }
/-- Three integers that are 0. -/
def zero3 : Array Value := #[.agg #[.bool false, .slice none 0 0], .agg #[.bool false, .slice none 0 0], .agg #[.bool false, .slice none 0 0]]
end Go.Proofs.YtilpkocmdpofpaaGreatDoor

/- The statement ExactField and its card: whatever the three ratios are, the law returns true, and they read behind the call as they read before. Written by gen_ringrow.py. -/
namespace Go.Proofs.YtilpkocmdpofpaaGreatDoor
open Go.ChangeShapes Go.WideShapes Go.ChangeAt Go.RowKit Go.Joins

/-- Three ratios of zeros. -/
def zeroR3 : Array Value := #[.agg #[.bool false, .slice none 0 0, .bool false, .slice none 0 0], .agg #[.bool false, .slice none 0 0, .bool false, .slice none 0 0], .agg #[.bool false, .slice none 0 0, .bool false, .slice none 0 0]]
set_option maxRecDepth 100000 in
theorem exactField_laid (os : Os) : laidMet Tryz.prog Rows.exactFieldRow.laid ((laidWorld os).forCall (fun _ _ => 0) ⟨#[], zeroR3, []⟩).memory :=
  laidMet_of_run' 8 (by kernel_rfl) (by kernel_rfl)

set_option maxRecDepth 100000 in
theorem exactField_lifted (os : Os) (started : os.Started) (H : Type) (enc : TypeId × Value → H) (F : Stop.Interp) :
    ReturnsInHanded {} Tryz.checked os 5 .any ((OpenSpec.ofChange Rows.exactFieldSpec).preRow enc Tryz.prog Tryz.f5 Rows.exactFieldRow.domain false Rows.exactFieldRow.laid) (((OpenSpec.ofChange Rows.exactFieldSpec).at F).post enc Tryz.prog Tryz.f5 false true false false) := by
  obtain ⟨x, hx⟩ := Option.isSome_iff_exists.1 (show (DataW.whole enc Tryz.prog ((laidWorld os).forCall (fun _ _ => 0) ⟨#[], zeroR3, []⟩).memory Tryz.f5.params.toList Rows.exactFieldSpec.vars false zeroR3.toList 8).isSome = true by kernel_rfl)
  refine returnsInHanded_of_row (C := Tryz.checked) (s := OpenSpec.ofChange Rows.exactFieldSpec) Tryz.ownKnobNone started (by kernel_rfl) Tryz.func5
    (witness_row_at (enc := enc) (C := Tryz.checked) false (laidWorld os) zeroR3 rfl (by kernel_rfl) (by kernel_rfl) (by kernel_rfl)
      (OpenSpec.preRow_of_cond 8 hx (by kernel_rfl) (fun k hk => by cases hk) (by kernel_rfl) (exactField_laid os))) ?_
  intro W base args ds gs before hval0 hW _ _ _ _ _ _
  have hval : ∀ (j : Nat) t v, Tryz.f5.params[j]? = some t → args[j]? = some v → Value.okWide Tryz.prog W .any base t v := hval0
  have hW' := hW
  obtain ⟨p, q, hA0, hV, rfl, hfz, hnd⟩ := hW
  have hA : DataW.TrodAll enc Tryz.prog W 0 (fun _ => true) true Tryz.f5.params.toList args.toList ds p := hA0
  rw [Tryz.params5] at hA hval
  obtain ⟨v0, v1, v2, d0, d1, d2, p0, p1, p2, rfl, rfl, rfl, h0, h1, h2⟩ := trodAll_three hA
  obtain ⟨rfl, rfl⟩ := trodVars_none hV
  obtain ⟨na, A, nb, B, hu⟩ := openLr (hval 0 26 v0 rfl rfl) h0
  obtain ⟨nc, C, nd, D, hv⟩ := openLr (hval 1 26 v1 rfl rfl) h1
  obtain ⟨ne, E, nf, F', ht⟩ := openLr (hval 2 26 v2 rfl rfl) h2
  clear hA0 hval0
  refine (exactField_any v0 v1 v2 na nb nc nd ne nf A B C D E F' W hu hv ht).mono fun e W' ⟨he, hw⟩ => ?_
  subst he
  exact ⟨_, rfl, lawTrue (tb := 4) Tryz.laidOutAll (of_decide_eq_true (by kernel_rfl)) rfl rfl Tryz.underlying4 rfl hW' hw⟩

theorem exactField_said : Rows.ExactFieldSaid :=
  OpenClaim.holds_of_cond 5 Tryz.f5 rfl rfl rfl rfl rfl rfl rfl ⟨rfl, rfl, rfl, rfl, rfl⟩ rfl rfl rfl rfl rfl (by kernel_rfl) Tryz.func5 (by kernel_rfl)
    (of_decide_eq_true (by kernel_rfl)) (by unfold Func.isWrapper; first | (rw [if_pos (by decide +kernel)]; kernel_rfl) | (rw [if_neg (by decide +kernel)]; exact ⟨rfl, rfl⟩))
    (fun os started H enc _ F => by rw [OpenClaim.pre_eq_preRow]; exact exactField_lifted os started H enc F)

theorem exactField_plain (f : FuncId) (fn : Func) (hf : Tryz.pinned.checked.prog.funcNamed "hodoscope/hodoscopelaw01.ExactField" = some f) (hfn : Tryz.pinned.checked.prog.funcs[f]? = some fn) :
    false = Tryz.pinned.checked.prog.looks [] ∧ ∀ (j : Nat) t, fn.params[j]? = some t → Tryz.pinned.checked.prog.wantsStandIn t = false := by
  obtain rfl : f = 5 := Option.some.inj ((show Tryz.prog.funcNamed "hodoscope/hodoscopelaw01.ExactField" = some 5 by kernel_rfl).symm.trans hf) |>.symm
  obtain rfl : fn = Tryz.f5 := (Option.some.inj (Tryz.func5.symm.trans hfn)).symm
  refine ⟨by kernel_rfl, fun j t ht => ?_⟩
  rw [Tryz.params5] at ht
  obtain rfl : t = 26 := by simpa using Array.mem_of_getElem? ht
  exact (show Tryz.prog.wantsStandIn 26 = false by kernel_rfl)

theorem exactField_card : Rows.ExactFieldCardSaid :=
  Claim7.holds_tied_plain_at .later [] _ _ _ _ exactField_said (fun _ h => by cases h) (by kernel_rfl) (fun _ h => by cases h) exactField_row_tie rfl ⟨rfl, rfl⟩ (by kernel_rfl) rfl exactField_plain (by kernel_rfl)
#print axioms exactField_card
end Go.Proofs.YtilpkocmdpofpaaGreatDoor
