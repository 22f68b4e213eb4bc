/- The statement ExactForms and its card: whatever the arguments are, the law returns true, and they read behind the call as they read before. Written by gen_rowx.py. -/
import Derived.Test.YtilpkocmdpofpaaGreatDoorZg50
import Derived.Test.YtilpkocmdpofpaaGreatDoorZg49
import Derived.Test.YtilpkocmdpofpaaGreatDoorZg48
import Derived.Test.YtilpkocmdpofpaaGreatDoorCards
import Derived.Test.YtilpkocmdpofpaaGreatDoorTie
import Derived.Lib.LaidTab
import Derived.OpenShut
import Derived.Deep.DeepHandedRow
import Derived.SevenTiedAt
import Derived.Carry
import Derived.LaidSub
/- The law ExactForms at any arguments. Written by gen_rowx.py. -/
namespace Go.Proofs.YtilpkocmdpofpaaGreatDoor
open Go.RowKit

set_option maxRecDepth 100000 in
set_option maxHeartbeats 1000000 in
theorem exactForms_long (a1 aa1 : Bool) (p1 pp1 : Option Addr) (l1 ll1 q1 qq1 : Nat) (a2 : Bool) (p2 : Option Addr) (l2 q2 : Nat) (i3 : Int) (i4 : Int) (w : World) (t1 : Int) (ht1 : max (l1 : Int) (ll1 : Int) = t1) (h : (8 < t1) ∨ (¬ 8 < t1 ∧ 8 < l2)) :
    Calls Tryz.prog 6 #[.agg #[.bool a1, .slice p1 l1 q1, .bool aa1, .slice pp1 ll1 qq1], .agg #[.bool a2, .slice p2 l2 q2], .int .u8 i3, .int .u32 i4] w fun e w' => e = .returned (.bool true) ∧ Below w.heap.size w w' := by
  obtain ⟨W0, hW0⟩ : ∃ W0, W0 = ((w.alloc (.cells #[.bool a1, .slice p1 l1 q1, .bool aa1, .slice pp1 ll1 qq1] 26)).alloc (.cells #[.bool a2, .slice p2 l2 q2] 24)) := ⟨_, rfl⟩
  have hB0 : Below w.heap.size w W0 := by rw [hW0]; exact ((Below.refl _ _).alloc (Nat.le_refl _) _).alloc (by simp <;> omega) _
  have hz0 : W0.heap.size = w.heap.size + 2 := by rw [hW0]; simp
  have HS : Hid (∀ w', Below W0.heap.size W0 w' → w'.cell? ⟨w.heap.size, 0, none⟩ = some (.bool a1) ∧ w'.cell? ⟨w.heap.size, 1, none⟩ = some (.slice p1 l1 q1) ∧ w'.cell? ⟨w.heap.size, 2, none⟩ = some (.bool aa1) ∧ w'.cell? ⟨w.heap.size, 3, none⟩ = some (.slice pp1 ll1 qq1) ∧ w'.cell? ⟨w.heap.size + 1, 0, none⟩ = some (.bool a2) ∧ w'.cell? ⟨w.heap.size + 1, 1, none⟩ = some (.slice p2 l2 q2)) := hid (fun w' hb => by
    refine ⟨?_, ?_, ?_, ?_, ?_, ?_⟩ <;> (rw [hb.cell (by rw [hz0]; simp <;> omega), hW0]; simp [go_sem]))
  have HB0 := hid hB0; have HW := hid hW0; have T1 := hid ht1
  clear hW0 hB0 hz0 ht1
  rcases h with g1 | ⟨g1, g2⟩
  · go_enter Tryz.func6, Tryz.ntmps6
    go_wp2_with fail
    rw [← HW.out]
    refine (alive_any _).mono ?_
    rintro e w0 ⟨rfl, hY0⟩
    obtain ⟨k0, k1, k2, k3, k4, k5⟩ := HS.out _ hY0
    go_wp2_with fail
    refine (wide_t _ _ _ _ _ _ _ _ t1 _ T1.out).mono ?_
    rintro e v0 ⟨rfl, hb0⟩
    have hYn0 := bl_tr hY0 hb0
    clear k0 k1 k2 k3 k4 k5 hb0
    obtain ⟨k0, k1, k2, k3, k4, k5⟩ := HS.out _ hYn0
    go_wp2
    go_ret
    exact ⟨rfl, HB0.out.trans (hYn0.mono HB0.out.size)⟩
  · have gi2 : (8 : Int) < (l2 : Int) := by omega
    go_enter Tryz.func6, Tryz.ntmps6
    go_wp2_with fail
    rw [← HW.out]
    refine (alive_any _).mono ?_
    rintro e w0 ⟨rfl, hY0⟩
    obtain ⟨k0, k1, k2, k3, k4, k5⟩ := HS.out _ hY0
    go_wp2_with fail
    refine (wide_t _ _ _ _ _ _ _ _ t1 _ T1.out).mono ?_
    rintro e v0 ⟨rfl, hb0⟩
    have hYn0 := bl_tr hY0 hb0
    clear k0 k1 k2 k3 k4 k5 hb0
    obtain ⟨k0, k1, k2, k3, k4, k5⟩ := HS.out _ hYn0
    go_wp2
    go_ret
    exact ⟨rfl, HB0.out.trans (hYn0.mono HB0.out.size)⟩

theorem exactForms_any (nA nB : Bool) (A B : List Int) (nC : Bool) (C : List Int) (i2 : Int) (i3 : Int) (w : World) (u0 u1 : Value) (hu0 : Lr w u0 nA A nB B) (hu1 : Lk w u1 nC C) (dC : Dig B32 C) (hi2 : 0 ≤ i2 ∧ i2 ≤ 255) (hi3 : 0 ≤ i3 ∧ i3 ≤ 4294967295) (hT : Tab w) :
    Calls Tryz.prog 6 #[u0, u1, .int .u8 i2, .int .u32 i3] w fun e w' => e = .returned (.bool true) ∧ Below w.heap.size w w' := by
  obtain ⟨aoA, cA, aoB, cB, rfl, rA, rB, dA, dB⟩ := hu0
  obtain ⟨aoC, cC, rfl, rC⟩ := hu1
  by_cases h1 : (8 : Int) < max (A.length : Int) (B.length : Int)
  · exact exactForms_long _ _ _ _ _ _ _ _ _ _ _ _ _ _ w _ rfl  (Or.inl (h1))
  by_cases h2 : 8 < C.length
  · exact exactForms_long _ _ _ _ _ _ _ _ _ _ _ _ _ _ w _ rfl  (Or.inr (⟨h1, h2⟩))
  exact exactForms_walk _ _ _ _ _ _ _ _ _ _ _ (sgn nA (val B32 A)) (sgn nB (val B32 B)) C i2 i3 w ⟨_, _, _, _, _, _, _, _, rfl, ⟨_, _, _, _, rfl, rA, dA, by omega, rfl⟩, ⟨_, _, _, _, rfl, rB, dB, by omega, rfl⟩⟩ rC dC (by omega) hi2 hi3 _ rfl h1 hT
end Go.Proofs.YtilpkocmdpofpaaGreatDoor

/- A world for the rows' witnesses: the listed tables hold what they are said to hold. -/
namespace Go.Proofs.YtilpkocmdpofpaaGreatDoor

/-- A number of a table as a value; a table's cells. -/
def litVal : Lit → Value | .int k x => .int k x | .bool b => .bool b | _ => undef
def datVal : DataW Unit → Value | .lit l => litVal l | _ => undef
def datCells : DataW Unit → Array Value | .agg l => (l.map datVal).toArray | _ => #[]
def laidAt (W : Array Obj) (b : Nat) (d : DataW Unit) : Array Obj := W.modify b fun
  | .cells _ t frozen => .cells (datCells d) t frozen
  | o => o
noncomputable def laidWorld (os : Os) : World :=
  { World.holding Tryz.prog os ⟨#[], #[], []⟩ with heap := laidAt (laidAt (laidAt (World.holding Tryz.prog os ⟨#[], #[], []⟩).heap 2 Rows.laid_internal_strconv_uint64pow10) 4 Rows.laid_math_bits_deBruijn32tab) 5 Rows.laid_math_bits_deBruijn64tab }
/-- Three integers that are 0. -/
def zero3 : Array Value := #[.agg #[.bool false, .slice none 0 0], .agg #[.bool false, .slice none 0 0], .agg #[.bool false, .slice none 0 0]]
end Go.Proofs.YtilpkocmdpofpaaGreatDoor

/- The statement ExactForms and its card: whatever the arguments are, the law returns true, and they read behind the call as they read before. Written by gen_rowx.py. -/
namespace Go.Proofs.YtilpkocmdpofpaaGreatDoor
open Go.ChangeShapes Go.WideShapes Go.ChangeAt Go.RowKit Go.Joins

/-- Arguments of zeros. -/
def zeroExactForms : Array Value := #[.agg #[.bool false, .slice none 0 0, .bool false, .slice none 0 0], .agg #[.bool false, .slice none 0 0], .int .u8 0, .int .u32 0]
theorem exactForms_tab {W : World} (h : laidMetH Tryz.prog Rows.exactFormsRow.laid W) : Tab W := by
  have h1 := (laidMetH_iff.1 (h.filter (fun x => x.1 == "internal/strconv.uint64pow10"))).1
  have e : ((Rows.exactFormsRow.laid.filter (fun x => x.1 == "internal/strconv.uint64pow10")).filter fun a => a.2.handleName?.isNone) = [("internal/strconv.uint64pow10", Lib.tabData .u64 Lib.pow10Tab)] := by kernel_rfl
  rw [e] at h1
  exact Lib.tabIs_of_head (g := 2) (t := 229) (n := 20) (by kernel_rfl) (by kernel_rfl) Tryz.underlying229 Tryz.underlying91 (by kernel_rfl) (by kernel_rfl) h1

set_option maxRecDepth 100000 in
theorem exactForms_laid (os : Os) : laidMet Tryz.prog Rows.exactFormsRow.laid ((laidWorld os).forCall (fun _ _ => 0) ⟨#[], zeroExactForms, []⟩).memory :=
  laidMet_of_run' 8 (by kernel_rfl) (by kernel_rfl)

set_option maxRecDepth 100000 in
theorem exactForms_lifted (os : Os) (started : os.Started) (H : Type) (enc : TypeId × Value → H) (F : Stop.Interp) :
    ReturnsInHanded {} Tryz.checked os 6 .any ((OpenSpec.ofChange Rows.exactFormsSpec).preRow enc Tryz.prog Tryz.f6 Rows.exactFormsRow.domain false Rows.exactFormsRow.laid) (((OpenSpec.ofChange Rows.exactFormsSpec).at F).post enc Tryz.prog Tryz.f6 false true false false) := by
  obtain ⟨x, hx⟩ := Option.isSome_iff_exists.1 (show (DataW.whole enc Tryz.prog ((laidWorld os).forCall (fun _ _ => 0) ⟨#[], zeroExactForms, []⟩).memory Tryz.f6.params.toList Rows.exactFormsSpec.vars false zeroExactForms.toList 8).isSome = true by kernel_rfl)
  refine returnsInHanded_of_row (C := Tryz.checked) (s := OpenSpec.ofChange Rows.exactFormsSpec) Tryz.ownKnobNone started (by kernel_rfl) Tryz.func6
    (witness_row_at (enc := enc) (C := Tryz.checked) false (laidWorld os) zeroExactForms rfl (by kernel_rfl) (by kernel_rfl) (by kernel_rfl)
      (OpenSpec.preRow_of_cond 8 hx (by kernel_rfl) (fun k hk => by cases hk) (by kernel_rfl) (exactForms_laid os))) ?_
  intro W base args ds gs before hval0 hW _ _ _ hlaid _ _
  have hval : ∀ (j : Nat) t v, Tryz.f6.params[j]? = some t → args[j]? = some v → Value.okWide Tryz.prog W .any base t v := hval0
  have hW' := hW
  obtain ⟨p, q, hA0, hV, rfl, hfz, hnd⟩ := hW
  have hA : DataW.TrodAll enc Tryz.prog W 0 (fun _ => true) true Tryz.f6.params.toList args.toList ds p := hA0
  rw [Tryz.params6] at hA hval
  obtain ⟨v0, v1, v2, v3, d0, d1, d2, d3, p0, p1, p2, p3, rfl, rfl, rfl, h0, h1, h2, h3⟩ := trodAll_four hA
  obtain ⟨rfl, rfl⟩ := trodVars_none hV
  obtain ⟨nA, A', nB, B', hu0⟩ := openLr (hval 0 26 v0 rfl rfl) h0
  obtain ⟨nC, C', hu1, dd1⟩ := openInt (hval 1 24 v1 rfl rfl) h1
  obtain ⟨i2, rfl, rfl, rfl, wf2⟩ := open_int Tryz.underlying5 (hval 2 5 v2 rfl rfl) h2
  simp [Lit.wf, IntKind.min, IntKind.max, IntKind.signed, IntKind.bits] at wf2
  obtain ⟨i3, rfl, rfl, rfl, wf3⟩ := open_int Tryz.underlying53 (hval 3 53 v3 rfl rfl) h3
  simp [Lit.wf, IntKind.min, IntKind.max, IntKind.signed, IntKind.bits] at wf3
  clear hA0 hval0
  refine (exactForms_any _ _ _ _ _ _ _ _ W _ _ hu0 hu1 dd1 (by omega) (by omega) (exactForms_tab hlaid)).mono fun e W' ⟨he, hw⟩ => ?_
  subst he
  exact ⟨_, rfl, lawTrue (tb := 4) Tryz.laidOutAll (of_decide_eq_true (by kernel_rfl)) rfl rfl Tryz.underlying4 rfl hW' hw⟩

theorem exactForms_said : Rows.ExactFormsSaid :=
  OpenClaim.holds_of_cond 6 Tryz.f6 rfl rfl rfl rfl rfl rfl rfl ⟨rfl, rfl, rfl, rfl, rfl⟩ rfl rfl rfl rfl rfl (by kernel_rfl) Tryz.func6 (by kernel_rfl)
    (of_decide_eq_true (by kernel_rfl)) (by unfold Func.isWrapper; first | (rw [if_pos (by decide +kernel)]; kernel_rfl) | (rw [if_neg (by decide +kernel)]; exact ⟨rfl, rfl⟩))
    (fun os started H enc _ F => by rw [OpenClaim.pre_eq_preRow]; exact exactForms_lifted os started H enc F)

theorem exactForms_plain (f : FuncId) (fn : Func) (hf : Tryz.pinned.checked.prog.funcNamed "hodoscope/hodoscopelaw01.ExactForms" = some f) (hfn : Tryz.pinned.checked.prog.funcs[f]? = some fn) :
    false = Tryz.pinned.checked.prog.looks [] ∧ ∀ (j : Nat) t, fn.params[j]? = some t → Tryz.pinned.checked.prog.wantsStandIn t = false := by
  obtain rfl : f = 6 := Option.some.inj ((show Tryz.prog.funcNamed "hodoscope/hodoscopelaw01.ExactForms" = some 6 by kernel_rfl).symm.trans hf) |>.symm
  obtain rfl : fn = Tryz.f6 := (Option.some.inj (Tryz.func6.symm.trans hfn)).symm
  refine ⟨by kernel_rfl, fun j t ht => ?_⟩
  rw [Tryz.params6] at ht
  have hm := Array.mem_of_getElem? ht
  simp only [List.mem_toArray, List.mem_cons, List.not_mem_nil, or_false] at hm
  rcases hm with rfl | rfl | rfl | rfl
  · exact (show Tryz.prog.wantsStandIn 26 = false by kernel_rfl)
  · exact (show Tryz.prog.wantsStandIn 24 = false by kernel_rfl)
  · exact (show Tryz.prog.wantsStandIn 5 = false by kernel_rfl)
  · exact (show Tryz.prog.wantsStandIn 53 = false by kernel_rfl)

theorem exactForms_card : Rows.ExactFormsCardSaid :=
  Claim7.holds_tied_plain_at .later [] _ _ _ _ exactForms_said (fun _ h => by cases h) (by kernel_rfl) (fun _ h => by cases h) exactForms_row_tie rfl ⟨rfl, rfl⟩ (by kernel_rfl) rfl exactForms_plain (by kernel_rfl)
#print axioms exactForms_card
end Go.Proofs.YtilpkocmdpofpaaGreatDoor
