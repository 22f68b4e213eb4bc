/- The statement ExactNear and its card: whatever the arguments are, the law returns true, and they read behind the call as they read before. Written by gen_rowx.py. -/
import Derived.Test.YtilpkocmdpofpaaGreatDoorNr48
import Derived.OpenShut
import Derived.Deep.DeepHandedRow
import Derived.SevenTiedAt
import Derived.Carry
/- The statement ExactNear and its card: whatever the arguments are, the law returns true, and they read behind the call as they read before. Written by gen_rowx.py. -/
namespace Go.Proofs.YtilpkocmdpofpaaGreatDoor
open Go.ChangeShapes Go.WideShapes Go.ChangeAt Go.RowKit Go.Joins

/-- Arguments of zeros. -/
def zeroExactNear : Array Value := #[.agg #[.bool false, .slice none 0 0, .bool false, .slice none 0 0], .agg #[.bool false, .slice none 0 0], .int .u8 0]
set_option maxRecDepth 100000 in
theorem exactNear_laid (os : Os) : laidMet Tryz.prog Rows.exactNearRow.laid ((laidWorld os).forCall (fun _ _ => 0) ⟨#[], zeroExactNear, []⟩).memory :=
  laidMet_of_run' 8 (by kernel_rfl) (by kernel_rfl)

set_option maxRecDepth 100000 in
theorem exactNear_lifted (os : Os) (started : os.Started) (H : Type) (enc : TypeId × Value → H) (F : Stop.Interp) :
    ReturnsInHanded {} Tryz.checked os 7 .any ((OpenSpec.ofChange Rows.exactNearSpec).preRow enc Tryz.prog Tryz.f7 Rows.exactNearRow.domain false Rows.exactNearRow.laid) (((OpenSpec.ofChange Rows.exactNearSpec).at F).post enc Tryz.prog Tryz.f7 false true false false) := by
  obtain ⟨x, hx⟩ := Option.isSome_iff_exists.1 (show (DataW.whole enc Tryz.prog ((laidWorld os).forCall (fun _ _ => 0) ⟨#[], zeroExactNear, []⟩).memory Tryz.f7.params.toList Rows.exactNearSpec.vars false zeroExactNear.toList 8).isSome = true by kernel_rfl)
  refine returnsInHanded_of_row (C := Tryz.checked) (s := OpenSpec.ofChange Rows.exactNearSpec) Tryz.ownKnobNone started (by kernel_rfl) Tryz.func7
    (witness_row_at (enc := enc) (C := Tryz.checked) false (laidWorld os) zeroExactNear rfl (by kernel_rfl) (by kernel_rfl) (by kernel_rfl)
      (OpenSpec.preRow_of_cond 8 hx (by kernel_rfl) (fun k hk => by cases hk) (by kernel_rfl) (exactNear_laid os))) ?_
  intro W base args ds gs before hval0 hW _ _ _ _ _ _
  have hval : ∀ (j : Nat) t v, Tryz.f7.params[j]? = some t → args[j]? = some v → Value.okWide Tryz.prog W .any base t v := hval0
  have hW' := hW
  obtain ⟨p, q, hA0, hV, rfl, hfz, hnd⟩ := hW
  have hA : DataW.TrodAll enc Tryz.prog W 0 (fun _ => true) true Tryz.f7.params.toList args.toList ds p := hA0
  rw [Tryz.params7] at hA hval
  obtain ⟨v0, v1, v2, d0, d1, d2, p0, p1, p2, rfl, rfl, rfl, h0, h1, h2⟩ := trodAll_three hA
  obtain ⟨rfl, rfl⟩ := trodVars_none hV
  obtain ⟨nA, A', nB, B', hu0⟩ := openLr (hval 0 26 v0 rfl rfl) h0
  obtain ⟨nC, C', hu1, dd1⟩ := openInt (hval 1 24 v1 rfl rfl) h1
  obtain ⟨i2, rfl, rfl, rfl, wf2⟩ := open_int Tryz.underlying5 (hval 2 5 v2 rfl rfl) h2
  simp [Lit.wf, IntKind.min, IntKind.max, IntKind.signed, IntKind.bits] at wf2
  clear hA0 hval0
  refine (exactNear_any _ _ _ _ _ _ _ W _ _ hu0 hu1 dd1 (by omega)).mono fun e W' ⟨he, hw⟩ => ?_
  subst he
  exact ⟨_, rfl, lawTrue (tb := 4) Tryz.laidOutAll (of_decide_eq_true (by kernel_rfl)) rfl rfl Tryz.underlying4 rfl hW' hw⟩

theorem exactNear_said : Rows.ExactNearSaid :=
  OpenClaim.holds_of_cond 7 Tryz.f7 rfl rfl rfl rfl rfl rfl rfl ⟨rfl, rfl, rfl, rfl, rfl⟩ rfl rfl rfl rfl rfl (by kernel_rfl) Tryz.func7 (by kernel_rfl)
    (of_decide_eq_true (by kernel_rfl)) (by unfold Func.isWrapper; first | (rw [if_pos (by decide +kernel)]; kernel_rfl) | (rw [if_neg (by decide +kernel)]; exact ⟨rfl, rfl⟩))
    (fun os started H enc _ F => by rw [OpenClaim.pre_eq_preRow]; exact exactNear_lifted os started H enc F)

theorem exactNear_plain (f : FuncId) (fn : Func) (hf : Tryz.pinned.checked.prog.funcNamed "hodoscope/hodoscopelaw01.ExactNear" = some f) (hfn : Tryz.pinned.checked.prog.funcs[f]? = some fn) :
    false = Tryz.pinned.checked.prog.looks [] ∧ ∀ (j : Nat) t, fn.params[j]? = some t → Tryz.pinned.checked.prog.wantsStandIn t = false := by
  obtain rfl : f = 7 := Option.some.inj ((show Tryz.prog.funcNamed "hodoscope/hodoscopelaw01.ExactNear" = some 7 by kernel_rfl).symm.trans hf) |>.symm
  obtain rfl : fn = Tryz.f7 := (Option.some.inj (Tryz.func7.symm.trans hfn)).symm
  refine ⟨by kernel_rfl, fun j t ht => ?_⟩
  rw [Tryz.params7] at ht
  have hm := Array.mem_of_getElem? ht
  simp only [List.mem_toArray, List.mem_cons, List.not_mem_nil, or_false] at hm
  rcases hm with rfl | rfl | rfl
  · exact (show Tryz.prog.wantsStandIn 26 = false by kernel_rfl)
  · exact (show Tryz.prog.wantsStandIn 24 = false by kernel_rfl)
  · exact (show Tryz.prog.wantsStandIn 5 = false by kernel_rfl)

theorem exactNear_card : Rows.ExactNearCardSaid :=
  Claim7.holds_tied_plain_at .later [] _ _ _ _ exactNear_said (fun _ h => by cases h) (by kernel_rfl) (fun _ h => by cases h) exactNear_row_tie rfl ⟨rfl, rfl⟩ (by kernel_rfl) rfl exactNear_plain (by kernel_rfl)
#print axioms exactNear_card
end Go.Proofs.YtilpkocmdpofpaaGreatDoor
