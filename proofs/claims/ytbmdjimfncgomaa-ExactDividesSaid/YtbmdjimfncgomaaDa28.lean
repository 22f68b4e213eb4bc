/- The statement ExactDivides: whatever the two integers and the exponent are, the law returns true, and all arguments read behind the call as they read before. -/
import Derived.Test.YtbmdjimfncgomaaRows
import Derived.Test.YtbmdjimfncgomaaDa27
/- The statement ExactDivides: whatever the two integers and the exponent are, the law returns true, and all arguments read behind the call as they read before. -/
namespace Go.Proofs.Ytbmdjimfncgomaa
open Go.ChangeShapes Go.WideShapes Go.ChangeAt Go.RowKit Go.Joins

set_option maxRecDepth 100000 in
theorem exactDivides_lifted (os : Os) (started : os.Started) (H : Type) (enc : TypeId × Value → H) :
    ReturnsInHanded {} Try.checked os 4 .any (Rows.exactDividesSpec.pre6 enc Try.prog Try.f4 Rows.exactDividesRow.domain false) (Rows.exactDividesSpec.post enc Try.prog Try.f4 false true false false) := by
  refine returnsInHanded_of_change (C := Try.checked) Try.ownKnobNone started (by kernel_rfl) Try.func4
    (ChangeSpec.witness6 (enc := enc) (C := Try.checked) false ⟨#[], #[.agg #[.bool false, .slice none 0 0], .agg #[.bool false, .slice none 0 0], .int .i64 0], []⟩ 8 (by kernel_rfl) (by kernel_rfl) (by kernel_rfl) (by kernel_rfl)) ?_
  intro W base args ds gs before hval0 hW hcnd _
  have hval : ∀ (j : Nat) t v, Try.f4.params[j]? = some t → args[j]? = some v → Value.okWide Try.prog W .any base t v := hval0
  have hW' := hW
  obtain ⟨p, q, hA0, hV, rfl, hfz, hnd⟩ := hW
  have hA : DataW.TrodAll enc Try.prog W 0 (fun _ => true) true Try.f4.params.toList args.toList ds p := hA0
  rw [Try.params4] at hA hval
  obtain ⟨v0, v1, v2, d0, d1, d2, p0, p1, p2, rfl, rfl, rfl, h0, h1, h2⟩ := trodAll_three hA
  obtain ⟨rfl, rfl⟩ := trodVars_none hV
  obtain ⟨na, WA, hu, dA⟩ := openInt (hval 0 24 v0 rfl rfl) h0
  obtain ⟨nb, WB, hv, dB⟩ := openInt (hval 1 24 v1 rfl rfl) h1
  obtain ⟨en, rfl, rfl, rfl, w2⟩ := open_int Try.underlying3 (hval 2 3 v2 rfl rfl) h2
  clear hA0 hval0
  simp [Lit.wf, IntKind.min, IntKind.max, IntKind.signed, IntKind.bits] at w2
  refine (exactDivides_any en v0 v1 na nb WA WB W hu hv dA dB (by omega) (by omega)).mono fun e W' ⟨he, hw⟩ => ?_
  subst he
  exact ⟨_, rfl, lawTrue (tb := 4) Try.laidOutAll (of_decide_eq_true (by kernel_rfl)) rfl rfl Try.underlying4 rfl hW' hw⟩

theorem exactDivides_holds : Rows.ExactDividesSaid :=
  OpenClaim.holds_of_wide 4 Try.f4 rfl rfl rfl rfl rfl rfl rfl ⟨rfl, rfl, rfl, rfl, rfl⟩ rfl rfl rfl rfl rfl (by kernel_rfl) Try.func4 (by kernel_rfl)
    (of_decide_eq_true (by kernel_rfl)) (by unfold Func.isWrapper; first | (rw [if_pos (by decide +kernel)]; kernel_rfl) | (rw [if_neg (by decide +kernel)]; exact ⟨rfl, rfl⟩))
    (fun os started H enc _ => exactDivides_lifted os started H enc)
#print axioms exactDivides_holds
end Go.Proofs.Ytbmdjimfncgomaa
