/- The statement ExactNames and its card: whatever the arguments are, the law returns true, and they read behind the call as they read before. Written by gen_rowx.py. -/
import Derived.Test.YtilpkocmdpofpaaGreatDoorCards
import Derived.Test.YtilpkocmdpofpaaGreatDoorTie
import Derived.Test.YtilpkocmdpofpaaGreatDoorNb36
import Derived.Lib.LaidTab
import Derived.Test.YtilpkocmdpofpaaGreatDoorNb41
import Derived.OpenShut
import Derived.Deep.DeepHandedRow
import Derived.SevenTiedAt
import Derived.Carry
import Derived.ChangeMaps5
import Derived.Shelf.Vars
import Derived.LaidSub
/- A world for the rows' witnesses: the listed tables hold what they are said to hold. -/
namespace Go.Proofs.YtilpkocmdpofpaaGreatDoor

/-- A number of a table as a value; a table's cells. -/
def litVal : Lit → Value | .int k x => .int k x | .bool b => .bool b | _ => undef
def datVal : DataW Unit → Value | .lit l => litVal l | _ => undef
def datCells : DataW Unit → Array Value | .agg l => (l.map datVal).toArray | _ => #[]
def laidAt (W : Array Obj) (b : Nat) (d : DataW Unit) : Array Obj := W.modify b fun
  | .cells _ t frozen => .cells (datCells d) t frozen
  | o => o
noncomputable def laidWorld (os : Os) : World :=
  { World.holding Tryz.prog os ⟨#[], #[], []⟩ with heap := laidAt (laidAt (laidAt (World.holding Tryz.prog os ⟨#[], #[], []⟩).heap 2 Rows.laid_internal_strconv_uint64pow10) 4 Rows.laid_math_bits_deBruijn32tab) 5 Rows.laid_math_bits_deBruijn64tab }
end Go.Proofs.YtilpkocmdpofpaaGreatDoor

/- The statement ExactNames and its card: whatever the arguments are, the law returns true, and they read behind the call as they read before. Written by gen_rowx.py. -/
namespace Go.Proofs.YtilpkocmdpofpaaGreatDoor
open Go.ChangeShapes Go.WideShapes Go.ChangeAt Go.RowKit Go.Joins

/-- Arguments of zeros. -/
def zeroExactNames : Array Value := #[]
theorem exactNames_tab {W : World} (h : laidMetH Tryz.prog Rows.exactNamesRow.laid W) : Tab W := by
  have h1 := (laidMetH_iff.1 (h.filter (fun x => x.1 == "internal/strconv.uint64pow10"))).1
  have e : ((Rows.exactNamesRow.laid.filter (fun x => x.1 == "internal/strconv.uint64pow10")).filter fun a => a.2.handleName?.isNone) = [("internal/strconv.uint64pow10", Lib.tabData .u64 Lib.pow10Tab)] := by kernel_rfl
  rw [e] at h1
  exact Lib.tabIs_of_head (g := 2) (t := 229) (n := 20) (by kernel_rfl) (by kernel_rfl) Tryz.underlying229 Tryz.underlying91 (by kernel_rfl) (by kernel_rfl) h1

theorem exactNames_mx {W : World} (h : W.ShapedOpen Tryz.prog) : Mx W :=
  cell_of_shapedOpen_int (zero := #[.int .i64 0]) (t := 3) h (of_decide_eq_true (by kernel_rfl)) (by kernel_rfl) rfl (by kernel_rfl) (by kernel_rfl) Tryz.underlying3

set_option maxRecDepth 100000 in
theorem exactNames_laid (os : Os) : laidMet Tryz.prog Rows.exactNamesRow.laid ((laidWorld os).forCall (fun _ _ => 0) ⟨#[], zeroExactNames, []⟩).memory :=
  laidMet_of_run' 8 (by kernel_rfl) (by kernel_rfl)

set_option maxRecDepth 100000 in
theorem exactNames_lifted (os : Os) (started : os.Started) (H : Type) (enc : TypeId × Value → H) (F : Stop.Interp) :
    ReturnsInHanded {} Tryz.checked os 4 .any ((OpenSpec.ofChange Rows.exactNamesSpec).preRow enc Tryz.prog Tryz.f4 Rows.exactNamesRow.domain false Rows.exactNamesRow.laid) (((OpenSpec.ofChange Rows.exactNamesSpec).at F).post enc Tryz.prog Tryz.f4 false true false false) := by
  obtain ⟨x, hx⟩ := Option.isSome_iff_exists.1 (show (DataW.whole enc Tryz.prog ((laidWorld os).forCall (fun _ _ => 0) ⟨#[], zeroExactNames, []⟩).memory Tryz.f4.params.toList Rows.exactNamesSpec.vars false zeroExactNames.toList 8).isSome = true by kernel_rfl)
  refine returnsInHanded_of_row (C := Tryz.checked) (s := OpenSpec.ofChange Rows.exactNamesSpec) Tryz.ownKnobNone started (by kernel_rfl) Tryz.func4
    (witness_row_at (enc := enc) (C := Tryz.checked) false (laidWorld os) zeroExactNames rfl (by kernel_rfl) (by kernel_rfl) (by kernel_rfl)
      (OpenSpec.preRow_of_cond 8 hx (by kernel_rfl) (fun k hk => by cases hk) (by kernel_rfl) (exactNames_laid os))) ?_
  intro W base args ds gs before hval0 hW _ _ _ hlaid hshaped _
  have hval : ∀ (j : Nat) t v, Tryz.f4.params[j]? = some t → args[j]? = some v → Value.okWide Tryz.prog W .any base t v := hval0
  have hW' := hW
  obtain ⟨p, q, hA0, hV, rfl, hfz, hnd⟩ := hW
  have hA : DataW.TrodAll enc Tryz.prog W 0 (fun _ => true) true Tryz.f4.params.toList args.toList ds p := hA0
  rw [Tryz.params4] at hA hval
  obtain ⟨rfl, rfl, rfl⟩ := trodAll_none hA
  obtain ⟨rfl, rfl⟩ := trodVars_none hV
  clear hA0 hval0
  refine (exactNames_walk W (exactNames_tab hlaid) (exactNames_mx hshaped)).mono fun e W' ⟨he, hw⟩ => ?_
  subst he
  exact ⟨_, rfl, lawTrue (tb := 4) Tryz.laidOutAll (of_decide_eq_true (by kernel_rfl)) rfl rfl Tryz.underlying4 rfl hW' hw⟩

theorem exactNames_said : Rows.ExactNamesSaid :=
  OpenClaim.holds_of_cond 4 Tryz.f4 rfl rfl rfl rfl rfl rfl rfl ⟨rfl, rfl, rfl, rfl, rfl⟩ rfl rfl rfl rfl rfl (by kernel_rfl) Tryz.func4 (by kernel_rfl)
    (of_decide_eq_true (by kernel_rfl)) (by unfold Func.isWrapper; first | (rw [if_pos (by decide +kernel)]; kernel_rfl) | (rw [if_neg (by decide +kernel)]; exact ⟨rfl, rfl⟩))
    (fun os started H enc _ F => by rw [OpenClaim.pre_eq_preRow]; exact exactNames_lifted os started H enc F)

theorem exactNames_plain (f : FuncId) (fn : Func) (hf : Tryz.pinned.checked.prog.funcNamed "hodoscope/hodoscopelaw01.ExactNames" = some f) (hfn : Tryz.pinned.checked.prog.funcs[f]? = some fn) :
    false = Tryz.pinned.checked.prog.looks [] ∧ ∀ (j : Nat) t, fn.params[j]? = some t → Tryz.pinned.checked.prog.wantsStandIn t = false := by
  obtain rfl : f = 4 := Option.some.inj ((show Tryz.prog.funcNamed "hodoscope/hodoscopelaw01.ExactNames" = some 4 by kernel_rfl).symm.trans hf) |>.symm
  obtain rfl : fn = Tryz.f4 := (Option.some.inj (Tryz.func4.symm.trans hfn)).symm
  refine ⟨by kernel_rfl, fun j t ht => ?_⟩
  rw [Tryz.params4] at ht
  simp at ht

theorem exactNames_card : Rows.ExactNamesCardSaid :=
  Claim7.holds_tied_plain_at .later [] _ _ _ _ exactNames_said (fun _ h => by cases h) (by kernel_rfl) (fun _ h => by cases h) exactNames_row_tie rfl ⟨rfl, rfl⟩ (by kernel_rfl) rfl exactNames_plain (by kernel_rfl)
#print axioms exactNames_card
end Go.Proofs.YtilpkocmdpofpaaGreatDoor
