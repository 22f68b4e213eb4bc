/- The statement ExactBack and its card: whatever the arguments are, the law returns true, and they read behind the call as they read before. Written by gen_rowx.py. -/
import Derived.Test.YtilpkocmdpofpaaGreatDoorBk41
import Derived.Test.YtilpkocmdpofpaaGreatDoorBk40
import Derived.Test.YtilpkocmdpofpaaGreatDoorBk39
import Derived.Test.YtilpkocmdpofpaaGreatDoorCards
import Derived.Test.YtilpkocmdpofpaaGreatDoorTie
import Derived.Lib.LaidTab
import Derived.OpenShut
import Derived.Deep.DeepHandedRow
import Derived.SevenTiedAt
import Derived.Carry
import Derived.ChangeMaps5
import Derived.Shelf.Vars
import Derived.LaidSub
/- The law ExactBack at any arguments. Written by gen_rowx.py. -/
namespace Go.Proofs.YtilpkocmdpofpaaGreatDoor
open Go.RowKit

set_option maxRecDepth 100000 in
set_option maxHeartbeats 1000000 in
theorem exactBack_long (a1 : Bool) (p1 : Option Addr) (l1 q1 : Nat) (a2 aa2 : Bool) (p2 pp2 : Option Addr) (l2 ll2 q2 qq2 : Nat) (i3 : Int) (s4 : List UInt8) (w : World) (t2 : Int) (ht2 : max (l2 : Int) (ll2 : Int) = t2) (h : (16 < l1) ∨ (¬ 16 < l1 ∧ 16 < t2) ∨ (¬ 16 < l1 ∧ ¬ 16 < t2 ∧ 500 < s4.length)) :
    Calls Tryz.prog 9 #[.agg #[.bool a1, .slice p1 l1 q1], .agg #[.bool a2, .slice p2 l2 q2, .bool aa2, .slice pp2 ll2 qq2], .int .u8 i3, .string ⟨s4.toArray⟩] w fun e w' => e = .returned (.bool true) ∧ Below w.heap.size w w' := by
  obtain ⟨W0, hW0⟩ : ∃ W0, W0 = ((w.alloc (.cells #[.bool a1, .slice p1 l1 q1] 24)).alloc (.cells #[.bool a2, .slice p2 l2 q2, .bool aa2, .slice pp2 ll2 qq2] 26)) := ⟨_, rfl⟩
  have hB0 : Below w.heap.size w W0 := by rw [hW0]; exact ((Below.refl _ _).alloc (Nat.le_refl _) _).alloc (by simp <;> omega) _
  have hz0 : W0.heap.size = w.heap.size + 2 := by rw [hW0]; simp
  have HS : Hid (∀ w', Below W0.heap.size W0 w' → w'.cell? ⟨w.heap.size, 0, none⟩ = some (.bool a1) ∧ w'.cell? ⟨w.heap.size, 1, none⟩ = some (.slice p1 l1 q1) ∧ w'.cell? ⟨w.heap.size + 1, 0, none⟩ = some (.bool a2) ∧ w'.cell? ⟨w.heap.size + 1, 1, none⟩ = some (.slice p2 l2 q2) ∧ w'.cell? ⟨w.heap.size + 1, 2, none⟩ = some (.bool aa2) ∧ w'.cell? ⟨w.heap.size + 1, 3, none⟩ = some (.slice pp2 ll2 qq2)) := hid (fun w' hb => by
    refine ⟨?_, ?_, ?_, ?_, ?_, ?_⟩ <;> (rw [hb.cell (by rw [hz0]; simp <;> omega), hW0]; simp [go_sem]))
  have HB0 := hid hB0; have HW := hid hW0; have T2 := hid ht2
  clear hW0 hB0 hz0 ht2
  rcases h with g1 | ⟨g1, g2⟩ | ⟨g1, g2, g4⟩
  · have gi1 : (16 : Int) < (l1 : Int) := by omega
    go_enter Tryz.func9, Tryz.ntmps9
    go_wp2_with fail
    rw [← HW.out]
    refine (alive_any _).mono ?_
    rintro e w0 ⟨rfl, hY0⟩
    obtain ⟨k0, k1, k2, k3, k4, k5⟩ := HS.out _ hY0
    go_wp2
    go_ret
    exact ⟨rfl, HB0.out.trans (hY0.mono HB0.out.size)⟩
  · have gi1 : ¬ (16 : Int) < (l1 : Int) := by omega
    go_enter Tryz.func9, Tryz.ntmps9
    go_wp2_with fail
    rw [← HW.out]
    refine (alive_any _).mono ?_
    rintro e w0 ⟨rfl, hY0⟩
    obtain ⟨k0, k1, k2, k3, k4, k5⟩ := HS.out _ hY0
    go_wp2_with fail
    refine (wide_t _ _ _ _ _ _ _ _ t2 _ T2.out).mono ?_
    rintro e v1 ⟨rfl, hb1⟩
    have hYn1 := bl_tr hY0 hb1
    clear k0 k1 k2 k3 k4 k5 hb1
    obtain ⟨k0, k1, k2, k3, k4, k5⟩ := HS.out _ hYn1
    go_wp2
    go_ret
    exact ⟨rfl, HB0.out.trans (hYn1.mono HB0.out.size)⟩
  · have gi1 : ¬ (16 : Int) < (l1 : Int) := by omega
    have gi4 : (500 : Int) < (s4.length : Int) := by omega
    go_enter Tryz.func9, Tryz.ntmps9
    go_wp2_with fail
    rw [← HW.out]
    refine (alive_any _).mono ?_
    rintro e w0 ⟨rfl, hY0⟩
    obtain ⟨k0, k1, k2, k3, k4, k5⟩ := HS.out _ hY0
    go_wp2_with fail
    refine (wide_t _ _ _ _ _ _ _ _ t2 _ T2.out).mono ?_
    rintro e v1 ⟨rfl, hb1⟩
    have hYn1 := bl_tr hY0 hb1
    clear k0 k1 k2 k3 k4 k5 hb1
    obtain ⟨k0, k1, k2, k3, k4, k5⟩ := HS.out _ hYn1
    go_wp2
    go_ret
    exact ⟨rfl, HB0.out.trans (hYn1.mono HB0.out.size)⟩

theorem exactBack_any (nA : Bool) (A : List Int) (nB nC : Bool) (B C : List Int) (i2 : Int) (s3 : List UInt8) (w : World) (u0 u1 : Value) (hu0 : Lk w u0 nA A) (dA : Dig B32 A) (hu1 : Lr w u1 nB B nC C) (hi2 : 0 ≤ i2 ∧ i2 ≤ 255) (hT : Tab w) (hM : Mx w) :
    Calls Tryz.prog 9 #[u0, u1, .int .u8 i2, .string ⟨s3.toArray⟩] w fun e w' => e = .returned (.bool true) ∧ Below w.heap.size w w' := by
  obtain ⟨aoA, cA, rfl, rA⟩ := hu0
  obtain ⟨aoB, cB, aoC, cC, rfl, rB, rC, dB, dC⟩ := hu1
  by_cases h1 : 16 < A.length
  · exact exactBack_long _ _ _ _ _ _ _ _ _ _ _ _ _ _ w _ rfl  (Or.inl (h1))
  by_cases h2 : (16 : Int) < max (B.length : Int) (C.length : Int)
  · exact exactBack_long _ _ _ _ _ _ _ _ _ _ _ _ _ _ w _ rfl  (Or.inr (Or.inl (⟨h1, h2⟩)))
  by_cases h4 : 500 < s3.length
  · exact exactBack_long _ _ _ _ _ _ _ _ _ _ _ _ _ _ w _ rfl  (Or.inr (Or.inr (⟨h1, h2, h4⟩)))
  obtain ⟨k, hk⟩ : ∃ k : Nat, i2 = (k : Int) := ⟨i2.toNat, by omega⟩
  subst hk
  exact exactBack_walk _ _ _ _ _ _ _ _ _ _ _ _ (sgn nA (val B32 A)) (sgn nB (val B32 B)) (sgn nC (val B32 C)) k s3 w ⟨_, _, _, _, rfl, rA, dA, by omega, rfl⟩ ⟨_, _, _, _, _, _, _, _, rfl, ⟨_, _, _, _, rfl, rB, dB, by omega, rfl⟩, ⟨_, _, _, _, rfl, rC, dC, by omega, rfl⟩⟩ (by omega) (by omega) _ rfl h2 (by omega) hT hM
end Go.Proofs.YtilpkocmdpofpaaGreatDoor

/- A world for the rows' witnesses: the listed tables hold what they are said to hold. -/
namespace Go.Proofs.YtilpkocmdpofpaaGreatDoor

/-- A number of a table as a value; a table's cells. -/
def litVal : Lit → Value | .int k x => .int k x | .bool b => .bool b | _ => undef
def datVal : DataW Unit → Value | .lit l => litVal l | _ => undef
def datCells : DataW Unit → Array Value | .agg l => (l.map datVal).toArray | _ => #[]
def laidAt (W : Array Obj) (b : Nat) (d : DataW Unit) : Array Obj := W.modify b fun
  | .cells _ t frozen => .cells (datCells d) t frozen
  | o => o
noncomputable def laidWorld (os : Os) : World :=
  { World.holding Tryz.prog os ⟨#[], #[], []⟩ with heap := laidAt (laidAt (laidAt (World.holding Tryz.prog os ⟨#[], #[], []⟩).heap 2 Rows.laid_internal_strconv_uint64pow10) 4 Rows.laid_math_bits_deBruijn32tab) 5 Rows.laid_math_bits_deBruijn64tab }
end Go.Proofs.YtilpkocmdpofpaaGreatDoor

/- The statement ExactBack and its card: whatever the arguments are, the law returns true, and they read behind the call as they read before. Written by gen_rowx.py. -/
namespace Go.Proofs.YtilpkocmdpofpaaGreatDoor
open Go.ChangeShapes Go.WideShapes Go.ChangeAt Go.RowKit Go.Joins

/-- Arguments of zeros. -/
def zeroExactBack : Array Value := #[.agg #[.bool false, .slice none 0 0], .agg #[.bool false, .slice none 0 0, .bool false, .slice none 0 0], .int .u8 0, .string ⟨#[]⟩]
theorem exactBack_tab {W : World} (h : laidMetH Tryz.prog Rows.exactBackRow.laid W) : Tab W := by
  have h1 := (laidMetH_iff.1 (h.filter (fun x => x.1 == "internal/strconv.uint64pow10"))).1
  have e : ((Rows.exactBackRow.laid.filter (fun x => x.1 == "internal/strconv.uint64pow10")).filter fun a => a.2.handleName?.isNone) = [("internal/strconv.uint64pow10", Lib.tabData .u64 Lib.pow10Tab)] := by kernel_rfl
  rw [e] at h1
  exact Lib.tabIs_of_head (g := 2) (t := 229) (n := 20) (by kernel_rfl) (by kernel_rfl) Tryz.underlying229 Tryz.underlying91 (by kernel_rfl) (by kernel_rfl) h1

theorem exactBack_mx {W : World} (h : W.ShapedOpen Tryz.prog) : Mx W :=
  cell_of_shapedOpen_int (zero := #[.int .i64 0]) (t := 3) h (of_decide_eq_true (by kernel_rfl)) (by kernel_rfl) rfl (by kernel_rfl) (by kernel_rfl) Tryz.underlying3

set_option maxRecDepth 100000 in
theorem exactBack_laid (os : Os) : laidMet Tryz.prog Rows.exactBackRow.laid ((laidWorld os).forCall (fun _ _ => 0) ⟨#[], zeroExactBack, []⟩).memory :=
  laidMet_of_run' 8 (by kernel_rfl) (by kernel_rfl)

set_option maxRecDepth 100000 in
theorem exactBack_lifted (os : Os) (started : os.Started) (H : Type) (enc : TypeId × Value → H) (F : Stop.Interp) :
    ReturnsInHanded {} Tryz.checked os 9 .any ((OpenSpec.ofChange Rows.exactBackSpec).preRow enc Tryz.prog Tryz.f9 Rows.exactBackRow.domain false Rows.exactBackRow.laid) (((OpenSpec.ofChange Rows.exactBackSpec).at F).post enc Tryz.prog Tryz.f9 false true false false) := by
  obtain ⟨x, hx⟩ := Option.isSome_iff_exists.1 (show (DataW.whole enc Tryz.prog ((laidWorld os).forCall (fun _ _ => 0) ⟨#[], zeroExactBack, []⟩).memory Tryz.f9.params.toList Rows.exactBackSpec.vars false zeroExactBack.toList 8).isSome = true by kernel_rfl)
  refine returnsInHanded_of_row (C := Tryz.checked) (s := OpenSpec.ofChange Rows.exactBackSpec) Tryz.ownKnobNone started (by kernel_rfl) Tryz.func9
    (witness_row_at (enc := enc) (C := Tryz.checked) false (laidWorld os) zeroExactBack rfl (by kernel_rfl) (by kernel_rfl) (by kernel_rfl)
      (OpenSpec.preRow_of_cond 8 hx (by kernel_rfl) (fun k hk => by cases hk) (by kernel_rfl) (exactBack_laid os))) ?_
  intro W base args ds gs before hval0 hW _ _ _ hlaid hshaped _
  have hval : ∀ (j : Nat) t v, Tryz.f9.params[j]? = some t → args[j]? = some v → Value.okWide Tryz.prog W .any base t v := hval0
  have hW' := hW
  obtain ⟨p, q, hA0, hV, rfl, hfz, hnd⟩ := hW
  have hA : DataW.TrodAll enc Tryz.prog W 0 (fun _ => true) true Tryz.f9.params.toList args.toList ds p := hA0
  rw [Tryz.params9] at hA hval
  obtain ⟨v0, v1, v2, v3, d0, d1, d2, d3, p0, p1, p2, p3, rfl, rfl, rfl, h0, h1, h2, h3⟩ := trodAll_four hA
  obtain ⟨rfl, rfl⟩ := trodVars_none hV
  obtain ⟨nA, A', hu0, dd0⟩ := openInt (hval 0 24 v0 rfl rfl) h0
  obtain ⟨nB, B', nC, C', hu1⟩ := openLr (hval 1 26 v1 rfl rfl) h1
  obtain ⟨i2, rfl, rfl, rfl, wf2⟩ := open_int Tryz.underlying5 (hval 2 5 v2 rfl rfl) h2
  simp [Lit.wf, IntKind.min, IntKind.max, IntKind.signed, IntKind.bits] at wf2
  obtain ⟨s3, rfl, rfl, rfl, _⟩ := Go.ChangeMaps.open_string Tryz.underlying9 (hval 3 9 v3 rfl rfl) h3
  obtain ⟨l3, hl3⟩ : ∃ l : List UInt8, s3 = ⟨l.toArray⟩ := ⟨s3.data.toList, (Lib.mk_data s3).symm⟩
  subst hl3
  clear hA0 hval0
  refine (exactBack_any _ _ _ _ _ _ _ _ W _ _ hu0 dd0 hu1 (by omega) (exactBack_tab hlaid) (exactBack_mx hshaped)).mono fun e W' ⟨he, hw⟩ => ?_
  subst he
  exact ⟨_, rfl, lawTrue (tb := 4) Tryz.laidOutAll (of_decide_eq_true (by kernel_rfl)) rfl rfl Tryz.underlying4 rfl hW' hw⟩

theorem exactBack_said : Rows.ExactBackSaid :=
  OpenClaim.holds_of_cond 9 Tryz.f9 rfl rfl rfl rfl rfl rfl rfl ⟨rfl, rfl, rfl, rfl, rfl⟩ rfl rfl rfl rfl rfl (by kernel_rfl) Tryz.func9 (by kernel_rfl)
    (of_decide_eq_true (by kernel_rfl)) (by unfold Func.isWrapper; first | (rw [if_pos (by decide +kernel)]; kernel_rfl) | (rw [if_neg (by decide +kernel)]; exact ⟨rfl, rfl⟩))
    (fun os started H enc _ F => by rw [OpenClaim.pre_eq_preRow]; exact exactBack_lifted os started H enc F)

theorem exactBack_plain (f : FuncId) (fn : Func) (hf : Tryz.pinned.checked.prog.funcNamed "hodoscope/hodoscopelaw01.ExactBack" = some f) (hfn : Tryz.pinned.checked.prog.funcs[f]? = some fn) :
    false = Tryz.pinned.checked.prog.looks [] ∧ ∀ (j : Nat) t, fn.params[j]? = some t → Tryz.pinned.checked.prog.wantsStandIn t = false := by
  obtain rfl : f = 9 := Option.some.inj ((show Tryz.prog.funcNamed "hodoscope/hodoscopelaw01.ExactBack" = some 9 by kernel_rfl).symm.trans hf) |>.symm
  obtain rfl : fn = Tryz.f9 := (Option.some.inj (Tryz.func9.symm.trans hfn)).symm
  refine ⟨by kernel_rfl, fun j t ht => ?_⟩
  rw [Tryz.params9] at ht
  have hm := Array.mem_of_getElem? ht
  simp only [List.mem_toArray, List.mem_cons, List.not_mem_nil, or_false] at hm
  rcases hm with rfl | rfl | rfl | rfl
  · exact (show Tryz.prog.wantsStandIn 24 = false by kernel_rfl)
  · exact (show Tryz.prog.wantsStandIn 26 = false by kernel_rfl)
  · exact (show Tryz.prog.wantsStandIn 5 = false by kernel_rfl)
  · exact (show Tryz.prog.wantsStandIn 9 = false by kernel_rfl)

theorem exactBack_card : Rows.ExactBackCardSaid :=
  Claim7.holds_tied_plain_at .later [] _ _ _ _ exactBack_said (fun _ h => by cases h) (by kernel_rfl) (fun _ h => by cases h) exactBack_row_tie rfl ⟨rfl, rfl⟩ (by kernel_rfl) rfl exactBack_plain (by kernel_rfl)
#print axioms exactBack_card
end Go.Proofs.YtilpkocmdpofpaaGreatDoor
