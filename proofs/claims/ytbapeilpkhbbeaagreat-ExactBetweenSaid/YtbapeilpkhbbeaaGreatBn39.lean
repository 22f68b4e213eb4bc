/- The statement ExactBetween: whatever the arguments are, the law returns true, and all of them read behind the call as they read before. Written by gen_rowx.py. -/
import Derived.Test.YtbapeilpkhbbeaaGreatBn32
import Derived.Test.YtbapeilpkhbbeaaGreatBn38
import Derived.Test.YtbapeilpkhbbeaaGreatBn31
import Derived.Test.YtbapeilpkhbbeaaGreatRows
/- A ratio argument whose words are known, as a value. -/
namespace Go.Proofs.YtbapeilpkhbbeaaGreat
open Go.RowKit

end Go.Proofs.YtbapeilpkhbbeaaGreat

/- The law ExactBetween at any arguments. Written by gen_rowx.py. -/
namespace Go.Proofs.YtbapeilpkhbbeaaGreat
open Go.RowKit

set_option maxRecDepth 100000 in
set_option maxHeartbeats 1000000 in
theorem exactBetween_long (a1 aa1 : Bool) (p1 pp1 : Option Addr) (l1 ll1 q1 qq1 : Nat) (a2 aa2 : Bool) (p2 pp2 : Option Addr) (l2 ll2 q2 qq2 : Nat) (w : World) (t1 t2 : Int) (ht1 : max (l1 : Int) (ll1 : Int) = t1) (ht2 : max (l2 : Int) (ll2 : Int) = t2) (h : (4 < t1) ∨ (¬ 4 < t1 ∧ 4 < t2)) :
    Calls Tryz.prog 5 #[.agg #[.bool a1, .slice p1 l1 q1, .bool aa1, .slice pp1 ll1 qq1], .agg #[.bool a2, .slice p2 l2 q2, .bool aa2, .slice pp2 ll2 qq2]] w fun e w' => e = .returned (.bool true) ∧ Below w.heap.size w w' := by
  obtain ⟨W0, hW0⟩ : ∃ W0, W0 = ((w.alloc (.cells #[.bool a1, .slice p1 l1 q1, .bool aa1, .slice pp1 ll1 qq1] 26)).alloc (.cells #[.bool a2, .slice p2 l2 q2, .bool aa2, .slice pp2 ll2 qq2] 26)) := ⟨_, rfl⟩
  have hB0 : Below w.heap.size w W0 := by rw [hW0]; exact ((Below.refl _ _).alloc (Nat.le_refl _) _).alloc (by simp <;> omega) _
  have hz0 : W0.heap.size = w.heap.size + 2 := by rw [hW0]; simp
  have HS : Hid (∀ w', Below W0.heap.size W0 w' → w'.cell? ⟨w.heap.size, 0, none⟩ = some (.bool a1) ∧ w'.cell? ⟨w.heap.size, 1, none⟩ = some (.slice p1 l1 q1) ∧ w'.cell? ⟨w.heap.size, 2, none⟩ = some (.bool aa1) ∧ w'.cell? ⟨w.heap.size, 3, none⟩ = some (.slice pp1 ll1 qq1) ∧ w'.cell? ⟨w.heap.size + 1, 0, none⟩ = some (.bool a2) ∧ w'.cell? ⟨w.heap.size + 1, 1, none⟩ = some (.slice p2 l2 q2) ∧ w'.cell? ⟨w.heap.size + 1, 2, none⟩ = some (.bool aa2) ∧ w'.cell? ⟨w.heap.size + 1, 3, none⟩ = some (.slice pp2 ll2 qq2)) := hid (fun w' hb => by
    refine ⟨?_, ?_, ?_, ?_, ?_, ?_, ?_, ?_⟩ <;> (rw [hb.cell (by rw [hz0]; simp <;> omega), hW0]; simp [go_sem]))
  have HB0 := hid hB0; have HW := hid hW0; have T1 := hid ht1; have T2 := hid ht2
  clear hW0 hB0 hz0 ht1 ht2
  rcases h with g1 | ⟨g1, g2⟩
  · go_enter Tryz.func5, Tryz.ntmps5
    go_upto_region 1 with (fail)
    rw [← HW.out]
    have hY0 := Below.refl W0.heap.size W0
    obtain ⟨k0, k1, k2, k3, k4, k5, k6, k7⟩ := HS.out _ hY0
    go_wp2_with fail
    refine (wide_t _ _ _ _ _ _ _ _ t1 _ T1.out).mono ?_
    rintro e v0 ⟨rfl, hb0⟩
    have hYn0 := bl_tr hY0 hb0
    clear k0 k1 k2 k3 k4 k5 k6 k7 hb0
    obtain ⟨k0, k1, k2, k3, k4, k5, k6, k7⟩ := HS.out _ hYn0
    go_wp2
    go_ret
    exact ⟨rfl, HB0.out.trans (hYn0.mono HB0.out.size)⟩
  · go_enter Tryz.func5, Tryz.ntmps5
    go_upto_region 1 with (fail)
    rw [← HW.out]
    have hY0 := Below.refl W0.heap.size W0
    obtain ⟨k0, k1, k2, k3, k4, k5, k6, k7⟩ := HS.out _ hY0
    go_wp2_with fail
    refine (wide_t _ _ _ _ _ _ _ _ t1 _ T1.out).mono ?_
    rintro e v0 ⟨rfl, hb0⟩
    have hYn0 := bl_tr hY0 hb0
    clear k0 k1 k2 k3 k4 k5 k6 k7 hb0
    obtain ⟨k0, k1, k2, k3, k4, k5, k6, k7⟩ := HS.out _ hYn0
    go_wp2_with fail
    refine (wide_t _ _ _ _ _ _ _ _ t2 _ T2.out).mono ?_
    rintro e v1 ⟨rfl, hb1⟩
    have hYn1 := bl_tr hYn0 hb1
    clear k0 k1 k2 k3 k4 k5 k6 k7 hb1
    obtain ⟨k0, k1, k2, k3, k4, k5, k6, k7⟩ := HS.out _ hYn1
    go_wp2
    go_ret
    exact ⟨rfl, HB0.out.trans (hYn1.mono HB0.out.size)⟩

theorem exactBetween_any (nA nB : Bool) (A B : List Int) (nC nD : Bool) (C D : List Int) (w : World) (u0 u1 : Value) (hu0 : Lr w u0 nA A nB B) (hu1 : Lr w u1 nC C nD D) :
    Calls Tryz.prog 5 #[u0, u1] w fun e w' => e = .returned (.bool true) ∧ Below w.heap.size w w' := by
  obtain ⟨aoA, cA, aoB, cB, rfl, rA, rB, dA, dB⟩ := hu0
  obtain ⟨aoC, cC, aoD, cD, rfl, rC, rD, dC, dD⟩ := hu1
  by_cases h1 : (4 : Int) < max (A.length : Int) (B.length : Int)
  · exact exactBetween_long _ _ _ _ _ _ _ _ _ _ _ _ _ _ _ _ w _ _ rfl rfl  (Or.inl (h1))
  by_cases h2 : (4 : Int) < max (C.length : Int) (D.length : Int)
  · exact exactBetween_long _ _ _ _ _ _ _ _ _ _ _ _ _ _ _ _ w _ _ rfl rfl  (Or.inr (⟨h1, h2⟩))
  exact exactBetween_walk _ _ _ _ _ _ _ _ _ _ _ _ _ _ _ _ _ _ _ _ A B C D w ⟨_, _, _, _, rfl, rA, rB, dA, dB⟩ ⟨_, _, _, _, rfl, rC, rD, dC, dD⟩ (by omega) (by omega) (by omega) (by omega) _ _ rfl rfl h1 h2
end Go.Proofs.YtbapeilpkhbbeaaGreat

/- The statement ExactBetween: whatever the arguments are, the law returns true, and all of them read behind the call as they read before. Written by gen_rowx.py. -/
namespace Go.Proofs.YtbapeilpkhbbeaaGreat
open Go.ChangeShapes Go.WideShapes Go.ChangeAt Go.RowKit Go.Joins

set_option maxRecDepth 100000 in
theorem exactBetween_lifted (os : Os) (started : os.Started) (H : Type) (enc : TypeId × Value → H) :
    ReturnsInHanded {} Tryz.checked os 5 .any (Rows.exactBetweenSpec.pre6 enc Tryz.prog Tryz.f5 Rows.exactBetweenRow.domain false) (Rows.exactBetweenSpec.post enc Tryz.prog Tryz.f5 false true false false) := by
  refine returnsInHanded_of_change (C := Tryz.checked) Tryz.ownKnobNone started (by kernel_rfl) Tryz.func5
    (ChangeSpec.witness6 (enc := enc) (C := Tryz.checked) false ⟨#[], #[.agg #[.bool false, .slice none 0 0, .bool false, .slice none 0 0], .agg #[.bool false, .slice none 0 0, .bool false, .slice none 0 0]], []⟩ 8 (by kernel_rfl) (by kernel_rfl) (by kernel_rfl) (by kernel_rfl)) ?_
  intro W base args ds gs before hval0 hW hcnd _
  have hval : ∀ (j : Nat) t v, Tryz.f5.params[j]? = some t → args[j]? = some v → Value.okWide Tryz.prog W .any base t v := hval0
  have hW' := hW
  obtain ⟨p, q, hA0, hV, rfl, hfz, hnd⟩ := hW
  have hA : DataW.TrodAll enc Tryz.prog W 0 (fun _ => true) true Tryz.f5.params.toList args.toList ds p := hA0
  rw [Tryz.params5] at hA hval
  obtain ⟨v0, v1, d0, d1, p0, p1, rfl, rfl, rfl, h0, h1⟩ := trodAll_two hA
  obtain ⟨rfl, rfl⟩ := trodVars_none hV
  obtain ⟨nA, A', nB, B', hu0⟩ := openLr (hval 0 26 v0 rfl rfl) h0
  obtain ⟨nC, C', nD, D', hu1⟩ := openLr (hval 1 26 v1 rfl rfl) h1
  clear hA0 hval0
  refine (exactBetween_any _ _ _ _ _ _ _ _ W _ _ hu0 hu1).mono fun e W' ⟨he, hw⟩ => ?_
  subst he
  exact ⟨_, rfl, lawTrue (tb := 4) Tryz.laidOutAll (of_decide_eq_true (by kernel_rfl)) rfl rfl Tryz.underlying4 rfl hW' hw⟩

theorem exactBetween_holds : Rows.ExactBetweenSaid :=
  OpenClaim.holds_of_wide 5 Tryz.f5 rfl rfl rfl rfl rfl rfl rfl ⟨rfl, rfl, rfl, rfl, rfl⟩ rfl rfl rfl rfl rfl (by kernel_rfl) Tryz.func5 (by kernel_rfl)
    (of_decide_eq_true (by kernel_rfl)) (by unfold Func.isWrapper; first | (rw [if_pos (by decide +kernel)]; kernel_rfl) | (rw [if_neg (by decide +kernel)]; exact ⟨rfl, rfl⟩))
    (fun os started H enc _ => exactBetween_lifted os started H enc)
#print axioms exactBetween_holds
end Go.Proofs.YtbapeilpkhbbeaaGreat
