/- The law ExactBetween, its walk. Written by gen_betw.py. -/
import Derived.Test.YtbapeilpkhbbeaaGreatBn36
import Derived.Test.YtbapeilpkhbbeaaGreatBn37
/- The law ExactBetween, its walk. Written by gen_betw.py. -/
namespace Go.Proofs.YtbapeilpkhbbeaaGreat
open Go.RowKit

theorem qveV (err n d : Int) : KeepV (fun w v => QvE w v err n d) := fun _ _ _ hk h => by
  obtain ⟨b1, o1, m1, c1, b2, o2, m2, c2, rfl, h⟩ := h
  refine ⟨b1, o1, m1, c1, b2, o2, m2, c2, rfl, ?_⟩
  rcases h with ⟨h1, K, hK, h2⟩ | h
  · exact Or.inl ⟨h1, K, hK, Qv.keeps (hk .i64) h2⟩
  · exact Or.inr h
theorem QvE.openedB {w : World} {v : Value} {err n d : Int} (h : QvE w v err n d) : ∃ b1 o1 m1 c1 b2 o2 m2 c2, v = .agg #[.bool b1, .slice o1 m1 c1, .bool b2, .slice o2 m2 c2] ∧ True := by
  obtain ⟨b1, o1, m1, c1, b2, o2, m2, c2, rfl, _⟩ := h
  exact ⟨_, _, _, _, _, _, _, _, rfl, trivial⟩
/-- The least Den between two ratios of small numbers is small. -/
theorem btw_small {n1 d1 n2 d2 N E : Int} (h1 : 0 < d1) (hle : n1 * d2 ≤ n2 * d1) (hb : Btw n1 d1 n2 d2 N E) (hd : lowD n1 d1 ≤ 2047) : E ≤ 2047 := by
  obtain ⟨e, p⟩ := low_val n1 h1
  obtain ⟨P, hP⟩ : ∃ P, P = lowN n1 d1 := ⟨_, rfl⟩
  obtain ⟨Q, hQ⟩ : ∃ Q, Q = lowD n1 d1 := ⟨_, rfl⟩
  rw [← hP, ← hQ] at e
  rw [← hQ] at p hd
  have a : n1 * Q ≤ P * d1 := by omega
  have b : P * d2 ≤ n2 * Q := by
    have h3 : (P * d2) * d1 ≤ (n2 * Q) * d1 := by
      have h4 : (n1 * d2) * Q ≤ (n2 * d1) * Q := Int.mul_le_mul_of_nonneg_right hle (by omega)
      have e1 : (P * d2) * d1 = (n1 * d2) * Q := by
        calc (P * d2) * d1 = (P * d1) * d2 := by rw [Int.mul_assoc, Int.mul_comm d2 d1, ← Int.mul_assoc]
          _ = (n1 * Q) * d2 := by rw [e]
          _ = (n1 * d2) * Q := by rw [Int.mul_assoc, Int.mul_comm Q d2, ← Int.mul_assoc]
      have e2 : (n2 * Q) * d1 = (n2 * d1) * Q := by rw [Int.mul_assoc, Int.mul_comm Q d1, ← Int.mul_assoc]
      omega
    exact Int.le_of_mul_le_mul_right h3 h1
  have := (hb.least P Q p a b).1
  omega
/-- What both packages hand back: the error, or the simplest number. -/
def btwE (n1 d1 n2 d2 : Int) : Int := if n1 * d2 ≤ n2 * d1 then 0 else 2
theorem Between_res (u v : Value) (n1 d1 n2 d2 : Int) (w : World) (B : Nat) (hB : B ≤ w.heap.size) (hu : Rv w u n1 d1 4) (hv : Rv w v n2 d2 4) :
    Calls Tryz.prog 48 #[u, v] w fun e w' => ∃ N E, (n1 * d2 ≤ n2 * d1 → Btw n1 d1 n2 d2 N E) ∧ RetPE w B (btwE n1 d1 n2 d2) N E e w' := by
  by_cases h : n1 * d2 ≤ n2 * d1
  · rw [show btwE n1 d1 n2 d2 = 0 from if_pos h]
    refine (Between_fr u v n1 d1 n2 d2 4 8 w hu hv (by decide) h (by decide)).mono ?_
    rintro e w' ⟨N, E, b1, o1, m1, c1, b2, o2, m2, c2, wb, h1, rfl, hw, H, hb⟩
    have hl : lowN N E = N ∧ lowD N E = E := by
      have hv := low_val N h1.pos
      have hs := low_small N h1.pos
      have hle := h1.least (lowN N E) (lowD N E) hv.2 (low_le h1.pos hv.2 hv.1 h1.lo) (low_ge h1.pos hv.2 hv.1 h1.hi)
      have hD : lowD N E = E := by have := hle.1; have := hs.1; omega
      rw [hD] at hv
      exact ⟨Int.eq_of_mul_eq_mul_right (by have := h1.pos; omega) hv.1, hD⟩
    refine ⟨N, E, fun _ => h1, ?_⟩
    have hf : FrR wb w' (.agg #[.bool b1, .slice o1 m1 c1, .bool b2, .slice o2 m2 c2]) (lowN N E) (lowD N E) 8 := by rw [hl.1, hl.2]; exact H.out
    exact (hf.pv (n := N) (e := E) (B := B) h1.pos h1.pos rfl (by decide) (Nat.le_trans hB hw)).retE hb
  · rw [show btwE n1 d1 n2 d2 = 2 from if_neg h]
    refine (Between_err u v n1 d1 n2 d2 4 w hu hv (by decide) (by omega)).mono ?_
    rintro e w' ⟨rfl, hb⟩
    exact ⟨0, 1, fun h2 => absurd h2 h, retPE_bad _ _ _ (by decide) hb⟩
theorem rBetween_res (u v : Value) (n1 d1 n2 d2 N E : Int) (w : World) (hu : Qv w u n1 d1 11) (hv : Qv w v n2 d2 11) (hB : n1 * d2 ≤ n2 * d1 → Btw n1 d1 n2 d2 N E) (hd : lowD n1 d1 ≤ 2047) :
    Calls Tryz.prog 49 #[u, v] w (RetQvE w (btwE n1 d1 n2 d2) N E) := by
  by_cases h : n1 * d2 ≤ n2 * d1
  · rw [show btwE n1 d1 n2 d2 = 0 from if_pos h]
    exact rBetween_v u v n1 d1 n2 d2 N E w hu hv h (hB h) (btw_small hu.1 h (hB h) hd)
  · rw [show btwE n1 d1 n2 d2 = 2 from if_neg h]
    refine (rBetween_err u v n1 d1 n2 d2 w hu hv (by omega)).mono ?_
    rintro e w' ⟨rfl, hb⟩
    exact retQvE_bad _ _ (by decide) hb

set_option maxRecDepth 100000 in
set_option maxHeartbeats 4000000 in
theorem exactBetween_walk (a1 aa1 a2 aa2 : Bool) (p1 pp1 p2 pp2 : Option Addr) (l1 ll1 q1 qq1 l2 ll2 q2 qq2 : Nat) (nA nB nC nD : Bool) (A B C F : List Int) (w : World) (hu : Lr w (.agg #[.bool a1, .slice p1 l1 q1, .bool aa1, .slice pp1 ll1 qq1]) nA A nB B) (hv : Lr w (.agg #[.bool a2, .slice p2 l2 q2, .bool aa2, .slice pp2 ll2 qq2]) nC C nD F) (hA : A.length ≤ 4) (hB : B.length ≤ 4) (hC : C.length ≤ 4) (hF : F.length ≤ 4) (t1 t2 : Int) (ht1 : max (l1 : Int) (ll1 : Int) = t1) (ht2 : max (l2 : Int) (ll2 : Int) = t2) (g1 : ¬ 4 < t1) (g2 : ¬ 4 < t2) :
    Calls Tryz.prog 5 #[(.agg #[.bool a1, .slice p1 l1 q1, .bool aa1, .slice pp1 ll1 qq1]), (.agg #[.bool a2, .slice p2 l2 q2, .bool aa2, .slice pp2 ll2 qq2])] w fun e w' => e = .returned (.bool true) ∧ Below w.heap.size w w' := by
  obtain ⟨W0, hW0⟩ : ∃ W0, W0 = ((w.alloc (.cells #[.bool a1, .slice p1 l1 q1, .bool aa1, .slice pp1 ll1 qq1] 26)).alloc (.cells #[.bool a2, .slice p2 l2 q2, .bool aa2, .slice pp2 ll2 qq2] 26)) := ⟨_, rfl⟩
  have hB0 : Below w.heap.size w W0 := by rw [hW0]; exact ((Below.refl _ _).alloc (Nat.le_refl _) _).alloc (by simp <;> omega) _
  have hz0 : W0.heap.size = w.heap.size + 2 := by rw [hW0]; simp
  have HS0 : Hid (∀ w', Below W0.heap.size W0 w' → w'.cell? ⟨w.heap.size, 0, none⟩ = some (.bool a1) ∧ w'.cell? ⟨w.heap.size, 1, none⟩ = some (.slice p1 l1 q1) ∧ w'.cell? ⟨w.heap.size, 2, none⟩ = some (.bool aa1) ∧ w'.cell? ⟨w.heap.size, 3, none⟩ = some (.slice pp1 ll1 qq1) ∧ w'.cell? ⟨w.heap.size + 1, 0, none⟩ = some (.bool a2) ∧ w'.cell? ⟨w.heap.size + 1, 1, none⟩ = some (.slice p2 l2 q2) ∧ w'.cell? ⟨w.heap.size + 1, 2, none⟩ = some (.bool aa2) ∧ w'.cell? ⟨w.heap.size + 1, 3, none⟩ = some (.slice pp2 ll2 qq2)) := hid (fun w' hb => by
    refine ⟨?_, ?_, ?_, ?_, ?_, ?_, ?_, ?_⟩ <;> (rw [hb.cell (by rw [hz0]; simp <;> omega), hW0]; simp [go_sem]))
  have VR : Hid (∀ w', Below W0.heap.size W0 w' → Lr w' (.agg #[.bool a1, .slice p1 l1 q1, .bool aa1, .slice pp1 ll1 qq1]) nA A nB B) := hid (fun w' hb => (hu.below hB0 (Nat.le_refl _)).below hb (Nat.le_refl _))
  have VS : Hid (∀ w', Below W0.heap.size W0 w' → Lr w' (.agg #[.bool a2, .slice p2 l2 q2, .bool aa2, .slice pp2 ll2 qq2]) nC C nD F) := hid (fun w' hb => (hv.below hB0 (Nat.le_refl _)).below hb (Nat.le_refl _))
  obtain ⟨n1, hn1⟩ : ∃ n, n = rn (sgn nA (val B32 A)) (sgn nB (val B32 B)) := ⟨_, rfl⟩
  obtain ⟨d1, hd1⟩ : ∃ d, d = rd (sgn nB (val B32 B)) := ⟨_, rfl⟩
  obtain ⟨n2, hn2⟩ : ∃ n, n = rn (sgn nC (val B32 C)) (sgn nD (val B32 F)) := ⟨_, rfl⟩
  obtain ⟨d2, hd2⟩ : ∃ d, d = rd (sgn nD (val B32 F)) := ⟨_, rfl⟩
  have HRV := hid (fun (w' : World) (v : Value) (h : Lr w' v nA A nB B) => show Rv w' v n1 d1 4 by rw [hn1, hd1]; exact h.rv hA hB)
  have HSV := hid (fun (w' : World) (v : Value) (h : Lr w' v nC C nD F) => show Rv w' v n2 d2 4 by rw [hn2, hd2]; exact h.rv hC hF)
  have HLA := hid (show A.length ≤ 1073741824 by omega); have HLB := hid (show B.length ≤ 1073741824 by omega); have HLC := hid (show C.length ≤ 1073741824 by omega); have HLD := hid (show F.length ≤ 1073741824 by omega)
  have T1 := hid ht1; have T2 := hid ht2; have G1 := hid (show t1 ≤ 4 by omega); have G2 := hid (show t2 ≤ 4 by omega)
  have HB0 := hid hB0; have HW0 := hid hW0
  clear hW0 hB0 hz0
  clear hn1 hd1 hn2 hd2 ht1 ht2 hu hv hA hB hC hF
  go_enter Tryz.func5, Tryz.ntmps5
  go_upto_region 1 with (fail)
  rw [← HW0.out]
  obtain ⟨k0, k1, k2, k3, k4, k5, k6, k7⟩ := HS0.out _ (Below.refl _ _)
  go_wp2_with fail
  refine (wide_t _ _ _ _ _ _ _ _ t1 _ T1.out).mono ?_
  rintro e wa ⟨rfl, hbq⟩
  have hXa : Below W0.heap.size W0 wa := hbq
  clear k0 k1 k2 k3 k4 k5 k6 k7 hbq
  obtain ⟨k0, k1, k2, k3, k4, k5, k6, k7⟩ := HS0.out _ hXa
  go_wp2_with fail
  refine (wide_t _ _ _ _ _ _ _ _ t2 _ T2.out).mono ?_
  rintro e wb ⟨rfl, hbq⟩
  have hXb := bl_tr hXa hbq
  clear k0 k1 k2 k3 k4 k5 k6 k7 hbq
  obtain ⟨k0, k1, k2, k3, k4, k5, k6, k7⟩ := HS0.out _ hXb
  go_wp2_with fail
  refine (tiny_any _ _ _ _ _ _ _ _ n1 d1 t1 _ (HRV.out _ _ (VR.out _ hXb)) T1.out G1.out).mono ?_
  rintro e wc ⟨y1, rfl, hy1, hbq⟩
  have hXc := bl_tr hXb hbq
  clear k0 k1 k2 k3 k4 k5 k6 k7 hbq
  have HY1 := hid hy1; clear hy1
  cases y1 with
  | false =>
    obtain ⟨k0, k1, k2, k3, k4, k5, k6, k7⟩ := HS0.out _ hXc
    go_wp2
    go_ret
    exact ⟨rfl, HB0.out.trans (hXc.mono HB0.out.size)⟩
  | true =>
    obtain ⟨k0, k1, k2, k3, k4, k5, k6, k7⟩ := HS0.out _ hXc
    go_wp2_with fail
    refine (tiny_any _ _ _ _ _ _ _ _ n2 d2 t2 _ (HSV.out _ _ (VS.out _ hXc)) T2.out G2.out).mono ?_
    rintro e wd ⟨y2, rfl, hy2, hbq⟩
    have hXd := bl_tr hXc hbq
    clear k0 k1 k2 k3 k4 k5 k6 k7 hbq
    clear hy2
    cases y2 with
    | false =>
      obtain ⟨k0, k1, k2, k3, k4, k5, k6, k7⟩ := HS0.out _ hXd
      go_wp2
      go_ret
      exact ⟨rfl, HB0.out.trans (hXd.mono HB0.out.size)⟩
    | true =>
      have hsm : lowD n1 d1 ≤ 2047 := (HY1.out (by simp)).2
      have HSm := hid hsm; clear hsm
      obtain ⟨k0, k1, k2, k3, k4, k5, k6, k7⟩ := HS0.out _ hXd
      go_upto_region 3 with (fail)
      clear k0 k1 k2 k3 k4 k5 k6 k7
      have HKG : Hid (AllKeep [(false, (fun wq vq => vq = (.agg #[.bool a1, .slice p1 l1 q1, .bool aa1, .slice pp1 ll1 qq1])), undef), (false, (fun wq vq => Lr wq vq nA A nB B), undef), (false, (fun wq vq => vq = (.agg #[.bool a2, .slice p2 l2 q2, .bool aa2, .slice pp2 ll2 qq2])), undef), (false, (fun wq vq => Lr wq vq nC C nD F), undef)]) := hid ⟨kcV _, lrV _ _ _ _, kcV _, lrV _ _ _ _, trivial⟩
      refine region_inv (by kernel_rfl) (fun L act w' => ∃ f0 f1 f2 f3 f4 f5 f6 f7, L = #[f0, f1, f2, f3, f4, f5, f6, f7] ∧ (f6 = true → f4 = true ∧ f1 = true) ∧ (f7 = true → f5 = true ∧ f3 = true) ∧ ∃ s30 s31 s32 s33 s5 s6, act = { tmps := #[(.agg #[.bool a1, .slice p1 l1 q1, .bool aa1, .slice pp1 ll1 qq1]), (.agg #[.bool a2, .slice p2 l2 q2, .bool aa2, .slice pp2 ll2 qq2]), .pointer (some ⟨w.heap.size, 0, none⟩), .pointer (some ⟨w.heap.size + 1, 0, none⟩), .bool false, s5, s6, undef, undef, undef, undef, undef, (.agg #[.bool a1, .slice p1 l1 q1, .bool aa1, .slice pp1 ll1 qq1]), .int .i64 t1, .bool (decide (4 < t1)), .bool (decide (4 < t1)), (.agg #[.bool a2, .slice p2 l2 q2, .bool aa2, .slice pp2 ll2 qq2]), .int .i64 t2, .bool (decide (4 < t2)), .bool (decide (4 < t1) || decide (4 < t2)), .bool (decide (4 < t1) || decide (4 < t2)), (.agg #[.bool a1, .slice p1 l1 q1, .bool aa1, .slice pp1 ll1 qq1]), .bool true, .bool false, .bool (decide (4 < t1) || decide (4 < t2)), .bool (decide (4 < t1) || decide (4 < t2)), (.agg #[.bool a2, .slice p2 l2 q2, .bool aa2, .slice pp2 ll2 qq2]), .bool true, .bool false, .bool (decide (4 < t1) || decide (4 < t2)), s30, s31, s32, s33, undef, undef, undef, undef, undef, undef, undef, undef, undef, undef, undef, undef, undef, undef, undef, undef, undef, undef, undef, undef, undef, undef, undef, undef, undef, undef, undef, undef, undef, undef, undef, undef], defers := [] } ∧ RX W0.heap.size W0 [(f0, (fun wq vq => vq = (.agg #[.bool a1, .slice p1 l1 q1, .bool aa1, .slice pp1 ll1 qq1])), s30), (f1, (fun wq vq => Lr wq vq nA A nB B), s31), (f2, (fun wq vq => vq = (.agg #[.bool a2, .slice p2 l2 q2, .bool aa2, .slice pp2 ll2 qq2])), s32), (f3, (fun wq vq => Lr wq vq nC C nD F), s33)] [(4, f4, f6, s5, s31), (4, f5, f7, s6, s33)] w') ?_ ?_ ?_
      · exact ⟨_, _, _, _, _, _, _, _, rfl, nofun, nofun, _, _, _, _, _, _, rfl, hXd.drew, hXd.size, ⟨nofun, nofun, nofun, nofun, trivial⟩, ⟨nofun, nofun, trivial⟩, ⟨⟨nofun, trivial⟩, trivial, trivial⟩⟩
      · rintro L act w' i hs ⟨f0, f1, f2, f3, f4, f5, f6, f7, rfl, d0, d1, s30, s31, s32, s33, s5, s6, rfl, J⟩ hi
        obtain ⟨hi, hn, hd⟩ := waits_spec (dep := [[], [0], [], [2, 1], [], [], [4, 1, 3], [5, 3, 6]]) (by kernel_rfl) hi
        have hiN : i < 8 := hi
        obtain ⟨k0, k1, k2, k3, k4, k5, k6, k7⟩ := HS0.out w' J.bel
        have HJ := hid J
        rcases (show i = 0 ∨ i = 1 ∨ i = 2 ∨ i = 3 ∨ i = 4 ∨ i = 5 ∨ i = 6 ∨ i = 7 by omega) with rfl | rfl | rfl | rfl | rfl | rfl | rfl | rfl
        · clear J hd hi hiN hn
          refine wpOp_step rfl (fun kq hKq => ?_)
          go_simp
          exact hKq _ _ ⟨true, f1, f2, f3, f4, f5, f6, f7, rfl, d0, d1, _, _, _, _, _, _, rfl, HJ.out.bel, HJ.out.siz, ⟨fun _ => rfl, HJ.out.vals.2.1, HJ.out.vals.2.2.1, HJ.out.vals.2.2.2.1, trivial⟩, ⟨HJ.out.boxes.1, HJ.out.boxes.2.1, trivial⟩, HJ.out.ne⟩
        · obtain rfl : f1 = false := hn
          obtain rfl : f6 = false := by cases f6 with | false => rfl | true => exact absurd (d0 rfl).2 (by simp)
          have e30 : s30 = (.agg #[.bool a1, .slice p1 l1 q1, .bool aa1, .slice pp1 ll1 qq1]) := J.vals.1 (hd 0 (by simp))
          subst e30
          have hw := J.bel
          clear J hd hi hiN d0
          refine wpOp_step rfl (fun kq hKq => ?_)
          go_simp
          refine (ownRatio_any _ _ _ _ _ _ (VR.out _ hw) HLA.out HLB.out).mono ?_
          rintro e wz ⟨ub, uo, um, uc, vb, vo, vm, vc, rfl, HZq, hb⟩
          have J2 := RX.step HJ.out HKG.out hb
          exact hKq _ _ ⟨f0, true, f2, f3, f4, f5, false, f7, rfl, nofun, d1, _, _, _, _, _, _, rfl, J2.bel, J2.siz, ⟨J2.vals.1, fun _ => HZq.out, J2.vals.2.2.1, J2.vals.2.2.2.1, trivial⟩, ⟨fun e => (J2.boxes.1 e).fresh, J2.boxes.2.1, trivial⟩, J2.ne⟩
        · clear J hd hi hiN hn
          refine wpOp_step rfl (fun kq hKq => ?_)
          go_simp
          exact hKq _ _ ⟨f0, f1, true, f3, f4, f5, f6, f7, rfl, d0, d1, _, _, _, _, _, _, rfl, HJ.out.bel, HJ.out.siz, ⟨HJ.out.vals.1, HJ.out.vals.2.1, fun _ => rfl, HJ.out.vals.2.2.2.1, trivial⟩, ⟨HJ.out.boxes.1, HJ.out.boxes.2.1, trivial⟩, HJ.out.ne⟩
        · obtain rfl : f3 = false := hn
          obtain rfl : f7 = false := by cases f7 with | false => rfl | true => exact absurd (d1 rfl).2 (by simp)
          have e32 : s32 = (.agg #[.bool a2, .slice p2 l2 q2, .bool aa2, .slice pp2 ll2 qq2]) := J.vals.2.2.1 (hd 2 (by simp))
          subst e32
          have hw := J.bel
          clear J hd hi hiN d1
          refine wpOp_step rfl (fun kq hKq => ?_)
          go_simp
          refine (ownRatio_any _ _ _ _ _ _ (VS.out _ hw) HLC.out HLD.out).mono ?_
          rintro e wz ⟨ub, uo, um, uc, vb, vo, vm, vc, rfl, HZq, hb⟩
          have J2 := RX.step HJ.out HKG.out hb
          exact hKq _ _ ⟨f0, f1, f2, true, f4, f5, f6, false, rfl, d0, nofun, _, _, _, _, _, _, rfl, J2.bel, J2.siz, ⟨J2.vals.1, J2.vals.2.1, J2.vals.2.2.1, fun _ => HZq.out, trivial⟩, ⟨J2.boxes.1, fun e => (J2.boxes.2.1 e).fresh, trivial⟩, J2.ne⟩
        · obtain rfl : f4 = false := hn
          obtain rfl : f6 = false := by cases f6 with | false => rfl | true => exact absurd (d0 rfl).1 (by simp)
          clear J hd hi hiN d0
          refine wpOp_step rfl (fun kq hKq => ?_)
          go_simp
          have J2 := RX.step HJ.out HKG.out (bl_new (w := w') (.cells #[.bool false, .slice none 0 0, .bool false, .slice none 0 0] 26))
          exact hKq _ _ ⟨f0, f1, f2, f3, true, f5, false, f7, rfl, nofun, d1, _, _, _, _, _, _, rfl, J2.bel, J2.siz, J2.vals, ⟨fun _ => boxn_new _ w' _ _ [.bool false, .slice none 0 0, .bool false, .slice none 0 0] (by intro i k x hi; match i, hi with | 0, _ => nofun | 1, _ => nofun | 2, _ => nofun | 3, _ => nofun) HJ.out.siz, J2.boxes.2.1, trivial⟩, ⟨⟨fun _ e => (boxn_ne_new (HJ.out.boxes.2.1 e)).symm, trivial⟩, trivial, trivial⟩⟩
        · obtain rfl : f5 = false := hn
          obtain rfl : f7 = false := by cases f7 with | false => rfl | true => exact absurd (d1 rfl).1 (by simp)
          clear J hd hi hiN d1
          refine wpOp_step rfl (fun kq hKq => ?_)
          go_simp
          have J2 := RX.step HJ.out HKG.out (bl_new (w := w') (.cells #[.bool false, .slice none 0 0, .bool false, .slice none 0 0] 26))
          exact hKq _ _ ⟨f0, f1, f2, f3, f4, true, f6, false, rfl, d0, nofun, _, _, _, _, _, _, rfl, J2.bel, J2.siz, J2.vals, ⟨J2.boxes.1, fun _ => boxn_new _ w' _ _ [.bool false, .slice none 0 0, .bool false, .slice none 0 0] (by intro i k x hi; match i, hi with | 0, _ => nofun | 1, _ => nofun | 2, _ => nofun | 3, _ => nofun) HJ.out.siz, trivial⟩, ⟨⟨fun e _ => boxn_ne_new (HJ.out.boxes.1 e), trivial⟩, trivial, trivial⟩⟩
        · obtain rfl : f4 = true := hd 4 (by simp)
          obtain rfl : f1 = true := hd 1 (by simp)
          obtain ⟨rb, ro, rm, rc, sb, so, sm, sc, rfl, _⟩ := Lr.opened (J.vals.2.1 rfl)
          have HBX : Hid _ := hid (J.boxes.1 rfl)
          obtain ⟨p, vs, rfl, hp, hl, hnn, hc, hf, _⟩ := J.boxes.1 rfl
          have cc0 := hc 0 (by decide)
          have ff0 := hf 0 (by decide)
          have cc1 := hc 1 (by decide)
          have ff1 := hf 1 (by decide)
          have cc2 := hc 2 (by decide)
          have ff2 := hf 2 (by decide)
          have cc3 := hc 3 (by decide)
          have ff3 := hf 3 (by decide)
          clear J hd hi hiN hn hc hf hnn hl
          refine wpOp_step rfl (fun kq hKq => ?_)
          go_simp
          exact hKq _ _ ⟨f0, true, f2, f3, true, f5, true, f7, rfl, fun _ => ⟨rfl, rfl⟩, d1, _, _, _, _, _, _, rfl, below_setCells hp [.bool rb, .slice ro rm rc, .bool sb, .slice so sm sc] 0 HJ.out.bel, Nat.le_trans HJ.out.siz (Nat.le_of_eq (size_setCells p [.bool rb, .slice ro rm rc, .bool sb, .slice so sm sc] 0 w').symm), Vals.keep HKG.out (BoxN.keeps HBX.out (us := [.bool rb, .slice ro rm rc, .bool sb, .slice so sm sc]) rfl) HJ.out.vals, ⟨fun _ => BoxN.store HBX.out [.bool rb, .slice ro rm rc, .bool sb, .slice so sm sc] rfl (by intro i k x hi; match i, hi with | 0, _ => nofun | 1, _ => nofun | 2, _ => nofun | 3, _ => nofun), fun e => BoxN.other (HJ.out.boxes.2.1 e) ((HJ.out.ne.1.1 rfl e).symm) 0 [.bool rb, .slice ro rm rc, .bool sb, .slice so sm sc], trivial⟩, HJ.out.ne⟩
        · obtain rfl : f5 = true := hd 5 (by simp)
          obtain rfl : f3 = true := hd 3 (by simp)
          obtain ⟨xb, xo, xm, xc, yb, yo, ym, yc, rfl, _⟩ := Lr.opened (J.vals.2.2.2.1 rfl)
          have HBX : Hid _ := hid (J.boxes.2.1 rfl)
          obtain ⟨p, vs, rfl, hp, hl, hnn, hc, hf, _⟩ := J.boxes.2.1 rfl
          have cc0 := hc 0 (by decide)
          have ff0 := hf 0 (by decide)
          have cc1 := hc 1 (by decide)
          have ff1 := hf 1 (by decide)
          have cc2 := hc 2 (by decide)
          have ff2 := hf 2 (by decide)
          have cc3 := hc 3 (by decide)
          have ff3 := hf 3 (by decide)
          clear J hd hi hiN hn hc hf hnn hl
          refine wpOp_step rfl (fun kq hKq => ?_)
          go_simp
          exact hKq _ _ ⟨f0, f1, f2, true, f4, true, f6, true, rfl, d0, fun _ => ⟨rfl, rfl⟩, _, _, _, _, _, _, rfl, below_setCells hp [.bool xb, .slice xo xm xc, .bool yb, .slice yo ym yc] 0 HJ.out.bel, Nat.le_trans HJ.out.siz (Nat.le_of_eq (size_setCells p [.bool xb, .slice xo xm xc, .bool yb, .slice yo ym yc] 0 w').symm), Vals.keep HKG.out (BoxN.keeps HBX.out (us := [.bool xb, .slice xo xm xc, .bool yb, .slice yo ym yc]) rfl) HJ.out.vals, ⟨fun e => BoxN.other (HJ.out.boxes.1 e) (HJ.out.ne.1.1 e rfl) 0 [.bool xb, .slice xo xm xc, .bool yb, .slice yo ym yc], fun _ => BoxN.store HBX.out [.bool xb, .slice xo xm xc, .bool yb, .slice yo ym yc] rfl (by intro i k x hi; match i, hi with | 0, _ => nofun | 1, _ => nofun | 2, _ => nofun | 3, _ => nofun), trivial⟩, HJ.out.ne⟩
      rintro L act w' hs ⟨f0, f1, f2, f3, f4, f5, f6, f7, rfl, _, _, s30, s31, s32, s33, s5, s6, rfl, J⟩ hr
      have hd := early_done (by kernel_rfl) hs hr 8
      obtain rfl : f0 = true := hd 0 (by omega) (by simp)
      obtain rfl : f1 = true := hd 1 (by omega) (by simp)
      obtain rfl : f2 = true := hd 2 (by omega) (by simp)
      obtain rfl : f3 = true := hd 3 (by omega) (by simp)
      obtain rfl : f4 = true := hd 4 (by omega) (by simp)
      obtain rfl : f5 = true := hd 5 (by omega) (by simp)
      obtain rfl : f6 = true := hd 6 (by omega) (by simp)
      obtain rfl : f7 = true := hd 7 (by omega) (by simp)
      have e30 : s30 = (.agg #[.bool a1, .slice p1 l1 q1, .bool aa1, .slice pp1 ll1 qq1]) := J.vals.1 rfl
      subst e30
      have e32 : s32 = (.agg #[.bool a2, .slice p2 l2 q2, .bool aa2, .slice pp2 ll2 qq2]) := J.vals.2.2.1 rfl
      subst e32
      have hg5 : (fun wq vq => Lr wq vq nA A nB B) w' s31 := J.vals.2.1 rfl
      obtain ⟨rb, ro, rm, rc, sb, so, sm, sc, rfl, _⟩ := Lr.opened hg5
      obtain ⟨p5, rfl, hp5, hl5, hc5⟩ := BoxN.done (us := [.bool rb, .slice ro rm rc, .bool sb, .slice so sm sc]) (J.boxes.1 rfl)
      have k5_0 : w'.cell? ⟨p5, 0, none⟩ = some (.bool rb) := (hc5 0 (by decide)).1
      have k5_1 : w'.cell? ⟨p5, 1, none⟩ = some (.slice ro rm rc) := (hc5 1 (by decide)).1
      have k5_2 : w'.cell? ⟨p5, 2, none⟩ = some (.bool sb) := (hc5 2 (by decide)).1
      have k5_3 : w'.cell? ⟨p5, 3, none⟩ = some (.slice so sm sc) := (hc5 3 (by decide)).1
      clear hc5
      have hg6 : (fun wq vq => Lr wq vq nC C nD F) w' s33 := J.vals.2.2.2.1 rfl
      obtain ⟨xb, xo, xm, xc, yb, yo, ym, yc, rfl, _⟩ := Lr.opened hg6
      obtain ⟨p6, rfl, hp6, hl6, hc6⟩ := BoxN.done (us := [.bool xb, .slice xo xm xc, .bool yb, .slice yo ym yc]) (J.boxes.2.1 rfl)
      have k6_0 : w'.cell? ⟨p6, 0, none⟩ = some (.bool xb) := (hc6 0 (by decide)).1
      have k6_1 : w'.cell? ⟨p6, 1, none⟩ = some (.slice xo xm xc) := (hc6 1 (by decide)).1
      have k6_2 : w'.cell? ⟨p6, 2, none⟩ = some (.bool yb) := (hc6 2 (by decide)).1
      have k6_3 : w'.cell? ⟨p6, 3, none⟩ = some (.slice yo ym yc) := (hc6 3 (by decide)).1
      clear hc6
      have hbel := J.bel
      have hsiz := J.siz
      clear hd hr hs J
      obtain ⟨W1, hW1⟩ : ∃ W, W = w' := ⟨_, rfl⟩
      rw [← hW1] at hbel hg5 hl5 hg6 hl6 k5_0 k5_1 k5_2 k5_3 k6_0 k6_1 k6_2 k6_3
      have HS1 : Hid (∀ w', Below W1.heap.size W1 w' → (w'.cell? ⟨w.heap.size, 0, none⟩ = some (.bool a1) ∧ w'.cell? ⟨w.heap.size, 1, none⟩ = some (.slice p1 l1 q1) ∧ w'.cell? ⟨w.heap.size, 2, none⟩ = some (.bool aa1) ∧ w'.cell? ⟨w.heap.size, 3, none⟩ = some (.slice pp1 ll1 qq1) ∧ w'.cell? ⟨w.heap.size + 1, 0, none⟩ = some (.bool a2) ∧ w'.cell? ⟨w.heap.size + 1, 1, none⟩ = some (.slice p2 l2 q2) ∧ w'.cell? ⟨w.heap.size + 1, 2, none⟩ = some (.bool aa2) ∧ w'.cell? ⟨w.heap.size + 1, 3, none⟩ = some (.slice pp2 ll2 qq2)) ∧ w'.cell? ⟨p5, 0, none⟩ = some (.bool rb) ∧ w'.cell? ⟨p5, 1, none⟩ = some (.slice ro rm rc) ∧ w'.cell? ⟨p5, 2, none⟩ = some (.bool sb) ∧ w'.cell? ⟨p5, 3, none⟩ = some (.slice so sm sc) ∧ w'.cell? ⟨p6, 0, none⟩ = some (.bool xb) ∧ w'.cell? ⟨p6, 1, none⟩ = some (.slice xo xm xc) ∧ w'.cell? ⟨p6, 2, none⟩ = some (.bool yb) ∧ w'.cell? ⟨p6, 3, none⟩ = some (.slice yo ym yc)) := hid (fun w' hb => by
        refine ⟨HS0.out _ (bl_tr hbel hb), (hb.cell (p := ⟨p5, 0, none⟩) hl5).trans k5_0, (hb.cell (p := ⟨p5, 1, none⟩) hl5).trans k5_1, (hb.cell (p := ⟨p5, 2, none⟩) hl5).trans k5_2, (hb.cell (p := ⟨p5, 3, none⟩) hl5).trans k5_3, (hb.cell (p := ⟨p6, 0, none⟩) hl6).trans k6_0, (hb.cell (p := ⟨p6, 1, none⟩) hl6).trans k6_1, (hb.cell (p := ⟨p6, 2, none⟩) hl6).trans k6_2, (hb.cell (p := ⟨p6, 3, none⟩) hl6).trans k6_3⟩)
      replace VR := hid (fun w' hb => VR.out w' (bl_tr hbel hb))
      replace VS := hid (fun w' hb => VS.out w' (bl_tr hbel hb))
      have VX : Hid (∀ w', Below W1.heap.size W1 w' → Lr w' (.agg #[.bool rb, .slice ro rm rc, .bool sb, .slice so sm sc]) nA A nB B) := hid (fun w' hb => hg5.below hb (Nat.le_refl _))
      have VY : Hid (∀ w', Below W1.heap.size W1 w' → Lr w' (.agg #[.bool xb, .slice xo xm xc, .bool yb, .slice yo ym yc]) nC C nD F) := hid (fun w' hb => hg6.below hb (Nat.le_refl _))
      have HB1 := hid (HB0.out.trans (hbel.mono HB0.out.size)); have HW1 := hid hW1
      clear hW1 HS0 HB0 HW0 hbel hsiz hg5 hl5 hg6 hl6 hp5 hp6 k5_0 k5_1 k5_2 k5_3 k6_0 k6_1 k6_2 k6_3
      obtain ⟨Bq, hBq⟩ : ∃ B, B = W1.heap.size := ⟨_, rfl⟩
      have HBq := hid hBq
      have HBt := hid (fun (w' : World) (x y : Value) (hb : Below W1.heap.size W1 w') (h1 : Lr w' x nA A nB B) (h2 : Lr w' y nC C nD F) => Between_res x y n1 d1 n2 d2 w' Bq (by rw [hBq]; exact hb.size) (HRV.out _ _ h1) (HSV.out _ _ h2))
      obtain ⟨E0, hE0⟩ : ∃ x, x = btwE n1 d1 n2 d2 := ⟨_, rfl⟩
      rw [← hE0] at HBt
      have HE0 := hid hE0; clear hE0 hBq
      go_upto_region 4 with (fail)
      rw [← HW1.out]
      obtain ⟨⟨k0, k1, k2, k3, k4, k5, k6, k7⟩, k8, k9, k10, k11, k12, k13, k14, k15⟩ := HS1.out _ (Below.refl _ _)
      go_wp2_with fail
      refine (HBt.out _ _ _ (Below.refl _ _) (VX.out _ (Below.refl _ _)) (VY.out _ (Below.refl _ _))).mono ?_
      rintro e wq4 ⟨N, E, hBN, b4, o4, m4, c4, bb4, oo4, mm4, cc4, rfl, H4, hbq⟩
      have hXq : Below W1.heap.size W1 wq4 := hbq
      have HRB := hid (fun (w' : World) (x y : Value) (h1 : Qv w' x n1 d1 11) (h2 : Qv w' y n2 d2 11) => show Calls Tryz.prog 49 #[x, y] w' (RetQvE w' E0 N E) by rw [HE0.out]; exact rBetween_res x y n1 d1 n2 d2 N E w' h1 h2 hBN HSm.out)
      clear k0 k1 k2 k3 k4 k5 k6 k7 k8 k9 k10 k11 k12 k13 k14 k15 hbq hBN HBt
      have hBqW : Bq ≤ W1.heap.size := by rw [HBq.out]; exact Nat.le_refl _
      have HBqW := hid hBqW; clear hBqW
      have HSa := HS1; have VXa := VX; have VYa := VY; have VRa := VR; have VSa := VS; have HBa := HB1
      have VL : Hid (∀ w', Below W1.heap.size W1 w' → Below W1.heap.size W1 w') := hid (fun w' hb => hb)
      obtain ⟨W2, hW2⟩ : ∃ W, W = wq4.alloc (.cells #[.bool b4, .slice o4 m4 c4, .bool bb4, .slice oo4 mm4 cc4] 26) := ⟨_, rfl⟩
      have hal2 : Below wq4.heap.size wq4 W2 := by rw [hW2]; exact bl_new _
      have hXn2 : Below W1.heap.size W1 W2 := bl_tr hXq hal2
      have HS2 : Hid (∀ w', Below W2.heap.size W2 w' → ((w'.cell? ⟨w.heap.size, 0, none⟩ = some (.bool a1) ∧ w'.cell? ⟨w.heap.size, 1, none⟩ = some (.slice p1 l1 q1) ∧ w'.cell? ⟨w.heap.size, 2, none⟩ = some (.bool aa1) ∧ w'.cell? ⟨w.heap.size, 3, none⟩ = some (.slice pp1 ll1 qq1) ∧ w'.cell? ⟨w.heap.size + 1, 0, none⟩ = some (.bool a2) ∧ w'.cell? ⟨w.heap.size + 1, 1, none⟩ = some (.slice p2 l2 q2) ∧ w'.cell? ⟨w.heap.size + 1, 2, none⟩ = some (.bool aa2) ∧ w'.cell? ⟨w.heap.size + 1, 3, none⟩ = some (.slice pp2 ll2 qq2)) ∧ w'.cell? ⟨p5, 0, none⟩ = some (.bool rb) ∧ w'.cell? ⟨p5, 1, none⟩ = some (.slice ro rm rc) ∧ w'.cell? ⟨p5, 2, none⟩ = some (.bool sb) ∧ w'.cell? ⟨p5, 3, none⟩ = some (.slice so sm sc) ∧ w'.cell? ⟨p6, 0, none⟩ = some (.bool xb) ∧ w'.cell? ⟨p6, 1, none⟩ = some (.slice xo xm xc) ∧ w'.cell? ⟨p6, 2, none⟩ = some (.bool yb) ∧ w'.cell? ⟨p6, 3, none⟩ = some (.slice yo ym yc)) ∧ w'.cell? ⟨wq4.heap.size, 0, none⟩ = some (.bool b4) ∧ w'.cell? ⟨wq4.heap.size, 1, none⟩ = some (.slice o4 m4 c4) ∧ w'.cell? ⟨wq4.heap.size, 2, none⟩ = some (.bool bb4) ∧ w'.cell? ⟨wq4.heap.size, 3, none⟩ = some (.slice oo4 mm4 cc4)) := hid (fun w' hb => by
        refine ⟨HS1.out _ (bl_tr hXn2 hb), ?_, ?_, ?_, ?_⟩ <;> (rw [hb.cell (by rw [hW2]; simp), hW2]; simp [go_sem]))
      replace VR := hid (fun w' hb => VR.out w' (bl_tr hXn2 hb))
      replace VS := hid (fun w' hb => VS.out w' (bl_tr hXn2 hb))
      replace VX := hid (fun w' hb => VX.out w' (bl_tr hXn2 hb))
      replace VY := hid (fun w' hb => VY.out w' (bl_tr hXn2 hb))
      replace VL := hid (fun w' hb => VL.out w' (bl_tr hXn2 hb))
      have V4 : Hid (∀ w', Below W2.heap.size W2 w' → PvE w' Bq (.agg #[.bool b4, .slice o4 m4 c4, .bool bb4, .slice oo4 mm4 cc4]) E0 N E) := hid (fun w' hb => H4.out.below (bl_tr hal2 hb) (Nat.le_refl _))
      have HB2 := hid (HB1.out.trans (hXn2.mono HB1.out.size)); have HW2 := hid hW2
      clear hW2 hal2 hXn2 HS1 HB1 HW1
      clear hXq H4
      go_upto_region 5 with (fail)
      rw [← HW2.out]
      have hX5 := Below.refl W2.heap.size W2
      have HKG : Hid (AllKeep [(false, (fun wq vq => vq = (.agg #[.bool a1, .slice p1 l1 q1, .bool aa1, .slice pp1 ll1 qq1])), undef), (false, (fun wq vq => Qv wq vq n1 d1 11), undef), (false, (fun wq vq => vq = (.agg #[.bool a2, .slice p2 l2 q2, .bool aa2, .slice pp2 ll2 qq2])), undef), (false, (fun wq vq => Qv wq vq n2 d2 11), undef), (false, (fun wq vq => ∃ a b, vq = .tuple #[a, b] ∧ (fun wq vq => QvE wq vq E0 N E) wq a ∧ (fun wq vq => vq = .int .i64 E0) wq b), undef), (false, (fun wq vq => ∃ a b, vq = .tuple #[a, b] ∧ (fun wq vq => QvE wq vq E0 N E) wq a ∧ (fun wq vq => vq = .int .i64 E0) wq b), undef), (false, (fun wq vq => QvE wq vq E0 N E), undef), (false, (fun wq vq => vq = .int .i64 E0), undef), (false, (fun wq vq => vq = .int .i64 E0), undef)]) := hid ⟨kcV _, qvV _ _ _, kcV _, qvV _ _ _, twoV (qveV _ _ _) (kcV _), twoV (qveV _ _ _) (kcV _), qveV _ _ _, kcV _, kcV _, trivial⟩
      refine region_inv (by kernel_rfl) (fun L act w' => ∃ f0 f1 f2 f3 f4 f5 f6 f7 f8 f9 f10, L = #[f0, f1, f2, f3, f4, f5, f6, f7, f8, f9, f10] ∧ (f9 = true → f8 = true ∧ f6 = true) ∧ ∃ s41 s42 s43 s44 s45 s40 s46 s47 s9 s10, act = { tmps := #[(.agg #[.bool a1, .slice p1 l1 q1, .bool aa1, .slice pp1 ll1 qq1]), (.agg #[.bool a2, .slice p2 l2 q2, .bool aa2, .slice pp2 ll2 qq2]), .pointer (some ⟨w.heap.size, 0, none⟩), .pointer (some ⟨w.heap.size + 1, 0, none⟩), .bool false, .pointer (some ⟨p5, 0, none⟩), .pointer (some ⟨p6, 0, none⟩), .pointer (some ⟨wq4.heap.size, 0, none⟩), .int .i64 E0, s9, s10, undef, (.agg #[.bool a1, .slice p1 l1 q1, .bool aa1, .slice pp1 ll1 qq1]), .int .i64 t1, .bool (decide (4 < t1)), .bool (decide (4 < t1)), (.agg #[.bool a2, .slice p2 l2 q2, .bool aa2, .slice pp2 ll2 qq2]), .int .i64 t2, .bool (decide (4 < t2)), .bool (decide (4 < t1) || decide (4 < t2)), .bool (decide (4 < t1) || decide (4 < t2)), (.agg #[.bool a1, .slice p1 l1 q1, .bool aa1, .slice pp1 ll1 qq1]), .bool true, .bool false, .bool (decide (4 < t1) || decide (4 < t2)), .bool (decide (4 < t1) || decide (4 < t2)), (.agg #[.bool a2, .slice p2 l2 q2, .bool aa2, .slice pp2 ll2 qq2]), .bool true, .bool false, .bool (decide (4 < t1) || decide (4 < t2)), (.agg #[.bool a1, .slice p1 l1 q1, .bool aa1, .slice pp1 ll1 qq1]), (.agg #[.bool rb, .slice ro rm rc, .bool sb, .slice so sm sc]), (.agg #[.bool a2, .slice p2 l2 q2, .bool aa2, .slice pp2 ll2 qq2]), (.agg #[.bool xb, .slice xo xm xc, .bool yb, .slice yo ym yc]), .tuple #[(.agg #[.bool b4, .slice o4 m4 c4, .bool bb4, .slice oo4 mm4 cc4]), .int .i64 E0], (.agg #[.bool rb, .slice ro rm rc, .bool sb, .slice so sm sc]), (.agg #[.bool xb, .slice xo xm xc, .bool yb, .slice yo ym yc]), .tuple #[(.agg #[.bool b4, .slice o4 m4 c4, .bool bb4, .slice oo4 mm4 cc4]), .int .i64 E0], (.agg #[.bool b4, .slice o4 m4 c4, .bool bb4, .slice oo4 mm4 cc4]), .int .i64 E0, s40, s41, s42, s43, s44, s45, s46, s47, undef, undef, undef, undef, undef, undef, undef, undef, undef, undef, undef, undef, undef, undef, undef, undef, undef, undef], defers := [] } ∧ RX W2.heap.size W2 [(f0, (fun wq vq => vq = (.agg #[.bool a1, .slice p1 l1 q1, .bool aa1, .slice pp1 ll1 qq1])), s41), (f1, (fun wq vq => Qv wq vq n1 d1 11), s42), (f2, (fun wq vq => vq = (.agg #[.bool a2, .slice p2 l2 q2, .bool aa2, .slice pp2 ll2 qq2])), s43), (f3, (fun wq vq => Qv wq vq n2 d2 11), s44), (f4, (fun wq vq => ∃ a b, vq = .tuple #[a, b] ∧ (fun wq vq => QvE wq vq E0 N E) wq a ∧ (fun wq vq => vq = .int .i64 E0) wq b), s45), (f5, (fun wq vq => ∃ a b, vq = .tuple #[a, b] ∧ (fun wq vq => QvE wq vq E0 N E) wq a ∧ (fun wq vq => vq = .int .i64 E0) wq b), s40), (f6, (fun wq vq => QvE wq vq E0 N E), s46), (f7, (fun wq vq => vq = .int .i64 E0), s47), (f10, (fun wq vq => vq = .int .i64 E0), s10)] [(4, f8, f9, s9, s46)] w') ?_ ?_ ?_
      · exact ⟨_, _, _, _, _, _, _, _, _, _, _, rfl, nofun, _, _, _, _, _, _, _, _, _, _, rfl, hX5.drew, hX5.size, ⟨nofun, nofun, nofun, nofun, nofun, nofun, nofun, nofun, nofun, trivial⟩, ⟨nofun, trivial⟩, ⟨trivial, trivial⟩⟩
      · rintro L act w' i hs ⟨f0, f1, f2, f3, f4, f5, f6, f7, f8, f9, f10, rfl, d0, s41, s42, s43, s44, s45, s40, s46, s47, s9, s10, rfl, J⟩ hi
        obtain ⟨hi, hn, hd⟩ := waits_spec (dep := [[], [0], [], [2, 1], [1, 3], [4], [5], [5], [], [8, 6, 4], [7, 9]]) (by kernel_rfl) hi
        have hiN : i < 11 := hi
        obtain ⟨⟨⟨k0, k1, k2, k3, k4, k5, k6, k7⟩, k8, k9, k10, k11, k12, k13, k14, k15⟩, k16, k17, k18, k19⟩ := HS2.out w' J.bel
        have HJ := hid J
        rcases (show i = 0 ∨ i = 1 ∨ i = 2 ∨ i = 3 ∨ i = 4 ∨ i = 5 ∨ i = 6 ∨ i = 7 ∨ i = 8 ∨ i = 9 ∨ i = 10 by omega) with rfl | rfl | rfl | rfl | rfl | rfl | rfl | rfl | rfl | rfl | rfl
        · clear J hd hi hiN hn
          refine wpOp_step rfl (fun kq hKq => ?_)
          go_simp
          exact hKq _ _ ⟨true, f1, f2, f3, f4, f5, f6, f7, f8, f9, f10, rfl, d0, _, _, _, _, _, _, _, _, _, _, rfl, HJ.out.bel, HJ.out.siz, ⟨fun _ => rfl, HJ.out.vals.2.1, HJ.out.vals.2.2.1, HJ.out.vals.2.2.2.1, HJ.out.vals.2.2.2.2.1, HJ.out.vals.2.2.2.2.2.1, HJ.out.vals.2.2.2.2.2.2.1, HJ.out.vals.2.2.2.2.2.2.2.1, HJ.out.vals.2.2.2.2.2.2.2.2.1, trivial⟩, ⟨HJ.out.boxes.1, trivial⟩, HJ.out.ne⟩
        · obtain rfl : f1 = false := hn
          have e41 : s41 = (.agg #[.bool a1, .slice p1 l1 q1, .bool aa1, .slice pp1 ll1 qq1]) := J.vals.1 (hd 0 (by simp))
          subst e41
          have hw := J.bel
          clear J hd hi hiN
          refine wpOp_step rfl (fun kq hKq => ?_)
          go_simp
          refine (rfromRatio_v _ n1 d1 4 11 _ (HRV.out _ _ (VR.out _ hw)) (by decide) (by decide) (by decide)).mono ?_
          rintro e wz ⟨ub, uo, um, uc, vb, vo, vm, vc, rfl, HZq, hb⟩
          have J2 := RX.step HJ.out HKG.out hb
          exact hKq _ _ ⟨f0, true, f2, f3, f4, f5, f6, f7, f8, f9, f10, rfl, d0, _, _, _, _, _, _, _, _, _, _, rfl, J2.bel, J2.siz, ⟨J2.vals.1, fun _ => HZq.out, J2.vals.2.2.1, J2.vals.2.2.2.1, J2.vals.2.2.2.2.1, J2.vals.2.2.2.2.2.1, J2.vals.2.2.2.2.2.2.1, J2.vals.2.2.2.2.2.2.2.1, J2.vals.2.2.2.2.2.2.2.2.1, trivial⟩, ⟨J2.boxes.1, trivial⟩, J2.ne⟩
        · clear J hd hi hiN hn
          refine wpOp_step rfl (fun kq hKq => ?_)
          go_simp
          exact hKq _ _ ⟨f0, f1, true, f3, f4, f5, f6, f7, f8, f9, f10, rfl, d0, _, _, _, _, _, _, _, _, _, _, rfl, HJ.out.bel, HJ.out.siz, ⟨HJ.out.vals.1, HJ.out.vals.2.1, fun _ => rfl, HJ.out.vals.2.2.2.1, HJ.out.vals.2.2.2.2.1, HJ.out.vals.2.2.2.2.2.1, HJ.out.vals.2.2.2.2.2.2.1, HJ.out.vals.2.2.2.2.2.2.2.1, HJ.out.vals.2.2.2.2.2.2.2.2.1, trivial⟩, ⟨HJ.out.boxes.1, trivial⟩, HJ.out.ne⟩
        · obtain rfl : f3 = false := hn
          have e43 : s43 = (.agg #[.bool a2, .slice p2 l2 q2, .bool aa2, .slice pp2 ll2 qq2]) := J.vals.2.2.1 (hd 2 (by simp))
          subst e43
          have hw := J.bel
          clear J hd hi hiN
          refine wpOp_step rfl (fun kq hKq => ?_)
          go_simp
          refine (rfromRatio_v _ n2 d2 4 11 _ (HSV.out _ _ (VS.out _ hw)) (by decide) (by decide) (by decide)).mono ?_
          rintro e wz ⟨ub, uo, um, uc, vb, vo, vm, vc, rfl, HZq, hb⟩
          have J2 := RX.step HJ.out HKG.out hb
          exact hKq _ _ ⟨f0, f1, f2, true, f4, f5, f6, f7, f8, f9, f10, rfl, d0, _, _, _, _, _, _, _, _, _, _, rfl, J2.bel, J2.siz, ⟨J2.vals.1, J2.vals.2.1, J2.vals.2.2.1, fun _ => HZq.out, J2.vals.2.2.2.2.1, J2.vals.2.2.2.2.2.1, J2.vals.2.2.2.2.2.2.1, J2.vals.2.2.2.2.2.2.2.1, J2.vals.2.2.2.2.2.2.2.2.1, trivial⟩, ⟨J2.boxes.1, trivial⟩, J2.ne⟩
        · obtain rfl : f4 = false := hn
          have h42 : (fun wq vq => Qv wq vq n1 d1 11) w' s42 := J.vals.2.1 (hd 1 (by simp))
          have h44 : (fun wq vq => Qv wq vq n2 d2 11) w' s44 := J.vals.2.2.2.1 (hd 3 (by simp))
          have hw := J.bel
          clear J hd hi hiN
          refine wpOp_step rfl (fun kq hKq => ?_)
          go_simp
          refine (HRB.out _ _ _ h42 h44).mono ?_
          rintro e wz ⟨ub, uo, um, uc, vb, vo, vm, vc, rfl, HZq, hb⟩
          have J2 := RX.step HJ.out HKG.out hb
          exact hKq _ _ ⟨f0, f1, f2, f3, true, f5, f6, f7, f8, f9, f10, rfl, d0, _, _, _, _, _, _, _, _, _, _, rfl, J2.bel, J2.siz, ⟨J2.vals.1, J2.vals.2.1, J2.vals.2.2.1, J2.vals.2.2.2.1, fun _ => ⟨_, _, rfl, HZq.out, rfl⟩, J2.vals.2.2.2.2.2.1, J2.vals.2.2.2.2.2.2.1, J2.vals.2.2.2.2.2.2.2.1, J2.vals.2.2.2.2.2.2.2.2.1, trivial⟩, ⟨J2.boxes.1, trivial⟩, J2.ne⟩
        · obtain ⟨ta45, tb45, rfl, ha45, rfl⟩ := J.vals.2.2.2.2.1 (hd 4 (by simp))
          clear J hd hi hiN hn
          refine wpOp_step rfl (fun kq hKq => ?_)
          go_simp
          exact hKq _ _ ⟨f0, f1, f2, f3, f4, true, f6, f7, f8, f9, f10, rfl, d0, _, _, _, _, _, _, _, _, _, _, rfl, HJ.out.bel, HJ.out.siz, ⟨HJ.out.vals.1, HJ.out.vals.2.1, HJ.out.vals.2.2.1, HJ.out.vals.2.2.2.1, HJ.out.vals.2.2.2.2.1, fun _ => ⟨_, _, rfl, ha45, rfl⟩, HJ.out.vals.2.2.2.2.2.2.1, HJ.out.vals.2.2.2.2.2.2.2.1, HJ.out.vals.2.2.2.2.2.2.2.2.1, trivial⟩, ⟨HJ.out.boxes.1, trivial⟩, HJ.out.ne⟩
        · obtain rfl : f6 = false := hn
          obtain rfl : f9 = false := by cases f9 with | false => rfl | true => exact absurd (d0 rfl).2 (by simp)
          obtain ⟨ta40, tb40, rfl, ha40, rfl⟩ := J.vals.2.2.2.2.2.1 (hd 5 (by simp))
          clear J hd hi hiN d0
          refine wpOp_step rfl (fun kq hKq => ?_)
          go_simp
          exact hKq _ _ ⟨f0, f1, f2, f3, f4, f5, true, f7, f8, false, f10, rfl, nofun, _, _, _, _, _, _, _, _, _, _, rfl, HJ.out.bel, HJ.out.siz, ⟨HJ.out.vals.1, HJ.out.vals.2.1, HJ.out.vals.2.2.1, HJ.out.vals.2.2.2.1, HJ.out.vals.2.2.2.2.1, HJ.out.vals.2.2.2.2.2.1, fun _ => ha40, HJ.out.vals.2.2.2.2.2.2.2.1, HJ.out.vals.2.2.2.2.2.2.2.2.1, trivial⟩, ⟨fun e => (HJ.out.boxes.1 e).fresh, trivial⟩, HJ.out.ne⟩
        · obtain ⟨ta40, tb40, rfl, ha40, rfl⟩ := J.vals.2.2.2.2.2.1 (hd 5 (by simp))
          clear J hd hi hiN hn
          refine wpOp_step rfl (fun kq hKq => ?_)
          go_simp
          exact hKq _ _ ⟨f0, f1, f2, f3, f4, f5, f6, true, f8, f9, f10, rfl, d0, _, _, _, _, _, _, _, _, _, _, rfl, HJ.out.bel, HJ.out.siz, ⟨HJ.out.vals.1, HJ.out.vals.2.1, HJ.out.vals.2.2.1, HJ.out.vals.2.2.2.1, HJ.out.vals.2.2.2.2.1, HJ.out.vals.2.2.2.2.2.1, HJ.out.vals.2.2.2.2.2.2.1, fun _ => rfl, HJ.out.vals.2.2.2.2.2.2.2.2.1, trivial⟩, ⟨HJ.out.boxes.1, trivial⟩, HJ.out.ne⟩
        · obtain rfl : f8 = false := hn
          obtain rfl : f9 = false := by cases f9 with | false => rfl | true => exact absurd (d0 rfl).1 (by simp)
          clear J hd hi hiN d0
          refine wpOp_step rfl (fun kq hKq => ?_)
          go_simp
          have J2 := RX.step HJ.out HKG.out (bl_new (w := w') (.cells #[.bool false, .slice none 0 0, .bool false, .slice none 0 0] 35))
          exact hKq _ _ ⟨f0, f1, f2, f3, f4, f5, f6, f7, true, false, f10, rfl, nofun, _, _, _, _, _, _, _, _, _, _, rfl, J2.bel, J2.siz, J2.vals, ⟨fun _ => boxn_new _ w' _ _ [.bool false, .slice none 0 0, .bool false, .slice none 0 0] (by intro i k x hi; match i, hi with | 0, _ => nofun | 1, _ => nofun | 2, _ => nofun | 3, _ => nofun) HJ.out.siz, trivial⟩, ⟨trivial, trivial⟩⟩
        · obtain rfl : f8 = true := hd 8 (by simp)
          obtain rfl : f6 = true := hd 6 (by simp)
          obtain ⟨zb, zo, zm, zc, yb2, yo2, ym2, yc2, rfl, _⟩ := QvE.openedB (J.vals.2.2.2.2.2.2.1 rfl)
          have HBX : Hid _ := hid (J.boxes.1 rfl)
          obtain ⟨p, vs, rfl, hp, hl, hnn, hc, hf, _⟩ := J.boxes.1 rfl
          have cc0 := hc 0 (by decide)
          have ff0 := hf 0 (by decide)
          have cc1 := hc 1 (by decide)
          have ff1 := hf 1 (by decide)
          have cc2 := hc 2 (by decide)
          have ff2 := hf 2 (by decide)
          have cc3 := hc 3 (by decide)
          have ff3 := hf 3 (by decide)
          clear J hd hi hiN hn hc hf hnn hl
          refine wpOp_step rfl (fun kq hKq => ?_)
          go_simp
          exact hKq _ _ ⟨f0, f1, f2, f3, f4, f5, true, f7, true, true, f10, rfl, fun _ => ⟨rfl, rfl⟩, _, _, _, _, _, _, _, _, _, _, rfl, below_setCells hp [.bool zb, .slice zo zm zc, .bool yb2, .slice yo2 ym2 yc2] 0 HJ.out.bel, Nat.le_trans HJ.out.siz (Nat.le_of_eq (size_setCells p [.bool zb, .slice zo zm zc, .bool yb2, .slice yo2 ym2 yc2] 0 w').symm), Vals.keep HKG.out (BoxN.keeps HBX.out (us := [.bool zb, .slice zo zm zc, .bool yb2, .slice yo2 ym2 yc2]) rfl) HJ.out.vals, ⟨fun _ => BoxN.store HBX.out [.bool zb, .slice zo zm zc, .bool yb2, .slice yo2 ym2 yc2] rfl (by intro i k x hi; match i, hi with | 0, _ => nofun | 1, _ => nofun | 2, _ => nofun | 3, _ => nofun), trivial⟩, HJ.out.ne⟩
        · have e47 : s47 = .int .i64 E0 := J.vals.2.2.2.2.2.2.2.1 (hd 7 (by simp))
          subst e47
          clear J hd hi hiN hn
          refine wpOp_step rfl (fun kq hKq => ?_)
          go_simp
          exact hKq _ _ ⟨f0, f1, f2, f3, f4, f5, f6, f7, f8, f9, true, rfl, d0, _, _, _, _, _, _, _, _, _, _, rfl, HJ.out.bel, HJ.out.siz, ⟨HJ.out.vals.1, HJ.out.vals.2.1, HJ.out.vals.2.2.1, HJ.out.vals.2.2.2.1, HJ.out.vals.2.2.2.2.1, HJ.out.vals.2.2.2.2.2.1, HJ.out.vals.2.2.2.2.2.2.1, HJ.out.vals.2.2.2.2.2.2.2.1, fun _ => rfl, trivial⟩, ⟨HJ.out.boxes.1, trivial⟩, HJ.out.ne⟩
      rintro L act w' hs ⟨f0, f1, f2, f3, f4, f5, f6, f7, f8, f9, f10, rfl, _, s41, s42, s43, s44, s45, s40, s46, s47, s9, s10, rfl, J⟩ hr
      have hd := early_done (by kernel_rfl) hs hr 11
      obtain rfl : f0 = true := hd 0 (by omega) (by simp)
      obtain rfl : f1 = true := hd 1 (by omega) (by simp)
      obtain rfl : f2 = true := hd 2 (by omega) (by simp)
      obtain rfl : f3 = true := hd 3 (by omega) (by simp)
      obtain rfl : f4 = true := hd 4 (by omega) (by simp)
      obtain rfl : f5 = true := hd 5 (by omega) (by simp)
      obtain rfl : f6 = true := hd 6 (by omega) (by simp)
      obtain rfl : f7 = true := hd 7 (by omega) (by simp)
      obtain rfl : f8 = true := hd 8 (by omega) (by simp)
      obtain rfl : f9 = true := hd 9 (by omega) (by simp)
      obtain rfl : f10 = true := hd 10 (by omega) (by simp)
      have e41 : s41 = (.agg #[.bool a1, .slice p1 l1 q1, .bool aa1, .slice pp1 ll1 qq1]) := J.vals.1 rfl
      subst e41
      have e43 : s43 = (.agg #[.bool a2, .slice p2 l2 q2, .bool aa2, .slice pp2 ll2 qq2]) := J.vals.2.2.1 rfl
      subst e43
      have e47 : s47 = .int .i64 E0 := J.vals.2.2.2.2.2.2.2.1 rfl
      subst e47
      have e10 : s10 = .int .i64 E0 := J.vals.2.2.2.2.2.2.2.2.1 rfl
      subst e10
      have hg9 : (fun wq vq => QvE wq vq E0 N E) w' s46 := J.vals.2.2.2.2.2.2.1 rfl
      obtain ⟨zb, zo, zm, zc, yb2, yo2, ym2, yc2, rfl, _⟩ := QvE.openedB hg9
      obtain ⟨p9, rfl, hp9, hl9, hc9⟩ := BoxN.done (us := [.bool zb, .slice zo zm zc, .bool yb2, .slice yo2 ym2 yc2]) (J.boxes.1 rfl)
      have k9_0 : w'.cell? ⟨p9, 0, none⟩ = some (.bool zb) := (hc9 0 (by decide)).1
      have k9_1 : w'.cell? ⟨p9, 1, none⟩ = some (.slice zo zm zc) := (hc9 1 (by decide)).1
      have k9_2 : w'.cell? ⟨p9, 2, none⟩ = some (.bool yb2) := (hc9 2 (by decide)).1
      have k9_3 : w'.cell? ⟨p9, 3, none⟩ = some (.slice yo2 ym2 yc2) := (hc9 3 (by decide)).1
      clear hc9
      have hbel := J.bel
      have hsiz := J.siz
      have hv42 : (fun wq vq => Qv wq vq n1 d1 11) w' s42 := J.vals.2.1 rfl
      have hv44 : (fun wq vq => Qv wq vq n2 d2 11) w' s44 := J.vals.2.2.2.1 rfl
      clear hd hr hs J
      obtain ⟨W3, hW3⟩ : ∃ W, W = w' := ⟨_, rfl⟩
      rw [← hW3] at hbel hg9 hl9 k9_0 k9_1 k9_2 k9_3
      have HS3 : Hid (∀ w', Below W3.heap.size W3 w' → (((w'.cell? ⟨w.heap.size, 0, none⟩ = some (.bool a1) ∧ w'.cell? ⟨w.heap.size, 1, none⟩ = some (.slice p1 l1 q1) ∧ w'.cell? ⟨w.heap.size, 2, none⟩ = some (.bool aa1) ∧ w'.cell? ⟨w.heap.size, 3, none⟩ = some (.slice pp1 ll1 qq1) ∧ w'.cell? ⟨w.heap.size + 1, 0, none⟩ = some (.bool a2) ∧ w'.cell? ⟨w.heap.size + 1, 1, none⟩ = some (.slice p2 l2 q2) ∧ w'.cell? ⟨w.heap.size + 1, 2, none⟩ = some (.bool aa2) ∧ w'.cell? ⟨w.heap.size + 1, 3, none⟩ = some (.slice pp2 ll2 qq2)) ∧ w'.cell? ⟨p5, 0, none⟩ = some (.bool rb) ∧ w'.cell? ⟨p5, 1, none⟩ = some (.slice ro rm rc) ∧ w'.cell? ⟨p5, 2, none⟩ = some (.bool sb) ∧ w'.cell? ⟨p5, 3, none⟩ = some (.slice so sm sc) ∧ w'.cell? ⟨p6, 0, none⟩ = some (.bool xb) ∧ w'.cell? ⟨p6, 1, none⟩ = some (.slice xo xm xc) ∧ w'.cell? ⟨p6, 2, none⟩ = some (.bool yb) ∧ w'.cell? ⟨p6, 3, none⟩ = some (.slice yo ym yc)) ∧ w'.cell? ⟨wq4.heap.size, 0, none⟩ = some (.bool b4) ∧ w'.cell? ⟨wq4.heap.size, 1, none⟩ = some (.slice o4 m4 c4) ∧ w'.cell? ⟨wq4.heap.size, 2, none⟩ = some (.bool bb4) ∧ w'.cell? ⟨wq4.heap.size, 3, none⟩ = some (.slice oo4 mm4 cc4)) ∧ w'.cell? ⟨p9, 0, none⟩ = some (.bool zb) ∧ w'.cell? ⟨p9, 1, none⟩ = some (.slice zo zm zc) ∧ w'.cell? ⟨p9, 2, none⟩ = some (.bool yb2) ∧ w'.cell? ⟨p9, 3, none⟩ = some (.slice yo2 ym2 yc2)) := hid (fun w' hb => by
        refine ⟨HS2.out _ (bl_tr hbel hb), (hb.cell (p := ⟨p9, 0, none⟩) hl9).trans k9_0, (hb.cell (p := ⟨p9, 1, none⟩) hl9).trans k9_1, (hb.cell (p := ⟨p9, 2, none⟩) hl9).trans k9_2, (hb.cell (p := ⟨p9, 3, none⟩) hl9).trans k9_3⟩)
      replace VR := hid (fun w' hb => VR.out w' (bl_tr hbel hb))
      replace VS := hid (fun w' hb => VS.out w' (bl_tr hbel hb))
      replace VX := hid (fun w' hb => VX.out w' (bl_tr hbel hb))
      replace VY := hid (fun w' hb => VY.out w' (bl_tr hbel hb))
      replace VL := hid (fun w' hb => VL.out w' (bl_tr hbel hb))
      replace V4 := hid (fun w' hb => V4.out w' (bl_tr hbel hb))
      have V9 : Hid (∀ w', Below W3.heap.size W3 w' → QvE w' (.agg #[.bool zb, .slice zo zm zc, .bool yb2, .slice yo2 ym2 yc2]) E0 N E) := hid (fun w' hb => hg9.below hb (Nat.le_refl _))
      have HB3 := hid (HB2.out.trans (hbel.mono HB2.out.size)); have HW3 := hid hW3
      clear hW3 HS2 HB2 HW2 hbel hsiz hg9 hl9 hp9 k9_0 k9_1 k9_2 k9_3
      clear hX5 HRB
      go_upto_region 6 with (fail)
      rw [← HW3.out]
      obtain ⟨⟨⟨⟨k0, k1, k2, k3, k4, k5, k6, k7⟩, k8, k9, k10, k11, k12, k13, k14, k15⟩, k16, k17, k18, k19⟩, k20, k21, k22, k23⟩ := HS3.out _ (Below.refl _ _)
      go_wp2_with fail
      refine (isRatio_pv _ _ E0 N E Bq _ (V4.out _ (Below.refl _ _)) (V9.out _ (Below.refl _ _))).mono ?_
      rintro e w6 ⟨rfl, hbq⟩
      have hXq : Below W3.heap.size W3 w6 := hbq
      clear k0 k1 k2 k3 k4 k5 k6 k7 k8 k9 k10 k11 k12 k13 k14 k15 k16 k17 k18 k19 k20 k21 k22 k23 hbq
      obtain ⟨⟨⟨⟨k0, k1, k2, k3, k4, k5, k6, k7⟩, k8, k9, k10, k11, k12, k13, k14, k15⟩, k16, k17, k18, k19⟩, k20, k21, k22, k23⟩ := HS3.out _ hXq
      go_upto_region 7 with (fail)
      go_wp2_with fail
      have hps := (V4.out _ hXq).sps
      have hB6 : Bq ≤ w6.heap.size := by rw [HBq.out]; exact (VL.out _ hXq).size
      refine (spoilRatio_any Bq _ _ _ _ _ _ _ _ _ hps.1 hps.2 hB6).mono ?_
      rintro e w7 ⟨rfl, hsp⟩
      clear k0 k1 k2 k3 k4 k5 k6 k7 k8 k9 k10 k11 k12 k13 k14 k15 k16 k17 k18 k19 k20 k21 k22 k23 hps
      have hw7 : Below W1.heap.size W1 w7 := (VL.out _ hXq).trans (by rw [← HBq.out]; exact hsp.low)
      clear hsp hXq
      go_upto_region 8 with (fail)
      obtain ⟨⟨k0, k1, k2, k3, k4, k5, k6, k7⟩, k8, k9, k10, k11, k12, k13, k14, k15⟩ := HSa.out _ hw7
      go_wp2_with fail
      refine (like_any _ _ _ _ _ _ _ (VXa.out _ hw7) (VRa.out _ hw7)).mono ?_
      rintro e v40 ⟨rfl, hbq⟩
      have hZ0 := bl_tr hw7 hbq
      clear   k0  k1  k2  k3  k4  k5  k6  k7   k8  k9  k10  k11  k12  k13  k14  k15  hbq
      obtain ⟨⟨k0, k1, k2, k3, k4, k5, k6, k7⟩, k8, k9, k10, k11, k12, k13, k14, k15⟩ := HSa.out _ hZ0
      go_wp2_with fail
      refine (like_any _ _ _ _ _ _ _ (VYa.out _ hZ0) (VSa.out _ hZ0)).mono ?_
      rintro e v41 ⟨rfl, hbq⟩
      have hZ1 := bl_tr hZ0 hbq
      clear   k0  k1  k2  k3  k4  k5  k6  k7   k8  k9  k10  k11  k12  k13  k14  k15  hbq
      go_wp2
      go_ret
      exact ⟨rfl, HBa.out.trans (hZ1.mono HBa.out.size)⟩
end Go.Proofs.YtbapeilpkhbbeaaGreat
