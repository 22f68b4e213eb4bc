/- The law ExactRounds, its walk. Written by gen_rounds.py. -/
import Derived.Test.YtbapeilpkhbbeaaGreatRn35
import Derived.Test.YtbapeilpkhbbeaaGreatRn34
/- The law ExactRounds, its walk. Written by gen_rounds.py. -/
namespace Go.Proofs.YtbapeilpkhbbeaaGreat
open Go.RowKit

theorem Lk.openedB {w : World} {v : Value} {neg : Bool} {W : List Int} (h : Lk w v neg W) : ∃ b o m c, v = .agg #[.bool b, .slice o m c] ∧ True := by
  obtain ⟨ao, c, rfl, _⟩ := h
  exact ⟨_, _, _, _, rfl, trivial⟩
theorem lkV (neg : Bool) (W : List Int) : KeepV (fun w v => Lk w v neg W) := fun _ _ _ hk h => Lk.keeps _ _ _ (hk .u32) h
set_option maxRecDepth 100000 in
set_option maxHeartbeats 4000000 in
theorem exactRounds_walk (a1 aa1 a2 : Bool) (p1 pp1 p2 : Option Addr) (l1 ll1 q1 qq1 l2 q2 : Nat) (nA nB nC : Bool) (A B C : List Int) (i : Int) (w : World) (hu : Lr w (.agg #[.bool a1, .slice p1 l1 q1, .bool aa1, .slice pp1 ll1 qq1]) nA A nB B) (hv : Lk w (.agg #[.bool a2, .slice p2 l2 q2]) nC C) (dC : Dig B32 C) (hA : A.length ≤ 12) (hB : B.length ≤ 12) (hC : C.length ≤ 24) (t1 : Int) (ht1 : max (l1 : Int) (ll1 : Int) = t1) (g1 : ¬ 12 < t1) (hl2 : l2 ≤ 24) :
    Calls Tryz.prog 4 #[(.agg #[.bool a1, .slice p1 l1 q1, .bool aa1, .slice pp1 ll1 qq1]), (.agg #[.bool a2, .slice p2 l2 q2]), .int .i64 i] w fun e w' => e = .returned (.bool true) ∧ Below w.heap.size w w' := by
  obtain ⟨W0, hW0⟩ : ∃ W0, W0 = ((w.alloc (.cells #[.bool a1, .slice p1 l1 q1, .bool aa1, .slice pp1 ll1 qq1] 26)).alloc (.cells #[.bool a2, .slice p2 l2 q2] 24)) := ⟨_, rfl⟩
  have hB0 : Below w.heap.size w W0 := by rw [hW0]; exact ((Below.refl _ _).alloc (Nat.le_refl _) _).alloc (by simp <;> omega) _
  have hz0 : W0.heap.size = w.heap.size + 2 := by rw [hW0]; simp
  have HS0 : Hid (∀ w', Below W0.heap.size W0 w' → w'.cell? ⟨w.heap.size, 0, none⟩ = some (.bool a1) ∧ w'.cell? ⟨w.heap.size, 1, none⟩ = some (.slice p1 l1 q1) ∧ w'.cell? ⟨w.heap.size, 2, none⟩ = some (.bool aa1) ∧ w'.cell? ⟨w.heap.size, 3, none⟩ = some (.slice pp1 ll1 qq1) ∧ w'.cell? ⟨w.heap.size + 1, 0, none⟩ = some (.bool a2) ∧ w'.cell? ⟨w.heap.size + 1, 1, none⟩ = some (.slice p2 l2 q2)) := hid (fun w' hb => by
    refine ⟨?_, ?_, ?_, ?_, ?_, ?_⟩ <;> (rw [hb.cell (by rw [hz0]; simp <;> omega), hW0]; simp [go_sem]))
  have VR : Hid (∀ w', Below W0.heap.size W0 w' → Lr w' (.agg #[.bool a1, .slice p1 l1 q1, .bool aa1, .slice pp1 ll1 qq1]) nA A nB B) := hid (fun w' hb => (hu.below hB0 (Nat.le_refl _)).below hb (Nat.le_refl _))
  have VN : Hid (∀ w', Below W0.heap.size W0 w' → Lk w' (.agg #[.bool a2, .slice p2 l2 q2]) nC C) := hid (fun w' hb => (hv.below hB0 (Nat.le_refl _)).below hb (Nat.le_refl _))
  obtain ⟨n, hn⟩ : ∃ n, n = rn (sgn nA (val B32 A)) (sgn nB (val B32 B)) := ⟨_, rfl⟩
  obtain ⟨d, hd⟩ : ∃ d, d = rd (sgn nB (val B32 B)) := ⟨_, rfl⟩
  obtain ⟨z, hz⟩ : ∃ z, z = sgn nC (val B32 C) := ⟨_, rfl⟩
  have HRV := hid (fun (w' : World) (v : Value) (h : Lr w' v nA A nB B) => show Rv w' v n d 12 by rw [hn, hd]; exact h.rv hA hB)
  have HNV := hid (fun (w' : World) (v : Value) (h : Lk w' v nC C) => show Ai w' v z 24 by rw [hz]; exact h.ai dC hC)
  obtain ⟨E1, hE1⟩ : ∃ x, x = fixErr i := ⟨_, rfl⟩
  obtain ⟨E2, hE2⟩ : ∃ x, x = rfxErr n i := ⟨_, rfl⟩
  obtain ⟨Z1, hZ1⟩ : ∃ x, x = (n * 2 ^ i.toNat * 2 + d).fdiv (d * 2) := ⟨_, rfl⟩
  obtain ⟨Z2, hZ2⟩ : ∃ x : Int, x = 2 ^ i.toNat := ⟨_, rfl⟩
  obtain ⟨Z3, hZ3⟩ : ∃ x, x = rootZ ((n * 2 ^ (2 * i.toNat)).fdiv d) := ⟨_, rfl⟩
  have HX1 := hid (fun (w' : World) (v : Value) (h : Lr w' v nA A nB B) => show Calls Tryz.prog 33 #[v, .int .i64 i] w' (RetIE w' E1 Z1) by rw [hE1, hZ1]; exact Fixed_res v n d i w' (HRV.out _ _ h))
  have HX2 := hid (fun (w' : World) (v : Value) (h : Qv w' v n d 27) => show Calls Tryz.prog 34 #[v, .int .i64 i] w' (RetZZE w' E1 Z1) by rw [hE1, hZ1]; exact rFixed_res v n d i w' (h.mono (by decide)))
  have HX3 := hid (fun (w' : World) (v : Value) (h : Lk w' v nC C) => show Calls Tryz.prog 35 #[v, .int .i64 i] w' (RetPE w' 0 E1 z Z2) by rw [hE1, hZ2]; exact FromFixed_res v z i w' 0 (Nat.zero_le _) (HNV.out _ _ h))
  have HX4 := hid (fun (w' : World) (v : Value) (h : Zt w' v z 48) => show Calls Tryz.prog 36 #[v, .int .i64 i] w' (RetQvE w' E1 z Z2) by rw [hE1, hZ2]; exact rFromFixed_res v z i w' (h.mono (by decide)))
  have HX5 := hid (fun (w' : World) (v : Value) (h : Lr w' v nA A nB B) => show Calls Tryz.prog 38 #[v, .int .i64 i] w' (RetIE w' E2 Z3) by rw [hE2, hZ3]; exact RootFixed_res v n d i w' (HRV.out _ _ h))
  have HX6 := hid (fun (w' : World) (v : Value) (h : Qv w' v n d 27) => show Calls Tryz.prog 39 #[v, .int .i64 i] w' (RetZZE w' E2 Z3) by rw [hE2, hZ3]; exact rRootFixed_res v n d i w' (h.mono (by decide)))
  have HLA := hid (show A.length ≤ 1073741824 by omega); have HLB := hid (show B.length ≤ 1073741824 by omega); have HLC := hid (show C.length ≤ 1073741824 by omega)
  have T1 := hid ht1
  have g2 : ¬ (24 : Int) < (l2 : Int) := by omega
  have HB0 := hid hB0; have HW0 := hid hW0
  clear hW0 hB0 hz0
  clear hn hd hz hE1 hE2 hZ1 hZ2 hZ3 ht1 hu hv dC hA hB hC hl2
  go_enter Tryz.func4, Tryz.ntmps4
  go_upto_region 1 with (fail)
  rw [← HW0.out]
  obtain ⟨k0, k1, k2, k3, k4, k5⟩ := HS0.out _ (Below.refl _ _)
  go_wp2_with fail
  refine (wide_t _ _ _ _ _ _ _ _ t1 _ T1.out).mono ?_
  rintro e wa ⟨rfl, hXa⟩
  clear k0 k1 k2 k3 k4 k5
  obtain ⟨k0, k1, k2, k3, k4, k5⟩ := HS0.out _ hXa
  go_upto_region 3 with (fail)
  clear k0 k1 k2 k3 k4 k5
  have HKG : Hid (AllKeep [(false, (fun wq vq => vq = (.agg #[.bool a1, .slice p1 l1 q1, .bool aa1, .slice pp1 ll1 qq1])), undef), (false, (fun wq vq => Lr wq vq nA A nB B), undef), (false, (fun wq vq => vq = (.agg #[.bool a2, .slice p2 l2 q2])), undef), (false, (fun wq vq => Lk wq vq nC C), undef)]) := hid ⟨kcV _, lrV _ _ _ _, kcV _, lkV _ _, trivial⟩
  refine region_inv (by kernel_rfl) (fun L act w' => ∃ f0 f1 f2 f3 f4 f5 f6 f7, L = #[f0, f1, f2, f3, f4, f5, f6, f7] ∧ (f6 = true → f4 = true ∧ f1 = true) ∧ (f7 = true → f5 = true ∧ f3 = true) ∧ ∃ s33 s34 s35 s36 s7 s8, act = { tmps := #[(.agg #[.bool a1, .slice p1 l1 q1, .bool aa1, .slice pp1 ll1 qq1]), (.agg #[.bool a2, .slice p2 l2 q2]), .int .i64 i, .pointer (some ⟨w.heap.size, 0, none⟩), .pointer (some ⟨w.heap.size + 1, 0, none⟩), undef, .bool false, s7, s8, undef, undef, undef, undef, undef, undef, undef, undef, undef, undef, undef, undef, undef, undef, undef, (.agg #[.bool a1, .slice p1 l1 q1, .bool aa1, .slice pp1 ll1 qq1]), .int .i64 t1, .bool (decide (12 < t1)), .bool (decide (12 < t1)), .pointer (some ⟨w.heap.size + 1, 1, none⟩), .slice p2 l2 q2, .int .i64 (l2 : Int), .bool (decide ((24 : Int) < (l2 : Int))), .bool (decide (12 < t1) || decide ((24 : Int) < (l2 : Int))), s33, s34, s35, s36, undef, undef, undef, undef, undef, undef, undef, undef, undef, undef, undef, undef, undef, undef, undef, undef, undef, undef, undef, undef, undef, undef, undef, undef, undef, undef, undef, undef, undef, undef, undef, undef, undef, undef, undef, undef, undef, undef, undef, undef, undef, undef, undef, undef, undef, undef, undef, undef, undef, undef, undef, undef, undef, undef, undef, undef, undef, undef, undef, undef, undef, undef, undef, undef, undef, undef, undef, undef, undef, undef, undef, undef, undef, undef, undef, undef, undef, undef, undef, undef, undef, undef, undef, undef], defers := [] } ∧ RX W0.heap.size W0 [(f0, (fun wq vq => vq = (.agg #[.bool a1, .slice p1 l1 q1, .bool aa1, .slice pp1 ll1 qq1])), s33), (f1, (fun wq vq => Lr wq vq nA A nB B), s34), (f2, (fun wq vq => vq = (.agg #[.bool a2, .slice p2 l2 q2])), s35), (f3, (fun wq vq => Lk wq vq nC C), s36)] [(4, f4, f6, s7, s34), (2, f5, f7, s8, s36)] w') ?_ ?_ ?_
  · exact ⟨_, _, _, _, _, _, _, _, rfl, nofun, nofun, _, _, _, _, _, _, rfl, hXa.drew, hXa.size, ⟨nofun, nofun, nofun, nofun, trivial⟩, ⟨nofun, nofun, trivial⟩, ⟨⟨nofun, trivial⟩, trivial, trivial⟩⟩
  · rintro L act w' i hs ⟨f0, f1, f2, f3, f4, f5, f6, f7, rfl, d0, d1, s33, s34, s35, s36, s7, s8, rfl, J⟩ hi
    obtain ⟨hi, hn, hd⟩ := waits_spec (dep := [[], [0], [], [2, 1], [], [], [4, 1, 3], [5, 3, 6]]) (by kernel_rfl) hi
    have hiN : i < 8 := hi
    obtain ⟨k0, k1, k2, k3, k4, k5⟩ := HS0.out w' J.bel
    have HJ := hid J
    rcases (show i = 0 ∨ i = 1 ∨ i = 2 ∨ i = 3 ∨ i = 4 ∨ i = 5 ∨ i = 6 ∨ i = 7 by omega) with rfl | rfl | rfl | rfl | rfl | rfl | rfl | rfl
    · clear J hd hi hiN hn
      refine wpOp_step rfl (fun kq hKq => ?_)
      go_simp
      exact hKq _ _ ⟨true, f1, f2, f3, f4, f5, f6, f7, rfl, d0, d1, _, _, _, _, _, _, rfl, HJ.out.bel, HJ.out.siz, ⟨fun _ => rfl, HJ.out.vals.2.1, HJ.out.vals.2.2.1, HJ.out.vals.2.2.2.1, trivial⟩, ⟨HJ.out.boxes.1, HJ.out.boxes.2.1, trivial⟩, HJ.out.ne⟩
    · obtain rfl : f1 = false := hn
      obtain rfl : f6 = false := by cases f6 with | false => rfl | true => exact absurd (d0 rfl).2 (by simp)
      have e33 : s33 = (.agg #[.bool a1, .slice p1 l1 q1, .bool aa1, .slice pp1 ll1 qq1]) := J.vals.1 (hd 0 (by simp))
      subst e33
      have hw := J.bel
      clear J hd hi hiN d0
      refine wpOp_step rfl (fun kq hKq => ?_)
      go_simp
      refine (ownRatio_any _ _ _ _ _ _ (VR.out _ hw) HLA.out HLB.out).mono ?_
      rintro e wz ⟨ub, uo, um, uc, vb, vo, vm, vc, rfl, HZq, hb⟩
      have J2 := RX.step HJ.out HKG.out hb
      exact hKq _ _ ⟨f0, true, f2, f3, f4, f5, false, f7, rfl, nofun, d1, _, _, _, _, _, _, rfl, J2.bel, J2.siz, ⟨J2.vals.1, fun _ => HZq.out, J2.vals.2.2.1, J2.vals.2.2.2.1, trivial⟩, ⟨fun e => (J2.boxes.1 e).fresh, J2.boxes.2.1, trivial⟩, J2.ne⟩
    · clear J hd hi hiN hn
      refine wpOp_step rfl (fun kq hKq => ?_)
      go_simp
      exact hKq _ _ ⟨f0, f1, true, f3, f4, f5, f6, f7, rfl, d0, d1, _, _, _, _, _, _, rfl, HJ.out.bel, HJ.out.siz, ⟨HJ.out.vals.1, HJ.out.vals.2.1, fun _ => rfl, HJ.out.vals.2.2.2.1, trivial⟩, ⟨HJ.out.boxes.1, HJ.out.boxes.2.1, trivial⟩, HJ.out.ne⟩
    · obtain rfl : f3 = false := hn
      obtain rfl : f7 = false := by cases f7 with | false => rfl | true => exact absurd (d1 rfl).2 (by simp)
      have e35 : s35 = (.agg #[.bool a2, .slice p2 l2 q2]) := J.vals.2.2.1 (hd 2 (by simp))
      subst e35
      have hw := J.bel
      clear J hd hi hiN d1
      refine wpOp_step rfl (fun kq hKq => ?_)
      go_simp
      refine (own_o _ _ _ _ (VN.out _ hw) HLC.out).mono ?_
      rintro e wz ⟨ub, uo, um, uc, rfl, HZq, hb⟩
      have J2 := RX.step HJ.out HKG.out hb
      exact hKq _ _ ⟨f0, f1, f2, true, f4, f5, f6, false, rfl, d0, nofun, _, _, _, _, _, _, rfl, J2.bel, J2.siz, ⟨J2.vals.1, J2.vals.2.1, J2.vals.2.2.1, fun _ => HZq.out, trivial⟩, ⟨J2.boxes.1, fun e => (J2.boxes.2.1 e).fresh, trivial⟩, J2.ne⟩
    · obtain rfl : f4 = false := hn
      obtain rfl : f6 = false := by cases f6 with | false => rfl | true => exact absurd (d0 rfl).1 (by simp)
      clear J hd hi hiN d0
      refine wpOp_step rfl (fun kq hKq => ?_)
      go_simp
      have J2 := RX.step HJ.out HKG.out (bl_new (w := w') (.cells #[.bool false, .slice none 0 0, .bool false, .slice none 0 0] 26))
      exact hKq _ _ ⟨f0, f1, f2, f3, true, f5, false, f7, rfl, nofun, d1, _, _, _, _, _, _, rfl, J2.bel, J2.siz, J2.vals, ⟨fun _ => boxn_new _ w' _ _ [.bool false, .slice none 0 0, .bool false, .slice none 0 0] (by intro i k x hi; match i, hi with | 0, _ => nofun | 1, _ => nofun | 2, _ => nofun | 3, _ => nofun) HJ.out.siz, J2.boxes.2.1, trivial⟩, ⟨⟨fun _ e => (boxn_ne_new (HJ.out.boxes.2.1 e)).symm, trivial⟩, trivial, trivial⟩⟩
    · obtain rfl : f5 = false := hn
      obtain rfl : f7 = false := by cases f7 with | false => rfl | true => exact absurd (d1 rfl).1 (by simp)
      clear J hd hi hiN d1
      refine wpOp_step rfl (fun kq hKq => ?_)
      go_simp
      have J2 := RX.step HJ.out HKG.out (bl_new (w := w') (.cells #[.bool false, .slice none 0 0] 24))
      exact hKq _ _ ⟨f0, f1, f2, f3, f4, true, f6, false, rfl, d0, nofun, _, _, _, _, _, _, rfl, J2.bel, J2.siz, J2.vals, ⟨J2.boxes.1, fun _ => boxn_new _ w' _ _ [.bool false, .slice none 0 0] (by intro i k x hi; match i, hi with | 0, _ => nofun | 1, _ => nofun) HJ.out.siz, trivial⟩, ⟨⟨fun e _ => boxn_ne_new (HJ.out.boxes.1 e), trivial⟩, trivial, trivial⟩⟩
    · obtain rfl : f4 = true := hd 4 (by simp)
      obtain rfl : f1 = true := hd 1 (by simp)
      obtain ⟨rb, ro, rm, rc, sb, so, sm, sc, rfl, _⟩ := Lr.opened (J.vals.2.1 rfl)
      have HBX : Hid _ := hid (J.boxes.1 rfl)
      obtain ⟨p, vs, rfl, hp, hl, hnn, hc, hf, _⟩ := J.boxes.1 rfl
      have cc0 := hc 0 (by decide)
      have ff0 := hf 0 (by decide)
      have cc1 := hc 1 (by decide)
      have ff1 := hf 1 (by decide)
      have cc2 := hc 2 (by decide)
      have ff2 := hf 2 (by decide)
      have cc3 := hc 3 (by decide)
      have ff3 := hf 3 (by decide)
      clear J hd hi hiN hn hc hf hnn hl
      refine wpOp_step rfl (fun kq hKq => ?_)
      go_simp
      exact hKq _ _ ⟨f0, true, f2, f3, true, f5, true, f7, rfl, fun _ => ⟨rfl, rfl⟩, d1, _, _, _, _, _, _, rfl, below_setCells hp [.bool rb, .slice ro rm rc, .bool sb, .slice so sm sc] 0 HJ.out.bel, Nat.le_trans HJ.out.siz (Nat.le_of_eq (size_setCells p [.bool rb, .slice ro rm rc, .bool sb, .slice so sm sc] 0 w').symm), Vals.keep HKG.out (BoxN.keeps HBX.out (us := [.bool rb, .slice ro rm rc, .bool sb, .slice so sm sc]) rfl) HJ.out.vals, ⟨fun _ => BoxN.store HBX.out [.bool rb, .slice ro rm rc, .bool sb, .slice so sm sc] rfl (by intro i k x hi; match i, hi with | 0, _ => nofun | 1, _ => nofun | 2, _ => nofun | 3, _ => nofun), fun e => BoxN.other (HJ.out.boxes.2.1 e) ((HJ.out.ne.1.1 rfl e).symm) 0 [.bool rb, .slice ro rm rc, .bool sb, .slice so sm sc], trivial⟩, HJ.out.ne⟩
    · obtain rfl : f5 = true := hd 5 (by simp)
      obtain rfl : f3 = true := hd 3 (by simp)
      obtain ⟨kb, ko, km, kc, rfl, _⟩ := Lk.openedB (J.vals.2.2.2.1 rfl)
      have HBX : Hid _ := hid (J.boxes.2.1 rfl)
      obtain ⟨p, vs, rfl, hp, hl, hnn, hc, hf, _⟩ := J.boxes.2.1 rfl
      have cc0 := hc 0 (by decide)
      have ff0 := hf 0 (by decide)
      have cc1 := hc 1 (by decide)
      have ff1 := hf 1 (by decide)
      clear J hd hi hiN hn hc hf hnn hl
      refine wpOp_step rfl (fun kq hKq => ?_)
      go_simp
      exact hKq _ _ ⟨f0, f1, f2, true, f4, true, f6, true, rfl, d0, fun _ => ⟨rfl, rfl⟩, _, _, _, _, _, _, rfl, below_setCells hp [.bool kb, .slice ko km kc] 0 HJ.out.bel, Nat.le_trans HJ.out.siz (Nat.le_of_eq (size_setCells p [.bool kb, .slice ko km kc] 0 w').symm), Vals.keep HKG.out (BoxN.keeps HBX.out (us := [.bool kb, .slice ko km kc]) rfl) HJ.out.vals, ⟨fun e => BoxN.other (HJ.out.boxes.1 e) (HJ.out.ne.1.1 e rfl) 0 [.bool kb, .slice ko km kc], fun _ => BoxN.store HBX.out [.bool kb, .slice ko km kc] rfl (by intro i k x hi; match i, hi with | 0, _ => nofun | 1, _ => nofun), trivial⟩, HJ.out.ne⟩
  rintro L act w' hs ⟨f0, f1, f2, f3, f4, f5, f6, f7, rfl, _, _, s33, s34, s35, s36, s7, s8, rfl, J⟩ hr
  have hd := early_done (by kernel_rfl) hs hr 8
  obtain rfl : f0 = true := hd 0 (by omega) (by simp)
  obtain rfl : f1 = true := hd 1 (by omega) (by simp)
  obtain rfl : f2 = true := hd 2 (by omega) (by simp)
  obtain rfl : f3 = true := hd 3 (by omega) (by simp)
  obtain rfl : f4 = true := hd 4 (by omega) (by simp)
  obtain rfl : f5 = true := hd 5 (by omega) (by simp)
  obtain rfl : f6 = true := hd 6 (by omega) (by simp)
  obtain rfl : f7 = true := hd 7 (by omega) (by simp)
  have e33 : s33 = (.agg #[.bool a1, .slice p1 l1 q1, .bool aa1, .slice pp1 ll1 qq1]) := J.vals.1 rfl
  subst e33
  have e35 : s35 = (.agg #[.bool a2, .slice p2 l2 q2]) := J.vals.2.2.1 rfl
  subst e35
  have hg7 : (fun wq vq => Lr wq vq nA A nB B) w' s34 := J.vals.2.1 rfl
  obtain ⟨rb, ro, rm, rc, sb, so, sm, sc, rfl, _⟩ := Lr.opened hg7
  obtain ⟨p7, rfl, hp7, hl7, hc7⟩ := BoxN.done (us := [.bool rb, .slice ro rm rc, .bool sb, .slice so sm sc]) (J.boxes.1 rfl)
  have k7_0 : w'.cell? ⟨p7, 0, none⟩ = some (.bool rb) := (hc7 0 (by decide)).1
  have k7_1 : w'.cell? ⟨p7, 1, none⟩ = some (.slice ro rm rc) := (hc7 1 (by decide)).1
  have k7_2 : w'.cell? ⟨p7, 2, none⟩ = some (.bool sb) := (hc7 2 (by decide)).1
  have k7_3 : w'.cell? ⟨p7, 3, none⟩ = some (.slice so sm sc) := (hc7 3 (by decide)).1
  clear hc7
  have hg8 : (fun wq vq => Lk wq vq nC C) w' s36 := J.vals.2.2.2.1 rfl
  obtain ⟨kb, ko, km, kc, rfl, _⟩ := Lk.openedB hg8
  obtain ⟨p8, rfl, hp8, hl8, hc8⟩ := BoxN.done (us := [.bool kb, .slice ko km kc]) (J.boxes.2.1 rfl)
  have k8_0 : w'.cell? ⟨p8, 0, none⟩ = some (.bool kb) := (hc8 0 (by decide)).1
  have k8_1 : w'.cell? ⟨p8, 1, none⟩ = some (.slice ko km kc) := (hc8 1 (by decide)).1
  clear hc8
  have hbel := J.bel
  have hsiz := J.siz
  clear hd hr hs J
  obtain ⟨W1, hW1⟩ : ∃ W, W = w' := ⟨_, rfl⟩
  rw [← hW1] at hbel hg7 hl7 hg8 hl8 k7_0 k7_1 k7_2 k7_3 k8_0 k8_1
  have HS1 : Hid (∀ w', Below W1.heap.size W1 w' → (w'.cell? ⟨w.heap.size, 0, none⟩ = some (.bool a1) ∧ w'.cell? ⟨w.heap.size, 1, none⟩ = some (.slice p1 l1 q1) ∧ w'.cell? ⟨w.heap.size, 2, none⟩ = some (.bool aa1) ∧ w'.cell? ⟨w.heap.size, 3, none⟩ = some (.slice pp1 ll1 qq1) ∧ w'.cell? ⟨w.heap.size + 1, 0, none⟩ = some (.bool a2) ∧ w'.cell? ⟨w.heap.size + 1, 1, none⟩ = some (.slice p2 l2 q2)) ∧ w'.cell? ⟨p7, 0, none⟩ = some (.bool rb) ∧ w'.cell? ⟨p7, 1, none⟩ = some (.slice ro rm rc) ∧ w'.cell? ⟨p7, 2, none⟩ = some (.bool sb) ∧ w'.cell? ⟨p7, 3, none⟩ = some (.slice so sm sc) ∧ w'.cell? ⟨p8, 0, none⟩ = some (.bool kb) ∧ w'.cell? ⟨p8, 1, none⟩ = some (.slice ko km kc)) := hid (fun w' hb => by
    refine ⟨HS0.out _ (bl_tr hbel hb), (hb.cell (p := ⟨p7, 0, none⟩) hl7).trans k7_0, (hb.cell (p := ⟨p7, 1, none⟩) hl7).trans k7_1, (hb.cell (p := ⟨p7, 2, none⟩) hl7).trans k7_2, (hb.cell (p := ⟨p7, 3, none⟩) hl7).trans k7_3, (hb.cell (p := ⟨p8, 0, none⟩) hl8).trans k8_0, (hb.cell (p := ⟨p8, 1, none⟩) hl8).trans k8_1⟩)
  replace VR := hid (fun w' hb => VR.out w' (bl_tr hbel hb))
  replace VN := hid (fun w' hb => VN.out w' (bl_tr hbel hb))
  have VX : Hid (∀ w', Below W1.heap.size W1 w' → Lr w' (.agg #[.bool rb, .slice ro rm rc, .bool sb, .slice so sm sc]) nA A nB B) := hid (fun w' hb => hg7.below hb (Nat.le_refl _))
  have VY : Hid (∀ w', Below W1.heap.size W1 w' → Lk w' (.agg #[.bool kb, .slice ko km kc]) nC C) := hid (fun w' hb => hg8.below hb (Nat.le_refl _))
  have HB1 := hid (HB0.out.trans (hbel.mono HB0.out.size)); have HW1 := hid hW1
  clear hW1 HS0 HB0 HW0 hbel hsiz hg7 hl7 hg8 hl8 hp7 hp8 k7_0 k7_1 k7_2 k7_3 k8_0 k8_1
  go_upto_region 4 with (fail)
  rw [← HW1.out]
  obtain ⟨⟨k0, k1, k2, k3, k4, k5⟩, k6, k7, k8, k9, k10, k11⟩ := HS1.out _ (Below.refl _ _)
  go_wp2_with fail
  refine (rfromRatio_v _ n d 12 27 _ (HRV.out _ _ (VR.out _ (Below.refl _ _))) (by decide) (by decide) (by decide)).mono ?_
  rintro e wq4 ⟨b4, o4, m4, c4, bb4, oo4, mm4, cc4, rfl, H4, hbq⟩
  have hXq : Below W1.heap.size W1 wq4 := hbq
  clear k0 k1 k2 k3 k4 k5 k6 k7 k8 k9 k10 k11 hbq
  obtain ⟨W2, hW2⟩ : ∃ W, W = wq4.alloc (.cells #[.bool b4, .slice o4 m4 c4, .bool bb4, .slice oo4 mm4 cc4] 35) := ⟨_, rfl⟩
  have hal2 : Below wq4.heap.size wq4 W2 := by rw [hW2]; exact bl_new _
  have hXn2 : Below W1.heap.size W1 W2 := bl_tr hXq hal2
  have HS2 : Hid (∀ w', Below W2.heap.size W2 w' → ((w'.cell? ⟨w.heap.size, 0, none⟩ = some (.bool a1) ∧ w'.cell? ⟨w.heap.size, 1, none⟩ = some (.slice p1 l1 q1) ∧ w'.cell? ⟨w.heap.size, 2, none⟩ = some (.bool aa1) ∧ w'.cell? ⟨w.heap.size, 3, none⟩ = some (.slice pp1 ll1 qq1) ∧ w'.cell? ⟨w.heap.size + 1, 0, none⟩ = some (.bool a2) ∧ w'.cell? ⟨w.heap.size + 1, 1, none⟩ = some (.slice p2 l2 q2)) ∧ w'.cell? ⟨p7, 0, none⟩ = some (.bool rb) ∧ w'.cell? ⟨p7, 1, none⟩ = some (.slice ro rm rc) ∧ w'.cell? ⟨p7, 2, none⟩ = some (.bool sb) ∧ w'.cell? ⟨p7, 3, none⟩ = some (.slice so sm sc) ∧ w'.cell? ⟨p8, 0, none⟩ = some (.bool kb) ∧ w'.cell? ⟨p8, 1, none⟩ = some (.slice ko km kc)) ∧ w'.cell? ⟨wq4.heap.size, 0, none⟩ = some (.bool b4) ∧ w'.cell? ⟨wq4.heap.size, 1, none⟩ = some (.slice o4 m4 c4) ∧ w'.cell? ⟨wq4.heap.size, 2, none⟩ = some (.bool bb4) ∧ w'.cell? ⟨wq4.heap.size, 3, none⟩ = some (.slice oo4 mm4 cc4)) := hid (fun w' hb => by
    refine ⟨HS1.out _ (bl_tr hXn2 hb), ?_, ?_, ?_, ?_⟩ <;> (rw [hb.cell (by rw [hW2]; simp), hW2]; simp [go_sem]))
  replace VR := hid (fun w' hb => VR.out w' (bl_tr hXn2 hb))
  replace VN := hid (fun w' hb => VN.out w' (bl_tr hXn2 hb))
  replace VX := hid (fun w' hb => VX.out w' (bl_tr hXn2 hb))
  replace VY := hid (fun w' hb => VY.out w' (bl_tr hXn2 hb))
  have VP : Hid (∀ w', Below W2.heap.size W2 w' → Qv w' (.agg #[.bool b4, .slice o4 m4 c4, .bool bb4, .slice oo4 mm4 cc4]) n d 27) := hid (fun w' hb => H4.out.below (bl_tr hal2 hb) (Nat.le_refl _))
  have HB2 := hid (HB1.out.trans (hXn2.mono HB1.out.size)); have HW2 := hid hW2
  clear hW2 hal2 hXn2 HS1 HB1 HW1
  clear hXq H4
  go_upto_region 5 with (fail)
  rw [← HW2.out]
  obtain ⟨⟨⟨k0, k1, k2, k3, k4, k5⟩, k6, k7, k8, k9, k10, k11⟩, k12, k13, k14, k15⟩ := HS2.out _ (Below.refl _ _)
  go_wp2_with fail
  refine (HX1.out _ _ (VX.out _ (Below.refl _ _))).mono ?_
  rintro e wq5 ⟨b5, o5, m5, c5, rfl, H5, hbq⟩
  have hXq : Below W2.heap.size W2 wq5 := hbq
  clear k0 k1 k2 k3 k4 k5 k6 k7 k8 k9 k10 k11 k12 k13 k14 k15 hbq
  obtain ⟨W3, hW3⟩ : ∃ W, W = wq5.alloc (.cells #[.bool b5, .slice o5 m5 c5] 24) := ⟨_, rfl⟩
  have hal3 : Below wq5.heap.size wq5 W3 := by rw [hW3]; exact bl_new _
  have hXn3 : Below W2.heap.size W2 W3 := bl_tr hXq hal3
  have HS3 : Hid (∀ w', Below W3.heap.size W3 w' → (((w'.cell? ⟨w.heap.size, 0, none⟩ = some (.bool a1) ∧ w'.cell? ⟨w.heap.size, 1, none⟩ = some (.slice p1 l1 q1) ∧ w'.cell? ⟨w.heap.size, 2, none⟩ = some (.bool aa1) ∧ w'.cell? ⟨w.heap.size, 3, none⟩ = some (.slice pp1 ll1 qq1) ∧ w'.cell? ⟨w.heap.size + 1, 0, none⟩ = some (.bool a2) ∧ w'.cell? ⟨w.heap.size + 1, 1, none⟩ = some (.slice p2 l2 q2)) ∧ w'.cell? ⟨p7, 0, none⟩ = some (.bool rb) ∧ w'.cell? ⟨p7, 1, none⟩ = some (.slice ro rm rc) ∧ w'.cell? ⟨p7, 2, none⟩ = some (.bool sb) ∧ w'.cell? ⟨p7, 3, none⟩ = some (.slice so sm sc) ∧ w'.cell? ⟨p8, 0, none⟩ = some (.bool kb) ∧ w'.cell? ⟨p8, 1, none⟩ = some (.slice ko km kc)) ∧ w'.cell? ⟨wq4.heap.size, 0, none⟩ = some (.bool b4) ∧ w'.cell? ⟨wq4.heap.size, 1, none⟩ = some (.slice o4 m4 c4) ∧ w'.cell? ⟨wq4.heap.size, 2, none⟩ = some (.bool bb4) ∧ w'.cell? ⟨wq4.heap.size, 3, none⟩ = some (.slice oo4 mm4 cc4)) ∧ w'.cell? ⟨wq5.heap.size, 0, none⟩ = some (.bool b5) ∧ w'.cell? ⟨wq5.heap.size, 1, none⟩ = some (.slice o5 m5 c5)) := hid (fun w' hb => by
    refine ⟨HS2.out _ (bl_tr hXn3 hb), ?_, ?_⟩ <;> (rw [hb.cell (by rw [hW3]; simp), hW3]; simp [go_sem]))
  replace VR := hid (fun w' hb => VR.out w' (bl_tr hXn3 hb))
  replace VN := hid (fun w' hb => VN.out w' (bl_tr hXn3 hb))
  replace VX := hid (fun w' hb => VX.out w' (bl_tr hXn3 hb))
  replace VY := hid (fun w' hb => VY.out w' (bl_tr hXn3 hb))
  replace VP := hid (fun w' hb => VP.out w' (bl_tr hXn3 hb))
  have V5 : Hid (∀ w', Below W3.heap.size W3 w' → IntE w' (.agg #[.bool b5, .slice o5 m5 c5]) E1 Z1) := hid (fun w' hb => H5.out.below (bl_tr hal3 hb) (Nat.le_refl _))
  have HB3 := hid (HB2.out.trans (hXn3.mono HB2.out.size)); have HW3 := hid hW3
  clear hW3 hal3 hXn3 HS2 HB2 HW2
  clear hXq H5
  go_upto_region 6 with (fail)
  rw [← HW3.out]
  obtain ⟨⟨⟨⟨k0, k1, k2, k3, k4, k5⟩, k6, k7, k8, k9, k10, k11⟩, k12, k13, k14, k15⟩, k16, k17⟩ := HS3.out _ (Below.refl _ _)
  go_wp2_with fail
  refine (HX2.out _ _ (VP.out _ (Below.refl _ _))).mono ?_
  rintro e wq6 ⟨b6, o6, m6, c6, rfl, H6, hbq⟩
  have hXq : Below W3.heap.size W3 wq6 := hbq
  clear k0 k1 k2 k3 k4 k5 k6 k7 k8 k9 k10 k11 k12 k13 k14 k15 k16 k17 hbq
  obtain ⟨W4, hW4⟩ : ∃ W, W = wq6.alloc (.cells #[.bool b6, .slice o6 m6 c6] 33) := ⟨_, rfl⟩
  have hal4 : Below wq6.heap.size wq6 W4 := by rw [hW4]; exact bl_new _
  have hXn4 : Below W3.heap.size W3 W4 := bl_tr hXq hal4
  have HS4 : Hid (∀ w', Below W4.heap.size W4 w' → ((((w'.cell? ⟨w.heap.size, 0, none⟩ = some (.bool a1) ∧ w'.cell? ⟨w.heap.size, 1, none⟩ = some (.slice p1 l1 q1) ∧ w'.cell? ⟨w.heap.size, 2, none⟩ = some (.bool aa1) ∧ w'.cell? ⟨w.heap.size, 3, none⟩ = some (.slice pp1 ll1 qq1) ∧ w'.cell? ⟨w.heap.size + 1, 0, none⟩ = some (.bool a2) ∧ w'.cell? ⟨w.heap.size + 1, 1, none⟩ = some (.slice p2 l2 q2)) ∧ w'.cell? ⟨p7, 0, none⟩ = some (.bool rb) ∧ w'.cell? ⟨p7, 1, none⟩ = some (.slice ro rm rc) ∧ w'.cell? ⟨p7, 2, none⟩ = some (.bool sb) ∧ w'.cell? ⟨p7, 3, none⟩ = some (.slice so sm sc) ∧ w'.cell? ⟨p8, 0, none⟩ = some (.bool kb) ∧ w'.cell? ⟨p8, 1, none⟩ = some (.slice ko km kc)) ∧ w'.cell? ⟨wq4.heap.size, 0, none⟩ = some (.bool b4) ∧ w'.cell? ⟨wq4.heap.size, 1, none⟩ = some (.slice o4 m4 c4) ∧ w'.cell? ⟨wq4.heap.size, 2, none⟩ = some (.bool bb4) ∧ w'.cell? ⟨wq4.heap.size, 3, none⟩ = some (.slice oo4 mm4 cc4)) ∧ w'.cell? ⟨wq5.heap.size, 0, none⟩ = some (.bool b5) ∧ w'.cell? ⟨wq5.heap.size, 1, none⟩ = some (.slice o5 m5 c5)) ∧ w'.cell? ⟨wq6.heap.size, 0, none⟩ = some (.bool b6) ∧ w'.cell? ⟨wq6.heap.size, 1, none⟩ = some (.slice o6 m6 c6)) := hid (fun w' hb => by
    refine ⟨HS3.out _ (bl_tr hXn4 hb), ?_, ?_⟩ <;> (rw [hb.cell (by rw [hW4]; simp), hW4]; simp [go_sem]))
  replace VR := hid (fun w' hb => VR.out w' (bl_tr hXn4 hb))
  replace VN := hid (fun w' hb => VN.out w' (bl_tr hXn4 hb))
  replace VX := hid (fun w' hb => VX.out w' (bl_tr hXn4 hb))
  replace VY := hid (fun w' hb => VY.out w' (bl_tr hXn4 hb))
  replace VP := hid (fun w' hb => VP.out w' (bl_tr hXn4 hb))
  replace V5 := hid (fun w' hb => V5.out w' (bl_tr hXn4 hb))
  have V6 : Hid (∀ w', Below W4.heap.size W4 w' → ZE w' (.agg #[.bool b6, .slice o6 m6 c6]) E1 Z1) := hid (fun w' hb => H6.out.below (bl_tr hal4 hb) (Nat.le_refl _))
  have HB4 := hid (HB3.out.trans (hXn4.mono HB3.out.size)); have HW4 := hid hW4
  clear hW4 hal4 hXn4 HS3 HB3 HW3
  clear hXq H6
  go_upto_region 7 with (fail)
  rw [← HW4.out]
  obtain ⟨⟨⟨⟨⟨k0, k1, k2, k3, k4, k5⟩, k6, k7, k8, k9, k10, k11⟩, k12, k13, k14, k15⟩, k16, k17⟩, k18, k19⟩ := HS4.out _ (Below.refl _ _)
  go_wp2_with fail
  refine (HX3.out _ _ (VY.out _ (Below.refl _ _))).mono ?_
  rintro e wq7 ⟨b7, o7, m7, c7, bb7, oo7, mm7, cc7, rfl, H7, hbq⟩
  have hXq : Below W4.heap.size W4 wq7 := hbq
  clear k0 k1 k2 k3 k4 k5 k6 k7 k8 k9 k10 k11 k12 k13 k14 k15 k16 k17 k18 k19 hbq
  obtain ⟨W5, hW5⟩ : ∃ W, W = wq7.alloc (.cells #[.bool b7, .slice o7 m7 c7, .bool bb7, .slice oo7 mm7 cc7] 26) := ⟨_, rfl⟩
  have hal5 : Below wq7.heap.size wq7 W5 := by rw [hW5]; exact bl_new _
  have hXn5 : Below W4.heap.size W4 W5 := bl_tr hXq hal5
  have HS5 : Hid (∀ w', Below W5.heap.size W5 w' → (((((w'.cell? ⟨w.heap.size, 0, none⟩ = some (.bool a1) ∧ w'.cell? ⟨w.heap.size, 1, none⟩ = some (.slice p1 l1 q1) ∧ w'.cell? ⟨w.heap.size, 2, none⟩ = some (.bool aa1) ∧ w'.cell? ⟨w.heap.size, 3, none⟩ = some (.slice pp1 ll1 qq1) ∧ w'.cell? ⟨w.heap.size + 1, 0, none⟩ = some (.bool a2) ∧ w'.cell? ⟨w.heap.size + 1, 1, none⟩ = some (.slice p2 l2 q2)) ∧ w'.cell? ⟨p7, 0, none⟩ = some (.bool rb) ∧ w'.cell? ⟨p7, 1, none⟩ = some (.slice ro rm rc) ∧ w'.cell? ⟨p7, 2, none⟩ = some (.bool sb) ∧ w'.cell? ⟨p7, 3, none⟩ = some (.slice so sm sc) ∧ w'.cell? ⟨p8, 0, none⟩ = some (.bool kb) ∧ w'.cell? ⟨p8, 1, none⟩ = some (.slice ko km kc)) ∧ w'.cell? ⟨wq4.heap.size, 0, none⟩ = some (.bool b4) ∧ w'.cell? ⟨wq4.heap.size, 1, none⟩ = some (.slice o4 m4 c4) ∧ w'.cell? ⟨wq4.heap.size, 2, none⟩ = some (.bool bb4) ∧ w'.cell? ⟨wq4.heap.size, 3, none⟩ = some (.slice oo4 mm4 cc4)) ∧ w'.cell? ⟨wq5.heap.size, 0, none⟩ = some (.bool b5) ∧ w'.cell? ⟨wq5.heap.size, 1, none⟩ = some (.slice o5 m5 c5)) ∧ w'.cell? ⟨wq6.heap.size, 0, none⟩ = some (.bool b6) ∧ w'.cell? ⟨wq6.heap.size, 1, none⟩ = some (.slice o6 m6 c6)) ∧ w'.cell? ⟨wq7.heap.size, 0, none⟩ = some (.bool b7) ∧ w'.cell? ⟨wq7.heap.size, 1, none⟩ = some (.slice o7 m7 c7) ∧ w'.cell? ⟨wq7.heap.size, 2, none⟩ = some (.bool bb7) ∧ w'.cell? ⟨wq7.heap.size, 3, none⟩ = some (.slice oo7 mm7 cc7)) := hid (fun w' hb => by
    refine ⟨HS4.out _ (bl_tr hXn5 hb), ?_, ?_, ?_, ?_⟩ <;> (rw [hb.cell (by rw [hW5]; simp), hW5]; simp [go_sem]))
  replace VR := hid (fun w' hb => VR.out w' (bl_tr hXn5 hb))
  replace VN := hid (fun w' hb => VN.out w' (bl_tr hXn5 hb))
  replace VX := hid (fun w' hb => VX.out w' (bl_tr hXn5 hb))
  replace VY := hid (fun w' hb => VY.out w' (bl_tr hXn5 hb))
  replace VP := hid (fun w' hb => VP.out w' (bl_tr hXn5 hb))
  replace V5 := hid (fun w' hb => V5.out w' (bl_tr hXn5 hb))
  replace V6 := hid (fun w' hb => V6.out w' (bl_tr hXn5 hb))
  have V7 : Hid (∀ w', Below W5.heap.size W5 w' → PvE w' 0 (.agg #[.bool b7, .slice o7 m7 c7, .bool bb7, .slice oo7 mm7 cc7]) E1 z Z2) := hid (fun w' hb => H7.out.below (bl_tr hal5 hb) (Nat.le_refl _))
  have HB5 := hid (HB4.out.trans (hXn5.mono HB4.out.size)); have HW5 := hid hW5
  clear hW5 hal5 hXn5 HS4 HB4 HW4
  clear hXq H7
  go_upto_region 8 with (fail)
  rw [← HW5.out]
  obtain ⟨⟨⟨⟨⟨⟨k0, k1, k2, k3, k4, k5⟩, k6, k7, k8, k9, k10, k11⟩, k12, k13, k14, k15⟩, k16, k17⟩, k18, k19⟩, k20, k21, k22, k23⟩ := HS5.out _ (Below.refl _ _)
  go_wp2_with fail
  refine (rfrom_o _ z 24 48 _ (HNV.out _ _ (VN.out _ (Below.refl _ _))) (by decide) (by decide)).mono ?_
  rintro e wz ⟨bz, oz, mz, cz, rfl, Hz, hbz⟩
  clear k0 k1 k2 k3 k4 k5 k6 k7 k8 k9 k10 k11 k12 k13 k14 k15 k16 k17 k18 k19 k20 k21 k22 k23
  go_wp2_with fail
  refine (HX4.out _ _ Hz.out).mono ?_
  rintro e wq8 ⟨b8, o8, m8, c8, bb8, oo8, mm8, cc8, rfl, H8, hbq⟩
  have hXq : Below W5.heap.size W5 wq8 := bl_tr hbz hbq
  obtain ⟨W6, hW6⟩ : ∃ W, W = wq8.alloc (.cells #[.bool b8, .slice o8 m8 c8, .bool bb8, .slice oo8 mm8 cc8] 35) := ⟨_, rfl⟩
  have hal6 : Below wq8.heap.size wq8 W6 := by rw [hW6]; exact bl_new _
  have hXn6 : Below W5.heap.size W5 W6 := bl_tr hXq hal6
  have HS6 : Hid (∀ w', Below W6.heap.size W6 w' → ((((((w'.cell? ⟨w.heap.size, 0, none⟩ = some (.bool a1) ∧ w'.cell? ⟨w.heap.size, 1, none⟩ = some (.slice p1 l1 q1) ∧ w'.cell? ⟨w.heap.size, 2, none⟩ = some (.bool aa1) ∧ w'.cell? ⟨w.heap.size, 3, none⟩ = some (.slice pp1 ll1 qq1) ∧ w'.cell? ⟨w.heap.size + 1, 0, none⟩ = some (.bool a2) ∧ w'.cell? ⟨w.heap.size + 1, 1, none⟩ = some (.slice p2 l2 q2)) ∧ w'.cell? ⟨p7, 0, none⟩ = some (.bool rb) ∧ w'.cell? ⟨p7, 1, none⟩ = some (.slice ro rm rc) ∧ w'.cell? ⟨p7, 2, none⟩ = some (.bool sb) ∧ w'.cell? ⟨p7, 3, none⟩ = some (.slice so sm sc) ∧ w'.cell? ⟨p8, 0, none⟩ = some (.bool kb) ∧ w'.cell? ⟨p8, 1, none⟩ = some (.slice ko km kc)) ∧ w'.cell? ⟨wq4.heap.size, 0, none⟩ = some (.bool b4) ∧ w'.cell? ⟨wq4.heap.size, 1, none⟩ = some (.slice o4 m4 c4) ∧ w'.cell? ⟨wq4.heap.size, 2, none⟩ = some (.bool bb4) ∧ w'.cell? ⟨wq4.heap.size, 3, none⟩ = some (.slice oo4 mm4 cc4)) ∧ w'.cell? ⟨wq5.heap.size, 0, none⟩ = some (.bool b5) ∧ w'.cell? ⟨wq5.heap.size, 1, none⟩ = some (.slice o5 m5 c5)) ∧ w'.cell? ⟨wq6.heap.size, 0, none⟩ = some (.bool b6) ∧ w'.cell? ⟨wq6.heap.size, 1, none⟩ = some (.slice o6 m6 c6)) ∧ w'.cell? ⟨wq7.heap.size, 0, none⟩ = some (.bool b7) ∧ w'.cell? ⟨wq7.heap.size, 1, none⟩ = some (.slice o7 m7 c7) ∧ w'.cell? ⟨wq7.heap.size, 2, none⟩ = some (.bool bb7) ∧ w'.cell? ⟨wq7.heap.size, 3, none⟩ = some (.slice oo7 mm7 cc7)) ∧ w'.cell? ⟨wq8.heap.size, 0, none⟩ = some (.bool b8) ∧ w'.cell? ⟨wq8.heap.size, 1, none⟩ = some (.slice o8 m8 c8) ∧ w'.cell? ⟨wq8.heap.size, 2, none⟩ = some (.bool bb8) ∧ w'.cell? ⟨wq8.heap.size, 3, none⟩ = some (.slice oo8 mm8 cc8)) := hid (fun w' hb => by
    refine ⟨HS5.out _ (bl_tr hXn6 hb), ?_, ?_, ?_, ?_⟩ <;> (rw [hb.cell (by rw [hW6]; simp), hW6]; simp [go_sem]))
  replace VR := hid (fun w' hb => VR.out w' (bl_tr hXn6 hb))
  replace VN := hid (fun w' hb => VN.out w' (bl_tr hXn6 hb))
  replace VX := hid (fun w' hb => VX.out w' (bl_tr hXn6 hb))
  replace VY := hid (fun w' hb => VY.out w' (bl_tr hXn6 hb))
  replace VP := hid (fun w' hb => VP.out w' (bl_tr hXn6 hb))
  replace V5 := hid (fun w' hb => V5.out w' (bl_tr hXn6 hb))
  replace V6 := hid (fun w' hb => V6.out w' (bl_tr hXn6 hb))
  replace V7 := hid (fun w' hb => V7.out w' (bl_tr hXn6 hb))
  have V8 : Hid (∀ w', Below W6.heap.size W6 w' → QvE w' (.agg #[.bool b8, .slice o8 m8 c8, .bool bb8, .slice oo8 mm8 cc8]) E1 z Z2) := hid (fun w' hb => H8.out.below (bl_tr hal6 hb) (Nat.le_refl _))
  have HB6 := hid (HB5.out.trans (hXn6.mono HB5.out.size)); have HW6 := hid hW6
  clear hW6 hal6 hXn6 HS5 HB5 HW5
  clear hXq H8 Hz hbz hbq
  go_upto_region 9 with (fail)
  rw [← HW6.out]
  obtain ⟨⟨⟨⟨⟨⟨⟨k0, k1, k2, k3, k4, k5⟩, k6, k7, k8, k9, k10, k11⟩, k12, k13, k14, k15⟩, k16, k17⟩, k18, k19⟩, k20, k21, k22, k23⟩, k24, k25, k26, k27⟩ := HS6.out _ (Below.refl _ _)
  go_wp2_with fail
  refine (HX5.out _ _ (VX.out _ (Below.refl _ _))).mono ?_
  rintro e wq9 ⟨b9, o9, m9, c9, rfl, H9, hbq⟩
  have hXq : Below W6.heap.size W6 wq9 := hbq
  clear k0 k1 k2 k3 k4 k5 k6 k7 k8 k9 k10 k11 k12 k13 k14 k15 k16 k17 k18 k19 k20 k21 k22 k23 k24 k25 k26 k27 hbq
  obtain ⟨W7, hW7⟩ : ∃ W, W = wq9.alloc (.cells #[.bool b9, .slice o9 m9 c9] 24) := ⟨_, rfl⟩
  have hal7 : Below wq9.heap.size wq9 W7 := by rw [hW7]; exact bl_new _
  have hXn7 : Below W6.heap.size W6 W7 := bl_tr hXq hal7
  have HS7 : Hid (∀ w', Below W7.heap.size W7 w' → (((((((w'.cell? ⟨w.heap.size, 0, none⟩ = some (.bool a1) ∧ w'.cell? ⟨w.heap.size, 1, none⟩ = some (.slice p1 l1 q1) ∧ w'.cell? ⟨w.heap.size, 2, none⟩ = some (.bool aa1) ∧ w'.cell? ⟨w.heap.size, 3, none⟩ = some (.slice pp1 ll1 qq1) ∧ w'.cell? ⟨w.heap.size + 1, 0, none⟩ = some (.bool a2) ∧ w'.cell? ⟨w.heap.size + 1, 1, none⟩ = some (.slice p2 l2 q2)) ∧ w'.cell? ⟨p7, 0, none⟩ = some (.bool rb) ∧ w'.cell? ⟨p7, 1, none⟩ = some (.slice ro rm rc) ∧ w'.cell? ⟨p7, 2, none⟩ = some (.bool sb) ∧ w'.cell? ⟨p7, 3, none⟩ = some (.slice so sm sc) ∧ w'.cell? ⟨p8, 0, none⟩ = some (.bool kb) ∧ w'.cell? ⟨p8, 1, none⟩ = some (.slice ko km kc)) ∧ w'.cell? ⟨wq4.heap.size, 0, none⟩ = some (.bool b4) ∧ w'.cell? ⟨wq4.heap.size, 1, none⟩ = some (.slice o4 m4 c4) ∧ w'.cell? ⟨wq4.heap.size, 2, none⟩ = some (.bool bb4) ∧ w'.cell? ⟨wq4.heap.size, 3, none⟩ = some (.slice oo4 mm4 cc4)) ∧ w'.cell? ⟨wq5.heap.size, 0, none⟩ = some (.bool b5) ∧ w'.cell? ⟨wq5.heap.size, 1, none⟩ = some (.slice o5 m5 c5)) ∧ w'.cell? ⟨wq6.heap.size, 0, none⟩ = some (.bool b6) ∧ w'.cell? ⟨wq6.heap.size, 1, none⟩ = some (.slice o6 m6 c6)) ∧ w'.cell? ⟨wq7.heap.size, 0, none⟩ = some (.bool b7) ∧ w'.cell? ⟨wq7.heap.size, 1, none⟩ = some (.slice o7 m7 c7) ∧ w'.cell? ⟨wq7.heap.size, 2, none⟩ = some (.bool bb7) ∧ w'.cell? ⟨wq7.heap.size, 3, none⟩ = some (.slice oo7 mm7 cc7)) ∧ w'.cell? ⟨wq8.heap.size, 0, none⟩ = some (.bool b8) ∧ w'.cell? ⟨wq8.heap.size, 1, none⟩ = some (.slice o8 m8 c8) ∧ w'.cell? ⟨wq8.heap.size, 2, none⟩ = some (.bool bb8) ∧ w'.cell? ⟨wq8.heap.size, 3, none⟩ = some (.slice oo8 mm8 cc8)) ∧ w'.cell? ⟨wq9.heap.size, 0, none⟩ = some (.bool b9) ∧ w'.cell? ⟨wq9.heap.size, 1, none⟩ = some (.slice o9 m9 c9)) := hid (fun w' hb => by
    refine ⟨HS6.out _ (bl_tr hXn7 hb), ?_, ?_⟩ <;> (rw [hb.cell (by rw [hW7]; simp), hW7]; simp [go_sem]))
  replace VR := hid (fun w' hb => VR.out w' (bl_tr hXn7 hb))
  replace VN := hid (fun w' hb => VN.out w' (bl_tr hXn7 hb))
  replace VX := hid (fun w' hb => VX.out w' (bl_tr hXn7 hb))
  replace VY := hid (fun w' hb => VY.out w' (bl_tr hXn7 hb))
  replace VP := hid (fun w' hb => VP.out w' (bl_tr hXn7 hb))
  replace V5 := hid (fun w' hb => V5.out w' (bl_tr hXn7 hb))
  replace V6 := hid (fun w' hb => V6.out w' (bl_tr hXn7 hb))
  replace V7 := hid (fun w' hb => V7.out w' (bl_tr hXn7 hb))
  replace V8 := hid (fun w' hb => V8.out w' (bl_tr hXn7 hb))
  have V9 : Hid (∀ w', Below W7.heap.size W7 w' → IntE w' (.agg #[.bool b9, .slice o9 m9 c9]) E2 Z3) := hid (fun w' hb => H9.out.below (bl_tr hal7 hb) (Nat.le_refl _))
  have HB7 := hid (HB6.out.trans (hXn7.mono HB6.out.size)); have HW7 := hid hW7
  clear hW7 hal7 hXn7 HS6 HB6 HW6
  clear hXq H9
  go_upto_region 10 with (fail)
  rw [← HW7.out]
  obtain ⟨⟨⟨⟨⟨⟨⟨⟨k0, k1, k2, k3, k4, k5⟩, k6, k7, k8, k9, k10, k11⟩, k12, k13, k14, k15⟩, k16, k17⟩, k18, k19⟩, k20, k21, k22, k23⟩, k24, k25, k26, k27⟩, k28, k29⟩ := HS7.out _ (Below.refl _ _)
  go_wp2_with fail
  refine (HX6.out _ _ (VP.out _ (Below.refl _ _))).mono ?_
  rintro e wq10 ⟨b10, o10, m10, c10, rfl, H10, hbq⟩
  have hXq : Below W7.heap.size W7 wq10 := hbq
  clear k0 k1 k2 k3 k4 k5 k6 k7 k8 k9 k10 k11 k12 k13 k14 k15 k16 k17 k18 k19 k20 k21 k22 k23 k24 k25 k26 k27 k28 k29 hbq
  obtain ⟨W8, hW8⟩ : ∃ W, W = wq10.alloc (.cells #[.bool b10, .slice o10 m10 c10] 33) := ⟨_, rfl⟩
  have hal8 : Below wq10.heap.size wq10 W8 := by rw [hW8]; exact bl_new _
  have hXn8 : Below W7.heap.size W7 W8 := bl_tr hXq hal8
  have HS8 : Hid (∀ w', Below W8.heap.size W8 w' → ((((((((w'.cell? ⟨w.heap.size, 0, none⟩ = some (.bool a1) ∧ w'.cell? ⟨w.heap.size, 1, none⟩ = some (.slice p1 l1 q1) ∧ w'.cell? ⟨w.heap.size, 2, none⟩ = some (.bool aa1) ∧ w'.cell? ⟨w.heap.size, 3, none⟩ = some (.slice pp1 ll1 qq1) ∧ w'.cell? ⟨w.heap.size + 1, 0, none⟩ = some (.bool a2) ∧ w'.cell? ⟨w.heap.size + 1, 1, none⟩ = some (.slice p2 l2 q2)) ∧ w'.cell? ⟨p7, 0, none⟩ = some (.bool rb) ∧ w'.cell? ⟨p7, 1, none⟩ = some (.slice ro rm rc) ∧ w'.cell? ⟨p7, 2, none⟩ = some (.bool sb) ∧ w'.cell? ⟨p7, 3, none⟩ = some (.slice so sm sc) ∧ w'.cell? ⟨p8, 0, none⟩ = some (.bool kb) ∧ w'.cell? ⟨p8, 1, none⟩ = some (.slice ko km kc)) ∧ w'.cell? ⟨wq4.heap.size, 0, none⟩ = some (.bool b4) ∧ w'.cell? ⟨wq4.heap.size, 1, none⟩ = some (.slice o4 m4 c4) ∧ w'.cell? ⟨wq4.heap.size, 2, none⟩ = some (.bool bb4) ∧ w'.cell? ⟨wq4.heap.size, 3, none⟩ = some (.slice oo4 mm4 cc4)) ∧ w'.cell? ⟨wq5.heap.size, 0, none⟩ = some (.bool b5) ∧ w'.cell? ⟨wq5.heap.size, 1, none⟩ = some (.slice o5 m5 c5)) ∧ w'.cell? ⟨wq6.heap.size, 0, none⟩ = some (.bool b6) ∧ w'.cell? ⟨wq6.heap.size, 1, none⟩ = some (.slice o6 m6 c6)) ∧ w'.cell? ⟨wq7.heap.size, 0, none⟩ = some (.bool b7) ∧ w'.cell? ⟨wq7.heap.size, 1, none⟩ = some (.slice o7 m7 c7) ∧ w'.cell? ⟨wq7.heap.size, 2, none⟩ = some (.bool bb7) ∧ w'.cell? ⟨wq7.heap.size, 3, none⟩ = some (.slice oo7 mm7 cc7)) ∧ w'.cell? ⟨wq8.heap.size, 0, none⟩ = some (.bool b8) ∧ w'.cell? ⟨wq8.heap.size, 1, none⟩ = some (.slice o8 m8 c8) ∧ w'.cell? ⟨wq8.heap.size, 2, none⟩ = some (.bool bb8) ∧ w'.cell? ⟨wq8.heap.size, 3, none⟩ = some (.slice oo8 mm8 cc8)) ∧ w'.cell? ⟨wq9.heap.size, 0, none⟩ = some (.bool b9) ∧ w'.cell? ⟨wq9.heap.size, 1, none⟩ = some (.slice o9 m9 c9)) ∧ w'.cell? ⟨wq10.heap.size, 0, none⟩ = some (.bool b10) ∧ w'.cell? ⟨wq10.heap.size, 1, none⟩ = some (.slice o10 m10 c10)) := hid (fun w' hb => by
    refine ⟨HS7.out _ (bl_tr hXn8 hb), ?_, ?_⟩ <;> (rw [hb.cell (by rw [hW8]; simp), hW8]; simp [go_sem]))
  replace VR := hid (fun w' hb => VR.out w' (bl_tr hXn8 hb))
  replace VN := hid (fun w' hb => VN.out w' (bl_tr hXn8 hb))
  replace VX := hid (fun w' hb => VX.out w' (bl_tr hXn8 hb))
  replace VY := hid (fun w' hb => VY.out w' (bl_tr hXn8 hb))
  replace VP := hid (fun w' hb => VP.out w' (bl_tr hXn8 hb))
  replace V5 := hid (fun w' hb => V5.out w' (bl_tr hXn8 hb))
  replace V6 := hid (fun w' hb => V6.out w' (bl_tr hXn8 hb))
  replace V7 := hid (fun w' hb => V7.out w' (bl_tr hXn8 hb))
  replace V8 := hid (fun w' hb => V8.out w' (bl_tr hXn8 hb))
  replace V9 := hid (fun w' hb => V9.out w' (bl_tr hXn8 hb))
  have V10 : Hid (∀ w', Below W8.heap.size W8 w' → ZE w' (.agg #[.bool b10, .slice o10 m10 c10]) E2 Z3) := hid (fun w' hb => H10.out.below (bl_tr hal8 hb) (Nat.le_refl _))
  have HB8 := hid (HB7.out.trans (hXn8.mono HB7.out.size)); have HW8 := hid hW8
  clear hW8 hal8 hXn8 HS7 HB7 HW7
  clear hXq H10
  clear HX1 HX2 HX3 HX4 HX5 HX6 T1 HLA HLB HLC
  go_upto_region 11 with (fail)
  rw [← HW8.out]
  have hY0 := Below.refl W8.heap.size W8
  have tk1 := hid trivial
  have tk2 := hid trivial
  have tk3 := hid trivial
  go_region_held3 (fun w' => ((((((((w'.cell? ⟨w.heap.size, 0, none⟩ = some (.bool a1) ∧ w'.cell? ⟨w.heap.size, 1, none⟩ = some (.slice p1 l1 q1) ∧ w'.cell? ⟨w.heap.size, 2, none⟩ = some (.bool aa1) ∧ w'.cell? ⟨w.heap.size, 3, none⟩ = some (.slice pp1 ll1 qq1) ∧ w'.cell? ⟨w.heap.size + 1, 0, none⟩ = some (.bool a2) ∧ w'.cell? ⟨w.heap.size + 1, 1, none⟩ = some (.slice p2 l2 q2)) ∧ w'.cell? ⟨p7, 0, none⟩ = some (.bool rb) ∧ w'.cell? ⟨p7, 1, none⟩ = some (.slice ro rm rc) ∧ w'.cell? ⟨p7, 2, none⟩ = some (.bool sb) ∧ w'.cell? ⟨p7, 3, none⟩ = some (.slice so sm sc) ∧ w'.cell? ⟨p8, 0, none⟩ = some (.bool kb) ∧ w'.cell? ⟨p8, 1, none⟩ = some (.slice ko km kc)) ∧ w'.cell? ⟨wq4.heap.size, 0, none⟩ = some (.bool b4) ∧ w'.cell? ⟨wq4.heap.size, 1, none⟩ = some (.slice o4 m4 c4) ∧ w'.cell? ⟨wq4.heap.size, 2, none⟩ = some (.bool bb4) ∧ w'.cell? ⟨wq4.heap.size, 3, none⟩ = some (.slice oo4 mm4 cc4)) ∧ w'.cell? ⟨wq5.heap.size, 0, none⟩ = some (.bool b5) ∧ w'.cell? ⟨wq5.heap.size, 1, none⟩ = some (.slice o5 m5 c5)) ∧ w'.cell? ⟨wq6.heap.size, 0, none⟩ = some (.bool b6) ∧ w'.cell? ⟨wq6.heap.size, 1, none⟩ = some (.slice o6 m6 c6)) ∧ w'.cell? ⟨wq7.heap.size, 0, none⟩ = some (.bool b7) ∧ w'.cell? ⟨wq7.heap.size, 1, none⟩ = some (.slice o7 m7 c7) ∧ w'.cell? ⟨wq7.heap.size, 2, none⟩ = some (.bool bb7) ∧ w'.cell? ⟨wq7.heap.size, 3, none⟩ = some (.slice oo7 mm7 cc7)) ∧ w'.cell? ⟨wq8.heap.size, 0, none⟩ = some (.bool b8) ∧ w'.cell? ⟨wq8.heap.size, 1, none⟩ = some (.slice o8 m8 c8) ∧ w'.cell? ⟨wq8.heap.size, 2, none⟩ = some (.bool bb8) ∧ w'.cell? ⟨wq8.heap.size, 3, none⟩ = some (.slice oo8 mm8 cc8)) ∧ w'.cell? ⟨wq9.heap.size, 0, none⟩ = some (.bool b9) ∧ w'.cell? ⟨wq9.heap.size, 1, none⟩ = some (.slice o9 m9 c9)) ∧ w'.cell? ⟨wq10.heap.size, 0, none⟩ = some (.bool b10) ∧ w'.cell? ⟨wq10.heap.size, 1, none⟩ = some (.slice o10 m10 c10)) ((refine HS8.out _ ?_; first | assumption | exact Below.drew (by assumption))) (first
      | (clear tk1; go_at_call 41; refine (Floor_an _ n d 12 18 _ (HRV.out _ _ (VX.out _ hY0.drew)) (by decide) (by decide)).mono ?_; rintro e v1 ⟨b21, o21, m21, c21, rfl, H21, hbq⟩; have hY1 : Below W8.heap.size W8 v1 := (hY0.drew).trans (hbq.mono (hY0.drew).size))
      | (clear tk2; go_at_call 42; refine (rfloor_v _ n d 27 29 _ (VP.out _ hY1) (by decide) (by decide)).mono ?_; rintro e v2 ⟨b22, o22, m22, c22, rfl, H22, hbq⟩; have hY2 : Below W8.heap.size W8 v2 := (hY1).trans (hbq.mono (hY1).size); have H21b := An.below H21.out hbq (Nat.le_refl _))
      | (clear tk3; go_at_call 40; refine (sameInt_any _ _ _ 18 29 _ H21b H22.out (by decide)).mono ?_; rintro e v3 ⟨rfl, hbq⟩; have hY3 : Below W8.heap.size W8 v3 := (hY2).trans (hbq.mono (hY2).size)))
  clear hY0 hY1 hY2
  go_upto_region 12 with (fail)
  have tk4 := hid trivial
  have tk5 := hid trivial
  have tk6 := hid trivial
  go_region_held3 (fun w' => ((((((((w'.cell? ⟨w.heap.size, 0, none⟩ = some (.bool a1) ∧ w'.cell? ⟨w.heap.size, 1, none⟩ = some (.slice p1 l1 q1) ∧ w'.cell? ⟨w.heap.size, 2, none⟩ = some (.bool aa1) ∧ w'.cell? ⟨w.heap.size, 3, none⟩ = some (.slice pp1 ll1 qq1) ∧ w'.cell? ⟨w.heap.size + 1, 0, none⟩ = some (.bool a2) ∧ w'.cell? ⟨w.heap.size + 1, 1, none⟩ = some (.slice p2 l2 q2)) ∧ w'.cell? ⟨p7, 0, none⟩ = some (.bool rb) ∧ w'.cell? ⟨p7, 1, none⟩ = some (.slice ro rm rc) ∧ w'.cell? ⟨p7, 2, none⟩ = some (.bool sb) ∧ w'.cell? ⟨p7, 3, none⟩ = some (.slice so sm sc) ∧ w'.cell? ⟨p8, 0, none⟩ = some (.bool kb) ∧ w'.cell? ⟨p8, 1, none⟩ = some (.slice ko km kc)) ∧ w'.cell? ⟨wq4.heap.size, 0, none⟩ = some (.bool b4) ∧ w'.cell? ⟨wq4.heap.size, 1, none⟩ = some (.slice o4 m4 c4) ∧ w'.cell? ⟨wq4.heap.size, 2, none⟩ = some (.bool bb4) ∧ w'.cell? ⟨wq4.heap.size, 3, none⟩ = some (.slice oo4 mm4 cc4)) ∧ w'.cell? ⟨wq5.heap.size, 0, none⟩ = some (.bool b5) ∧ w'.cell? ⟨wq5.heap.size, 1, none⟩ = some (.slice o5 m5 c5)) ∧ w'.cell? ⟨wq6.heap.size, 0, none⟩ = some (.bool b6) ∧ w'.cell? ⟨wq6.heap.size, 1, none⟩ = some (.slice o6 m6 c6)) ∧ w'.cell? ⟨wq7.heap.size, 0, none⟩ = some (.bool b7) ∧ w'.cell? ⟨wq7.heap.size, 1, none⟩ = some (.slice o7 m7 c7) ∧ w'.cell? ⟨wq7.heap.size, 2, none⟩ = some (.bool bb7) ∧ w'.cell? ⟨wq7.heap.size, 3, none⟩ = some (.slice oo7 mm7 cc7)) ∧ w'.cell? ⟨wq8.heap.size, 0, none⟩ = some (.bool b8) ∧ w'.cell? ⟨wq8.heap.size, 1, none⟩ = some (.slice o8 m8 c8) ∧ w'.cell? ⟨wq8.heap.size, 2, none⟩ = some (.bool bb8) ∧ w'.cell? ⟨wq8.heap.size, 3, none⟩ = some (.slice oo8 mm8 cc8)) ∧ w'.cell? ⟨wq9.heap.size, 0, none⟩ = some (.bool b9) ∧ w'.cell? ⟨wq9.heap.size, 1, none⟩ = some (.slice o9 m9 c9)) ∧ w'.cell? ⟨wq10.heap.size, 0, none⟩ = some (.bool b10) ∧ w'.cell? ⟨wq10.heap.size, 1, none⟩ = some (.slice o10 m10 c10)) ((refine HS8.out _ ?_; first | assumption | exact Below.drew (by assumption))) (first
      | (clear tk4; go_at_call 43; refine (Nearest_an _ n d 12 22 _ (HRV.out _ _ (VX.out _ hY3.drew)) (by decide) (by decide)).mono ?_; rintro e v4 ⟨b31, o31, m31, c31, rfl, H31, hbq⟩; have hY4 : Below W8.heap.size W8 v4 := (hY3.drew).trans (hbq.mono (hY3.drew).size))
      | (clear tk5; go_at_call 44; refine (rnearest_v _ n d 27 61 _ (VP.out _ hY4) (by decide) (by decide) (by decide)).mono ?_; rintro e v5 ⟨b32, o32, m32, c32, rfl, H32, hbq⟩; have hY5 : Below W8.heap.size W8 v5 := (hY4).trans (hbq.mono (hY4).size); have H31b := An.below H31.out hbq (Nat.le_refl _))
      | (clear tk6; go_at_call 40; refine (sameInt_any _ _ _ 22 61 _ H31b H32.out (by decide)).mono ?_; rintro e v6 ⟨rfl, hbq⟩; have hY6 : Below W8.heap.size W8 v6 := (hY5).trans (hbq.mono (hY5).size)))
  clear hY3 hY4 hY5
  go_upto_region 13 with (fail)
  obtain ⟨⟨⟨⟨⟨⟨⟨⟨⟨k0, k1, k2, k3, k4, k5⟩, k6, k7, k8, k9, k10, k11⟩, k12, k13, k14, k15⟩, k16, k17⟩, k18, k19⟩, k20, k21, k22, k23⟩, k24, k25, k26, k27⟩, k28, k29⟩, k30, k31⟩ := HS8.out _ hY6
  go_wp2_with fail
  refine (is_res _ _ E1 Z1 _ (V5.out _ hY6) (V6.out _ hY6)).mono ?_
  rintro e v40 ⟨rfl, hbq⟩
  have hZ0 := bl_tr hY6 hbq
  clear k0 k1 k2 k3 k4 k5 k6 k7 k8 k9 k10 k11 k12 k13 k14 k15 k16 k17 k18 k19 k20 k21 k22 k23 k24 k25 k26 k27 k28 k29 k30 k31 hbq
  obtain ⟨⟨⟨⟨⟨⟨⟨⟨⟨k0, k1, k2, k3, k4, k5⟩, k6, k7, k8, k9, k10, k11⟩, k12, k13, k14, k15⟩, k16, k17⟩, k18, k19⟩, k20, k21, k22, k23⟩, k24, k25, k26, k27⟩, k28, k29⟩, k30, k31⟩ := HS8.out _ hZ0
  go_wp2_with fail
  refine (isRatio_pv _ _ E1 z Z2 0 _ (V7.out _ hZ0) (V8.out _ hZ0)).mono ?_
  rintro e v41 ⟨rfl, hbq⟩
  have hZ1 := bl_tr hZ0 hbq
  clear k0 k1 k2 k3 k4 k5 k6 k7 k8 k9 k10 k11 k12 k13 k14 k15 k16 k17 k18 k19 k20 k21 k22 k23 k24 k25 k26 k27 k28 k29 k30 k31 hbq
  obtain ⟨⟨⟨⟨⟨⟨⟨⟨⟨k0, k1, k2, k3, k4, k5⟩, k6, k7, k8, k9, k10, k11⟩, k12, k13, k14, k15⟩, k16, k17⟩, k18, k19⟩, k20, k21, k22, k23⟩, k24, k25, k26, k27⟩, k28, k29⟩, k30, k31⟩ := HS8.out _ hZ1
  go_wp2_with fail
  refine (is_res _ _ E2 Z3 _ (V9.out _ hZ1) (V10.out _ hZ1)).mono ?_
  rintro e v42 ⟨rfl, hbq⟩
  have hZ2 := bl_tr hZ1 hbq
  clear k0 k1 k2 k3 k4 k5 k6 k7 k8 k9 k10 k11 k12 k13 k14 k15 k16 k17 k18 k19 k20 k21 k22 k23 k24 k25 k26 k27 k28 k29 k30 k31 hbq
  obtain ⟨⟨⟨⟨⟨⟨⟨⟨⟨k0, k1, k2, k3, k4, k5⟩, k6, k7, k8, k9, k10, k11⟩, k12, k13, k14, k15⟩, k16, k17⟩, k18, k19⟩, k20, k21, k22, k23⟩, k24, k25, k26, k27⟩, k28, k29⟩, k30, k31⟩ := HS8.out _ hZ2
  go_wp2_with fail
  refine (like_any _ _ _ _ _ _ _ (VX.out _ hZ2) (VR.out _ hZ2)).mono ?_
  rintro e v43 ⟨rfl, hbq⟩
  have hZ3 := bl_tr hZ2 hbq
  clear k0 k1 k2 k3 k4 k5 k6 k7 k8 k9 k10 k11 k12 k13 k14 k15 k16 k17 k18 k19 k20 k21 k22 k23 k24 k25 k26 k27 k28 k29 k30 k31 hbq
  obtain ⟨⟨⟨⟨⟨⟨⟨⟨⟨k0, k1, k2, k3, k4, k5⟩, k6, k7, k8, k9, k10, k11⟩, k12, k13, k14, k15⟩, k16, k17⟩, k18, k19⟩, k20, k21, k22, k23⟩, k24, k25, k26, k27⟩, k28, k29⟩, k30, k31⟩ := HS8.out _ hZ3
  go_wp2_with fail
  refine (likeInt_any _ _ _ _ _ (VY.out _ hZ3) (VN.out _ hZ3)).mono ?_
  rintro e v44 ⟨rfl, hbq⟩
  have hZ4 := bl_tr hZ3 hbq
  clear k0 k1 k2 k3 k4 k5 k6 k7 k8 k9 k10 k11 k12 k13 k14 k15 k16 k17 k18 k19 k20 k21 k22 k23 k24 k25 k26 k27 k28 k29 k30 k31 hbq
  go_wp2
  go_ret
  exact ⟨rfl, HB8.out.trans (hZ4.mono HB8.out.size)⟩
end Go.Proofs.YtbapeilpkhbbeaaGreat
