/- Fractions: floor, nearest, shifted; exact.Floor, Fixed, FromFixed, RootFixed. Written by gen_near.py. -/
import Derived.Test.YtbapeilpkhbbeaaGreatDoorYn16
import Derived.Test.YtbapeilpkhbbeaaGreatDoorYn28
import Derived.Test.YtbapeilpkhbbeaaGreatDoorYn30
import Derived.Test.YtbapeilpkhbbeaaGreatDoorYn09
import Derived.Test.YtbapeilpkhbbeaaGreatDoorYn29
/- Fractions: floor, nearest, shifted; exact.Floor, Fixed, FromFixed, RootFixed. Written by gen_near.py. -/
namespace Go.Proofs.YtbapeilpkhbbeaaGreatDoor
open Go.RowKit

set_option maxRecDepth 100000 in
set_option maxHeartbeats 1000000 in
theorem floor_any (v : Value) (z d : Int) (K : Nat) (w : World) (hv : Ft w v z d K) (hd : d ≠ 0) (hK : K ≤ 1073741820) :
    Calls Tryz.prog 56 #[v] w (RetI w (z.fdiv d) (K + 2)) := by
  obtain ⟨xb, xo, xm, xc, po, pm, pc, rfl, Hx, HP, Hxb⟩ := Ft.opened hv
  clear hv
  have Hd := hid hd
  clear hd
  obtain ⟨W0, hW0⟩ : ∃ W0, W0 = ((w.alloc (.cells #[.bool xb, .slice xo xm xc, .slice po pm pc] 58)).alloc (.cells #[.bool false, .slice none 0 0] 56)) := ⟨_, rfl⟩
  have hB0 : Below w.heap.size w W0 := by rw [hW0]; exact ((Below.refl _ _).alloc (Nat.le_refl _) _).alloc (by simp <;> omega) _
  have hz0 : W0.heap.size = w.heap.size + 2 := by rw [hW0]; simp
  have HS : Hid (∀ w', Below (w.heap.size + 1) W0 w' → w'.cell? ⟨w.heap.size, 0, none⟩ = some (.bool xb) ∧ w'.cell? ⟨w.heap.size, 1, none⟩ = some (.slice xo xm xc) ∧ w'.cell? ⟨w.heap.size, 2, none⟩ = some (.slice po pm pc)) := hid (fun w' hb => by
    refine ⟨?_, ?_, ?_⟩ <;> (first | (rw [hb.cell (by simp <;> omega), hW0]; simp [go_sem]; done) | (rw [hb.frozen (by simp <;> omega), hW0]; simp [go_sem]; done)))
  have HT : Hid (∀ w', Below (w.heap.size + 2) W0 w' → (w'.cell? ⟨w.heap.size + 1, 0, none⟩ = some (.bool false) ∧ w'.cell? ⟨w.heap.size + 1, 1, none⟩ = some (.slice none 0 0)) ∧ (w'.frozen? ⟨w.heap.size + 1, 0, none⟩ = false ∧ w'.frozen? ⟨w.heap.size + 1, 1, none⟩ = false)) := hid (fun w' hb => by
    refine ⟨⟨?_, ?_⟩, ?_, ?_⟩ <;> (first | (rw [hb.cell (by simp <;> omega), hW0]; simp [go_sem]; done) | (rw [hb.frozen (by simp <;> omega), hW0]; simp [go_sem]; done)))
  have HB0 := hid hB0; have Hz0 := hid hz0; have HW := hid hW0
  clear hW0 hB0 hz0
  have hX0 := Below.refl W0.heap.size W0
  go_enter Tryz.func56, Tryz.ntmps56
  go_upto_region 1 with (fail)
  rw [← HW.out]
  have HKG : Hid (AllKeep [(false, (fun wq vq => vq = .pointer (some ⟨w.heap.size, 0, none⟩)), undef), (false, (fun wq vq => vq = .agg #[.bool xb, .slice xo xm xc]), undef), (false, (fun wq vq => vq = .pointer (some ⟨w.heap.size, 2, none⟩)), undef), (false, (fun wq vq => vq = .slice po pm pc), undef), (false, (fun wq vq => It wq vq (d) (K)), undef), (false, (fun wq vq => ∃ a b, vq = .tuple #[a, b] ∧ (fun wq vq => It wq vq (z.fdiv d) (K + 2)) wq a ∧ (fun wq vq => It wq vq (z.fmod d) (K)) wq b), undef), (false, (fun wq vq => ∃ a b, vq = .tuple #[a, b] ∧ (fun wq vq => It wq vq (z.fdiv d) (K + 2)) wq a ∧ (fun wq vq => It wq vq (z.fmod d) (K)) wq b), undef), (false, (fun wq vq => It wq vq (z.fdiv d) (K + 2)), undef), (false, (fun wq vq => It wq vq (z.fmod d) (K)), undef)]) := hid ⟨kcV _, kcV _, kcV _, kcV _, itV _ _, twoV (itV _ _) (itV _ _), twoV (itV _ _) (itV _ _), itV _ _, itV _ _, trivial⟩
  refine region_inv (by kernel_rfl) (fun L act w' => ∃ f0 f1 f2 f3 f4 f5 f6 f7 f8 f9 f10 f11 f12, L = #[f0, f1, f2, f3, f4, f5, f6, f7, f8, f9, f10, f11, f12] ∧ (f11 = true → f9 = true ∧ f7 = true) ∧ (f12 = true → f10 = true ∧ f8 = true) ∧ ∃ s6 s7 s8 s9 s10 s11 s5 s12 s13 s3 s4, act = { tmps := #[.agg #[.bool xb, .slice xo xm xc, .slice po pm pc], .pointer (some ⟨w.heap.size, 0, none⟩), .pointer (some ⟨w.heap.size + 1, 0, none⟩), s3, s4, s5, s6, s7, s8, s9, s10, s11, s12, s13, undef], defers := [] } ∧ RX W0.heap.size W0 [(f0, (fun wq vq => vq = .pointer (some ⟨w.heap.size, 0, none⟩)), s6), (f1, (fun wq vq => vq = .agg #[.bool xb, .slice xo xm xc]), s7), (f2, (fun wq vq => vq = .pointer (some ⟨w.heap.size, 2, none⟩)), s8), (f3, (fun wq vq => vq = .slice po pm pc), s9), (f4, (fun wq vq => It wq vq (d) (K)), s10), (f5, (fun wq vq => ∃ a b, vq = .tuple #[a, b] ∧ (fun wq vq => It wq vq (z.fdiv d) (K + 2)) wq a ∧ (fun wq vq => It wq vq (z.fmod d) (K)) wq b), s11), (f6, (fun wq vq => ∃ a b, vq = .tuple #[a, b] ∧ (fun wq vq => It wq vq (z.fdiv d) (K + 2)) wq a ∧ (fun wq vq => It wq vq (z.fmod d) (K)) wq b), s5), (f7, (fun wq vq => It wq vq (z.fdiv d) (K + 2)), s12), (f8, (fun wq vq => It wq vq (z.fmod d) (K)), s13)] [(2, f9, f11, s3, s12), (2, f10, f12, s4, s13)] w') ?_ ?_ ?_
  · exact ⟨_, _, _, _, _, _, _, _, _, _, _, _, _, rfl, nofun, nofun, _, _, _, _, _, _, _, _, _, _, _, rfl, hX0.drew, hX0.size, ⟨nofun, nofun, nofun, nofun, nofun, nofun, nofun, nofun, nofun, trivial⟩, ⟨nofun, nofun, trivial⟩, ⟨⟨nofun, trivial⟩, trivial, trivial⟩⟩
  · rintro L act w' i hs ⟨f0, f1, f2, f3, f4, f5, f6, f7, f8, f9, f10, f11, f12, rfl, d0, d1, s6, s7, s8, s9, s10, s11, s5, s12, s13, s3, s4, rfl, J⟩ hi
    obtain ⟨hi, hn, hd⟩ := waits_spec (dep := [[], [0], [], [2], [3], [1, 4], [5], [6], [6], [], [], [9, 7, 5], [10, 8, 11]]) (by kernel_rfl) hi
    have hiN : i < 13 := hi
    obtain ⟨k0, k1, k2⟩ := (hid (fun w' (hb : Below W0.heap.size W0 w') => HS.out w' (hb.mono (by have := Hz0.out; omega)))).out w' J.bel
    have HJ := hid J
    rcases (show i = 0 ∨ i = 1 ∨ i = 2 ∨ i = 3 ∨ i = 4 ∨ i = 5 ∨ i = 6 ∨ i = 7 ∨ i = 8 ∨ i = 9 ∨ i = 10 ∨ i = 11 ∨ i = 12 by omega) with rfl | rfl | rfl | rfl | rfl | rfl | rfl | rfl | rfl | rfl | rfl | rfl | rfl
    · clear J hd hi hiN hn
      refine wpOp_step rfl (fun kq hKq => ?_)
      go_simp
      exact hKq _ _ ⟨true, f1, f2, f3, f4, f5, f6, f7, f8, f9, f10, f11, f12, rfl, d0, d1, _, _, _, _, _, _, _, _, _, _, _, rfl, HJ.out.bel, HJ.out.siz, ⟨fun _ => rfl, HJ.out.vals.2.1, HJ.out.vals.2.2.1, HJ.out.vals.2.2.2.1, HJ.out.vals.2.2.2.2.1, HJ.out.vals.2.2.2.2.2.1, HJ.out.vals.2.2.2.2.2.2.1, HJ.out.vals.2.2.2.2.2.2.2.1, HJ.out.vals.2.2.2.2.2.2.2.2.1, trivial⟩, ⟨HJ.out.boxes.1, HJ.out.boxes.2.1, trivial⟩, HJ.out.ne⟩
    · have e6 : s6 = .pointer (some ⟨w.heap.size, 0, none⟩) := J.vals.1 (hd 0 (by simp))
      subst e6
      clear J hd hi hiN hn
      refine wpOp_step rfl (fun kq hKq => ?_)
      go_simp
      exact hKq _ _ ⟨f0, true, f2, f3, f4, f5, f6, f7, f8, f9, f10, f11, f12, rfl, d0, d1, _, _, _, _, _, _, _, _, _, _, _, rfl, HJ.out.bel, HJ.out.siz, ⟨HJ.out.vals.1, fun _ => rfl, HJ.out.vals.2.2.1, HJ.out.vals.2.2.2.1, HJ.out.vals.2.2.2.2.1, HJ.out.vals.2.2.2.2.2.1, HJ.out.vals.2.2.2.2.2.2.1, HJ.out.vals.2.2.2.2.2.2.2.1, HJ.out.vals.2.2.2.2.2.2.2.2.1, trivial⟩, ⟨HJ.out.boxes.1, HJ.out.boxes.2.1, trivial⟩, HJ.out.ne⟩
    · clear J hd hi hiN hn
      refine wpOp_step rfl (fun kq hKq => ?_)
      go_simp
      exact hKq _ _ ⟨f0, f1, true, f3, f4, f5, f6, f7, f8, f9, f10, f11, f12, rfl, d0, d1, _, _, _, _, _, _, _, _, _, _, _, rfl, HJ.out.bel, HJ.out.siz, ⟨HJ.out.vals.1, HJ.out.vals.2.1, fun _ => rfl, HJ.out.vals.2.2.2.1, HJ.out.vals.2.2.2.2.1, HJ.out.vals.2.2.2.2.2.1, HJ.out.vals.2.2.2.2.2.2.1, HJ.out.vals.2.2.2.2.2.2.2.1, HJ.out.vals.2.2.2.2.2.2.2.2.1, trivial⟩, ⟨HJ.out.boxes.1, HJ.out.boxes.2.1, trivial⟩, HJ.out.ne⟩
    · have e8 : s8 = .pointer (some ⟨w.heap.size, 2, none⟩) := J.vals.2.2.1 (hd 2 (by simp))
      subst e8
      clear J hd hi hiN hn
      refine wpOp_step rfl (fun kq hKq => ?_)
      go_simp
      exact hKq _ _ ⟨f0, f1, f2, true, f4, f5, f6, f7, f8, f9, f10, f11, f12, rfl, d0, d1, _, _, _, _, _, _, _, _, _, _, _, rfl, HJ.out.bel, HJ.out.siz, ⟨HJ.out.vals.1, HJ.out.vals.2.1, HJ.out.vals.2.2.1, fun _ => rfl, HJ.out.vals.2.2.2.2.1, HJ.out.vals.2.2.2.2.2.1, HJ.out.vals.2.2.2.2.2.2.1, HJ.out.vals.2.2.2.2.2.2.2.1, HJ.out.vals.2.2.2.2.2.2.2.2.1, trivial⟩, ⟨HJ.out.boxes.1, HJ.out.boxes.2.1, trivial⟩, HJ.out.ne⟩
    · obtain rfl : f4 = false := hn
      have e9 : s9 = .slice po pm pc := J.vals.2.2.2.1 (hd 3 (by simp))
      subst e9
      have hw := J.bel
      clear J hd hi hiN
      refine wpOp_step rfl (fun kq hKq => ?_)
      go_simp
      refine (signed_any false _ d K _ (HP.out _ (HB0.out.trans (hw.mono HB0.out.size)))).mono ?_
      rintro e wz ⟨zv, rfl, HZ, hb⟩
      have J2 := RX.step HJ.out HKG.out hb
      exact hKq _ _ ⟨f0, f1, f2, f3, true, f5, f6, f7, f8, f9, f10, f11, f12, rfl, d0, d1, _, _, _, _, _, _, _, _, _, _, _, rfl, J2.bel, J2.siz, ⟨J2.vals.1, J2.vals.2.1, J2.vals.2.2.1, J2.vals.2.2.2.1, fun _ => HZ, J2.vals.2.2.2.2.2.1, J2.vals.2.2.2.2.2.2.1, J2.vals.2.2.2.2.2.2.2.1, J2.vals.2.2.2.2.2.2.2.2.1, trivial⟩, ⟨J2.boxes.1, J2.boxes.2.1, trivial⟩, J2.ne⟩
    · obtain rfl : f5 = false := hn
      have e7 : s7 = .agg #[.bool xb, .slice xo xm xc] := J.vals.2.1 (hd 1 (by simp))
      subst e7
      have h10 : (fun wq vq => It wq vq (d) (K)) w' s10 := J.vals.2.2.2.2.1 (hd 4 (by simp))
      have hw := J.bel
      clear J hd hi hiN
      refine wpOp_step rfl (fun kq hKq => ?_)
      go_simp
      refine (over_any _ _ z d K _ (Hx.out _ (HB0.out.trans (hw.mono HB0.out.size))) h10 Hd.out hK).mono ?_
      rintro e wz ⟨ua, ub, rfl, HZ, HY, hb⟩
      have J2 := RX.step HJ.out HKG.out hb
      exact hKq _ _ ⟨f0, f1, f2, f3, f4, true, f6, f7, f8, f9, f10, f11, f12, rfl, d0, d1, _, _, _, _, _, _, _, _, _, _, _, rfl, J2.bel, J2.siz, ⟨J2.vals.1, J2.vals.2.1, J2.vals.2.2.1, J2.vals.2.2.2.1, J2.vals.2.2.2.2.1, fun _ => ⟨_, _, rfl, HZ, HY⟩, J2.vals.2.2.2.2.2.2.1, J2.vals.2.2.2.2.2.2.2.1, J2.vals.2.2.2.2.2.2.2.2.1, trivial⟩, ⟨J2.boxes.1, J2.boxes.2.1, trivial⟩, J2.ne⟩
    · obtain ⟨ta11, tb11, rfl, ha11, hb11⟩ := J.vals.2.2.2.2.2.1 (hd 5 (by simp))
      clear J hd hi hiN hn
      refine wpOp_step rfl (fun kq hKq => ?_)
      go_simp
      exact hKq _ _ ⟨f0, f1, f2, f3, f4, f5, true, f7, f8, f9, f10, f11, f12, rfl, d0, d1, _, _, _, _, _, _, _, _, _, _, _, rfl, HJ.out.bel, HJ.out.siz, ⟨HJ.out.vals.1, HJ.out.vals.2.1, HJ.out.vals.2.2.1, HJ.out.vals.2.2.2.1, HJ.out.vals.2.2.2.2.1, HJ.out.vals.2.2.2.2.2.1, fun _ => ⟨_, _, rfl, ha11, hb11⟩, HJ.out.vals.2.2.2.2.2.2.2.1, HJ.out.vals.2.2.2.2.2.2.2.2.1, trivial⟩, ⟨HJ.out.boxes.1, HJ.out.boxes.2.1, trivial⟩, HJ.out.ne⟩
    · obtain rfl : f7 = false := hn
      obtain rfl : f11 = false := by cases f11 with | false => rfl | true => exact absurd (d0 rfl).2 (by simp)
      obtain ⟨ta5, tb5, rfl, ha5, hb5⟩ := J.vals.2.2.2.2.2.2.1 (hd 6 (by simp))
      clear J hd hi hiN d0
      refine wpOp_step rfl (fun kq hKq => ?_)
      go_simp
      exact hKq _ _ ⟨f0, f1, f2, f3, f4, f5, f6, true, f8, f9, f10, false, f12, rfl, nofun, d1, _, _, _, _, _, _, _, _, _, _, _, rfl, HJ.out.bel, HJ.out.siz, ⟨HJ.out.vals.1, HJ.out.vals.2.1, HJ.out.vals.2.2.1, HJ.out.vals.2.2.2.1, HJ.out.vals.2.2.2.2.1, HJ.out.vals.2.2.2.2.2.1, HJ.out.vals.2.2.2.2.2.2.1, fun _ => ha5, HJ.out.vals.2.2.2.2.2.2.2.2.1, trivial⟩, ⟨fun e => (HJ.out.boxes.1 e).fresh, HJ.out.boxes.2.1, trivial⟩, HJ.out.ne⟩
    · obtain rfl : f8 = false := hn
      obtain rfl : f12 = false := by cases f12 with | false => rfl | true => exact absurd (d1 rfl).2 (by simp)
      obtain ⟨ta5, tb5, rfl, ha5, hb5⟩ := J.vals.2.2.2.2.2.2.1 (hd 6 (by simp))
      clear J hd hi hiN d1
      refine wpOp_step rfl (fun kq hKq => ?_)
      go_simp
      exact hKq _ _ ⟨f0, f1, f2, f3, f4, f5, f6, f7, true, f9, f10, f11, false, rfl, d0, nofun, _, _, _, _, _, _, _, _, _, _, _, rfl, HJ.out.bel, HJ.out.siz, ⟨HJ.out.vals.1, HJ.out.vals.2.1, HJ.out.vals.2.2.1, HJ.out.vals.2.2.2.1, HJ.out.vals.2.2.2.2.1, HJ.out.vals.2.2.2.2.2.1, HJ.out.vals.2.2.2.2.2.2.1, HJ.out.vals.2.2.2.2.2.2.2.1, fun _ => hb5, trivial⟩, ⟨HJ.out.boxes.1, fun e => (HJ.out.boxes.2.1 e).fresh, trivial⟩, HJ.out.ne⟩
    · obtain rfl : f9 = false := hn
      obtain rfl : f11 = false := by cases f11 with | false => rfl | true => exact absurd (d0 rfl).1 (by simp)
      clear J hd hi hiN d0
      refine wpOp_step rfl (fun kq hKq => ?_)
      go_simp
      have J2 := RX.step HJ.out HKG.out (bl_new (w := w') (.cells #[.bool false, .slice none 0 0] 56))
      exact hKq _ _ ⟨f0, f1, f2, f3, f4, f5, f6, f7, f8, true, f10, false, f12, rfl, nofun, d1, _, _, _, _, _, _, _, _, _, _, _, rfl, J2.bel, J2.siz, J2.vals, ⟨fun _ => boxn_new _ w' _ _ [.bool false, .slice none 0 0] (by intro i k x hi; match i, hi with | 0, _ => nofun | 1, _ => nofun) HJ.out.siz, J2.boxes.2.1, trivial⟩, ⟨⟨fun _ e => (boxn_ne_new (HJ.out.boxes.2.1 e)).symm, trivial⟩, trivial, trivial⟩⟩
    · obtain rfl : f10 = false := hn
      obtain rfl : f12 = false := by cases f12 with | false => rfl | true => exact absurd (d1 rfl).1 (by simp)
      clear J hd hi hiN d1
      refine wpOp_step rfl (fun kq hKq => ?_)
      go_simp
      have J2 := RX.step HJ.out HKG.out (bl_new (w := w') (.cells #[.bool false, .slice none 0 0] 56))
      exact hKq _ _ ⟨f0, f1, f2, f3, f4, f5, f6, f7, f8, f9, true, f11, false, rfl, d0, nofun, _, _, _, _, _, _, _, _, _, _, _, rfl, J2.bel, J2.siz, J2.vals, ⟨J2.boxes.1, fun _ => boxn_new _ w' _ _ [.bool false, .slice none 0 0] (by intro i k x hi; match i, hi with | 0, _ => nofun | 1, _ => nofun) HJ.out.siz, trivial⟩, ⟨⟨fun e _ => boxn_ne_new (HJ.out.boxes.1 e), trivial⟩, trivial, trivial⟩⟩
    · obtain rfl : f9 = true := hd 9 (by simp)
      obtain rfl : f7 = true := hd 7 (by simp)
      obtain ⟨bq, oq, mq, cq, rfl, _⟩ := It.opened (J.vals.2.2.2.2.2.2.2.1 rfl)
      have HBX : Hid _ := hid (J.boxes.1 rfl)
      obtain ⟨p, vs, rfl, hp, hl, hnn, hc, hf, _⟩ := J.boxes.1 rfl
      have cc0 := hc 0 (by decide)
      have ff0 := hf 0 (by decide)
      have cc1 := hc 1 (by decide)
      have ff1 := hf 1 (by decide)
      clear J hd hi hiN hn hc hf hnn hl
      refine wpOp_step rfl (fun kq hKq => ?_)
      go_simp
      exact hKq _ _ ⟨f0, f1, f2, f3, f4, f5, f6, true, f8, true, f10, true, f12, rfl, fun _ => ⟨rfl, rfl⟩, d1, _, _, _, _, _, _, _, _, _, _, _, rfl, below_setCells hp [.bool bq, .slice oq mq cq] 0 HJ.out.bel, Nat.le_trans HJ.out.siz (Nat.le_of_eq (size_setCells p [.bool bq, .slice oq mq cq] 0 w').symm), Vals.keep HKG.out (BoxN.keeps HBX.out (us := [.bool bq, .slice oq mq cq]) rfl) HJ.out.vals, ⟨fun _ => BoxN.store HBX.out [.bool bq, .slice oq mq cq] rfl (by intro i k x hi; match i, hi with | 0, _ => nofun | 1, _ => nofun), fun e => BoxN.other (HJ.out.boxes.2.1 e) ((HJ.out.ne.1.1 rfl e).symm) 0 [.bool bq, .slice oq mq cq], trivial⟩, HJ.out.ne⟩
    · obtain rfl : f10 = true := hd 10 (by simp)
      obtain rfl : f8 = true := hd 8 (by simp)
      obtain ⟨bq, oq, mq, cq, rfl, _⟩ := It.opened (J.vals.2.2.2.2.2.2.2.2.1 rfl)
      have HBX : Hid _ := hid (J.boxes.2.1 rfl)
      obtain ⟨p, vs, rfl, hp, hl, hnn, hc, hf, _⟩ := J.boxes.2.1 rfl
      have cc0 := hc 0 (by decide)
      have ff0 := hf 0 (by decide)
      have cc1 := hc 1 (by decide)
      have ff1 := hf 1 (by decide)
      clear J hd hi hiN hn hc hf hnn hl
      refine wpOp_step rfl (fun kq hKq => ?_)
      go_simp
      exact hKq _ _ ⟨f0, f1, f2, f3, f4, f5, f6, f7, true, f9, true, f11, true, rfl, d0, fun _ => ⟨rfl, rfl⟩, _, _, _, _, _, _, _, _, _, _, _, rfl, below_setCells hp [.bool bq, .slice oq mq cq] 0 HJ.out.bel, Nat.le_trans HJ.out.siz (Nat.le_of_eq (size_setCells p [.bool bq, .slice oq mq cq] 0 w').symm), Vals.keep HKG.out (BoxN.keeps HBX.out (us := [.bool bq, .slice oq mq cq]) rfl) HJ.out.vals, ⟨fun e => BoxN.other (HJ.out.boxes.1 e) (HJ.out.ne.1.1 e rfl) 0 [.bool bq, .slice oq mq cq], fun _ => BoxN.store HBX.out [.bool bq, .slice oq mq cq] rfl (by intro i k x hi; match i, hi with | 0, _ => nofun | 1, _ => nofun), trivial⟩, HJ.out.ne⟩
  rintro L act w' hs ⟨f0, f1, f2, f3, f4, f5, f6, f7, f8, f9, f10, f11, f12, rfl, _, _, s6, s7, s8, s9, s10, s11, s5, s12, s13, s3, s4, rfl, J⟩ hr
  have hd := early_done (by kernel_rfl) hs hr 13
  obtain rfl : f0 = true := hd 0 (by omega) (by simp)
  obtain rfl : f1 = true := hd 1 (by omega) (by simp)
  obtain rfl : f2 = true := hd 2 (by omega) (by simp)
  obtain rfl : f3 = true := hd 3 (by omega) (by simp)
  obtain rfl : f4 = true := hd 4 (by omega) (by simp)
  obtain rfl : f5 = true := hd 5 (by omega) (by simp)
  obtain rfl : f6 = true := hd 6 (by omega) (by simp)
  obtain rfl : f7 = true := hd 7 (by omega) (by simp)
  obtain rfl : f8 = true := hd 8 (by omega) (by simp)
  obtain rfl : f9 = true := hd 9 (by omega) (by simp)
  obtain rfl : f10 = true := hd 10 (by omega) (by simp)
  obtain rfl : f11 = true := hd 11 (by omega) (by simp)
  obtain rfl : f12 = true := hd 12 (by omega) (by simp)
  have e6 : s6 = .pointer (some ⟨w.heap.size, 0, none⟩) := J.vals.1 rfl
  subst e6
  have e7 : s7 = .agg #[.bool xb, .slice xo xm xc] := J.vals.2.1 rfl
  subst e7
  have e8 : s8 = .pointer (some ⟨w.heap.size, 2, none⟩) := J.vals.2.2.1 rfl
  subst e8
  have e9 : s9 = .slice po pm pc := J.vals.2.2.2.1 rfl
  subst e9
  have hg3 : (fun wq vq => It wq vq (z.fdiv d) (K + 2)) w' s12 := J.vals.2.2.2.2.2.2.2.1 rfl
  obtain ⟨bx3, ox3, mx3, cx3, rfl, _⟩ := It.opened hg3
  obtain ⟨p3, rfl, hp3, hl3, hc3⟩ := BoxN.done (us := [.bool bx3, .slice ox3 mx3 cx3]) (J.boxes.1 rfl)
  have k3_0 : w'.cell? ⟨p3, 0, none⟩ = some (.bool bx3) := (hc3 0 (by decide)).1
  have k3_1 : w'.cell? ⟨p3, 1, none⟩ = some (.slice ox3 mx3 cx3) := (hc3 1 (by decide)).1
  clear hc3
  have hg4 : (fun wq vq => It wq vq (z.fmod d) (K)) w' s13 := J.vals.2.2.2.2.2.2.2.2.1 rfl
  obtain ⟨bx4, ox4, mx4, cx4, rfl, _⟩ := It.opened hg4
  obtain ⟨p4, rfl, hp4, hl4, hc4⟩ := BoxN.done (us := [.bool bx4, .slice ox4 mx4 cx4]) (J.boxes.2.1 rfl)
  have k4_0 : w'.cell? ⟨p4, 0, none⟩ = some (.bool bx4) := (hc4 0 (by decide)).1
  have k4_1 : w'.cell? ⟨p4, 1, none⟩ = some (.slice ox4 mx4 cx4) := (hc4 1 (by decide)).1
  clear hc4
  have hbel := J.bel
  have hsiz := J.siz
  have hv10 : (fun wq vq => It wq vq (d) (K)) w' s10 := J.vals.2.2.2.2.1 rfl
  clear hd hr hs J
  obtain ⟨⟨hr0, hr1⟩, hf0, hf1⟩ := HT.out _ (hbel.mono (by have := Hz0.out; omega))
  have hw2 : Below w.heap.size w w' := HB0.out.trans (hbel.mono HB0.out.size)
  have hg := hid hg3
  clear hg3 hg4
  go_wp2
  refine bodyPost_ret (v := .agg #[.bool bx3, .slice ox3 mx3 cx3]) (by simp [results, Tryz.results56, go_sem, hr0, hr1]) rfl ⟨_, rfl, ?_, ((hw2.setCell (by simp <;> omega) _).setCell (by simp <;> omega) _)⟩
  exact it_keeps (((Keeps.refl _ _).setCell (u := .bool false) hr0 (fun x h => (by cases h)) _).setCell (u := .slice none 0 0) (by simp [go_sem, hr1]) (fun x h => (by cases h)) _) hg.out
theorem It.nt {w : World} {b : Bool} {o : Option Addr} {m c : Nat} {z : Int} {K : Nat} (h : It w (.agg #[.bool b, .slice o m c]) z K) : Nt w (.slice o m c) (z.natAbs : Int) K := by
  obtain ⟨s, e, h⟩ := h
  simp only [Value.agg.injEq, Array.mk.injEq, List.cons.injEq, and_true] at e
  obtain ⟨_, rfl⟩ := e
  exact h
theorem shl1 (va : Value) (a : Int) (K : Nat) (w : World) (hA : Nt w va a K) (hK : K ≤ 1073741824) : Calls Tryz.prog 54 #[va, .int .i64 1] w (RetN w (a * 2) (K + 1)) := by
  have := shiftLeft_any va a 1 K w hA hK (by decide)
  simpa using this
theorem signed_eq (neg : Bool) (s : Value) (n z : Int) (K : Nat) (w : World) (h : Nt w s n K) (hz : sgn neg n = z) : Calls Tryz.prog 21 #[.bool neg, s] w (RetI w z K) := by
  rw [← hz]; exact signed_any neg s n K w h
theorem sgn_scale (z m : Int) : sgn (decide (z < 0)) ((z.natAbs : Int) * m) = z * m := by
  unfold sgn
  by_cases h : z < 0
  · rw [decide_eq_true h, if_pos rfl, ← Int.neg_mul]; congr 1; omega
  · rw [decide_eq_false h, if_neg (by decide)]; congr 1; omega

set_option maxRecDepth 100000 in
set_option maxHeartbeats 1000000 in
theorem nearest_any (v : Value) (z d : Int) (K : Nat) (w : World) (hv : Ft w v z d K) (hd : 0 < d) (hK : K ≤ 1073741800) :
    Calls Tryz.prog 23 #[v] w (RetI w ((z * 2 + d).fdiv (d * 2)) (K + 4)) := by
  obtain ⟨xb, xo, xm, xc, po, pm, pc, rfl, Hx, HP, Hxb⟩ := Ft.opened hv
  clear hv
  have Hd := hid hd
  have Hk := hid hK
  have HSZ := hid (show sgn xb ((z.natAbs : Int) * 2) = z * 2 by rw [Hxb.out]; exact sgn_scale z 2)
  have Hxs := hid (fun (w' : World) (hb : Below w.heap.size w w') => (Hx.out w' hb).nt)
  clear hd hK
  obtain ⟨W0, hW0⟩ : ∃ W0, W0 = ((w.alloc (.cells #[.bool xb, .slice xo xm xc, .slice po pm pc] 58)).alloc (.cells #[.bool false, .slice none 0 0] 56)) := ⟨_, rfl⟩
  have hB0 : Below w.heap.size w W0 := by rw [hW0]; exact ((Below.refl _ _).alloc (Nat.le_refl _) _).alloc (by simp <;> omega) _
  have hz0 : W0.heap.size = w.heap.size + 2 := by rw [hW0]; simp
  have HS : Hid (∀ w', Below (w.heap.size + 1) W0 w' → w'.cell? ⟨w.heap.size, 0, none⟩ = some (.bool xb) ∧ w'.cell? ⟨w.heap.size, 1, none⟩ = some (.slice xo xm xc) ∧ w'.cell? ⟨w.heap.size, 2, none⟩ = some (.slice po pm pc)) := hid (fun w' hb => by
    refine ⟨?_, ?_, ?_⟩ <;> (first | (rw [hb.cell (by simp <;> omega), hW0]; simp [go_sem]; done) | (rw [hb.frozen (by simp <;> omega), hW0]; simp [go_sem]; done)))
  have HT : Hid (∀ w', Below (w.heap.size + 2) W0 w' → (w'.cell? ⟨w.heap.size + 1, 0, none⟩ = some (.bool false) ∧ w'.cell? ⟨w.heap.size + 1, 1, none⟩ = some (.slice none 0 0)) ∧ (w'.frozen? ⟨w.heap.size + 1, 0, none⟩ = false ∧ w'.frozen? ⟨w.heap.size + 1, 1, none⟩ = false)) := hid (fun w' hb => by
    refine ⟨⟨?_, ?_⟩, ?_, ?_⟩ <;> (first | (rw [hb.cell (by simp <;> omega), hW0]; simp [go_sem]; done) | (rw [hb.frozen (by simp <;> omega), hW0]; simp [go_sem]; done)))
  have HB0 := hid hB0; have Hz0 := hid hz0; have HW := hid hW0
  clear hW0 hB0 hz0
  have hX0 := Below.refl W0.heap.size W0
  go_enter Tryz.func23, Tryz.ntmps23
  go_upto_region 1 with (fail)
  rw [← HW.out]
  have HKG : Hid (AllKeep [(false, (fun wq vq => vq = .pointer (some ⟨w.heap.size, 0, none⟩)), undef), (false, (fun wq vq => vq = .pointer (some ⟨w.heap.size, 0, none⟩)), undef), (false, (fun wq vq => vq = .bool xb), undef), (false, (fun wq vq => vq = .pointer (some ⟨w.heap.size, 0, none⟩)), undef), (false, (fun wq vq => vq = .pointer (some ⟨w.heap.size, 1, none⟩)), undef), (false, (fun wq vq => vq = .slice xo xm xc), undef), (false, (fun wq vq => Nt wq vq ((z.natAbs : Int) * 2) (K + 1)), undef), (false, (fun wq vq => It wq vq (z * 2) (K + 1)), undef)]) := hid ⟨kcV _, kcV _, kcV _, kcV _, kcV _, kcV _, ntV _ _, itV _ _, trivial⟩
  refine region_inv (by kernel_rfl) (fun L act w' => ∃ f0 f1 f2 f3 f4 f5 f6 f7 f8 f9, L = #[f0, f1, f2, f3, f4, f5, f6, f7, f8, f9] ∧ (f9 = true → f8 = true ∧ f7 = true) ∧ ∃ s4 s5 s6 s7 s8 s9 s10 s11 s3, act = { tmps := #[.agg #[.bool xb, .slice xo xm xc, .slice po pm pc], .pointer (some ⟨w.heap.size, 0, none⟩), .pointer (some ⟨w.heap.size + 1, 0, none⟩), s3, s4, s5, s6, s7, s8, s9, s10, s11, undef, undef, undef, undef, undef, undef, undef, undef, undef, undef], defers := [] } ∧ RX W0.heap.size W0 [(f0, (fun wq vq => vq = .pointer (some ⟨w.heap.size, 0, none⟩)), s4), (f1, (fun wq vq => vq = .pointer (some ⟨w.heap.size, 0, none⟩)), s5), (f2, (fun wq vq => vq = .bool xb), s6), (f3, (fun wq vq => vq = .pointer (some ⟨w.heap.size, 0, none⟩)), s7), (f4, (fun wq vq => vq = .pointer (some ⟨w.heap.size, 1, none⟩)), s8), (f5, (fun wq vq => vq = .slice xo xm xc), s9), (f6, (fun wq vq => Nt wq vq ((z.natAbs : Int) * 2) (K + 1)), s10), (f7, (fun wq vq => It wq vq (z * 2) (K + 1)), s11)] [(2, f8, f9, s3, s11)] w') ?_ ?_ ?_
  · exact ⟨_, _, _, _, _, _, _, _, _, _, rfl, nofun, _, _, _, _, _, _, _, _, _, rfl, hX0.drew, hX0.size, ⟨nofun, nofun, nofun, nofun, nofun, nofun, nofun, nofun, trivial⟩, ⟨nofun, trivial⟩, ⟨trivial, trivial⟩⟩
  · rintro L act w' i hs ⟨f0, f1, f2, f3, f4, f5, f6, f7, f8, f9, rfl, d0, s4, s5, s6, s7, s8, s9, s10, s11, s3, rfl, J⟩ hi
    obtain ⟨hi, hn, hd⟩ := waits_spec (dep := [[], [0], [1], [], [3], [4], [5], [2, 6], [], [8, 7]]) (by kernel_rfl) hi
    have hiN : i < 10 := hi
    obtain ⟨k0, k1, k2⟩ := (hid (fun w' (hb : Below W0.heap.size W0 w') => HS.out w' (hb.mono (by have := Hz0.out; omega)))).out w' J.bel
    have HJ := hid J
    rcases (show i = 0 ∨ i = 1 ∨ i = 2 ∨ i = 3 ∨ i = 4 ∨ i = 5 ∨ i = 6 ∨ i = 7 ∨ i = 8 ∨ i = 9 by omega) with rfl | rfl | rfl | rfl | rfl | rfl | rfl | rfl | rfl | rfl
    · clear J hd hi hiN hn
      refine wpOp_step rfl (fun kq hKq => ?_)
      go_simp
      exact hKq _ _ ⟨true, f1, f2, f3, f4, f5, f6, f7, f8, f9, rfl, d0, _, _, _, _, _, _, _, _, _, rfl, HJ.out.bel, HJ.out.siz, ⟨fun _ => rfl, HJ.out.vals.2.1, HJ.out.vals.2.2.1, HJ.out.vals.2.2.2.1, HJ.out.vals.2.2.2.2.1, HJ.out.vals.2.2.2.2.2.1, HJ.out.vals.2.2.2.2.2.2.1, HJ.out.vals.2.2.2.2.2.2.2.1, trivial⟩, ⟨HJ.out.boxes.1, trivial⟩, HJ.out.ne⟩
    · have e4 : s4 = .pointer (some ⟨w.heap.size, 0, none⟩) := J.vals.1 (hd 0 (by simp))
      subst e4
      clear J hd hi hiN hn
      refine wpOp_step rfl (fun kq hKq => ?_)
      go_simp
      exact hKq _ _ ⟨f0, true, f2, f3, f4, f5, f6, f7, f8, f9, rfl, d0, _, _, _, _, _, _, _, _, _, rfl, HJ.out.bel, HJ.out.siz, ⟨HJ.out.vals.1, fun _ => rfl, HJ.out.vals.2.2.1, HJ.out.vals.2.2.2.1, HJ.out.vals.2.2.2.2.1, HJ.out.vals.2.2.2.2.2.1, HJ.out.vals.2.2.2.2.2.2.1, HJ.out.vals.2.2.2.2.2.2.2.1, trivial⟩, ⟨HJ.out.boxes.1, trivial⟩, HJ.out.ne⟩
    · have e5 : s5 = .pointer (some ⟨w.heap.size, 0, none⟩) := J.vals.2.1 (hd 1 (by simp))
      subst e5
      clear J hd hi hiN hn
      refine wpOp_step rfl (fun kq hKq => ?_)
      go_simp
      exact hKq _ _ ⟨f0, f1, true, f3, f4, f5, f6, f7, f8, f9, rfl, d0, _, _, _, _, _, _, _, _, _, rfl, HJ.out.bel, HJ.out.siz, ⟨HJ.out.vals.1, HJ.out.vals.2.1, fun _ => rfl, HJ.out.vals.2.2.2.1, HJ.out.vals.2.2.2.2.1, HJ.out.vals.2.2.2.2.2.1, HJ.out.vals.2.2.2.2.2.2.1, HJ.out.vals.2.2.2.2.2.2.2.1, trivial⟩, ⟨HJ.out.boxes.1, trivial⟩, HJ.out.ne⟩
    · clear J hd hi hiN hn
      refine wpOp_step rfl (fun kq hKq => ?_)
      go_simp
      exact hKq _ _ ⟨f0, f1, f2, true, f4, f5, f6, f7, f8, f9, rfl, d0, _, _, _, _, _, _, _, _, _, rfl, HJ.out.bel, HJ.out.siz, ⟨HJ.out.vals.1, HJ.out.vals.2.1, HJ.out.vals.2.2.1, fun _ => rfl, HJ.out.vals.2.2.2.2.1, HJ.out.vals.2.2.2.2.2.1, HJ.out.vals.2.2.2.2.2.2.1, HJ.out.vals.2.2.2.2.2.2.2.1, trivial⟩, ⟨HJ.out.boxes.1, trivial⟩, HJ.out.ne⟩
    · have e7 : s7 = .pointer (some ⟨w.heap.size, 0, none⟩) := J.vals.2.2.2.1 (hd 3 (by simp))
      subst e7
      clear J hd hi hiN hn
      refine wpOp_step rfl (fun kq hKq => ?_)
      go_simp
      exact hKq _ _ ⟨f0, f1, f2, f3, true, f5, f6, f7, f8, f9, rfl, d0, _, _, _, _, _, _, _, _, _, rfl, HJ.out.bel, HJ.out.siz, ⟨HJ.out.vals.1, HJ.out.vals.2.1, HJ.out.vals.2.2.1, HJ.out.vals.2.2.2.1, fun _ => rfl, HJ.out.vals.2.2.2.2.2.1, HJ.out.vals.2.2.2.2.2.2.1, HJ.out.vals.2.2.2.2.2.2.2.1, trivial⟩, ⟨HJ.out.boxes.1, trivial⟩, HJ.out.ne⟩
    · have e8 : s8 = .pointer (some ⟨w.heap.size, 1, none⟩) := J.vals.2.2.2.2.1 (hd 4 (by simp))
      subst e8
      clear J hd hi hiN hn
      refine wpOp_step rfl (fun kq hKq => ?_)
      go_simp
      exact hKq _ _ ⟨f0, f1, f2, f3, f4, true, f6, f7, f8, f9, rfl, d0, _, _, _, _, _, _, _, _, _, rfl, HJ.out.bel, HJ.out.siz, ⟨HJ.out.vals.1, HJ.out.vals.2.1, HJ.out.vals.2.2.1, HJ.out.vals.2.2.2.1, HJ.out.vals.2.2.2.2.1, fun _ => rfl, HJ.out.vals.2.2.2.2.2.2.1, HJ.out.vals.2.2.2.2.2.2.2.1, trivial⟩, ⟨HJ.out.boxes.1, trivial⟩, HJ.out.ne⟩
    · obtain rfl : f6 = false := hn
      have e9 : s9 = .slice xo xm xc := J.vals.2.2.2.2.2.1 (hd 5 (by simp))
      subst e9
      have hw := J.bel
      clear J hd hi hiN
      refine wpOp_step rfl (fun kq hKq => ?_)
      go_simp
      refine (shl1 _ _ K _ (Hxs.out _ (HB0.out.trans (hw.mono HB0.out.size))) (by have := Hk.out; omega)).mono ?_
      rintro e wz ⟨zv, rfl, HZ, hb⟩
      have J2 := RX.step HJ.out HKG.out hb
      exact hKq _ _ ⟨f0, f1, f2, f3, f4, f5, true, f7, f8, f9, rfl, d0, _, _, _, _, _, _, _, _, _, rfl, J2.bel, J2.siz, ⟨J2.vals.1, J2.vals.2.1, J2.vals.2.2.1, J2.vals.2.2.2.1, J2.vals.2.2.2.2.1, J2.vals.2.2.2.2.2.1, fun _ => HZ, J2.vals.2.2.2.2.2.2.2.1, trivial⟩, ⟨J2.boxes.1, trivial⟩, J2.ne⟩
    · obtain rfl : f7 = false := hn
      obtain rfl : f9 = false := by cases f9 with | false => rfl | true => exact absurd (d0 rfl).2 (by simp)
      have e6 : s6 = .bool xb := J.vals.2.2.1 (hd 2 (by simp))
      subst e6
      have h10 : (fun wq vq => Nt wq vq ((z.natAbs : Int) * 2) (K + 1)) w' s10 := J.vals.2.2.2.2.2.2.1 (hd 6 (by simp))
      have hw := J.bel
      clear J hd hi hiN d0
      refine wpOp_step rfl (fun kq hKq => ?_)
      go_simp
      refine (signed_eq xb _ _ _ (K + 1) _ h10 HSZ.out).mono ?_
      rintro e wz ⟨zv, rfl, HZ, hb⟩
      have J2 := RX.step HJ.out HKG.out hb
      exact hKq _ _ ⟨f0, f1, f2, f3, f4, f5, f6, true, f8, false, rfl, nofun, _, _, _, _, _, _, _, _, _, rfl, J2.bel, J2.siz, ⟨J2.vals.1, J2.vals.2.1, J2.vals.2.2.1, J2.vals.2.2.2.1, J2.vals.2.2.2.2.1, J2.vals.2.2.2.2.2.1, J2.vals.2.2.2.2.2.2.1, fun _ => HZ, trivial⟩, ⟨fun e => (J2.boxes.1 e).fresh, trivial⟩, J2.ne⟩
    · obtain rfl : f8 = false := hn
      obtain rfl : f9 = false := by cases f9 with | false => rfl | true => exact absurd (d0 rfl).1 (by simp)
      clear J hd hi hiN d0
      refine wpOp_step rfl (fun kq hKq => ?_)
      go_simp
      have J2 := RX.step HJ.out HKG.out (bl_new (w := w') (.cells #[.bool false, .slice none 0 0] 56))
      exact hKq _ _ ⟨f0, f1, f2, f3, f4, f5, f6, f7, true, false, rfl, nofun, _, _, _, _, _, _, _, _, _, rfl, J2.bel, J2.siz, J2.vals, ⟨fun _ => boxn_new _ w' _ _ [.bool false, .slice none 0 0] (by intro i k x hi; match i, hi with | 0, _ => nofun | 1, _ => nofun) HJ.out.siz, trivial⟩, ⟨trivial, trivial⟩⟩
    · obtain rfl : f8 = true := hd 8 (by simp)
      obtain rfl : f7 = true := hd 7 (by simp)
      obtain ⟨bq, oq, mq, cq, rfl, _⟩ := It.opened (J.vals.2.2.2.2.2.2.2.1 rfl)
      have HBX : Hid _ := hid (J.boxes.1 rfl)
      obtain ⟨p, vs, rfl, hp, hl, hnn, hc, hf, _⟩ := J.boxes.1 rfl
      have cc0 := hc 0 (by decide)
      have ff0 := hf 0 (by decide)
      have cc1 := hc 1 (by decide)
      have ff1 := hf 1 (by decide)
      clear J hd hi hiN hn hc hf hnn hl
      refine wpOp_step rfl (fun kq hKq => ?_)
      go_simp
      exact hKq _ _ ⟨f0, f1, f2, f3, f4, f5, f6, true, true, true, rfl, fun _ => ⟨rfl, rfl⟩, _, _, _, _, _, _, _, _, _, rfl, below_setCells hp [.bool bq, .slice oq mq cq] 0 HJ.out.bel, Nat.le_trans HJ.out.siz (Nat.le_of_eq (size_setCells p [.bool bq, .slice oq mq cq] 0 w').symm), Vals.keep HKG.out (BoxN.keeps HBX.out (us := [.bool bq, .slice oq mq cq]) rfl) HJ.out.vals, ⟨fun _ => BoxN.store HBX.out [.bool bq, .slice oq mq cq] rfl (by intro i k x hi; match i, hi with | 0, _ => nofun | 1, _ => nofun), trivial⟩, HJ.out.ne⟩
  rintro L act w' hs ⟨f0, f1, f2, f3, f4, f5, f6, f7, f8, f9, rfl, _, s4, s5, s6, s7, s8, s9, s10, s11, s3, rfl, J⟩ hr
  have hd := early_done (by kernel_rfl) hs hr 10
  obtain rfl : f0 = true := hd 0 (by omega) (by simp)
  obtain rfl : f1 = true := hd 1 (by omega) (by simp)
  obtain rfl : f2 = true := hd 2 (by omega) (by simp)
  obtain rfl : f3 = true := hd 3 (by omega) (by simp)
  obtain rfl : f4 = true := hd 4 (by omega) (by simp)
  obtain rfl : f5 = true := hd 5 (by omega) (by simp)
  obtain rfl : f6 = true := hd 6 (by omega) (by simp)
  obtain rfl : f7 = true := hd 7 (by omega) (by simp)
  obtain rfl : f8 = true := hd 8 (by omega) (by simp)
  obtain rfl : f9 = true := hd 9 (by omega) (by simp)
  have e4 : s4 = .pointer (some ⟨w.heap.size, 0, none⟩) := J.vals.1 rfl
  subst e4
  have e5 : s5 = .pointer (some ⟨w.heap.size, 0, none⟩) := J.vals.2.1 rfl
  subst e5
  have e6 : s6 = .bool xb := J.vals.2.2.1 rfl
  subst e6
  have e7 : s7 = .pointer (some ⟨w.heap.size, 0, none⟩) := J.vals.2.2.2.1 rfl
  subst e7
  have e8 : s8 = .pointer (some ⟨w.heap.size, 1, none⟩) := J.vals.2.2.2.2.1 rfl
  subst e8
  have e9 : s9 = .slice xo xm xc := J.vals.2.2.2.2.2.1 rfl
  subst e9
  have hg3 : (fun wq vq => It wq vq (z * 2) (K + 1)) w' s11 := J.vals.2.2.2.2.2.2.2.1 rfl
  obtain ⟨bx3, ox3, mx3, cx3, rfl, _⟩ := It.opened hg3
  obtain ⟨p3, rfl, hp3, hl3, hc3⟩ := BoxN.done (us := [.bool bx3, .slice ox3 mx3 cx3]) (J.boxes.1 rfl)
  have k3_0 : w'.cell? ⟨p3, 0, none⟩ = some (.bool bx3) := (hc3 0 (by decide)).1
  have k3_1 : w'.cell? ⟨p3, 1, none⟩ = some (.slice ox3 mx3 cx3) := (hc3 1 (by decide)).1
  clear hc3
  have hbel := J.bel
  have hsiz := J.siz
  have hv10 : (fun wq vq => Nt wq vq ((z.natAbs : Int) * 2) (K + 1)) w' s10 := J.vals.2.2.2.2.2.2.1 rfl
  clear hd hr hs J
  have HX1 := hid hbel
  have HB1 := hid (show Below w.heap.size w w' from HB0.out.trans (hbel.mono HB0.out.size))
  have hg := hid hg3
  have HT1 := hid (HT.out _ (hbel.mono (by have := Hz0.out; omega)))
  have HS2 : Hid (∀ wx, Kp w'.heap.size (w.heap.size + 1) w' wx → (wx.cell? ⟨w.heap.size, 0, none⟩ = some (.bool xb) ∧ wx.cell? ⟨w.heap.size, 1, none⟩ = some (.slice xo xm xc) ∧ wx.cell? ⟨w.heap.size, 2, none⟩ = some (.slice po pm pc)) ∧ wx.cell? ⟨p3, 0, none⟩ = some (.bool bx3) ∧ wx.cell? ⟨p3, 1, none⟩ = some (.slice ox3 mx3 cx3)) := hid (fun wx h => by
    have hs := HS.out w' (hbel.mono (by have := Hz0.out; omega))
    have hz := Hz0.out
    refine ⟨⟨?_, ?_, ?_⟩, ?_, ?_⟩
    · exact (h.cell _ (by simp; omega) (by simp)).trans hs.1
    · exact (h.cell _ (by simp; omega) (by simp)).trans hs.2.1
    · exact (h.cell _ (by simp; omega) (by simp)).trans hs.2.2
    · exact (h.cell _ (by simp; omega) (by simp; omega)).trans k3_0
    · exact (h.cell _ (by simp; omega) (by simp; omega)).trans k3_1)
  have hP := hid hsiz
  have hX1 := Below.refl w'.heap.size w'
  have hbld : ∀ (b : Bool) (o o2 : Option Addr) (m c m2 c2 : Nat) (w : World), (Instr.build 58 #[(0, .agg #[.bool b, .slice o m c]), (1, .slice o2 m2 c2)]).run Tryz.prog w = .ok (.agg #[.bool b, .slice o m c, .slice o2 m2 c2]) w := fun b o o2 m c m2 c2 w => by kernel_rfl
  have HQ1 := hid (fun (wx : World) (hb : Below w'.heap.size w' wx) => signed_eq false _ d d K wx (HP.out wx (bl_tr HB1.out hb)) rfl)
  have HQ2 := hid (fun (u : Value) (wx : World) (hb : Below w'.heap.size w' wx) (hu : It wx u d K) => plus_any _ u (z * 2) d (K + 1) K (K + 2) wx (It.below hg.out hb (Nat.le_refl _)) hu (by have := Hk.out; omega) (by have := Hk.out; omega) (by omega) (by omega))
  have HQ3 := hid (fun (wx : World) (hb : Below w'.heap.size w' wx) => shl1 _ d K wx (HP.out wx (bl_tr HB1.out hb)) (by have := Hk.out; omega))
  clear hg3 hbel hsiz hp3 hl3 k3_0 k3_1
  go_upto_region 2 with (fail)
  go_region_held3 (fun wx => (wx.cell? ⟨w.heap.size, 0, none⟩ = some (.bool xb) ∧ wx.cell? ⟨w.heap.size, 1, none⟩ = some (.slice xo xm xc) ∧ wx.cell? ⟨w.heap.size, 2, none⟩ = some (.slice po pm pc)) ∧ wx.cell? ⟨p3, 0, none⟩ = some (.bool bx3) ∧ wx.cell? ⟨p3, 1, none⟩ = some (.slice ox3 mx3 cx3)) ((refine HS2.out _ ?_; repeat (first | assumption | exact Kp.of_below (by assumption) | exact Kp.of_below (Below.drew (by assumption)) | (refine Kp.set ?_ (by simp) _)))) (first
    | (go_at_call 21; refine (HQ1.out _ hX1.drew).mono ?_; rintro e w4 ⟨_, rfl, hv4, hb4⟩; obtain ⟨b4, o4, m4, c4, rfl, H4, H4s, H4b⟩ := It.opened hv4; have hX4 : Below w'.heap.size w' w4 := hX1.drew.trans (hb4.mono hX1.size))
    | (go_at_call 55; refine (HQ2.out _ _ hX4 (H4.out _ (Below.refl _ _))).mono ?_; rintro e w5 ⟨_, rfl, hv5, hb5⟩; obtain ⟨b5, o5, m5, c5, rfl, H5, H5s, H5b⟩ := It.opened hv5; have hX5 : Below w'.heap.size w' w5 := hX4.trans (hb5.mono hX4.size))
    | (go_at_call 54; refine (HQ3.out _ hX5).mono ?_; rintro e w6 ⟨_, rfl, hv6, hb6⟩; obtain ⟨o6, m6, c6, rfl, H6⟩ := Nt.opened hv6; have hX6 : Below w'.heap.size w' w6 := hX5.trans (hb6.mono hX5.size))
    | (go_at_call 56; refine (floor_any _ (z * 2 + d) (d * 2) (K + 2) _ ⟨_, _, by rw [H5b.out], H5s.out _ hb6, (H6.out _ (Below.refl _ _)).mono (by omega)⟩ (by have := Hd.out; omega) (by have := Hk.out; omega)).mono ?_; rintro e w7 ⟨_, rfl, hv7, hb7⟩; obtain ⟨b7, o7, m7, c7, rfl, H7, H7s, H7b⟩ := It.opened hv7; have hX7 : Below w'.heap.size w' w7 := hX6.trans (hb7.mono hX6.size); obtain ⟨⟨hr0, hr1⟩, hf0, hf1⟩ := HT.out _ ((bl_tr HX1.out hX7).mono (by have := Hz0.out; omega))))
  go_wp2
  have hz0 := Hz0.out
  have hw7 : Below w.heap.size w w7 := bl_tr HB1.out hX7
  refine bodyPost_ret (v := .agg #[.bool b7, .slice o7 m7 c7]) (by simp [results, Tryz.results23, go_sem, hr0, hr1]) rfl ⟨_, rfl, ?_, ((hw7.setCell (by simp <;> omega) _).setCell (by simp <;> omega) _)⟩
  exact it_keeps (((Keeps.refl _ _).setCell (u := .bool false) hr0 (fun x h => (by cases h)) _).setCell (u := .slice none 0 0) (by simp [go_sem, hr1]) (fun x h => (by cases h)) _) (H7.out _ (Below.refl _ _))

end Go.Proofs.YtbapeilpkhbbeaaGreatDoor
