/- The document's own integers: Power. The document's own integers: Root. Written by gen_rroot.py. What the law ExactDivides asks of an integer and its error, the program's beside the document's: Div, Root, Power; is over both. exact.groups: the iterator at numbers of one limb below the group's size: one round. strings.Builder: WriteString, String; strconv.FormatUint of a number below 100: by the library's contracts and after them. exact.decimals of a number below 100: its one group's digits. (exact.integer).text and exact.Text of numbers closer to 0 than 100. exact.Show of ratios whose lowest form has numbers closer to 0 than 100; over and shows of the laws. -/
import Derived.Test.YtbapeilpkhbbeaaGreatRn28
import Derived.Test.YtbapeilpkhbbeaaGreatRn26
import Derived.RangeFuncNested
import Derived.RangeFuncBound
import Derived.RangeFuncCalls
import Derived.RangeFuncLeaves
import Derived.Shelf.Abstract
import Derived.Shelf.RegionOpen
import Derived.WalkKit
import Derived.OwnWalkIn
import Derived.TacticsInMore
import Derived.LoopNIn
import Derived.LoopIn
import Derived.Test.YtbapeilpkhbbeaaGreatRn07
import Derived.Test.YtbapeilpkhbbeaaGreatRn01
import Derived.Shelf.Strings.Builder1
import Derived.Shelf.Strconv.Itoa1
import Derived.Maps.AppendAt
import Derived.Test.YtbapeilpkhbbeaaGreatRn05
import Derived.Test.YtbapeilpkhbbeaaGreatRn20
/- The document's own integers: Power. -/
namespace Go.Proofs.YtbapeilpkhbbeaaGreat
open Go.RowKit

structure PwI (w W0 wr : World) (x : Int) (K g i : Nat) : Prop where
  cel : CellZ wr g (x ^ i) (4 + i * (K + 1))
  low : Below (w.heap.size + 2) W0 wr

set_option maxRecDepth 100000 in
set_option maxHeartbeats 4000000 in
theorem rpow_any (u : Value) (x : Int) (n K : Nat) (w : World) (hn : n ≤ 1024) (hu : Zt w u x K) (hK : K ≤ 100000) :
    Calls Tryz.prog 113 #[u, .int .i64 n] w (RetZtE w (x ^ n) (4 + n * (K + 1)) 0) := by
  obtain ⟨xb, xo, xm, xc, rfl, Hx, Hxs, Hxb⟩ := Zt.opened hu
  obtain ⟨W0, hW0⟩ : ∃ W0, W0 = ((w.alloc (.cells #[.bool xb, .slice xo xm xc] 33)).alloc (.cells #[.bool false, .slice none 0 0] 33)) := ⟨_, rfl⟩
  have hB0 : Below w.heap.size w W0 := by rw [hW0]; exact ((Below.refl _ _).alloc (Nat.le_refl _) _).alloc (by simp) _
  have hz0 : W0.heap.size = w.heap.size + 2 := by rw [hW0]; simp
  have HS : Hid (∀ w', Below (w.heap.size + 2) W0 w' → w'.cell? ⟨w.heap.size, 0, none⟩ = some (.bool xb) ∧ w'.cell? ⟨w.heap.size, 1, none⟩ = some (.slice xo xm xc)) := hid (fun w' hb => by
    refine ⟨?_, ?_⟩ <;> (rw [hb.cell (by simp <;> omega), hW0]; simp [go_sem]))
  have HT : Hid (∀ w', Below (w.heap.size + 2) W0 w' → (w'.cell? ⟨w.heap.size + 1, 0, none⟩ = some (.bool false) ∧ w'.cell? ⟨w.heap.size + 1, 1, none⟩ = some (.slice none 0 0)) ∧ (w'.frozen? ⟨w.heap.size + 1, 0, none⟩ = false ∧ w'.frozen? ⟨w.heap.size + 1, 1, none⟩ = false)) := hid (fun w' hb => by
    refine ⟨⟨?_, ?_⟩, ?_, ?_⟩ <;> (first | (rw [hb.cell (by simp <;> omega), hW0]; simp [go_sem]; done) | (rw [hb.frozen (by simp <;> omega), hW0]; simp [go_sem]; done)))
  have HB0 := hid hB0; have HW := hid hW0; have Hz0 := hid hz0
  have hn0 : ¬ ((n : Int) < 0) := by omega
  have hn1 : ¬ (1024 < (n : Int)) := by omega
  have Hn := hid hn
  clear hW0 hB0 hz0 hu hn
  go_enter Tryz.func113, Tryz.ntmps113
  go_upto_region 3 with (fail)
  rw [← HW.out]
  go_wp2_with fail
  refine (rof_any 1 _ (by decide) (by decide)).mono ?_
  rintro e w1 ⟨_, rfl, hv1, hb1⟩
  obtain ⟨b1, o1, m1, c1, rfl, H1, _, _⟩ := Zt.opened hv1
  obtain ⟨W2, hW2⟩ : ∃ W2, W2 = w1.alloc (.cells #[.bool b1, .slice o1 m1 c1] 33) := ⟨_, rfl⟩
  have HI0 : Hid (PwI w W0 W2 x K w1.heap.size 0) := hid ⟨by rw [hW2, Int.pow_zero]; exact (CellZ.new hv1).mono (by omega), by
    rw [hW2]
    exact (hb1.mono (by have := Hz0.out; omega)).alloc (by have := hb1.size; have := Hz0.out; omega) _⟩
  obtain ⟨g, hg⟩ : ∃ g, g = w1.heap.size := ⟨_, rfl⟩
  have hg2 : w.heap.size + 2 ≤ g := by have := hb1.size; have := Hz0.out; omega
  rw [← hg] at HI0
  have Hg2 := hid hg2
  go_wp2_with fail
  rw [← hW2, ← hg]
  clear hW2 hg hv1 hb1 H1 hg2
  go_loopw [7] (fun iv wr => ∃ i : Nat, i ≤ n ∧ iv = .int .i64 i ∧ PwI w W0 wr x K g i) (fun iv _ => n - (intOf iv).toNat)
  case atStart => exact ⟨0, Nat.zero_le _, rfl, HI0.out⟩
  case round =>
    obtain ⟨i, hi, rfl, H⟩ := hrel
    clear HI0
    obtain ⟨k0, k1⟩ := HS.out _ H.low
    obtain ⟨ob, oo, om, oc, HC, HZ, _, _⟩ := H.cel.opened
    obtain ⟨c0, c1, f0, f1⟩ := HC.out _ (Below.refl _ _)
    have HH := hid H
    have hbw : Below w.heap.size w wr := HB0.out.trans (H.low.mono (by omega))
    have HBw := hid hbw
    clear H hbw
    by_cases hlt : i < n
    · go_wp2_with fail
      refine (rmul_any _ _ (x ^ i) x (4 + i * (K + 1)) K _ (HZ.out _ (Below.refl _ _)) (Hx.out _ HBw.out) (by
        have h1 : i * (K + 1) ≤ 1024 * (K + 1) := Nat.mul_le_mul_right _ (by have := Hn.out; omega)
        omega) (by omega)).mono ?_
      rintro e w1 ⟨_, rfl, hv1, hb1⟩
      obtain ⟨b1, o1, m1, c1', rfl, _, _, _⟩ := Zt.opened hv1
      rw [← Int.pow_succ] at hv1
      have hc1 := HH.out.cel.below hb1 (Nat.le_refl _)
      have hN : PwI w W0 ((w1.setCell ⟨g, 0, none⟩ (.bool b1)).setCell ⟨g, 1, none⟩ (.slice o1 m1 c1')) x K g (i + 1) :=
        ⟨(hc1.store hv1).mono (by rw [Nat.add_mul]; omega), ((HH.out.low.trans (hb1.mono (Nat.le_trans (by have := Hz0.out; omega) HH.out.low.size))).setCell Hg2.out _).setCell Hg2.out _⟩
      have HN := hid hN
      clear c0 c1 f0 f1 k0 k1
      obtain ⟨c0, c1, f0, f1⟩ := HC.out _ hb1
      clear hN hc1 hv1 hb1
      go_wp2
      go_roundw
      case rel => exact ⟨i + 1, by omega, by go_num, HN.out⟩
      case measure => simp [intOf]; omega
    · obtain rfl : i = n := by omega
      obtain ⟨⟨hr0, hr1⟩, hf0, hf1⟩ := HT.out _ HH.out.low
      go_wp2
      refine bodyPost_ret (v := .tuple #[.agg #[.bool ob, .slice oo om oc], .int .i64 0]) (by simp [results, Tryz.results113, go_sem, hr0, hr1]) rfl ⟨_, rfl, ?_, (HBw.out.setCell (by simp <;> omega) _).setCell (by simp <;> omega) _⟩
      exact ((HZ.out _ (Below.refl _ _)).set hr0 (fun x h => (by cases h)) _).set (u := .slice none 0 0) (by simp [go_sem, hr1]) (fun x h => (by cases h)) _
end Go.Proofs.YtbapeilpkhbbeaaGreat

/- The document's own integers: Root. Written by gen_rroot.py. -/
namespace Go.Proofs.YtbapeilpkhbbeaaGreat
open Go.RowKit

/-- What is known of the root so far; bit: the next one that is tried. -/
def RootN (x out bit : Int) (t T : Nat) : Prop := 0 ≤ out ∧ out * out ≤ x ∧ ((bit = 0 ∧ x < (out + 1) * (out + 1) ∧ t ≤ T + 1) ∨ (∃ j : Nat, t + j ≤ T ∧ bit = 2 ^ j ∧ x < (out + 2 * bit) * (out + 2 * bit)))
theorem RootN.yes {x out : Int} {j t T : Nat} (ho : 0 ≤ out) (ht : t + j ≤ T) (h : (out + 2 ^ j) * (out + 2 ^ j) ≤ x) (hx : x < (out + 2 * 2 ^ j) * (out + 2 * 2 ^ j)) : RootN x (out + 2 ^ j) (2 ^ j / 2) (t + 1) T := by
  have p : (0 : Int) < 2 ^ j := Int.pow_pos (by decide)
  refine ⟨by omega, h, ?_⟩
  cases j with
  | zero => left; simp at hx ⊢; exact ⟨by rw [show out + 1 + 1 = out + 2 by omega]; exact hx, by omega⟩
  | succ j =>
    right
    refine ⟨j, by omega, by rw [Int.pow_succ]; omega, ?_⟩
    have e : (2 : Int) ^ (j + 1) / 2 = 2 ^ j := by rw [Int.pow_succ]; omega
    rw [e, Int.pow_succ] at *
    rw [show out + 2 ^ j * 2 + 2 * 2 ^ j = out + 2 * (2 ^ j * 2) by omega]; exact hx
theorem RootN.no {x out : Int} {j t T : Nat} (ho : 0 ≤ out) (hox : out * out ≤ x) (ht : t + j ≤ T) (h : x < (out + 2 ^ j) * (out + 2 ^ j)) : RootN x out (2 ^ j / 2) (t + 1) T := by
  refine ⟨ho, hox, ?_⟩
  cases j with
  | zero => left; simp at h ⊢; exact ⟨h, by omega⟩
  | succ j =>
    right
    have e : (2 : Int) ^ (j + 1) / 2 = 2 ^ j := by rw [Int.pow_succ]; omega
    refine ⟨j, by omega, e, ?_⟩
    rw [e]
    rw [Int.pow_succ] at h
    rw [show out + 2 * 2 ^ j = out + 2 ^ j * 2 by omega]; exact h

structure R1 (w W0 wr : World) (go gb i : Nat) (p : Int) : Prop where
  celO : CellZ wr go 0 0
  celB : CellZ wr gb p (4 + i)
  num : p = 2 ^ i
  low : Below (w.heap.size + 2) W0 wr
structure R2 (w W0 wr : World) (x : Int) (go gb Kc T t : Nat) (out bit : Int) : Prop where
  celO : CellZ wr go out (Kc + t)
  celB : CellZ wr gb bit Kc
  num : RootN x out bit t T
  low : Below (w.heap.size + 2) W0 wr

set_option maxRecDepth 100000 in
set_option maxHeartbeats 8000000 in
theorem rroot_any (u : Value) (x : Int) (K : Nat) (w : World) (hpos : 0 ≤ x) (hu : Zt w u x K) (hK : K ≤ 1000000) :
    Calls Tryz.prog 85 #[u] w fun e w' => ∃ r : Int, 0 ≤ r ∧ r * r ≤ x ∧ x < (r + 1) * (r + 1) ∧ RetZtE w r (16 * K + 6) 0 e w' := by
  obtain ⟨xb, xo, xm, xc, rfl, Hx, Hxs, Hxb⟩ := Zt.opened hu
  obtain ⟨W0, hW0⟩ : ∃ W0, W0 = ((w.alloc (.cells #[.bool xb, .slice xo xm xc] 33)).alloc (.cells #[.bool false, .slice none 0 0] 33)) := ⟨_, rfl⟩
  have hB0 : Below w.heap.size w W0 := by rw [hW0]; exact ((Below.refl _ _).alloc (Nat.le_refl _) _).alloc (by simp) _
  have hz0 : W0.heap.size = w.heap.size + 2 := by rw [hW0]; simp
  have HS : Hid (∀ w', Below (w.heap.size + 2) W0 w' → w'.cell? ⟨w.heap.size, 0, none⟩ = some (.bool xb) ∧ w'.cell? ⟨w.heap.size, 1, none⟩ = some (.slice xo xm xc)) := hid (fun w' hb => by
    refine ⟨?_, ?_⟩ <;> (rw [hb.cell (by simp <;> omega), hW0]; simp [go_sem]))
  have HT : Hid (∀ w', Below (w.heap.size + 2) W0 w' → (w'.cell? ⟨w.heap.size + 1, 0, none⟩ = some (.bool false) ∧ w'.cell? ⟨w.heap.size + 1, 1, none⟩ = some (.slice none 0 0)) ∧ (w'.frozen? ⟨w.heap.size + 1, 0, none⟩ = false ∧ w'.frozen? ⟨w.heap.size + 1, 1, none⟩ = false)) := hid (fun w' hb => by
    refine ⟨⟨?_, ?_⟩, ?_, ?_⟩ <;> (first | (rw [hb.cell (by simp <;> omega), hW0]; simp [go_sem]; done) | (rw [hb.frozen (by simp <;> omega), hW0]; simp [go_sem]; done)))
  have HB0 := hid hB0; have HW := hid hW0; have Hz0 := hid hz0
  clear hW0 hB0 hz0
  obtain rfl : xb = false := by rw [Hxb.out]; exact decide_eq_false (by omega)
  have hxK : xm ≤ K ∧ x < 2 ^ (16 * xm) := by
    obtain ⟨ao, c, L, e, hl⟩ := Hxs.out _ (Below.refl _ _)
    obtain ⟨_, rfl, _⟩ := Value.slice.inj e
    refine ⟨hl.le, ?_⟩
    have h1 := val_lt R16_pos hl.dig
    rw [hl.eq, show (x.natAbs : Int) = x by omega] at h1
    rw [Int.pow_mul]
    exact h1
  have hxm := hxK.1
  have HX := hid hxK.2
  have HP := hid hpos
  clear hu hxK hpos Hxb Hxs
  obtain ⟨T, hT⟩ : ∃ T, T = 8 * xm := ⟨_, rfl⟩
  have hTi : (8 : Int) * (xm : Int) = (T : Int) := by omega
  have hTw : IntKind.i64.wrap ((8 : Int) * (xm : Int)) = (T : Int) := by rw [IntWalk.i64_in _ (by omega)]; exact hTi
  have HT8 := hid hT
  have hT0 : T ≤ 8000000 := by omega
  have HXT : Hid (x < 2 ^ T * 2 ^ T) := hid (by rw [← Int.pow_add, hT, show 8 * xm + 8 * xm = 16 * xm by omega]; exact HX.out)
  clear hT
  go_enter Tryz.func85, Tryz.ntmps85
  go_upto_region 1 with (fail)
  rw [← HW.out]
  obtain ⟨k0, k1⟩ := HS.out _ (Below.refl _ _)
  go_upto_region 4 with (fail)
  clear k0 k1
  obtain ⟨W1, hW1⟩ : ∃ W1, W1 = W0.alloc (.cells #[.bool false, .slice none 0 0] 33) := ⟨_, rfl⟩
  have hal1 : Below W0.heap.size W0 W1 := by rw [hW1]; exact (Below.refl _ _).alloc (Nat.le_refl _) _
  have hO1 : CellZ W1 W0.heap.size 0 0 := by rw [hW1]; exact CellZ.new (zt_zero _)
  rw [← hW1]
  clear hW1
  go_wp2_with fail
  refine (rof_any 1 _ (by decide) (by decide)).mono ?_
  rintro e w1 ⟨_, rfl, hv1, hb1⟩
  obtain ⟨b1, o1, m1, c1, rfl, _, _, _⟩ := Zt.opened hv1
  go_upto_region 5 with (fail)
  obtain ⟨W2, hW2⟩ : ∃ W2, W2 = w1.alloc (.cells #[.bool b1, .slice o1 m1 c1] 33) := ⟨_, rfl⟩
  have hal2 : Below w1.heap.size w1 W2 := by rw [hW2]; exact (Below.refl _ _).alloc (Nat.le_refl _) _
  have hB2 : CellZ W2 w1.heap.size 1 4 := by rw [hW2]; exact CellZ.new hv1
  rw [← hW2]
  have hlt1 := hO1.lt
  have hs1 := hb1.size
  have HI1 : Hid (R1 w W0 W2 W0.heap.size w1.heap.size 0 1) := hid ⟨(hO1.below hb1 (Nat.le_refl _)).below hal2 (Nat.le_refl _), hB2.mono (by omega), by rw [Int.pow_zero], (hal1.trans ((hb1.trans (hal2.mono hs1)).mono hal1.size)).mono (by have := Hz0.out; omega)⟩
  obtain ⟨go, hgo⟩ : ∃ go, go = W0.heap.size := ⟨_, rfl⟩
  obtain ⟨gb, hgb⟩ : ∃ gb, gb = w1.heap.size := ⟨_, rfl⟩
  have hgo2 : w.heap.size + 2 ≤ go := by have := Hz0.out; omega
  have hgb2 : w.heap.size + 2 ≤ gb := by have := Hz0.out; omega
  have hne : ¬ go = gb := by omega
  have hne' : ¬ gb = go := by omega
  rw [← hgo, ← hgb] at HI1
  rw [← hgo, ← hgb]
  have Hgo := hid hgo2; have Hgb := hid hgb2
  clear hW2 hal1 hal2 hO1 hB2 hlt1 hs1 hgo hgb hv1 hb1 hgo2 hgb2
  go_wp2
  go_loopw [6] (fun iv wr => ∃ i : Nat, ∃ p : Int, i ≤ T ∧ iv = .int .i64 i ∧ R1 w W0 wr go gb i p) (fun iv _ => T - (intOf iv).toNat)
  case atStart => exact ⟨0, 1, Nat.zero_le _, rfl, HI1.out⟩
  case round =>
    obtain ⟨i, p, hi, rfl, H⟩ := hrel
    clear HI1
    obtain ⟨k0, k1⟩ := HS.out _ H.low
    have hbw : Below w.heap.size w wr := HB0.out.trans (H.low.mono (by omega))
    have HBw := hid hbw
    have HH := hid H
    by_cases hlt : i < T
    · obtain ⟨bb, bo, bm, bc, HCB, HZB, HMB, _⟩ := H.celB.opened
      obtain ⟨c0, c1, f0, f1⟩ := HCB.out _ (Below.refl _ _)
      have hp0 : (0 : Int) < p := by rw [H.num]; exact Int.pow_pos (by decide)
      have hmd := HMB.out _ (Below.refl _ _)
      rw [show (p.natAbs : Int) = p by omega] at hmd
      have HMd := hid hmd; have HP0 := hid hp0
      clear H hbw hmd hp0
      go_wp2_with fail
      refine (double_any _ p 0 (4 + i) _ HMd.out (by decide) (by decide) (by omega)).mono ?_
      rintro e w3 ⟨v3, rfl, hv3, hb3⟩
      rw [Int.add_zero] at hv3
      go_wp2_with fail
      refine (made_any false v3 (2 * p) (4 + i + 1) _ hv3.dg).mono ?_
      rintro e w4 ⟨_, rfl, hv4, hb4⟩
      rw [show sgn false (2 * p) = 2 * p from rfl] at hv4
      obtain ⟨b4, o4, m4, c4, rfl, _, _, _⟩ := Zt.opened hv4
      have hb34 := hb3.trans (hb4.mono hb3.size)
      have hN : R1 w W0 ((w4.setCell ⟨gb, 0, none⟩ (.bool b4)).setCell ⟨gb, 1, none⟩ (.slice o4 m4 c4)) go gb (i + 1) (2 * p) :=
        ⟨(HH.out.celO.below hb34 (Nat.le_refl _)).other (HH.out.celB.below hb34 (Nat.le_refl _)) hne' _ _, ((HH.out.celB.below hb34 (Nat.le_refl _)).store hv4).mono (by omega), by rw [HH.out.num, Int.pow_succ]; omega,
         ((HH.out.low.trans (hb34.mono (Nat.le_trans (by have := Hz0.out; omega) HH.out.low.size))).setCell Hgb.out _).setCell Hgb.out _⟩
      have HN := hid hN
      clear c0 c1 f0 f1 k0 k1
      obtain ⟨c0, c1, f0, f1⟩ := HCB.out _ hb34
      clear hN hv3 hv4 hb3 hb4 hb34
      go_wp2
      go_roundw
      case rel => exact ⟨i + 1, 2 * p, by omega, by go_num, HN.out⟩
      case measure => simp [intOf]; omega
    · obtain rfl : i = T := by omega
      have HI2 : Hid (R2 w W0 wr x go gb (4 + i) i 0 0 p) := hid ⟨H.celO.mono (by omega), H.celB, ⟨Int.le_refl 0, by simpa using HP.out, Or.inr ⟨i, by omega, H.num, by
        rw [H.num]
        have q : (0 : Int) < 2 ^ i := Int.pow_pos (by decide)
        have h1 : (2 : Int) ^ i * 2 ^ i ≤ (0 + 2 * 2 ^ i) * (0 + 2 * 2 ^ i) := Int.mul_le_mul (by omega) (by omega) (by omega) (by omega)
        exact Int.lt_of_lt_of_le HXT.out h1⟩⟩, H.low⟩
      clear H hbw HH HBw
      go_wp2
      clear k0 k1
      go_loopw [7] (fun _ wr => ∃ t : Nat, ∃ out bit : Int, t ≤ i + 1 ∧ R2 w W0 wr x go gb (4 + i) i t out bit) (fun _ wr => cellNat wr gb)
      case atStart => exact ⟨0, 0, p, by omega, HI2.out⟩
      case round =>
        clear HI2
        obtain ⟨t, out, bit, ht, H⟩ := hrel
        obtain ⟨bb, bo, bm, bc, HCB, HZB, HMB, _⟩ := H.celB.opened
        obtain ⟨ob, oo, om, oc, HCO, HZO, _, _⟩ := H.celO.opened
        obtain ⟨k0, k1⟩ := HS.out _ H.low
        obtain ⟨c0, c1, f0, f1⟩ := HCB.out _ (Below.refl _ _)
        obtain ⟨d0, d1, e0, e1⟩ := HCO.out _ (Below.refl _ _)
        have hbm : bm = 0 ↔ bit = 0 := by
          obtain ⟨ao, c, L, e, hl⟩ := HMB.out _ (Below.refl _ _)
          obtain ⟨_, rfl, _⟩ := Value.slice.inj e
          rw [hl.zero_iff]; omega
        have HH := hid H
        have HBw := hid (HB0.out.trans (H.low.mono (by omega)))
        obtain ⟨ho0, hox, hcase⟩ := H.num
        rcases hcase with ⟨hb0, hxl, _⟩ | ⟨j, hj, hbj, hxl⟩
        · obtain rfl : bm = 0 := hbm.2 hb0
          have HR := hid (And.intro ho0 (And.intro hox hxl))
          obtain ⟨⟨hr0, hr1⟩, hf0, hf1⟩ := HT.out _ H.low
          clear H ho0 hox hxl hbm hb0
          go_wp2
          refine bodyPost_ret (v := .tuple #[.agg #[.bool ob, .slice oo om oc], .int .i64 0]) (by simp [results, Tryz.results85, go_sem, hr0, hr1]) rfl ⟨out, HR.out.1, HR.out.2.1, HR.out.2.2, _, rfl, ?_, (HBw.out.setCell (by simp <;> omega) _).setCell (by simp <;> omega) _⟩
          exact (((HZO.out _ (Below.refl _ _)).set hr0 (fun x h => (by cases h)) _).set (u := .slice none 0 0) (by simp [go_sem, hr1]) (fun x h => (by cases h)) _).mono (by have := HT8.out; omega)
        · have hbit0 : (0 : Int) < bit := by rw [hbj]; exact Int.pow_pos (by decide)
          have hbm0 : (0 : Int) < (bm : Int) := by
            rcases Nat.eq_zero_or_pos bm with h | h
            · have := hbm.1 h; omega
            · omega
          have hyes := fun (h : (out + bit) * (out + bit) ≤ x) => RootN.yes (x := x) (out := out) (j := j) (t := t) (T := i) ho0 hj (by rw [← hbj]; exact h) (by rw [← hbj]; exact hxl)
          have hno := fun (h : x < (out + bit) * (out + bit)) => RootN.no (x := x) (out := out) (j := j) (t := t) (T := i) ho0 hox hj (by rw [← hbj]; exact h)
          rw [← hbj] at hyes hno
          have Hyes := hid hyes; have Hno := hid hno; have Hbit := hid hbit0
          clear H ho0 hox hxl hbm hbj hbit0 hyes hno hj
          go_wp2_with fail
          refine (radd_any _ _ out bit (4 + i + t) _ (HZO.out _ (Below.refl _ _)) ((HZB.out _ (Below.refl _ _)).mono (by omega)) (by omega)).mono ?_
          rintro e w1 ⟨_, rfl, hv1, hb1⟩
          obtain ⟨nb, no, nm, nc, rfl, HN1, _, _⟩ := Zt.opened hv1
          go_upto_region 11 with (fail)
          obtain ⟨W3, hW3⟩ : ∃ W3, W3 = w1.alloc (.cells #[.bool nb, .slice no nm nc] 33) := ⟨_, rfl⟩
          have hal : Below w1.heap.size w1 W3 := by rw [hW3]; exact (Below.refl _ _).alloc (Nat.le_refl _) _
          have hC3 : CellZ W3 w1.heap.size (out + bit) (4 + i + t + 1) := by rw [hW3]; exact CellZ.new hv1
          have hb3 : Below wr.heap.size wr W3 := hb1.trans (hal.mono hb1.size)
          rw [← hW3]
          obtain ⟨g7, hg7⟩ : ∃ g7, g7 = w1.heap.size := ⟨_, rfl⟩
          rw [← hg7] at hC3 ⊢
          obtain ⟨nb', no', nm', nc', HC7, HZ7, _, _⟩ := hC3.opened
          have e7 := (HC7.out _ (Below.refl _ _)).1
          have e7' := (HC7.out _ (Below.refl _ _)).2.1
          rw [hW3, hg7] at e7 e7'
          simp [go_sem] at e7 e7'
          obtain rfl := e7
          obtain ⟨rfl, rfl, rfl⟩ := e7'
          have hlow3 : Below (w.heap.size + 2) W0 W3 := HH.out.low.trans (hb3.mono (Nat.le_trans (by have := Hz0.out; omega) HH.out.low.size))
          have HS3 : Hid (∀ w', Below W3.heap.size W3 w' → w'.cell? ⟨g7, 0, none⟩ = some (.bool nb) ∧ w'.cell? ⟨g7, 1, none⟩ = some (.slice no nm nc) ∧ w'.cell? ⟨w.heap.size, 0, none⟩ = some (.bool false) ∧ w'.cell? ⟨w.heap.size, 1, none⟩ = some (.slice xo xm xc)) := hid (fun w' hb => by
            obtain ⟨a0, a1, _, _⟩ := HC7.out _ hb
            obtain ⟨a2, a3⟩ := HS.out _ (hlow3.trans (hb.mono (Nat.le_trans (by have := Hz0.out; omega) hlow3.size)))
            exact ⟨a0, a1, a2, a3⟩)
          have Hb3 := hid hb3; have Hlow3 := hid hlow3
          have HBw3 := hid (HBw.out.trans (hb3.mono HBw.out.size))
          clear hW3 hal hb1 hv1 hC3 HN1 hg7 hb3 hlow3 k0 k1 c0 c1 f0 f1 d0 d1 e0 e1
          obtain ⟨y, hy⟩ : ∃ y, y = cmpI ((out + bit) * (out + bit)) x := ⟨_, rfl⟩
          go_region_held3 (fun w' => w'.cell? ⟨g7, 0, none⟩ = some (.bool nb) ∧ w'.cell? ⟨g7, 1, none⟩ = some (.slice no nm nc) ∧ w'.cell? ⟨w.heap.size, 0, none⟩ = some (.bool false) ∧ w'.cell? ⟨w.heap.size, 1, none⟩ = some (.slice xo xm xc)) ((refine HS3.out _ ?_; repeat (first | assumption | exact Below.refl _ _ | exact (Below.refl _ _).drew | exact Below.drew (by assumption)))) (first
            | (go_at_call 57; refine (rmul_any _ _ (out + bit) (out + bit) (4 + i + t + 1) (4 + i + t + 1) _ (HZ7.out _ (Below.refl _ _).drew) (HZ7.out _ (Below.refl _ _).drew) (by omega) (by omega)).mono ?_; rintro e w4 ⟨_, rfl, hv4, hb4⟩; obtain ⟨b4, o4, m4, c4, rfl, H4, _, _⟩ := Zt.opened hv4; have hX4 : Below W3.heap.size W3 w4 := (Below.refl _ _).drew.trans hb4)
            | (go_at_call 69; refine (rcmp_any _ _ ((out + bit) * (out + bit)) x (4 + i + t + 1 + (4 + i + t + 1) + 1 + K) _ ((H4.out _ (Below.refl _ _)).mono (by omega)) ((Hx.out _ (HBw3.out.trans (hX4.mono HBw3.out.size))).mono (by omega)) (by omega)).mono ?_; rintro e w5 ⟨rfl, hb5⟩; have hX5 : Below W3.heap.size W3 w5 := hX4.trans (hb5.mono hX4.size)))
          rw [← hy]
          have HX5 := hid hX5
          have HB5 := hid (Hb3.out.trans (hX5.mono Hb3.out.size))
          clear hv4 hb4 hb5 hX4 hX5 H4 HS3
          have hbm2 : Md w5 (.slice bo bm bc) bit (4 + i) := by
            have := HMB.out _ HB5.out
            rw [show (bit.natAbs : Int) = bit by have := Hbit.out; omega] at this
            exact this
          by_cases hle : (out + bit) * (out + bit) ≤ x
          · have hy0 : y ≤ 0 := by rw [hy]; unfold cmpI; split <;> (try split) <;> omega
            obtain ⟨c0, c1, f0, f1⟩ := HCO.out _ HB5.out
            obtain ⟨g0, g1, _, _⟩ := HC7.out _ HX5.out
            have Hbm2 := hid hbm2; have HRN := hid (Hyes.out hle)
            clear hy hle hbm2
            go_upto_region 13 with (fail)
            obtain ⟨W6, hW6⟩ : ∃ W6, W6 = (w5.setCell ⟨go, 0, none⟩ (.bool nb)).setCell ⟨go, 1, none⟩ (.slice no nm nc) := ⟨_, rfl⟩
            have hO6 : CellZ W6 go (out + bit) (4 + i + (t + 1)) := by rw [hW6]; exact (HH.out.celO.below HB5.out (Nat.le_refl _)).store (HZ7.out _ HX5.out)
            have hB6 : CellZ W6 gb bit (4 + i) := by rw [hW6]; exact (HH.out.celB.below HB5.out (Nat.le_refl _)).other (HH.out.celO.below HB5.out (Nat.le_refl _)) hne _ _
            have hlow6 : Below (w.heap.size + 2) W0 W6 := by
              rw [hW6]
              exact ((Hlow3.out.trans (HX5.out.mono (Nat.le_trans (by have := Hz0.out; omega) Hlow3.out.size))).setCell Hgo.out _).setCell Hgo.out _
            rw [← hW6]
            clear hW6 c0 c1 f0 f1 g0 g1
            obtain ⟨pb, po, pm, pc, HC6, _, HM6, _⟩ := hB6.opened
            obtain ⟨c0, c1, f0, f1⟩ := HC6.out _ (Below.refl _ _)
            have hm6 := HM6.out _ (Below.refl _ _)
            rw [show (bit.natAbs : Int) = bit by have := Hbit.out; omega] at hm6
            have HO6 := hid hO6; have HB6 := hid hB6; have HL6 := hid hlow6; have HM := hid hm6
            clear hO6 hB6 hlow6 hm6
            go_wp2_with fail
            refine (half_any _ bit (4 + i) _ HM.out (by omega)).mono ?_
            rintro e w7 ⟨v7, rfl, hv7, hb7⟩
            go_wp2_with fail
            refine (made_any false v7 (bit / 2) (4 + i) _ hv7.dg).mono ?_
            rintro e w8 ⟨_, rfl, hv8, hb8⟩
            rw [show sgn false (bit / 2) = bit / 2 from rfl] at hv8
            obtain ⟨b8, o8, m8, c8, rfl, _, _, _⟩ := Zt.opened hv8
            have hb78 := hb7.trans (hb8.mono hb7.size)
            have hN : R2 w W0 ((w8.setCell ⟨gb, 0, none⟩ (.bool b8)).setCell ⟨gb, 1, none⟩ (.slice o8 m8 c8)) x go gb (4 + i) i (t + 1) (out + bit) (bit / 2) :=
              ⟨(HO6.out.below hb78 (Nat.le_refl _)).other (HB6.out.below hb78 (Nat.le_refl _)) hne' _ _, (HB6.out.below hb78 (Nat.le_refl _)).store hv8, HRN.out,
               ((HL6.out.trans (hb78.mono (Nat.le_trans (by have := Hz0.out; omega) HL6.out.size))).setCell Hgb.out _).setCell Hgb.out _⟩
            have HN := hid hN
            have Hme : Hid (cellNat ((w8.setCell ⟨gb, 0, none⟩ (.bool b8)).setCell ⟨gb, 1, none⟩ (.slice o8 m8 c8)) gb < cellNat wr gb) := hid (by
              rw [cellNat_eq hN.celB, cellNat_eq HH.out.celB]
              have := Hbit.out; omega)
            clear c0 c1 f0 f1
            obtain ⟨c0, c1, f0, f1⟩ := HC6.out _ hb78
            clear hN hv7 hv8 hb7 hb8 hb78
            go_wp2
            go_roundw
            case rel => exact ⟨t + 1, (out + bit), bit / 2, by have := HRN.out.2.2; rcases this with ⟨_, _, h⟩ | ⟨j, h, _⟩ <;> omega, HN.out⟩
            case measure => exact Hme.out
          · have hy0 : ¬ y ≤ 0 := by rw [hy]; unfold cmpI; split <;> (try split) <;> omega
            have HRN := hid (Hno.out (by omega))
            clear hy hle hbm2
            go_upto_region 13 with (fail)
            obtain ⟨W6, rfl⟩ : ∃ W6, W6 = w5 := ⟨_, rfl⟩
            have hO6 : CellZ W6 go out (4 + i + (t + 1)) := (HH.out.celO.below HB5.out (Nat.le_refl _)).mono (by omega)
            have hB6 : CellZ W6 gb bit (4 + i) := HH.out.celB.below HB5.out (Nat.le_refl _)
            have hlow6 : Below (w.heap.size + 2) W0 W6 := Hlow3.out.trans (HX5.out.mono (Nat.le_trans (by have := Hz0.out; omega) Hlow3.out.size))
            obtain ⟨pb, po, pm, pc, HC6, _, HM6, _⟩ := hB6.opened
            obtain ⟨c0, c1, f0, f1⟩ := HC6.out _ (Below.refl _ _)
            have hm6 := HM6.out _ (Below.refl _ _)
            rw [show (bit.natAbs : Int) = bit by have := Hbit.out; omega] at hm6
            have HO6 := hid hO6; have HB6 := hid hB6; have HL6 := hid hlow6; have HM := hid hm6
            clear hO6 hB6 hlow6 hm6
            go_wp2_with fail
            refine (half_any _ bit (4 + i) _ HM.out (by omega)).mono ?_
            rintro e w7 ⟨v7, rfl, hv7, hb7⟩
            go_wp2_with fail
            refine (made_any false v7 (bit / 2) (4 + i) _ hv7.dg).mono ?_
            rintro e w8 ⟨_, rfl, hv8, hb8⟩
            rw [show sgn false (bit / 2) = bit / 2 from rfl] at hv8
            obtain ⟨b8, o8, m8, c8, rfl, _, _, _⟩ := Zt.opened hv8
            have hb78 := hb7.trans (hb8.mono hb7.size)
            have hN : R2 w W0 ((w8.setCell ⟨gb, 0, none⟩ (.bool b8)).setCell ⟨gb, 1, none⟩ (.slice o8 m8 c8)) x go gb (4 + i) i (t + 1) out (bit / 2) :=
              ⟨(HO6.out.below hb78 (Nat.le_refl _)).other (HB6.out.below hb78 (Nat.le_refl _)) hne' _ _, (HB6.out.below hb78 (Nat.le_refl _)).store hv8, HRN.out,
               ((HL6.out.trans (hb78.mono (Nat.le_trans (by have := Hz0.out; omega) HL6.out.size))).setCell Hgb.out _).setCell Hgb.out _⟩
            have HN := hid hN
            have Hme : Hid (cellNat ((w8.setCell ⟨gb, 0, none⟩ (.bool b8)).setCell ⟨gb, 1, none⟩ (.slice o8 m8 c8)) gb < cellNat wr gb) := hid (by
              rw [cellNat_eq hN.celB, cellNat_eq HH.out.celB]
              have := Hbit.out; omega)
            clear c0 c1 f0 f1
            obtain ⟨c0, c1, f0, f1⟩ := HC6.out _ hb78
            clear hN hv7 hv8 hb7 hb8 hb78
            go_wp2
            go_roundw
            case rel => exact ⟨t + 1, out, bit / 2, by have := HRN.out.2.2; rcases this with ⟨_, _, h⟩ | ⟨j, h, _⟩ <;> omega, HN.out⟩
            case measure => exact Hme.out
end Go.Proofs.YtbapeilpkhbbeaaGreat

/- What the law ExactDivides asks of an integer and its error, the program's beside the document's: Div, Root, Power; is over both. -/
namespace Go.Proofs.YtbapeilpkhbbeaaGreat
open Go.RowKit

/-- An integer that the program gives back, with its error. -/
def IntE (w : World) (v : Value) (err z : Int) : Prop := ∃ b o m c, v = .agg #[.bool b, .slice o m c] ∧ ((err = 0 ∧ ∃ K, An w v z K) ∨ (err ≠ 0 ∧ b = false ∧ m = 0))
/-- The document's. -/
def ZE (w : World) (v : Value) (err z : Int) : Prop := ∃ b o m c, v = .agg #[.bool b, .slice o m c] ∧ ((err = 0 ∧ ∃ K, K ≤ 268435456 ∧ Zt w v z K) ∨ err ≠ 0)
theorem IntE.below {w w' : World} {B : Nat} {v : Value} {err z : Int} (h : IntE w v err z) (hb : Below B w w') (hB : w.heap.size ≤ B) : IntE w' v err z := by
  obtain ⟨b, o, m, c, e, h⟩ := h
  refine ⟨b, o, m, c, e, ?_⟩
  rcases h with ⟨h1, K, h2⟩ | h
  · exact Or.inl ⟨h1, K, h2.below hb hB⟩
  · exact Or.inr h
theorem ZE.below {w w' : World} {B : Nat} {v : Value} {err z : Int} (h : ZE w v err z) (hb : Below B w w') (hB : w.heap.size ≤ B) : ZE w' v err z := by
  obtain ⟨b, o, m, c, e, h⟩ := h
  refine ⟨b, o, m, c, e, ?_⟩
  rcases h with ⟨h1, K, hK, h2⟩ | h
  · exact Or.inl ⟨h1, K, hK, h2.below hb hB⟩
  · exact Or.inr h
theorem IntE.opened {w : World} {v : Value} {err z : Int} (h : IntE w v err z) : ∃ b o m c, v = .agg #[.bool b, .slice o m c] ∧ Hid (∀ w', Below w.heap.size w w' → IntE w' (.agg #[.bool b, .slice o m c]) err z) := by
  have h' := h
  obtain ⟨b, o, m, c, rfl, _⟩ := h
  exact ⟨b, o, m, c, rfl, hid (fun w' hb => h'.below hb (Nat.le_refl _))⟩
theorem ZE.opened {w : World} {v : Value} {err z : Int} (h : ZE w v err z) : ∃ b o m c, v = .agg #[.bool b, .slice o m c] ∧ Hid (∀ w', Below w.heap.size w w' → ZE w' (.agg #[.bool b, .slice o m c]) err z) := by
  have h' := h
  obtain ⟨b, o, m, c, rfl, _⟩ := h
  exact ⟨b, o, m, c, rfl, hid (fun w' hb => h'.below hb (Nat.le_refl _))⟩
theorem intE_zero (w : World) {err : Int} (he : err ≠ 0) (z : Int) : IntE w (.agg #[.bool false, .slice none 0 0]) err z := ⟨_, _, _, _, rfl, Or.inr ⟨he, rfl, rfl⟩⟩
theorem Zt.ze {w : World} {v : Value} {z : Int} {K : Nat} (h : Zt w v z K) (hK : K ≤ 268435456) : ZE w v 0 z := by
  obtain ⟨b, o, m, c, e, _⟩ := Zt.opened h
  exact ⟨b, o, m, c, e, Or.inl ⟨rfl, K, hK, h⟩⟩
theorem ze_zero (w : World) {err : Int} (he : err ≠ 0) (z : Int) : ZE w (.agg #[.bool false, .slice none 0 0]) err z := ⟨_, _, _, _, rfl, Or.inr he⟩

open Classical in
noncomputable def rootZ (x : Int) : Int := if h : ∃ r : Int, 0 ≤ r ∧ r * r ≤ x ∧ x < (r + 1) * (r + 1) then Classical.choose h else 0
theorem root_uniq {x r s : Int} (hr : 0 ≤ r) (hs : 0 ≤ s) (h1 : r * r ≤ x) (h2 : x < (s + 1) * (s + 1)) : r ≤ s := by
  rcases Int.lt_or_le s r with h | h
  · have := Int.mul_le_mul (show s + 1 ≤ r by omega) (show s + 1 ≤ r by omega) (by omega) hr
    omega
  · exact h
theorem rootZ_eq {x r : Int} (h : 0 ≤ r ∧ r * r ≤ x ∧ x < (r + 1) * (r + 1)) : rootZ x = r := by
  have hx : ∃ r : Int, 0 ≤ r ∧ r * r ≤ x ∧ x < (r + 1) * (r + 1) := ⟨r, h⟩
  unfold rootZ
  rw [dif_pos hx]
  obtain ⟨a, b, c⟩ := Classical.choose_spec hx
  exact Int.le_antisymm (root_uniq a h.1 b h.2.2) (root_uniq h.1 a h.2.1 c)

set_option maxRecDepth 100000 in
set_option maxHeartbeats 1000000 in
theorem is_res (v q : Value) (e z : Int) (w : World) (hv : IntE w v e z) (hq : ZE w q e z) :
    Calls Tryz.prog 45 #[v, .int .i64 e, q, .int .i64 e] w fun e w' => e = .returned (.bool true) ∧ Below w.heap.size w w' := by
  obtain ⟨b, o, m, c, rfl, hv⟩ := hv
  obtain ⟨b2, o2, m2, c2, rfl, hq⟩ := hq
  have hB : Below w.heap.size w ((w.alloc (.cells #[.bool b, .slice o m c] 24)).alloc (.cells #[.bool b2, .slice o2 m2 c2] 33)) := ((Below.refl _ _).alloc (Nat.le_refl _) _).alloc (by simp) _
  have HB := hid hB
  clear hB
  by_cases he : e = 0
  · subst he
    have hs : ∃ K K2, An w (.agg #[.bool b, .slice o m c]) z K ∧ K2 ≤ 268435456 ∧ Zt w (.agg #[.bool b2, .slice o2 m2 c2]) z K2 := by
      rcases hv with ⟨_, K, h⟩ | ⟨h, _⟩
      · rcases hq with ⟨_, K2, h2, h3⟩ | h2
        · exact ⟨K, K2, h, h2, h3⟩
        · exact absurd rfl h2
      · exact absurd rfl h
    obtain ⟨K, K2, h1, h2, h3⟩ := hs
    have hS := fun (w' : World) (hb : Below w.heap.size w w') => sameInt_any _ _ z K K2 w' (h1.below hb (Nat.le_refl _)) (h3.below hb (Nat.le_refl _)) h2
    have HS := hid hS
    clear hS h1 h2 h3 hv hq
    go_enter Tryz.func45, Tryz.ntmps45
    go_wp2_with fail
    refine (HS.out _ HB.out).mono ?_
    rintro e w' ⟨rfl, hb⟩
    go_wp2
    go_ret
    exact ⟨rfl, HB.out.trans (hb.mono HB.out.size)⟩
  · have hs : b = false ∧ m = 0 := by
      rcases hv with ⟨h, _⟩ | ⟨_, h⟩
      · exact absurd h he
      · exact h
    obtain ⟨rfl, rfl⟩ := hs
    have heb : (e != 0) = true := by simpa using he
    clear hv hq
    go_enter Tryz.func45, Tryz.ntmps45
    go_wp2_with fail
    refine (noInt_any o c _).mono ?_
    rintro e w' ⟨rfl, hb⟩
    go_wp2
    go_ret
    exact ⟨rfl, HB.out.trans (hb.mono HB.out.size)⟩
end Go.Proofs.YtbapeilpkhbbeaaGreat

/- exact.groups: the iterator at numbers of one limb below the group's size: one round. -/
namespace Go.Proofs.YtbapeilpkhbbeaaGreat
open Go.RowKit Go.Shelf
attribute [local go_sem] Oper.semAt_some

end Go.Proofs.YtbapeilpkhbbeaaGreat

/- strings.Builder: WriteString, String; strconv.FormatUint of a number below 100: by the library's contracts and after them. -/
namespace Go.Proofs.YtbapeilpkhbbeaaGreat
open Go.RowKit Go.Shelf

end Go.Proofs.YtbapeilpkhbbeaaGreat

/- exact.decimals of a number below 100: its one group's digits. -/
namespace Go.Proofs.YtbapeilpkhbbeaaGreat
open Go.RowKit Go.Shelf
attribute [local go_sem] Oper.semAt_some

end Go.Proofs.YtbapeilpkhbbeaaGreat

/- (exact.integer).text and exact.Text of numbers closer to 0 than 100. -/
namespace Go.Proofs.YtbapeilpkhbbeaaGreat
open Go.RowKit

/-- The text of a number closer to 0 than 100. -/
def tx (z : Int) : ByteArray := if z < 0 then ⟨#[45]⟩ ++ ⟨(Lib.decDigits z.natAbs).toArray⟩ else ⟨(Lib.decDigits z.natAbs).toArray⟩
end Go.Proofs.YtbapeilpkhbbeaaGreat

/- exact.Show of ratios whose lowest form has numbers closer to 0 than 100; over and shows of the laws. -/
namespace Go.Proofs.YtbapeilpkhbbeaaGreat
open Go.RowKit

end Go.Proofs.YtbapeilpkhbbeaaGreat
