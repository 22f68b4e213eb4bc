/- exact.Power, exact.Root. Written by gen_power.py. The document's own integers: SameInt, LikeInt; the law's spoil. The law's own: an integer in memory of its own. The law's own once more: the words lie in memory of the call's own, with room for three more. How the arguments of the laws are opened (an api.Int reads as its sign and its list of words), and the last step of a row whose law returns true and leaves all that was there before. The law ExactField, its walk. Written by gen_field.py. An api.Ratio argument of a law, opened. Written by gen_fieldrow.py. A ratio argument whose words are known, as a value. What the law ExactForms says of numbers: scaled ratios; Decimal, Lowest by values. exact.Parse of any text; what Parse and ParseRatio make of the texts of numbers. -/
import Derived.Test.YtilpkocmdpofpaaGreatDoorNb30
import Derived.Test.YtilpkocmdpofpaaGreatDoorNb31
import Derived.Test.YtilpkocmdpofpaaGreatDoorNb23
import Derived.Laws.MakeOwn
import Derived.Test.YtilpkocmdpofpaaGreatDoorNb14
import Derived.Deep.Onto
import Derived.ProofKit
import Derived.Below
import Derived.Lib.SmallJoins
import Derived.Deep.Slices
import Derived.Test.YtilpkocmdpofpaaGreatDoorNb33
import Derived.Test.YtilpkocmdpofpaaGreatDoorNb34
import Derived.Test.YtilpkocmdpofpaaGreatDoorNb35
/- exact.Power, exact.Root. Written by gen_power.py. -/
namespace Go.Proofs.YtilpkocmdpofpaaGreatDoor
open Go.RowKit

/-- An integer in new memory, and the error. -/
def RetAE (w : World) (z : Int) (K : Nat) (err : Int) (e : Ending) (w' : World) : Prop := ∃ v, e = .returned (.tuple #[v, .int .i64 err]) ∧ FrA w w' v z K ∧ Below w.heap.size w w'
/-- No integer, and the error. -/
def RetNo (w : World) (err : Int) (e : Ending) (w' : World) : Prop := e = .returned (.tuple #[.agg #[.bool false, .slice none 0 0], .int .i64 err]) ∧ Below w.heap.size w w'
set_option maxRecDepth 100000 in
set_option maxHeartbeats 2000000 in
theorem Power_bad (u : Value) (x : Int) (K : Nat) (n : Int) (w : World) (hn : n < 0 ∨ 1024 < n) (hu : Ai w u x K) :
    Calls Tryz.prog 32 #[u, .int .i64 n] w (RetNo w 2) := by
  obtain ⟨xb, xo, xm, xc, rfl, Hx⟩ := Ai.opened hu
  clear hu
  obtain ⟨W0, hW0⟩ : ∃ W0, W0 = ((w.alloc (.cells #[.bool xb, .slice xo xm xc] 24)).alloc (.cells #[.bool false, .slice none 0 0] 24)) := ⟨_, rfl⟩
  have hB0 : Below w.heap.size w W0 := by rw [hW0]; exact ((Below.refl _ _).alloc (Nat.le_refl _) _).alloc (by simp) _
  have hz0 : W0.heap.size = w.heap.size + 2 := by rw [hW0]; simp
  have HS : Hid (∀ w', Below (w.heap.size + 1) W0 w' → w'.cell? ⟨w.heap.size, 0, none⟩ = some (.bool xb) ∧ w'.cell? ⟨w.heap.size, 1, none⟩ = some (.slice xo xm xc)) := hid (fun w' hb => by
    refine ⟨?_, ?_⟩ <;> (rw [hb.cell (by simp <;> omega), hW0]; simp [go_sem]))
  have HT : Hid (∀ w', Below (w.heap.size + 2) W0 w' → (w'.cell? ⟨w.heap.size + 1, 0, none⟩ = some (.bool false) ∧ w'.cell? ⟨w.heap.size + 1, 1, none⟩ = some (.slice none 0 0)) ∧ (w'.frozen? ⟨w.heap.size + 1, 0, none⟩ = false ∧ w'.frozen? ⟨w.heap.size + 1, 1, none⟩ = false)) := hid (fun w' hb => by
    refine ⟨⟨?_, ?_⟩, ?_, ?_⟩ <;> (first | (rw [hb.cell (by simp <;> omega), hW0]; simp [go_sem]; done) | (rw [hb.frozen (by simp <;> omega), hW0]; simp [go_sem]; done)))
  have HB0 := hid hB0; have Hz0 := hid hz0; have HW := hid hW0
  clear hW0 hB0 hz0
  clear Hx HS
  rcases hn with hn | hn
  all_goals
  go_enter Tryz.func32, Tryz.ntmps32
  go_upto_region 2 with (fail)
  all_goals
  rw [← HW.out]
  obtain ⟨⟨hr0, hr1⟩, hf0, hf1⟩ := HT.out _ (Below.refl _ _)
  go_wp2
  have hw6 := HB0.out
  exact bodyPost_ret (v := .tuple #[.agg #[.bool false, .slice none 0 0], .int .i64 2]) (by simp [results, Tryz.results32, go_sem, hr0, hr1]) rfl ⟨rfl, (hw6.setCell (by simp <;> omega) _).setCell (by simp <;> omega) _⟩

set_option maxRecDepth 100000 in
set_option maxHeartbeats 2000000 in
theorem Root_bad (u : Value) (x : Int) (K : Nat)  (w : World) (hneg : x < 0) (hu : Ai w u x K) (hK : K ≤ 10000000) :
    Calls Tryz.prog 31 #[u] w (RetNo w 2) := by
  obtain ⟨xb, xo, xm, xc, rfl, Hx⟩ := Ai.opened hu
  clear hu
  obtain ⟨W0, hW0⟩ : ∃ W0, W0 = ((w.alloc (.cells #[.bool xb, .slice xo xm xc] 24)).alloc (.cells #[.bool false, .slice none 0 0] 24)) := ⟨_, rfl⟩
  have hB0 : Below w.heap.size w W0 := by rw [hW0]; exact ((Below.refl _ _).alloc (Nat.le_refl _) _).alloc (by simp) _
  have hz0 : W0.heap.size = w.heap.size + 2 := by rw [hW0]; simp
  have HS : Hid (∀ w', Below (w.heap.size + 1) W0 w' → w'.cell? ⟨w.heap.size, 0, none⟩ = some (.bool xb) ∧ w'.cell? ⟨w.heap.size, 1, none⟩ = some (.slice xo xm xc)) := hid (fun w' hb => by
    refine ⟨?_, ?_⟩ <;> (rw [hb.cell (by simp <;> omega), hW0]; simp [go_sem]))
  have HT : Hid (∀ w', Below (w.heap.size + 2) W0 w' → (w'.cell? ⟨w.heap.size + 1, 0, none⟩ = some (.bool false) ∧ w'.cell? ⟨w.heap.size + 1, 1, none⟩ = some (.slice none 0 0)) ∧ (w'.frozen? ⟨w.heap.size + 1, 0, none⟩ = false ∧ w'.frozen? ⟨w.heap.size + 1, 1, none⟩ = false)) := hid (fun w' hb => by
    refine ⟨⟨?_, ?_⟩, ?_, ?_⟩ <;> (first | (rw [hb.cell (by simp <;> omega), hW0]; simp [go_sem]; done) | (rw [hb.frozen (by simp <;> omega), hW0]; simp [go_sem]; done)))
  have HB0 := hid hB0; have Hz0 := hid hz0; have HW := hid hW0
  clear hW0 hB0 hz0
  go_enter Tryz.func31, Tryz.ntmps31
  go_upto_region 1 with (fail)
  rw [← HW.out]
  obtain ⟨k0, k1⟩ := HS.out _ (Below.refl _ _)
  go_wp2_with fail
  refine (read_any _ x K _ (Hx.out _ HB0.out) (by omega)).mono ?_
  rintro e w1 ⟨_, rfl, hv1, hb1⟩
  obtain ⟨b1, o1, m1, c1, rfl, H1, H1s, H1b⟩ := It.opened hv1
  have hB1 : Below (w.heap.size + 2) W0 w1 := hb1.mono (by have := Hz0.out; omega)
  obtain ⟨W2, hW2⟩ : ∃ W2, W2 = w1.alloc (.cells #[.bool b1, .slice o1 m1 c1] 84) := ⟨_, rfl⟩
  have hal : Below w1.heap.size w1 W2 := by rw [hW2]; exact (Below.refl _ _).alloc (Nat.le_refl _) _
  have hB2 : Below (w.heap.size + 2) W0 W2 := hB1.trans (hal.mono (by have := hB1.size; have := Hz0.out; omega))
  have hc0 : W2.cell? ⟨w1.heap.size, 0, none⟩ = some (.bool b1) := by rw [hW2]; simp [go_sem]
  have hc1 : W2.cell? ⟨w1.heap.size, 1, none⟩ = some (.slice o1 m1 c1) := by rw [hW2]; simp [go_sem]
  have HN1 : Hid (∀ w', Below W2.heap.size W2 w' → Nt w' (.slice o1 m1 c1) (x.natAbs : Int) ((K + 1) / 2)) := hid (fun w' h => H1s.out _ (hal.trans (h.mono hal.size)))
  have HB2 := hid hB2; have Hb1 := H1b
  have Hs2 := hid (show w.heap.size + 2 ≤ W2.heap.size by have := hB2.size; have := Hz0.out; omega)
  have HW2 := hid hW2
  clear k0 k1 hv1 hb1 hal hB1 hW2 hB2 H1 H1s
  obtain rfl : b1 = true := by rw [H1b.out]; exact decide_eq_true hneg
  go_upto_region 2 with (fail)
  rw [← HW2.out]
  obtain ⟨⟨hr0, hr1⟩, hf0, hf1⟩ := HT.out _ HB2.out
  go_wp2
  have hs2 := Hs2.out
  have hw6 : Below w.heap.size w W2 := HB0.out.trans (HB2.out.mono (by omega))
  exact bodyPost_ret (v := .tuple #[.agg #[.bool false, .slice none 0 0], .int .i64 2]) (by simp [results, Tryz.results31, go_sem, hr0, hr1]) rfl ⟨rfl, (hw6.setCell (by simp <;> omega) _).setCell (by simp <;> omega) _⟩

set_option maxRecDepth 100000 in
set_option maxHeartbeats 2000000 in
theorem Root_any (u : Value) (x : Int) (K : Nat)  (w : World) (hpos : 0 ≤ x) (hu : Ai w u x K) (hK : K ≤ 10000000) :
    Calls Tryz.prog 31 #[u] w fun e w' => ∃ r : Int, 0 ≤ r ∧ r * r ≤ x ∧ x < (r + 1) * (r + 1) ∧ RetAE w r (2 * ((K + 1) / 2 + 3)) 0 e w' := by
  obtain ⟨xb, xo, xm, xc, rfl, Hx⟩ := Ai.opened hu
  clear hu
  obtain ⟨W0, hW0⟩ : ∃ W0, W0 = ((w.alloc (.cells #[.bool xb, .slice xo xm xc] 24)).alloc (.cells #[.bool false, .slice none 0 0] 24)) := ⟨_, rfl⟩
  have hB0 : Below w.heap.size w W0 := by rw [hW0]; exact ((Below.refl _ _).alloc (Nat.le_refl _) _).alloc (by simp) _
  have hz0 : W0.heap.size = w.heap.size + 2 := by rw [hW0]; simp
  have HS : Hid (∀ w', Below (w.heap.size + 1) W0 w' → w'.cell? ⟨w.heap.size, 0, none⟩ = some (.bool xb) ∧ w'.cell? ⟨w.heap.size, 1, none⟩ = some (.slice xo xm xc)) := hid (fun w' hb => by
    refine ⟨?_, ?_⟩ <;> (rw [hb.cell (by simp <;> omega), hW0]; simp [go_sem]))
  have HT : Hid (∀ w', Below (w.heap.size + 2) W0 w' → (w'.cell? ⟨w.heap.size + 1, 0, none⟩ = some (.bool false) ∧ w'.cell? ⟨w.heap.size + 1, 1, none⟩ = some (.slice none 0 0)) ∧ (w'.frozen? ⟨w.heap.size + 1, 0, none⟩ = false ∧ w'.frozen? ⟨w.heap.size + 1, 1, none⟩ = false)) := hid (fun w' hb => by
    refine ⟨⟨?_, ?_⟩, ?_, ?_⟩ <;> (first | (rw [hb.cell (by simp <;> omega), hW0]; simp [go_sem]; done) | (rw [hb.frozen (by simp <;> omega), hW0]; simp [go_sem]; done)))
  have HB0 := hid hB0; have Hz0 := hid hz0; have HW := hid hW0
  clear hW0 hB0 hz0
  go_enter Tryz.func31, Tryz.ntmps31
  go_upto_region 1 with (fail)
  rw [← HW.out]
  obtain ⟨k0, k1⟩ := HS.out _ (Below.refl _ _)
  go_wp2_with fail
  refine (read_any _ x K _ (Hx.out _ HB0.out) (by omega)).mono ?_
  rintro e w1 ⟨_, rfl, hv1, hb1⟩
  obtain ⟨b1, o1, m1, c1, rfl, H1, H1s, H1b⟩ := It.opened hv1
  have hB1 : Below (w.heap.size + 2) W0 w1 := hb1.mono (by have := Hz0.out; omega)
  obtain ⟨W2, hW2⟩ : ∃ W2, W2 = w1.alloc (.cells #[.bool b1, .slice o1 m1 c1] 84) := ⟨_, rfl⟩
  have hal : Below w1.heap.size w1 W2 := by rw [hW2]; exact (Below.refl _ _).alloc (Nat.le_refl _) _
  have hB2 : Below (w.heap.size + 2) W0 W2 := hB1.trans (hal.mono (by have := hB1.size; have := Hz0.out; omega))
  have hc0 : W2.cell? ⟨w1.heap.size, 0, none⟩ = some (.bool b1) := by rw [hW2]; simp [go_sem]
  have hc1 : W2.cell? ⟨w1.heap.size, 1, none⟩ = some (.slice o1 m1 c1) := by rw [hW2]; simp [go_sem]
  have HN1 : Hid (∀ w', Below W2.heap.size W2 w' → Nt w' (.slice o1 m1 c1) (x.natAbs : Int) ((K + 1) / 2)) := hid (fun w' h => H1s.out _ (hal.trans (h.mono hal.size)))
  have HB2 := hid hB2; have Hb1 := H1b
  have Hs2 := hid (show w.heap.size + 2 ≤ W2.heap.size by have := hB2.size; have := Hz0.out; omega)
  have HW2 := hid hW2
  clear k0 k1 hv1 hb1 hal hB1 hW2 hB2 H1 H1s
  obtain rfl : b1 = false := by rw [H1b.out]; exact decide_eq_false (by omega)
  go_upto_region 2 with (fail)
  rw [← HW2.out]
  go_wp2_with fail
  refine (root_any _ _ _ _ (HN1.out _ (Below.refl _ _)) (by omega)).mono ?_
  rintro e w3 ⟨r, r0, r1, r2, v3, rfl, hv3, hb3⟩
  rw [show (x.natAbs : Int) = x by omega] at r1 r2
  have HR := hid (And.intro r0 (And.intro r1 r2))
  go_wp2_with fail
  refine (signed_any false v3 _ _ _ hv3).mono ?_
  rintro e w4 ⟨_, rfl, hv4, hb4⟩
  rw [show sgn false r = r from rfl] at hv4
  obtain ⟨b4, o4, m4, c4, rfl, H4, _, _⟩ := It.opened hv4
  go_wp2_with fail
  refine (value_any _ _ _ _ (H4.out _ (Below.refl _ _)) (by omega)).mono ?_
  rintro e w5 ⟨_, rfl, ⟨_, rfl, hv5⟩, hb5⟩
  obtain ⟨o5, m5, c5, rfl, H5⟩ := FrW.opened hv5
  have hX4 : Below W2.heap.size W2 w4 := hb3.trans (hb4.mono hb3.size)
  have hX5 : Below W2.heap.size W2 w5 := hX4.trans (hb5.mono hX4.size)
  obtain ⟨⟨hr0, hr1⟩, hf0, hf1⟩ := HT.out _ (HB2.out.trans (hX5.mono Hs2.out))
  clear hv3 hv4 hv5 hb3 hb4 r0 r1 r2
  go_wp2
  have hs2 := Hs2.out; have hs4 := hX4.size
  have hw6 : Below w.heap.size w w5 := HB0.out.trans ((HB2.out.trans (hX5.mono hs2)).mono (by omega))
  refine bodyPost_ret (v := .tuple #[.agg #[.bool (decide (r < 0)), .slice o5 m5 c5], .int .i64 0]) (by simp [results, Tryz.results31, go_sem, hr0, hr1]) rfl ⟨r, HR.out.1, HR.out.2.1, HR.out.2.2, _, rfl, ⟨_, rfl, ?_⟩, (hw6.setCell (by simp <;> omega) _).setCell (by simp <;> omega) _⟩
  exact ((H5.out.set (by simp; omega) _).set (by simp; omega) _).base (by omega)

end Go.Proofs.YtilpkocmdpofpaaGreatDoor

/- The document's own integers: SameInt, LikeInt; the law's spoil. -/
namespace Go.Proofs.YtilpkocmdpofpaaGreatDoor
open Go.RowKit

/-- What a spoilt world keeps. -/
structure Spd (B : Nat) (w w' : World) : Prop where
  low : Below B w w'
  siz : w.heap.size ≤ w'.heap.size
  cel : ∀ a v, w.cell? a = some v → (∀ x, v ≠ .int .u32 x) → w'.cell? a = some v
  u32 : ∀ a x, w.cell? a = some (.int .u32 x) → 0 ≤ x → x < 4294967296 → ∃ y, 0 ≤ y ∧ y < 4294967296 ∧ w'.cell? a = some (.int .u32 y)
  frz : ∀ a, a.block < w.heap.size → w'.frozen? a = w.frozen? a
theorem Spd.refl (B : Nat) (w : World) : Spd B w w := ⟨Below.refl _ _, Nat.le_refl _, fun _ _ h _ => h, fun _ x h h0 h1 => ⟨x, h0, h1, h⟩, fun _ _ => rfl⟩
theorem Spd.trans {B : Nat} {a b c : World} (h : Spd B a b) (g : Spd B b c) : Spd B a c :=
  ⟨h.low.trans g.low, Nat.le_trans h.siz g.siz, fun p _ e hn => g.cel p _ (h.cel p _ e hn) hn, fun p x e h0 h1 => by obtain ⟨y, y0, y1, e'⟩ := h.u32 p x e h0 h1; exact g.u32 p y e' y0 y1, fun p hp => (g.frz p (Nat.lt_of_lt_of_le hp h.siz)).trans (h.frz p hp)⟩
theorem Spd.of_below {B : Nat} {w w' : World} (hb : Below w.heap.size w w') (hB : B ≤ w.heap.size) : Spd B w w' :=
  ⟨hb.mono hB, hb.size, fun a _ e _ => (hb.cell (World.block_lt_of_cell? w a e)).trans e, fun a x e h0 h1 => ⟨x, h0, h1, (hb.cell (World.block_lt_of_cell? w a e)).trans e⟩, fun _ ha => hb.frozen ha⟩
theorem Spd.drewN {B : Nat} {w w' : World} (h : Spd B w w') (n : Nat) : Spd B w (w'.drewN n) := ⟨below_drewN h.low n, h.siz, h.cel, h.u32, h.frz⟩
theorem Spd.set {B : Nat} {w w' : World} (h : Spd B w w') {a : Addr} (ha : B ≤ a.block) {x y : Int} (hx : w'.cell? a = some (.int .u32 x)) (y0 : 0 ≤ y) (y1 : y < 4294967296) : Spd B w (w'.setCell a (.int .u32 y)) := by
  refine ⟨h.low.setCell ha _, by simpa using h.siz, fun p _ e hn => ?_, fun p z e h0 h1 => ?_, fun p hp => ?_⟩
  · have e' := h.cel p _ e hn
    have hne : a ≠ p := by rintro rfl; rw [hx] at e'; exact hn x (Option.some.inj e').symm
    exact (World.cell?_setCell_other w' a _ _ hne).trans e'
  · obtain ⟨u, u0, u1, e'⟩ := h.u32 p z e h0 h1
    by_cases hne : a = p
    · subst hne
      exact ⟨y, y0, y1, World.cell?_setCell_same w' a _ hx⟩
    · exact ⟨u, u0, u1, (World.cell?_setCell_other w' a _ _ hne).trans e'⟩
  · rw [World.frozen?_setCell]; exact h.frz p hp

end Go.Proofs.YtilpkocmdpofpaaGreatDoor

/- The law's own: an integer in memory of its own. -/
namespace Go.Proofs.YtilpkocmdpofpaaGreatDoor
open Go.RowKit

end Go.Proofs.YtilpkocmdpofpaaGreatDoor

/- The law's own once more: the words lie in memory of the call's own, with room for three more. -/
namespace Go.Proofs.YtilpkocmdpofpaaGreatDoor
open Go.RowKit

end Go.Proofs.YtilpkocmdpofpaaGreatDoor

/- How the arguments of the laws are opened (an api.Int reads as its sign and its list of words), and the last step of a row whose law returns true and leaves all that was there before. -/
namespace Go.Proofs.YtilpkocmdpofpaaGreatDoor
open Go.ChangeShapes Go.WideShapes Go.ChangeAt Go.RowKit Go.Joins

theorem Tryz.ownKnobNone : ownKnob Tryz.prog.godebug = none := by kernel_rfl
theorem Tryz.laidOutAll : laidOutB Tryz.prog = true := by kernel_rfl

/-- The number that a value is. -/
def intOf : Value → Int | .int _ x => x | _ => 0

/-- What lies below a bound reads as it did, whatever was made above it. -/
theorem allStays {H : Type} {enc : TypeId × Value → H} {P : Program} (hl : laidOutB P = true) {W W' : World} {sp' : Nat → Bool} : ∀ {ts : List TypeId} {vs : List Value} {ds : List (DataW H)} {ps : List MemPlace},
    (∀ t ∈ ts, P.readableRec t = true ∧ t < P.types.size) → DataW.TrodAll enc P W 0 (fun _ => true) true ts vs ds ps → (∀ p ∈ ps, W.sameAt W' p) → (∀ p ∈ ps, sp' p.block = true) → DataW.TrodAll enc P W' 0 sp' true ts vs ds ps
  | [], _, _, _, _, h, _, _ => by
    obtain ⟨rfl, rfl, rfl⟩ := trodAll_nil h
    exact trodAll_mk0
  | t :: ts, _, _, _, ht, h, hs, hp => by
    obtain ⟨v, vs1, d, ds1, a, b, rfl, rfl, rfl, h1, h2⟩ := trodAll_cons h
    refine ⟨a, b, ?_, ?_, rfl⟩
    · exact WideElems.Trod_stays hl (ht t (by simp)).1 (ht t (by simp)).2 h1 (fun p k => hs p (by simp [k])) (fun p k => hp p (by simp [k]))
    · exact allStays hl (fun u k => ht u (by simp [k])) h2 (fun p k => hs p (by simp [k])) (fun p k => hp p (by simp [k]))

/-- The last step of a row: the law returns true, its arguments read as they did. -/
theorem lawTrue {H : Type} {enc : TypeId × Value → H} {P : Program} {f : Func} {s : ChangeSpec} {apart fresh handsOn : Bool} {W W' : World} {args : Array Value} {ds gs : List (DataW H)} {before : List MemPlace} {tb : TypeId}
    (hl : laidOutB P = true) (hr : ∀ t ∈ f.params.toList, P.readableRec t = true ∧ t < P.types.size) (hv : s.vars = []) (hres : f.resultTypes = #[tb]) (hb : P.underlying tb = some .bool)
    (hfn : s.fn H (ds ++ gs) = { results := [.lit (.bool true)], args := ds })
    (hW : DataW.Whole enc P f.params.toList s.vars apart W args.toList ds gs before) (hlow : Below W.heap.size W W') :
    s.post enc P f apart fresh handsOn false W args (.bool true) W' := by
  have hW' := hW
  obtain ⟨p, q, hA, hV, hpq, _, _⟩ := hW
  rw [hv] at hV
  obtain ⟨rfl, rfl⟩ := trodVars_none hV
  have hlt := hW'.lt
  have e0 : before = p := by rw [hpq]; simp
  subst e0
  refine ⟨ds, [], before, [], before, [], hW', ?_, ?_, ?_, ?_, fun h => by cases h⟩
  · rw [hfn, hres]
    exact trodAll_mk1 (shut_bool hb _)
  · rw [hfn]
    exact allStays hl hr hA (fun p k => hlow.same (hlt p k)) (fun p k => by simpa using hlt p k)
  · rw [hfn, hv]
    rfl
  · exact World.keptBut_mono (fun p k => ⟨k, Or.inr (Or.inl k)⟩) (hlow.frame (· ∈ before))
end Go.Proofs.YtilpkocmdpofpaaGreatDoor

/- The law ExactField, its walk. Written by gen_field.py. -/
namespace Go.Proofs.YtilpkocmdpofpaaGreatDoor
open Go.RowKit

end Go.Proofs.YtilpkocmdpofpaaGreatDoor

/- An api.Ratio argument of a law, opened. Written by gen_fieldrow.py. -/
namespace Go.Proofs.YtilpkocmdpofpaaGreatDoor
open Go.ChangeShapes Go.WideShapes Go.ChangeAt Go.RowKit Go.Joins

end Go.Proofs.YtilpkocmdpofpaaGreatDoor

/- A ratio argument whose words are known, as a value. -/
namespace Go.Proofs.YtilpkocmdpofpaaGreatDoor
open Go.RowKit

end Go.Proofs.YtilpkocmdpofpaaGreatDoor

/- What the law ExactForms says of numbers: scaled ratios; Decimal, Lowest by values. -/
namespace Go.Proofs.YtilpkocmdpofpaaGreatDoor
open Go.RowKit

theorem low_rv {w : World} {v : Value} {n d : Int} {K : Nat} (h : Ra w v (lowN n d) (lowD n d) K) (hd : 0 < d) : Rv w v n d K := by
  have hl := low_val n hd
  have hp := rn_pos (lowN n d) hl.2
  exact ⟨hd, _, _, h, by rw [hp.1, hp.2]; exact hl.1⟩
theorem Decimal_rv (v : Value) (n d : Int) (K p : Nat) (w : World) (hv : Rv w v n d K) (hK : K ≤ 140) (hp : p ≤ 100) (hT : Tab w) :
    Calls Tryz.prog 13 #[v, .int .i64 (p : Int)] w fun e w' => e = .returned (.tuple #[.string (dcT ((n * 10 ^ p * 2 + d).fdiv (d * 2)) p), .int .i64 0]) ∧ Below w.heap.size w w' := by
  obtain ⟨hd, x, y, hr, he⟩ := hv
  have h := Decimal_ra v x y K p w hr hK hp hT
  rw [fdiv_ratio (c := n * 10 ^ p * 2 + d) (e := d * 2) (by have := rd_pos y; omega) (by omega) (by grind)] at h
  exact h
end Go.Proofs.YtilpkocmdpofpaaGreatDoor

/- exact.Parse of any text; what Parse and ParseRatio make of the texts of numbers. -/
namespace Go.Proofs.YtilpkocmdpofpaaGreatDoor
open Go.RowKit

/-- A value in normal form fits in as many words as its number does. -/
theorem FrA.fits {w0 w : World} {v : Value} {z : Int} {K k : Nat} (h : FrA w0 w v z K) (hz : z.natAbs < 10 ^ (9 * k)) : Ai w v z k := by
  obtain ⟨s, rfl, L, ho, hd, hn, hv, hl⟩ := h
  have hB : (0 : Int) < B32 := by unfold B32; decide
  have h9 : ((10 ^ (9 * k) : Nat) : Int) ≤ B32 ^ k := by
    rw [Nat.pow_mul, Int.natCast_pow]
    have : ((10 ^ 9 : Nat) : Int) ≤ B32 := by unfold B32; decide
    clear hz
    induction k with
    | zero => simp
    | succ k ih =>
      rw [Int.pow_succ, Int.pow_succ]
      exact Int.mul_le_mul ih this (by decide) (Int.le_of_lt (Int.pow_pos hB))
  have hlen : L.length ≤ k := by
    by_cases h : L.length ≤ k
    · exact h
    · have h1 := Nrm.low hB hd hn (by omega)
      have h2 := pow_le (B := B32) (by unfold B32; decide) (show k ≤ L.length - 1 by omega)
      omega
  exact FrA.ai ⟨s, rfl, L, ho, hd, hn, hv, hlen⟩
theorem FrR.fits {w0 w : World} {v : Value} {x y : Int} {K k : Nat} (h : FrR w0 w v x y K) (hx : x.natAbs < 10 ^ (9 * k)) (hy : y.natAbs < 10 ^ (9 * k)) : Ra w v x y k := by
  obtain ⟨b1, o1, m1, c1, b2, o2, m2, c2, rfl, h1, h2⟩ := FrR.opened h
  exact ⟨_, _, _, _, _, _, _, _, rfl, h1.out.fits hx, h2.out.fits hy⟩
/-- An integer and the error. -/
def RetZE (w : World) (z : Int) (R : Nat) (err : Int) (e : Ending) (w' : World) : Prop := ∃ b1 o1 m1 c1, e = .returned (.tuple #[.agg #[.bool b1, .slice o1 m1 c1], .int .i64 err]) ∧ Hid (Ai w' (.agg #[.bool b1, .slice o1 m1 c1]) z R) ∧ Below w.heap.size w w'
theorem ParseRatio_rv (l : List UInt8) (w : World) (hm : Mx w) (hl : l.length ≤ 4096) (hb : prfB l = true) (k : Nat) (hN : (prfN l).natAbs < 10 ^ (9 * k)) (hD : (prfD l).natAbs < 10 ^ (9 * k)) :
    Calls Tryz.prog 15 #[.string ⟨l.toArray⟩] w (RetVE w (prfN l) (prfD l) k 0) := by
  refine (ParseRatio_any l (by omega) w hm).mono ?_
  rintro e w' ⟨b1, o1, m1, c1, b2, o2, m2, c2, rfl, hf, hbel⟩
  have hE : prfE l = 0 := by
    unfold prfE
    rw [if_neg (by omega), hb]; rfl
  have hp := prf_pos hb
  have h := hf hE
  have hlv := low_val (prfN l) hp
  have h1 : (lowD (prfN l) (prfD l)).natAbs ≤ (prfD l).natAbs := by
    have := (low_small (prfN l) hp).1
    have := hlv.2
    omega
  exact ⟨b1, o1, m1, c1, b2, o2, m2, c2, by rw [hE], hid (low_rv (h.fits (Nat.lt_of_le_of_lt (lowN_abs _ _) hN) (Nat.lt_of_le_of_lt h1 hD)) hp), hbel⟩
/-- ParseRatio of any other text. -/
theorem ParseRatio_bad (l : List UInt8) (hl : l.length ≤ 500) (w : World) (hm : Mx w) (hb : prfB l = false) :
    Calls Tryz.prog 15 #[.string ⟨l.toArray⟩] w fun e w' => ∃ b1 o1 m1 c1 b2 o2 m2 c2, e = .returned (.tuple #[.agg #[.bool b1, .slice o1 m1 c1, .bool b2, .slice o2 m2 c2], .int .i64 5]) ∧ Below w.heap.size w w' := by
  refine (ParseRatio_any l (by omega) w hm).mono ?_
  rintro e w' ⟨b1, o1, m1, c1, b2, o2, m2, c2, rfl, hf, hbel⟩
  have hE : prfE l = 5 := by
    unfold prfE
    rw [if_neg (by omega), hb]; rfl
  exact ⟨b1, o1, m1, c1, b2, o2, m2, c2, by rw [hE], hbel⟩
end Go.Proofs.YtilpkocmdpofpaaGreatDoor
