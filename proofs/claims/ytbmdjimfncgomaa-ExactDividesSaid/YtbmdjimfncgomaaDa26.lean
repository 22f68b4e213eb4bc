/- exact.Over: the ratio of two numbers of 64 bits, or ErrZero. The document's ratios: Whole; the law's spoilRatio. What the law ExactDivides asks of an integer and its error, the program's beside the document's: Div, Root, Power; is over both. -/
import Derived.Test.YtbmdjimfncgomaaDa18
import Derived.Test.YtbmdjimfncgomaaDa22
import Derived.Test.YtbmdjimfncgomaaDa23
import Derived.Test.YtbmdjimfncgomaaDa25
import Derived.Test.YtbmdjimfncgomaaDa20
import Derived.Test.YtbmdjimfncgomaaDa21
/- exact.Over: the ratio of two numbers of 64 bits, or ErrZero. -/
namespace Go.Proofs.Ytbmdjimfncgomaa
open Go.RowKit

theorem FrA.ai {w0 w : World} {v : Value} {z : Int} {K : Nat} (h : FrA w0 w v z K) : Ai w v z K := by
  obtain ⟨s, rfl, L, ho, hd, hn, hv, hl⟩ := h
  obtain ⟨ao, c, rfl⟩ := owns_slice ho
  refine ⟨_, ao, c, L, rfl, owns_any ho rfl, hd, hl, ?_⟩
  rw [hv]
  unfold sgn
  by_cases h : z < 0 <;> simp [h] <;> omega

set_option maxRecDepth 100000 in
set_option maxHeartbeats 1000000 in
theorem Over_any (n d : Int) (w : World) (n0 : -9223372036854775808 ≤ n) (n1 : n < 9223372036854775808) (d0 : -9223372036854775808 ≤ d) (d1 : d < 9223372036854775808) (hd : d ≠ 0) :
    Calls Try.prog 33 #[.int .i64 n, .int .i64 d] w fun e w' => ∃ f, e = .returned (.tuple #[f, .int .i64 0]) ∧ FrR w w' f (lowN (sgn (decide (n < 0) != decide (d < 0)) (n.natAbs : Int)) (d.natAbs : Int)) (lowD (sgn (decide (n < 0) != decide (d < 0)) (n.natAbs : Int)) (d.natAbs : Int)) 2 ∧ Below w.heap.size w w' := by
  obtain ⟨W0, hW0⟩ : ∃ W0, W0 = (w.alloc (.cells #[.bool false, .slice none 0 0, .bool false, .slice none 0 0] 56)) := ⟨_, rfl⟩
  have hB0 : Below w.heap.size w W0 := by rw [hW0]; exact (Below.refl _ _).alloc (Nat.le_refl _) _
  have hz0 : W0.heap.size = w.heap.size + 1 := by rw [hW0]; simp
  have HT : Hid (∀ w', Below W0.heap.size W0 w' → (w'.cell? ⟨w.heap.size, 0, none⟩ = some (.bool false) ∧ w'.cell? ⟨w.heap.size, 1, none⟩ = some (.slice none 0 0) ∧ w'.cell? ⟨w.heap.size, 2, none⟩ = some (.bool false) ∧ w'.cell? ⟨w.heap.size, 3, none⟩ = some (.slice none 0 0)) ∧ (w'.frozen? ⟨w.heap.size, 0, none⟩ = false ∧ w'.frozen? ⟨w.heap.size, 1, none⟩ = false ∧ w'.frozen? ⟨w.heap.size, 2, none⟩ = false ∧ w'.frozen? ⟨w.heap.size, 3, none⟩ = false)) := hid (fun w' hb => by
    refine ⟨⟨?_, ?_, ?_, ?_⟩, ?_, ?_, ?_, ?_⟩ <;> (first | (rw [hb.cell (by rw [hz0]; simp), hW0]; simp [go_sem]; done) | (rw [hb.frozen (by rw [hz0]; simp), hW0]; simp [go_sem]; done)))
  have HB0 := hid hB0; have Hz0 := hid hz0; have HW := hid hW0
  clear hW0 hB0 hz0
  go_enter Try.func33, Try.ntmps33
  go_upto_region 1 with (fail)
  rw [← HW.out]
  go_wp2_with fail
  refine (of_any n W0 n0 n1).mono ?_
  rintro e w1 ⟨v1, rfl, hv1, hb1⟩
  go_wp2_with fail
  refine (of_any d w1 d0 d1).mono ?_
  rintro e w2 ⟨v2, rfl, hv2, hb2⟩
  have hX2 : Below W0.heap.size W0 w2 := hb1.trans (hb2.mono hb1.size)
  go_wp2_with fail
  refine (Make_any v1 v2 n d 2 w2 (hv1.ai.below hb2 (Nat.le_refl _)) hv2.ai hd (by decide)).mono ?_
  rintro e w6 ⟨_, rfl, hv6, hb6⟩
  obtain ⟨z1, o6, m6, c6, z2, o7, m7, c7, rfl, H6, H7⟩ := FrR.opened hv6
  have hX6 : Below W0.heap.size W0 w6 := hX2.trans (hb6.mono hX2.size)
  obtain ⟨⟨hr0, hr1, hr2, hr3⟩, hf0, hf1, hf2, hf3⟩ := HT.out _ hX6
  clear hv6
  go_wp2
  have hz0 := Hz0.out; have hs5 := hX2.size
  have hw6 : Below w.heap.size w w6 := HB0.out.trans (hX6.mono (by omega))
  have hlt : w.heap.size < w2.heap.size := by omega
  refine bodyPost_ret (v := .tuple #[.agg #[.bool z1, .slice o6 m6 c6, .bool z2, .slice o7 m7 c7], .int .i64 0]) (by simp [results, Try.results33, go_sem, hr0, hr1, hr2, hr3]) rfl ⟨_, rfl, ?_, (((hw6.setCell (by simp) _).setCell (by simp) _).setCell (by simp) _).setCell (by simp) _⟩
  refine ⟨_, _, _, _, rfl, ?_, ?_⟩
  · exact ((((H6.out.set hlt _).set hlt _).set hlt _).set hlt _).base (by omega)
  · exact ((((H7.out.set hlt _).set hlt _).set hlt _).set hlt _).base (by omega)

set_option maxRecDepth 100000 in
set_option maxHeartbeats 1000000 in
theorem Over_zero (n : Int) (w : World) (n0 : -9223372036854775808 ≤ n) (n1 : n < 9223372036854775808) :
    Calls Try.prog 33 #[.int .i64 n, .int .i64 0] w fun e w' => e = .returned (.tuple #[.agg #[.bool false, .slice none 0 0, .bool false, .slice none 0 0], .int .i64 10]) ∧ Below w.heap.size w w' := by
  obtain ⟨W0, hW0⟩ : ∃ W0, W0 = (w.alloc (.cells #[.bool false, .slice none 0 0, .bool false, .slice none 0 0] 56)) := ⟨_, rfl⟩
  have hB0 : Below w.heap.size w W0 := by rw [hW0]; exact (Below.refl _ _).alloc (Nat.le_refl _) _
  have hz0 : W0.heap.size = w.heap.size + 1 := by rw [hW0]; simp
  have HT : Hid (∀ w', Below W0.heap.size W0 w' → (w'.cell? ⟨w.heap.size, 0, none⟩ = some (.bool false) ∧ w'.cell? ⟨w.heap.size, 1, none⟩ = some (.slice none 0 0) ∧ w'.cell? ⟨w.heap.size, 2, none⟩ = some (.bool false) ∧ w'.cell? ⟨w.heap.size, 3, none⟩ = some (.slice none 0 0)) ∧ (w'.frozen? ⟨w.heap.size, 0, none⟩ = false ∧ w'.frozen? ⟨w.heap.size, 1, none⟩ = false ∧ w'.frozen? ⟨w.heap.size, 2, none⟩ = false ∧ w'.frozen? ⟨w.heap.size, 3, none⟩ = false)) := hid (fun w' hb => by
    refine ⟨⟨?_, ?_, ?_, ?_⟩, ?_, ?_, ?_, ?_⟩ <;> (first | (rw [hb.cell (by rw [hz0]; simp), hW0]; simp [go_sem]; done) | (rw [hb.frozen (by rw [hz0]; simp), hW0]; simp [go_sem]; done)))
  have HB0 := hid hB0; have Hz0 := hid hz0; have HW := hid hW0
  clear hW0 hB0 hz0
  go_enter Try.func33, Try.ntmps33
  go_upto_region 1 with (fail)
  rw [← HW.out]
  go_wp2_with fail
  refine (of_any n W0 n0 n1).mono ?_
  rintro e w1 ⟨v1, rfl, hv1, hb1⟩
  go_wp2_with fail
  refine (of_any 0 w1 (by decide) (by decide)).mono ?_
  rintro e w2 ⟨v2, rfl, hv2, hb2⟩
  have hX2 : Below W0.heap.size W0 w2 := hb1.trans (hb2.mono hb1.size)
  go_wp2_with fail
  refine (Make_zero v1 v2 n 2 w2 (hv1.ai.below hb2 (Nat.le_refl _)) hv2.ai (by decide)).mono ?_
  rintro e w6 ⟨rfl, hb6⟩
  have hX6 : Below W0.heap.size W0 w6 := hX2.trans (hb6.mono hX2.size)
  obtain ⟨⟨hr0, hr1, hr2, hr3⟩, hf0, hf1, hf2, hf3⟩ := HT.out _ hX6
  go_wp2
  have hw6 : Below w.heap.size w w6 := HB0.out.trans (hX6.mono (by have := Hz0.out; omega))
  exact bodyPost_ret (v := .tuple #[.agg #[.bool false, .slice none 0 0, .bool false, .slice none 0 0], .int .i64 10]) (by simp [results, Try.results33, go_sem, hr0, hr1, hr2, hr3]) rfl ⟨rfl, (((hw6.setCell (by simp) _).setCell (by simp) _).setCell (by simp) _).setCell (by simp) _⟩
end Go.Proofs.Ytbmdjimfncgomaa

/- The document's ratios: Whole; the law's spoilRatio. -/
namespace Go.Proofs.Ytbmdjimfncgomaa
open Go.RowKit

set_option maxRecDepth 100000 in
set_option maxHeartbeats 1000000 in
theorem rwhole_any (u : Value) (x : Int) (K : Nat) (w : World) (hu : Zt w u x K) (hK : 4 ≤ K) :
    Calls Try.prog 42 #[u] w fun e w' => ∃ f, e = .returned f ∧ Qt w' f x 1 K ∧ Below w.heap.size w w' := by
  obtain ⟨xb, xo, xm, xc, rfl, Hx, _, _⟩ := Zt.opened hu
  clear hu
  obtain ⟨W0, hW0⟩ : ∃ W0, W0 = ((w.alloc (.cells #[.bool xb, .slice xo xm xc] 28)).alloc (.cells #[.bool false, .slice none 0 0, .bool false, .slice none 0 0] 60)) := ⟨_, rfl⟩
  have hB0 : Below w.heap.size w W0 := by rw [hW0]; exact ((Below.refl _ _).alloc (Nat.le_refl _) _).alloc (by simp) _
  have hz0 : W0.heap.size = w.heap.size + 2 := by rw [hW0]; simp
  have HS : Hid (∀ w', Below (w.heap.size + 1) W0 w' → w'.cell? ⟨w.heap.size, 0, none⟩ = some (.bool xb) ∧ w'.cell? ⟨w.heap.size, 1, none⟩ = some (.slice xo xm xc)) := hid (fun w' hb => by
    refine ⟨?_, ?_⟩ <;> (rw [hb.cell (by simp <;> omega), hW0]; simp [go_sem]))
  have HT : Hid (∀ w', Below (w.heap.size + 2) W0 w' → (w'.cell? ⟨w.heap.size + 1, 0, none⟩ = some (.bool false) ∧ w'.cell? ⟨w.heap.size + 1, 1, none⟩ = some (.slice none 0 0) ∧ w'.cell? ⟨w.heap.size + 1, 2, none⟩ = some (.bool false) ∧ w'.cell? ⟨w.heap.size + 1, 3, none⟩ = some (.slice none 0 0)) ∧ (w'.frozen? ⟨w.heap.size + 1, 0, none⟩ = false ∧ w'.frozen? ⟨w.heap.size + 1, 1, none⟩ = false ∧ w'.frozen? ⟨w.heap.size + 1, 2, none⟩ = false ∧ w'.frozen? ⟨w.heap.size + 1, 3, none⟩ = false)) := hid (fun w' hb => by
    refine ⟨⟨?_, ?_, ?_, ?_⟩, ?_, ?_, ?_, ?_⟩ <;> (first | (rw [hb.cell (by simp), hW0]; simp [go_sem]; done) | (rw [hb.frozen (by simp), hW0]; simp [go_sem]; done)))
  have HB0 := hid hB0; have Hz0 := hid hz0; have HW := hid hW0
  clear hW0 hB0 hz0
  go_enter Try.func42, Try.ntmps42
  go_upto_region 1 with (fail)
  rw [← HW.out]
  go_region_held3 (fun w' => w'.cell? ⟨w.heap.size, 0, none⟩ = some (.bool xb) ∧ w'.cell? ⟨w.heap.size, 1, none⟩ = some (.slice xo xm xc)) ((refine HS.out _ ?_; repeat (first | assumption | exact Below.refl _ _ | exact (Below.refl _ _).drew | exact Below.drew (by assumption) | (refine Below.setCell ?_ (by simp) _)))) (first
    | (go_at_call 35; refine (rof_any 1 _ (by decide) (by decide)).mono ?_; rintro e w2 ⟨_, rfl, hv2, hb2⟩; obtain ⟨b2, o2, m2, c2, rfl, H2, _, _⟩ := Zt.opened hv2; have hB2 : Below (w.heap.size + 2) W0 w2 := ((Below.refl _ _).drew).trans (hb2.mono (by have := Hz0.out; simp; omega)); have hB2s : Below (w.heap.size + 1) W0 w2 := hB2.mono (by omega); obtain ⟨⟨hr0, hr1, hr2, hr3⟩, hf0, hf1, hf2, hf3⟩ := HT.out _ hB2))
  go_wp2
  have hbel : Below w.heap.size w w2 := HB0.out.trans (hB2.mono (by omega))
  refine bodyPost_ret (v := .agg #[.bool xb, .slice xo xm xc, .bool b2, .slice o2 m2 c2]) (by simp [results, Try.results42, go_sem, hr0, hr1, hr2, hr3]) rfl ⟨_, rfl, ?_, (((hbel.setCell (by simp <;> omega) _).setCell (by simp <;> omega) _).setCell (by simp <;> omega) _).setCell (by simp <;> omega) _⟩
  have hx2 := Hx.out _ hbel
  have h12 := H2.out _ (Below.refl _ _)
  refine ⟨xb, xo, xm, xc, b2, o2, m2, c2, rfl, ?_, ?_⟩
  · exact zt_keeps ((((((Keeps.refl _ _).setCell (u := .bool false) hr0 (fun x h => (by cases h)) _).setCell (u := .slice none 0 0) (by simp [go_sem, hr1]) (fun x h => (by cases h)) _).setCell (u := .bool false) (by simp [go_sem, hr2]) (fun x h => (by cases h)) _).setCell (u := .slice none 0 0) (by simp [go_sem, hr3]) (fun x h => (by cases h)) _)) hx2
  · exact Zt.mono (zt_keeps ((((((Keeps.refl _ _).setCell (u := .bool false) hr0 (fun x h => (by cases h)) _).setCell (u := .slice none 0 0) (by simp [go_sem, hr1]) (fun x h => (by cases h)) _).setCell (u := .bool false) (by simp [go_sem, hr2]) (fun x h => (by cases h)) _).setCell (u := .slice none 0 0) (by simp [go_sem, hr3]) (fun x h => (by cases h)) _)) h12) hK

set_option maxRecDepth 100000 in
set_option maxHeartbeats 1000000 in
theorem spoilRatio_any (B : Nat) (b1 b2 : Bool) (o1 o2 : Option Addr) (m1 c1 m2 c2 : Nat) (w : World) (h1 : Sp w B (.agg #[.bool b1, .slice o1 m1 c1])) (h2 : Sp w B (.agg #[.bool b2, .slice o2 m2 c2])) (hB : B ≤ w.heap.size) :
    Calls Try.prog 43 #[.agg #[.bool b1, .slice o1 m1 c1, .bool b2, .slice o2 m2 c2]] w fun e w' => e = .returned (.tuple #[]) ∧ Spd B w w' := by
  go_enter Try.func43, Try.ntmps43
  go_wp2_with fail
  obtain ⟨W0, hW0⟩ : ∃ W0, W0 = (w.alloc (.cells #[.bool b1, .slice o1 m1 c1, .bool b2, .slice o2 m2 c2] 56)) := ⟨_, rfl⟩
  have hB0 : Below w.heap.size w W0 := by rw [hW0]; exact (Below.refl _ _).alloc (Nat.le_refl _) _
  have hz0 : W0.heap.size = w.heap.size + 1 := by rw [hW0]; simp
  have k2 : W0.cell? ⟨w.heap.size, 2, none⟩ = some (.bool b2) := by rw [hW0]; simp [go_sem]
  have k3 : W0.cell? ⟨w.heap.size, 3, none⟩ = some (.slice o2 m2 c2) := by rw [hW0]; simp [go_sem]
  have hS0 : Spd B w W0 := Spd.of_below hB0 hB
  rw [← hW0]
  clear hW0
  refine (spoil_any B _ W0 (h1.spd hS0) (by omega)).mono ?_
  rintro e w1 ⟨rfl, hs1⟩
  have q2 := hs1.cel _ _ k2 (fun x e => by cases e)
  have q3 := hs1.cel _ _ k3 (fun x e => by cases e)
  have hS1 := hS0.trans hs1
  clear k2 k3
  go_wp2_with fail
  refine (spoil_any B _ w1 (h2.spd hS1) (by have := hs1.siz; omega)).mono ?_
  rintro e w2 ⟨rfl, hs2⟩
  have hS2 := hS1.trans hs2
  go_wp2
  exact bodyPost_end (results_none rfl _ _ _) rfl ⟨rfl, hS2⟩
end Go.Proofs.Ytbmdjimfncgomaa

/- What the law ExactDivides asks of an integer and its error, the program's beside the document's: Div, Root, Power; is over both. -/
namespace Go.Proofs.Ytbmdjimfncgomaa
open Go.RowKit

/-- An integer that the program gives back, with its error. -/
def IntE (w : World) (v : Value) (err z : Int) : Prop := ∃ b o m c, v = .agg #[.bool b, .slice o m c] ∧ ((err = 0 ∧ ∃ K, An w v z K) ∨ (err ≠ 0 ∧ b = false ∧ m = 0))
/-- The document's. -/
def ZE (w : World) (v : Value) (err z : Int) : Prop := ∃ b o m c, v = .agg #[.bool b, .slice o m c] ∧ ((err = 0 ∧ ∃ K, K ≤ 268435456 ∧ Zt w v z K) ∨ err ≠ 0)
theorem IntE.below {w w' : World} {B : Nat} {v : Value} {err z : Int} (h : IntE w v err z) (hb : Below B w w') (hB : w.heap.size ≤ B) : IntE w' v err z := by
  obtain ⟨b, o, m, c, e, h⟩ := h
  refine ⟨b, o, m, c, e, ?_⟩
  rcases h with ⟨h1, K, h2⟩ | h
  · exact Or.inl ⟨h1, K, h2.below hb hB⟩
  · exact Or.inr h
theorem ZE.below {w w' : World} {B : Nat} {v : Value} {err z : Int} (h : ZE w v err z) (hb : Below B w w') (hB : w.heap.size ≤ B) : ZE w' v err z := by
  obtain ⟨b, o, m, c, e, h⟩ := h
  refine ⟨b, o, m, c, e, ?_⟩
  rcases h with ⟨h1, K, hK, h2⟩ | h
  · exact Or.inl ⟨h1, K, hK, h2.below hb hB⟩
  · exact Or.inr h
theorem IntE.opened {w : World} {v : Value} {err z : Int} (h : IntE w v err z) : ∃ b o m c, v = .agg #[.bool b, .slice o m c] ∧ Hid (∀ w', Below w.heap.size w w' → IntE w' (.agg #[.bool b, .slice o m c]) err z) := by
  have h' := h
  obtain ⟨b, o, m, c, rfl, _⟩ := h
  exact ⟨b, o, m, c, rfl, hid (fun w' hb => h'.below hb (Nat.le_refl _))⟩
theorem ZE.opened {w : World} {v : Value} {err z : Int} (h : ZE w v err z) : ∃ b o m c, v = .agg #[.bool b, .slice o m c] ∧ Hid (∀ w', Below w.heap.size w w' → ZE w' (.agg #[.bool b, .slice o m c]) err z) := by
  have h' := h
  obtain ⟨b, o, m, c, rfl, _⟩ := h
  exact ⟨b, o, m, c, rfl, hid (fun w' hb => h'.below hb (Nat.le_refl _))⟩
theorem FrA.an {w0 w : World} {v : Value} {z : Int} {K : Nat} (h : FrA w0 w v z K) : An w v z K := by
  obtain ⟨s, rfl, L, ho, hd, hn, hv, hl⟩ := h
  obtain ⟨ao, c, rfl⟩ := owns_slice ho
  exact ⟨ao, c, L, rfl, owns_any ho rfl, hd, hn, hv, hl⟩
theorem FrA.intE {w0 w : World} {v : Value} {z : Int} {K : Nat} (h : FrA w0 w v z K) : IntE w v 0 z := by
  obtain ⟨b, o, m, c, e, _⟩ := FrA.opened h
  exact ⟨b, o, m, c, e, Or.inl ⟨rfl, K, h.an⟩⟩
theorem intE_zero (w : World) {err : Int} (he : err ≠ 0) (z : Int) : IntE w (.agg #[.bool false, .slice none 0 0]) err z := ⟨_, _, _, _, rfl, Or.inr ⟨he, rfl, rfl⟩⟩
theorem Zt.ze {w : World} {v : Value} {z : Int} {K : Nat} (h : Zt w v z K) (hK : K ≤ 268435456) : ZE w v 0 z := by
  obtain ⟨b, o, m, c, e, _⟩ := Zt.opened h
  exact ⟨b, o, m, c, e, Or.inl ⟨rfl, K, hK, h⟩⟩
theorem ze_zero (w : World) {err : Int} (he : err ≠ 0) (z : Int) : ZE w (.agg #[.bool false, .slice none 0 0]) err z := ⟨_, _, _, _, rfl, Or.inr he⟩

def divErr (y : Int) : Int := if y = 0 then 10 else 0
def rootErr (x : Int) : Int := if x < 0 then 2 else 0
def powErr (n : Int) : Int := if n < 0 ∨ 1024 < n then 2 else 0
open Classical in
noncomputable def rootZ (x : Int) : Int := if h : ∃ r : Int, 0 ≤ r ∧ r * r ≤ x ∧ x < (r + 1) * (r + 1) then Classical.choose h else 0
theorem root_uniq {x r s : Int} (hr : 0 ≤ r) (hs : 0 ≤ s) (h1 : r * r ≤ x) (h2 : x < (s + 1) * (s + 1)) : r ≤ s := by
  rcases Int.lt_or_le s r with h | h
  · have := Int.mul_le_mul (show s + 1 ≤ r by omega) (show s + 1 ≤ r by omega) (by omega) hr
    omega
  · exact h
theorem rootZ_eq {x r : Int} (h : 0 ≤ r ∧ r * r ≤ x ∧ x < (r + 1) * (r + 1)) : rootZ x = r := by
  have hx : ∃ r : Int, 0 ≤ r ∧ r * r ≤ x ∧ x < (r + 1) * (r + 1) := ⟨r, h⟩
  unfold rootZ
  rw [dif_pos hx]
  obtain ⟨a, b, c⟩ := Classical.choose_spec hx
  exact Int.le_antisymm (root_uniq a h.1 b h.2.2) (root_uniq h.1 a h.2.1 c)

theorem ediv_res (u v : Value) (x y : Int) (K : Nat) (w : World) (hu : Ai w u x K) (hv : Ai w v y K) (hK : K ≤ 100000) :
    Calls Try.prog 26 #[u, v] w fun e w' => ∃ v1 v2, e = .returned (.tuple #[v1, v2, .int .i64 (divErr y)]) ∧ IntE w' v1 (divErr y) (x.fdiv y) ∧ IntE w' v2 (divErr y) (x.fmod y) ∧ Below w.heap.size w w' := by
  by_cases hy : y = 0
  · subst hy
    refine (Div_zero u v x K w hu hv (by omega)).mono ?_
    rintro e w' ⟨rfl, hb⟩
    exact ⟨_, _, rfl, intE_zero _ (by decide) _, intE_zero _ (by decide) _, hb⟩
  · refine (Div_any u v x y K w hu hv hy (by omega)).mono ?_
    rintro e w' ⟨v1, v2, rfl, h1, h2, hb⟩
    have e0 : divErr y = 0 := by unfold divErr; rw [if_neg hy]
    rw [e0]
    exact ⟨_, _, rfl, h1.intE, h2.intE, hb⟩
theorem rdiv_res (u v : Value) (x y : Int) (K : Nat) (w : World) (hu : Zt w u x K) (hv : Zt w v y K) (hK : K ≤ 100000) :
    Calls Try.prog 27 #[u, v] w fun e w' => ∃ v1 v2, e = .returned (.tuple #[v1, v2, .int .i64 (divErr y)]) ∧ ZE w' v1 (divErr y) (x.fdiv y) ∧ ZE w' v2 (divErr y) (x.fmod y) ∧ Below w.heap.size w w' := by
  by_cases hy : y = 0
  · subst hy
    refine (rdiv_zero u v x K w hu hv).mono ?_
    rintro e w' ⟨v1, v2, rfl, h1, h2, hb⟩
    obtain ⟨b1, o1, m1, c1, e1, _⟩ := Zt.opened h1
    obtain ⟨b2, o2, m2, c2, e2, _⟩ := Zt.opened h2
    exact ⟨_, _, rfl, ⟨_, _, _, _, e1, Or.inr (by decide)⟩, ⟨_, _, _, _, e2, Or.inr (by decide)⟩, hb⟩
  · refine (rdiv_any u v x y K w hu hv hy (by omega)).mono ?_
    rintro e w' ⟨v1, v2, rfl, h1, h2, hb⟩
    have e0 : divErr y = 0 := by unfold divErr; rw [if_neg hy]
    rw [e0]
    exact ⟨_, _, rfl, h1.ze (by omega), h2.ze (by omega), hb⟩
theorem eroot_res (u : Value) (x : Int) (K : Nat) (w : World) (hu : Ai w u x K) (hK : K ≤ 100000) :
    Calls Try.prog 29 #[u] w fun e w' => ∃ v, e = .returned (.tuple #[v, .int .i64 (rootErr x)]) ∧ IntE w' v (rootErr x) (rootZ x) ∧ Below w.heap.size w w' := by
  by_cases hx : x < 0
  · refine (Root_bad u x K w hx hu (by omega)).mono ?_
    rintro e w' ⟨rfl, hb⟩
    have e0 : rootErr x = 2 := by unfold rootErr; rw [if_pos hx]
    rw [e0]
    exact ⟨_, rfl, intE_zero _ (by decide) _, hb⟩
  · refine (Root_any u x K w (by omega) hu (by omega)).mono ?_
    rintro e w' ⟨r, r0, r1, r2, v, rfl, hf, hb⟩
    have e0 : rootErr x = 0 := by unfold rootErr; rw [if_neg hx]
    rw [e0, rootZ_eq ⟨r0, r1, r2⟩]
    exact ⟨_, rfl, hf.intE, hb⟩
theorem rroot_res (u : Value) (x : Int) (K : Nat) (w : World) (hu : Zt w u x K) (hK : K ≤ 100000) :
    Calls Try.prog 30 #[u] w fun e w' => ∃ v, e = .returned (.tuple #[v, .int .i64 (rootErr x)]) ∧ ZE w' v (rootErr x) (rootZ x) ∧ Below w.heap.size w w' := by
  by_cases hx : x < 0
  · refine (rroot_bad u x K w hx hu).mono ?_
    rintro e w' ⟨rfl, hb⟩
    have e0 : rootErr x = 2 := by unfold rootErr; rw [if_pos hx]
    rw [e0]
    exact ⟨_, rfl, ze_zero _ (by decide) _, hb⟩
  · refine (rroot_any u x K w (by omega) hu (by omega)).mono ?_
    rintro e w' ⟨r, r0, r1, r2, v, rfl, hf, hb⟩
    have e0 : rootErr x = 0 := by unfold rootErr; rw [if_neg hx]
    rw [e0, rootZ_eq ⟨r0, r1, r2⟩]
    exact ⟨_, rfl, hf.ze (by omega), hb⟩
theorem epow_res (u : Value) (x n : Int) (K : Nat) (w : World) (hn : n < 0 ∨ 1024 < n ∨ (0 ≤ n ∧ n ≤ 1024 ∧ (K + 1) / 2 * n.toNat ≤ 2048)) (hu : Ai w u x K) (hK : K ≤ 100000) :
    Calls Try.prog 31 #[u, .int .i64 n] w fun e w' => ∃ v, e = .returned (.tuple #[v, .int .i64 (powErr n)]) ∧ IntE w' v (powErr n) (x ^ n.toNat) ∧ Below w.heap.size w w' := by
  by_cases hb : n < 0 ∨ 1024 < n
  · refine (Power_bad u x K n w hb hu).mono ?_
    rintro e w' ⟨rfl, hb'⟩
    have e0 : powErr n = 2 := by unfold powErr; rw [if_pos hb]
    rw [e0]
    exact ⟨_, rfl, intE_zero _ (by decide) _, hb'⟩
  · have hc : 0 ≤ n ∧ n ≤ 1024 ∧ (K + 1) / 2 * n.toNat ≤ 2048 := by
      rcases hn with h | h | h
      · exact absurd (Or.inl h) hb
      · exact absurd (Or.inr h) hb
      · exact h
    have hp := Power_any u x K n.toNat 60000 w (by omega) (by omega) (by omega) (by decide) hu (by omega)
    rw [Int.toNat_of_nonneg hc.1] at hp
    refine hp.mono ?_
    rintro e w' ⟨v, rfl, hf, hb'⟩
    have e0 : powErr n = 0 := by unfold powErr; rw [if_neg hb]
    rw [e0]
    exact ⟨_, rfl, hf.intE, hb'⟩
theorem rpow_res (u : Value) (x n : Int) (K : Nat) (w : World) (hu : Zt w u x K) (hK : K ≤ 100000) :
    Calls Try.prog 32 #[u, .int .i64 n] w fun e w' => ∃ v, e = .returned (.tuple #[v, .int .i64 (powErr n)]) ∧ ZE w' v (powErr n) (x ^ n.toNat) ∧ Below w.heap.size w w' := by
  by_cases hb : n < 0 ∨ 1024 < n
  · refine (rpow_bad u x n K w hb hu).mono ?_
    rintro e w' ⟨rfl, hb'⟩
    have e0 : powErr n = 2 := by unfold powErr; rw [if_pos hb]
    rw [e0]
    exact ⟨_, rfl, ze_zero _ (by decide) _, hb'⟩
  · have hp := rpow_any u x n.toNat K w (by omega) hu (by omega)
    rw [Int.toNat_of_nonneg (by omega)] at hp
    refine hp.mono ?_
    rintro e w' ⟨v, rfl, hf, hb'⟩
    have e0 : powErr n = 0 := by unfold powErr; rw [if_neg hb]
    rw [e0]
    have h1 : n.toNat * (K + 1) ≤ 1024 * (K + 1) := Nat.mul_le_mul_right _ (by omega)
    exact ⟨_, rfl, hf.ze (by omega), hb'⟩

set_option maxRecDepth 100000 in
set_option maxHeartbeats 1000000 in
theorem is_res (v q : Value) (e z : Int) (w : World) (hv : IntE w v e z) (hq : ZE w q e z) :
    Calls Try.prog 28 #[v, .int .i64 e, q, .int .i64 e] w fun e w' => e = .returned (.bool true) ∧ Below w.heap.size w w' := by
  obtain ⟨b, o, m, c, rfl, hv⟩ := hv
  obtain ⟨b2, o2, m2, c2, rfl, hq⟩ := hq
  have hB : Below w.heap.size w ((w.alloc (.cells #[.bool b, .slice o m c] 24)).alloc (.cells #[.bool b2, .slice o2 m2 c2] 28)) := ((Below.refl _ _).alloc (Nat.le_refl _) _).alloc (by simp) _
  have HB := hid hB
  clear hB
  by_cases he : e = 0
  · subst he
    have hs : ∃ K K2, An w (.agg #[.bool b, .slice o m c]) z K ∧ K2 ≤ 268435456 ∧ Zt w (.agg #[.bool b2, .slice o2 m2 c2]) z K2 := by
      rcases hv with ⟨_, K, h⟩ | ⟨h, _⟩
      · rcases hq with ⟨_, K2, h2, h3⟩ | h2
        · exact ⟨K, K2, h, h2, h3⟩
        · exact absurd rfl h2
      · exact absurd rfl h
    obtain ⟨K, K2, h1, h2, h3⟩ := hs
    have hS := fun (w' : World) (hb : Below w.heap.size w w') => sameInt_any _ _ z K K2 w' (h1.below hb (Nat.le_refl _)) (h3.below hb (Nat.le_refl _)) h2
    have HS := hid hS
    clear hS h1 h2 h3 hv hq
    go_enter Try.func28, Try.ntmps28
    go_wp2_with fail
    refine (HS.out _ HB.out).mono ?_
    rintro e w' ⟨rfl, hb⟩
    go_wp2
    go_ret
    exact ⟨rfl, HB.out.trans (hb.mono HB.out.size)⟩
  · have hs : b = false ∧ m = 0 := by
      rcases hv with ⟨h, _⟩ | ⟨_, h⟩
      · exact absurd h he
      · exact h
    obtain ⟨rfl, rfl⟩ := hs
    have heb : (e != 0) = true := by simpa using he
    clear hv hq
    go_enter Try.func28, Try.ntmps28
    go_wp2_with fail
    refine (noInt_any o c _).mono ?_
    rintro e w' ⟨rfl, hb⟩
    go_wp2
    go_ret
    exact ⟨rfl, HB.out.trans (hb.mono HB.out.size)⟩
end Go.Proofs.Ytbmdjimfncgomaa
