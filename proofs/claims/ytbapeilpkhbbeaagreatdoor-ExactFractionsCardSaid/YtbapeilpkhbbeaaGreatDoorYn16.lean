/- exact: divided and whole: fractions of integers. exact.Sign, exact.Cmp. exact.Make: the ratio of two integers in lowest terms, or ErrZero. exact.Make where the divisor is 0; exact.Whole. The region 'q, r := f(g(x), y)' of two structs (a bool and a slice) whose addresses are taken. Written by gen_ediv.py. A region that draws its order: what holds between two of its operations, for any number of values and of boxes that it makes. exact.groups: the iterator at numbers of any size: the groups of 19 digits, the lowest first. -/
import Derived.Test.YtbapeilpkhbbeaaGreatDoorYn15
import Derived.Test.YtbapeilpkhbbeaaGreatDoorYn09
import Derived.Test.YtbapeilpkhbbeaaGreatDoorYn11
import Derived.Test.YtbapeilpkhbbeaaGreatDoorYn12
import Derived.Deep.DeepCutAuto
import Derived.Laws.IdiomCopy
import Derived.Test.YtbapeilpkhbbeaaGreatDoorYn04
import Derived.Test.YtbapeilpkhbbeaaGreatDoorYn07
/- exact: divided and whole: fractions of integers. -/
namespace Go.Proofs.YtbapeilpkhbbeaaGreatDoor
open Go.RowKit

theorem nt_keeps {n : Int} {K : Nat} {w w' : World} {v : Value} (hk : Keeps .u64 w w') (h : Nt w v n K) : Nt w' v n K := by
  obtain ⟨ao, c, L, rfl, h⟩ := h
  exact ⟨ao, c, L, rfl, h.rd.keeps hk, h.dig, h.nrm, h.eq, h.le⟩

set_option maxRecDepth 100000 in
set_option maxHeartbeats 800000 in
theorem divided_any (u v : Value) (x y : Int) (K : Nat) (w : World) (hu : It w u x K) (hv : It w v y K) :
    Calls Tryz.prog 52 #[u, v] w fun e w' => ∃ f, e = .returned f ∧ Ft w' f (sgn (decide (x < 0) != decide (y < 0)) (x.natAbs : Int)) (y.natAbs : Int) K ∧ Below w.heap.size w w' := by
  obtain ⟨xb, xo, xm, xc, rfl, Hx, Hxs, Hxb⟩ := It.opened hu
  obtain ⟨yb, yo, ym, yc, rfl, Hy, Hys, Hyb⟩ := It.opened hv
  rw [← Hxb.out, ← Hyb.out]
  clear hu hv
  obtain ⟨W0, hW0⟩ : ∃ W0, W0 = (((w.alloc (.cells #[.bool xb, .slice xo xm xc] 56)).alloc (.cells #[.bool yb, .slice yo ym yc] 56)).alloc (.cells #[.bool false, .slice none 0 0, .slice none 0 0] 58)) := ⟨_, rfl⟩
  have hB0 : Below w.heap.size w W0 := by rw [hW0]; exact (((Below.refl _ _).alloc (Nat.le_refl _) _).alloc (by simp) _).alloc (by simp <;> omega) _
  have hz0 : W0.heap.size = w.heap.size + 3 := by rw [hW0]; simp
  have HS : Hid (∀ w', Below (w.heap.size + 2) W0 w' → w'.cell? ⟨w.heap.size, 0, none⟩ = some (.bool xb) ∧ w'.cell? ⟨w.heap.size, 1, none⟩ = some (.slice xo xm xc) ∧ w'.cell? ⟨w.heap.size + 1, 0, none⟩ = some (.bool yb) ∧ w'.cell? ⟨w.heap.size + 1, 1, none⟩ = some (.slice yo ym yc)) := hid (fun w' hb => by
    refine ⟨?_, ?_, ?_, ?_⟩ <;> (rw [hb.cell (by simp <;> omega), hW0]; simp [go_sem]))
  have HT : Hid (∀ w', Below (w.heap.size + 3) W0 w' → (w'.cell? ⟨w.heap.size + 2, 0, none⟩ = some (.bool false) ∧ w'.cell? ⟨w.heap.size + 2, 1, none⟩ = some (.slice none 0 0) ∧ w'.cell? ⟨w.heap.size + 2, 2, none⟩ = some (.slice none 0 0)) ∧ (w'.frozen? ⟨w.heap.size + 2, 0, none⟩ = false ∧ w'.frozen? ⟨w.heap.size + 2, 1, none⟩ = false ∧ w'.frozen? ⟨w.heap.size + 2, 2, none⟩ = false)) := hid (fun w' hb => by
    refine ⟨⟨?_, ?_, ?_⟩, ?_, ?_, ?_⟩ <;> (first | (rw [hb.cell (by simp <;> omega), hW0]; simp [go_sem]; done) | (rw [hb.frozen (by simp <;> omega), hW0]; simp [go_sem]; done)))
  have HB0 := hid hB0; have Hz0 := hid hz0; have HW := hid hW0
  clear hW0
  go_enter Tryz.func52, Tryz.ntmps52
  go_upto_region 1 with (fail)
  rw [← HW.out]
  obtain ⟨k0, k1, k2, k3⟩ := HS.out _ (Below.refl _ _)
  clear k0 k1 k2 k3
  go_region_held3 (fun w' => w'.cell? ⟨w.heap.size, 0, none⟩ = some (.bool xb) ∧ w'.cell? ⟨w.heap.size, 1, none⟩ = some (.slice xo xm xc) ∧ w'.cell? ⟨w.heap.size + 1, 0, none⟩ = some (.bool yb) ∧ w'.cell? ⟨w.heap.size + 1, 1, none⟩ = some (.slice yo ym yc)) ((refine HS.out _ ?_; repeat (first | assumption | exact Below.refl _ _ | exact (Below.refl _ _).drew | exact Below.drew (by assumption) | (refine Below.setCell ?_ (by simp) _)))) (first
    | (go_at_call 21; refine (signed_any (xb != yb) _ _ K _ (Hxs.out _ hB0.drew)).mono ?_; rintro e w2 ⟨_, rfl, hv2, hb2⟩; obtain ⟨b2, o2, m2, c2, rfl, H2, H2s, H2b⟩ := It.opened hv2; have hB2 : Below (w.heap.size + 3) W0 w2 := ((Below.refl _ _).drew).trans (hb2.mono (by simp; omega)); have hB2s : Below (w.heap.size + 2) W0 w2 := hB2.mono (by omega); obtain ⟨⟨hr0, hr1, hr2⟩, hf0, hf1, hf2⟩ := HT.out _ hB2))
  go_wp2
  have hbel : Below w.heap.size w w2 := hB0.trans (hB2.mono (by omega))
  refine bodyPost_ret (v := .agg #[.bool b2, .slice o2 m2 c2, .slice yo ym yc]) (by simp [results, Tryz.results52, go_sem, hr0, hr1, hr2]) rfl ⟨_, rfl, ?_, ((hbel.setCell (by simp <;> omega) _).setCell (by simp <;> omega) _).setCell (by simp <;> omega) _⟩
  refine ⟨.slice o2 m2 c2, .slice yo ym yc, by rw [H2b.out], ?_, ?_⟩
  · exact nt_keeps (((((Keeps.refl _ _).setCell (u := .bool false) hr0 (fun x h => (by cases h)) _).setCell (u := .slice none 0 0) (by simp [go_sem, hr1]) (fun x h => (by cases h)) _).setCell (u := .slice none 0 0) (by simp [go_sem, hr2]) (fun x h => (by cases h)) _)) (H2s.out _ (Below.refl _ _))
  · exact nt_keeps (((((Keeps.refl _ _).setCell (u := .bool false) hr0 (fun x h => (by cases h)) _).setCell (u := .slice none 0 0) (by simp [go_sem, hr1]) (fun x h => (by cases h)) _).setCell (u := .slice none 0 0) (by simp [go_sem, hr2]) (fun x h => (by cases h)) _)) (Hys.out _ hbel)

set_option maxRecDepth 100000 in
set_option maxHeartbeats 800000 in
theorem whole_any (u : Value) (x : Int) (K : Nat) (w : World) (hu : It w u x K) (hK : 1 ≤ K) :
    Calls Tryz.prog 51 #[u] w fun e w' => ∃ f, e = .returned f ∧ Ft w' f x 1 K ∧ Below w.heap.size w w' := by
  obtain ⟨xb, xo, xm, xc, rfl, Hx, Hxs, Hxb⟩ := It.opened hu
  clear hu
  obtain ⟨W0, hW0⟩ : ∃ W0, W0 = ((w.alloc (.cells #[.bool xb, .slice xo xm xc] 56)).alloc (.cells #[.bool false, .slice none 0 0, .slice none 0 0] 58)) := ⟨_, rfl⟩
  have hB0 : Below w.heap.size w W0 := by rw [hW0]; exact ((Below.refl _ _).alloc (Nat.le_refl _) _).alloc (by simp) _
  have hz0 : W0.heap.size = w.heap.size + 2 := by rw [hW0]; simp
  have HS : Hid (∀ w', Below (w.heap.size + 1) W0 w' → w'.cell? ⟨w.heap.size, 0, none⟩ = some (.bool xb) ∧ w'.cell? ⟨w.heap.size, 1, none⟩ = some (.slice xo xm xc)) := hid (fun w' hb => by
    refine ⟨?_, ?_⟩ <;> (rw [hb.cell (by simp <;> omega), hW0]; simp [go_sem]))
  have HT : Hid (∀ w', Below (w.heap.size + 2) W0 w' → (w'.cell? ⟨w.heap.size + 1, 0, none⟩ = some (.bool false) ∧ w'.cell? ⟨w.heap.size + 1, 1, none⟩ = some (.slice none 0 0) ∧ w'.cell? ⟨w.heap.size + 1, 2, none⟩ = some (.slice none 0 0)) ∧ (w'.frozen? ⟨w.heap.size + 1, 0, none⟩ = false ∧ w'.frozen? ⟨w.heap.size + 1, 1, none⟩ = false ∧ w'.frozen? ⟨w.heap.size + 1, 2, none⟩ = false)) := hid (fun w' hb => by
    refine ⟨⟨?_, ?_, ?_⟩, ?_, ?_, ?_⟩ <;> (first | (rw [hb.cell (by simp <;> omega), hW0]; simp [go_sem]; done) | (rw [hb.frozen (by simp <;> omega), hW0]; simp [go_sem]; done)))
  have HB0 := hid hB0; have Hz0 := hid hz0; have HW := hid hW0
  clear hW0
  go_enter Tryz.func51, Tryz.ntmps51
  go_upto_region 1 with (fail)
  rw [← HW.out]
  obtain ⟨k0, k1⟩ := HS.out _ (Below.refl _ _)
  obtain ⟨⟨hr0, hr1, hr2⟩, hf0, hf1, hf2⟩ := HT.out _ (Below.refl _ _)
  go_wp2
  obtain ⟨W1, hW1⟩ : ∃ W1, W1 = (((W0.setCell ⟨w.heap.size + 1, 0, none⟩ (.bool xb)).setCell ⟨w.heap.size + 1, 1, none⟩ (.slice xo xm xc)).setCell ⟨w.heap.size + 1, 2, none⟩ (.slice (some ⟨w.heap.size + 2, 0, none⟩) 1 1)) := ⟨_, rfl⟩
  have hk : Keeps .u64 W0 W1 := by rw [hW1]; exact (((((Keeps.refl _ _).setCell (u := .bool false) hr0 (fun x h => (by cases h)) _).setCell (u := .slice none 0 0) (by simp [go_sem, hr1]) (fun x h => (by cases h)) _).setCell (u := .slice none 0 0) (by simp [go_sem, hr2]) (fun x h => (by cases h)) _))
  have hz1 : W1.heap.size = w.heap.size + 2 := by rw [hW1]; simp; omega
  have hb1 : Below w.heap.size w W1 := by rw [hW1]; exact ((hB0.setCell (by simp <;> omega) _).setCell (by simp <;> omega) _).setCell (by simp <;> omega) _
  have hc0 : W1.cell? ⟨w.heap.size + 1, 0, none⟩ = some (.bool xb) := by rw [hW1]; simp [go_sem, hr0]
  have hc1 : W1.cell? ⟨w.heap.size + 1, 1, none⟩ = some (.slice xo xm xc) := by rw [hW1]; simp [go_sem, hr1]
  have hc2 : W1.cell? ⟨w.heap.size + 1, 2, none⟩ = some (.slice (some ⟨w.heap.size + 2, 0, none⟩) 1 1) := by rw [hW1]; simp [go_sem, hr2]
  rw [← hW1]
  have hal : Below W1.heap.size W1 (W1.alloc (.cells #[.int .u64 1] 63 (0, 0))) := (Below.refl _ _).alloc (Nat.le_refl _) _
  have hd0 := (hal.cell (p := ⟨w.heap.size + 1, 0, none⟩) (by simp; omega)).trans hc0
  have hd1 := (hal.cell (p := ⟨w.heap.size + 1, 1, none⟩) (by simp; omega)).trans hc1
  have hd2 := (hal.cell (p := ⟨w.heap.size + 1, 2, none⟩) (by simp; omega)).trans hc2
  refine bodyPost_ret (v := .agg #[.bool xb, .slice xo xm xc, .slice (some ⟨w.heap.size + 2, 0, none⟩) 1 1]) (by simp [results, Tryz.results51, go_sem, hd0, hd1, hd2]) rfl ⟨_, rfl, ?_, hb1.alloc (by omega) _⟩
  refine ⟨.slice xo xm xc, .slice (some ⟨w.heap.size + 2, 0, none⟩) 1 1, by rw [Hxb.out], ?_, ?_⟩
  · exact (nt_keeps hk (Hxs.out _ hB0)).below hal (Nat.le_refl _)
  · have h1 := (one_row W1).mono hK
    rw [hz1] at h1
    exact h1
end Go.Proofs.YtbapeilpkhbbeaaGreatDoor

/- exact.Sign, exact.Cmp. -/
namespace Go.Proofs.YtbapeilpkhbbeaaGreatDoor
open Go.RowKit

theorem Nt.zero {w : World} {ao : Option Addr} {m c : Nat} {n : Int} {K : Nat} (h : Nt w (.slice ao m c) n K) : m = 0 ↔ n = 0 := by
  obtain ⟨ao, c, L, e, h⟩ := h
  cases e
  exact h.zero_iff

set_option maxHeartbeats 1000000 in
theorem sign_any (v : Value) (z : Int) (K : Nat) (w : World) (h : It w v z K) :
    Calls Tryz.prog 50 #[v] w fun e w' => e = .returned (.int .i64 (cmpI z 0)) ∧ Below w.heap.size w w' := by
  obtain ⟨xb, xo, xm, xc, rfl, Hx, Hxs, Hxb⟩ := It.opened h
  have hz := (Hxs.out w (Below.refl _ _)).zero
  by_cases h0 : z = 0
  · obtain rfl : xm = 0 := hz.2 (by omega)
    have e : cmpI z 0 = 0 := by rw [h0]; rfl
    rw [e]
    clear hz h h0 e
    go_enter Tryz.func50, Tryz.ntmps50
    go_wp2
    go_ret
    exact ⟨rfl, (Below.refl _ _).alloc (Nat.le_refl _) _⟩
  · have hm : ((xm : Int) == 0) = false := by rw [beq_eq_false_iff_ne]; have := hz.1; omega
    by_cases h1 : z < 0
    · obtain rfl : xb = true := by rw [Hxb.out]; exact decide_eq_true h1
      rw [cmpI_lt h1]
      clear hz h h0 h1
      go_enter Tryz.func50, Tryz.ntmps50
      go_wp2
      go_ret
      exact ⟨rfl, (Below.refl _ _).alloc (Nat.le_refl _) _⟩
    · obtain rfl : xb = false := by rw [Hxb.out]; exact decide_eq_false h1
      rw [cmpI_gt (show 0 < z by omega)]
      clear hz h h0 h1
      go_enter Tryz.func50, Tryz.ntmps50
      go_wp2
      go_ret
      exact ⟨rfl, (Below.refl _ _).alloc (Nat.le_refl _) _⟩

theorem cmpI_bd (a b : Int) : -1 ≤ cmpI a b ∧ cmpI a b ≤ 1 := by unfold cmpI; split <;> (try split) <;> decide

end Go.Proofs.YtbapeilpkhbbeaaGreatDoor

/- exact.Make: the ratio of two integers in lowest terms, or ErrZero. -/
namespace Go.Proofs.YtbapeilpkhbbeaaGreatDoor
open Go.RowKit

/-- Cells below B that lie in another block than g are as they were. -/
structure Kp (B g : Nat) (w w' : World) : Prop where
  cell : ∀ a : Addr, a.block < B → a.block ≠ g → w'.cell? a = w.cell? a
theorem Kp.of_below {B g : Nat} {w w' : World} (h : Below B w w') : Kp B g w w' := ⟨fun _ ha _ => h.cell ha⟩
theorem Kp.set {B g : Nat} {w w' : World} (h : Kp B g w w') {a : Addr} (ha : a.block = g) (u : Value) : Kp B g w (w'.setCell a u) := by
  refine ⟨fun p hp hne => ?_⟩
  rw [World.cell?_setCell_other w' a p u (by rintro rfl; exact hne ha)]
  exact h.cell p hp hne
theorem FrA.opened {w0 w : World} {v : Value} {z : Int} {K : Nat} (h : FrA w0 w v z K) : ∃ b ao m c, v = .agg #[.bool b, .slice ao m c] ∧ Hid (FrA w0 w (.agg #[.bool b, .slice ao m c]) z K) := by
  obtain ⟨s, rfl, h⟩ := h
  obtain ⟨ao, m, c, rfl, H⟩ := FrW.opened h
  exact ⟨_, ao, m, c, rfl, hid ⟨_, rfl, H.out⟩⟩
theorem FrA.base {w0 w1 w : World} {v : Value} {z : Int} {K : Nat} (h : FrA w1 w v z K) (hb : w0.heap.size ≤ w1.heap.size) : FrA w0 w v z K := by
  obtain ⟨s, rfl, h⟩ := h
  exact ⟨s, rfl, h.base hb⟩
theorem FrR.opened {w0 w : World} {v : Value} {x y : Int} {K : Nat} (h : FrR w0 w v x y K) : ∃ b1 o1 m1 c1 b2 o2 m2 c2, v = .agg #[.bool b1, .slice o1 m1 c1, .bool b2, .slice o2 m2 c2] ∧ Hid (FrA w0 w (.agg #[.bool b1, .slice o1 m1 c1]) x K) ∧ Hid (FrA w0 w (.agg #[.bool b2, .slice o2 m2 c2]) y K) := by
  obtain ⟨_, _, _, _, rfl, h1, h2⟩ := h
  obtain ⟨b1, o1, m1, c1, e1, H1⟩ := FrA.opened h1
  obtain ⟨b2, o2, m2, c2, e2, H2⟩ := FrA.opened h2
  injection e1 with e1
  injection e2 with e2
  simp at e1 e2
  obtain ⟨rfl, rfl⟩ := e1
  obtain ⟨rfl, rfl⟩ := e2
  exact ⟨b1, o1, m1, c1, b2, o2, m2, c2, rfl, H1, H2⟩

end Go.Proofs.YtbapeilpkhbbeaaGreatDoor

/- exact.Make where the divisor is 0; exact.Whole. -/
namespace Go.Proofs.YtbapeilpkhbbeaaGreatDoor
open Go.RowKit

end Go.Proofs.YtbapeilpkhbbeaaGreatDoor

/- The region 'q, r := f(g(x), y)' of two structs (a bool and a slice) whose addresses are taken. Written by gen_ediv.py. -/
namespace Go.Proofs.YtbapeilpkhbbeaaGreatDoor
open Go.RowKit

structure QuoJ (k : IntKind) (B : Nat) (W0 : World) (vx vy : Value) (G1 Gq Gr : World → Value → Prop) (b0 b1 b2 b3 b4 b5 b6 b7 b8 b9 b10 : Bool) (s8 s9 s17 s18 s19 s20 s21 s22 s23 : Value) (w : World) : Prop where
  bel : Below B W0 w
  siz : B ≤ w.heap.size
  l0 : b0 = true → s18 = vx
  c1 : b1 = true → G1 w s19
  l2 : b2 = true → s20 = vy
  c3 : b3 = true → ∃ u v, s21 = .tuple #[u, v] ∧ Gq w u ∧ Gr w v
  m4 : b4 = true → ∃ u v, s17 = .tuple #[u, v] ∧ Gq w u ∧ Gr w v
  e5 : b5 = true → Gq w s22
  e6 : b6 = true → Gr w s23
  p7 : b7 = true → PtrAt k B w s8 b9 s22
  p8 : b8 = true → PtrAt k B w s9 b10 s23
  ne : b7 = true → b8 = true → s8 ≠ s9

section
variable {k : IntKind} {B : Nat} {W0 : World} {vx vy : Value} {G1 Gq Gr : World → Value → Prop} {b0 b1 b2 b3 b4 b5 b6 b7 b8 b9 b10 : Bool} {s8 s9 s17 s18 s19 s20 s21 s22 s23 : Value} {w w' : World}
theorem QuoJ.start (h : Below B W0 w) (hs : B ≤ w.heap.size) : QuoJ k B W0 vx vy G1 Gq Gr false false false false false false false false false false false s8 s9 s17 s18 s19 s20 s21 s22 s23 w :=
  ⟨h, hs, nofun, nofun, nofun, nofun, nofun, nofun, nofun, nofun, nofun, nofun⟩
def KeepG (k : IntKind) (G : World → Value → Prop) : Prop := ∀ w w' v, Keeps k w w' → G w v → G w' v
end
/-- The blocks from lo to below B hold what they held. -/
structure Kq (B lo : Nat) (w w' : World) : Prop where
  cell : ∀ a : Addr, lo ≤ a.block → a.block < B → w'.cell? a = w.cell? a
theorem Kq.of_below {B lo : Nat} {w w' : World} (h : Below B w w') : Kq B lo w w' := ⟨fun _ _ ha => h.cell ha⟩
theorem Kq.set {B lo : Nat} {w w' : World} (h : Kq B lo w w') {a : Addr} (ha : a.block < lo) (u : Value) : Kq B lo w (w'.setCell a u) :=
  ⟨fun b hb hB => (World.cell?_setCell_other w' a b u (by rintro rfl; omega)).trans (h.cell b hb hB)⟩
end Go.Proofs.YtbapeilpkhbbeaaGreatDoor

/- A region that draws its order: what holds between two of its operations, for any number of values and of boxes that it makes. -/
namespace Go.Proofs.YtbapeilpkhbbeaaGreatDoor
open Go.RowKit

def KeepAll (w w' : World) : Prop := ∀ k, Keeps k w w'
theorem KeepAll.of_below {w w' : World} (h : Below w.heap.size w w') : KeepAll w w' := fun _ => Keeps.below h (Nat.le_refl _)
theorem KeepAll.refl (w : World) : KeepAll w w := fun k => Keeps.refl k w
theorem KeepAll.trans {a b c : World} (h : KeepAll a b) (g : KeepAll b c) : KeepAll a c := fun k => (h k).trans (g k)
/-- A property of a value that stays where no number's cell turns. -/
def KeepV (G : World → Value → Prop) : Prop := ∀ w w' v, KeepAll w w' → G w v → G w' v
theorem kcV (u : Value) : KeepV (fun _ v => v = u) := fun _ _ _ _ h => h
theorem itV (z : Int) (K : Nat) : KeepV (fun w v => It w v z K) := fun _ _ _ hk h => it_keeps (hk _) h
theorem ntV (n : Int) (K : Nat) : KeepV (fun w v => Nt w v n K) := fun _ _ _ hk h => by
  obtain ⟨ao, c, L, rfl, h⟩ := h
  exact ⟨ao, c, L, rfl, h.rd.keeps (hk _), h.dig, h.nrm, h.eq, h.le⟩
theorem ftV (z d : Int) (K : Nat) : KeepV (fun w v => Ft w v z d K) := fun _ _ _ hk h => by
  obtain ⟨s1, s2, rfl, h1, h2⟩ := h
  exact ⟨s1, s2, rfl, ntV _ _ _ _ _ hk h1, ntV _ _ _ _ _ hk h2⟩
theorem twoV {Gq Gr : World → Value → Prop} (hq : KeepV Gq) (hr : KeepV Gr) : KeepV (fun w s => ∃ u v, s = .tuple #[u, v] ∧ Gq w u ∧ Gr w v) := fun _ _ _ hk h => by
  obtain ⟨u, v, e, a, b⟩ := h
  exact ⟨u, v, e, hq _ _ _ hk a, hr _ _ _ hk b⟩

def Vals : List (Bool × (World → Value → Prop) × Value) → World → Prop
  | [], _ => True
  | (b, G, s) :: l, w => (b = true → G w s) ∧ Vals l w
def AllKeep : List (Bool × (World → Value → Prop) × Value) → Prop
  | [] => True
  | (_, G, _) :: l => KeepV G ∧ AllKeep l
theorem Vals.keep {w w' : World} : ∀ {l : List (Bool × (World → Value → Prop) × Value)}, AllKeep l → KeepAll w w' → Vals l w → Vals l w'
  | [], _, _, _ => trivial
  | (_, _, _) :: _, k, hk, h => ⟨fun e => k.1 _ _ _ hk (h.1 e), Vals.keep k.2 hk h.2⟩

/-- s points to a block of n cells that the region has made; b: it has been written with v. -/
def BoxN (B : Nat) (w : World) (n : Nat) (s : Value) (b : Bool) (v : Value) : Prop :=
  ∃ (p : Nat) (vs : List Value), s = .pointer (some ⟨p, 0, none⟩) ∧ B ≤ p ∧ p < w.heap.size ∧ vs.length = n ∧ (∀ i, i < n → w.cell? ⟨p, i, none⟩ = some (vs.getD i undef)) ∧ (∀ i, i < n → w.frozen? ⟨p, i, none⟩ = false) ∧ (∀ i k x, i < n → vs.getD i undef ≠ .int k x) ∧ (b = true → v = .agg vs.toArray)
theorem BoxN.below {B : Nat} {w w' : World} {n : Nat} {s v : Value} {b : Bool} (h : BoxN B w n s b v) (hb : Below w.heap.size w w') : BoxN B w' n s b v := by
  obtain ⟨p, vs, rfl, hp, hl, hn, hc, hf, hi, hv⟩ := h
  exact ⟨p, vs, rfl, hp, Nat.lt_of_lt_of_le hl hb.size, hn, fun i h => (hb.cell (p := ⟨p, i, none⟩) hl).trans (hc i h), fun i h => (hb.frozen (p := ⟨p, i, none⟩) hl).trans (hf i h), hi, hv⟩
theorem BoxN.fresh {B : Nat} {w : World} {n : Nat} {s v v' : Value} (h : BoxN B w n s false v) : BoxN B w n s false v' := by
  obtain ⟨p, vs, rfl, hp, hl, hn, hc, hf, hi, _⟩ := h
  exact ⟨p, vs, rfl, hp, hl, hn, hc, hf, hi, nofun⟩
theorem boxn_new (B : Nat) (w : World) (T : TypeId) (v : Value) (zs : List Value) (hz : ∀ i k x, i < zs.length → zs.getD i undef ≠ .int k x) (hs : B ≤ w.heap.size) : BoxN B (w.alloc (.cells zs.toArray T)) zs.length (.pointer (some ⟨w.heap.size, 0, none⟩)) false v := by
  refine ⟨w.heap.size, zs, rfl, hs, by simp, rfl, fun i hi => ?_, fun i hi => World.frozen?_alloc_new _ _ _ _, hz, nofun⟩
  rw [World.cell?_alloc_new]
  simp [hi]
theorem boxn_ne_new {B : Nat} {w : World} {n : Nat} {s v : Value} {b : Bool} (h : BoxN B w n s b v) : s ≠ .pointer (some ⟨w.heap.size, 0, none⟩) := by
  obtain ⟨p, vs, rfl, hp, hl, _⟩ := h
  intro e; cases e; omega
theorem size_setCells (b : Nat) : ∀ (vs : List Value) (o : Nat) (w : World), (w.setCells b o vs).heap.size = w.heap.size
  | [], _, _ => rfl
  | _ :: r, o, w => by rw [World.setCells, size_setCells b r]; simp
theorem below_setCells {B b : Nat} (hb : B ≤ b) : ∀ (vs : List Value) (o : Nat) {a w : World}, Below B a w → Below B a (w.setCells b o vs)
  | [], _, _, _, h => h
  | _ :: r, o, _, _, h => below_setCells hb r (o + 1) (h.setCell hb _)
theorem keep_setCells (b : Nat) : ∀ (vs : List Value) (o : Nat) (w : World), (∀ j, j < vs.length → ∃ u, w.cell? ⟨b, o + j, none⟩ = some u ∧ ∀ k x, u ≠ .int k x) → KeepAll w (w.setCells b o vs)
  | [], _, w, _ => KeepAll.refl w
  | v :: r, o, w, h => by
    obtain ⟨u, hu, hn⟩ := h 0 (by simp)
    have h1 : KeepAll w (w.setCell ⟨b, o, none⟩ v) := fun k => (Keeps.refl k w).setCell hu (hn k) v
    refine h1.trans (keep_setCells b r (o + 1) _ (fun j hj => ?_))
    obtain ⟨u', hu', hn'⟩ := h (j + 1) (by simp; omega)
    refine ⟨u', ?_, hn'⟩
    rw [World.cell?_setCell_other _ _ _ _ (by simp <;> omega)]
    rw [← hu', show o + (j + 1) = o + 1 + j by omega]
theorem BoxN.keeps {B : Nat} {w : World} {n p : Nat} {v : Value} {b : Bool} (h : BoxN B w n (.pointer (some ⟨p, 0, none⟩)) b v) {us : List Value} (hu : us.length = n) : KeepAll w (w.setCells p 0 us) := by
  obtain ⟨q, vs, e, hp, hl, hn, hc, hf, hi, _⟩ := h
  cases e
  refine keep_setCells p us 0 w (fun j hj => ⟨_, by rw [Nat.zero_add]; exact hc j (by omega), fun k x => hi j k x (by omega)⟩)
theorem BoxN.store {B : Nat} {w : World} {n p : Nat} {v : Value} {b : Bool} (h : BoxN B w n (.pointer (some ⟨p, 0, none⟩)) b v) (us : List Value) (hu : us.length = n) (hz : ∀ i k x, i < n → us.getD i undef ≠ .int k x) :
    BoxN B (w.setCells p 0 us) n (.pointer (some ⟨p, 0, none⟩)) true (.agg us.toArray) := by
  obtain ⟨q, vs, e, hp, hl, hn, hc, hf, hi, _⟩ := h
  cases e
  refine ⟨p, us, rfl, hp, by rw [size_setCells]; exact hl, hu, fun i h => ?_, fun i h => (World.frozen?_setCells p us 0 w _).trans (hf i h), hz, fun _ => rfl⟩
  have := World.cell?_setCells_in p us 0 w (fun j hj => by rw [Nat.zero_add, hc j (by omega)]; rfl) i (by omega)
  rw [Nat.zero_add] at this
  rw [this]
  simp [show i < us.length by omega]
theorem BoxN.other {B : Nat} {w : World} {n : Nat} {s v : Value} {b : Bool} (h : BoxN B w n s b v) {p : Nat} (hne : s ≠ .pointer (some ⟨p, 0, none⟩)) (o : Nat) (us : List Value) : BoxN B (w.setCells p o us) n s b v := by
  obtain ⟨q, vs, rfl, hp, hl, hn, hc, hf, hi, hv⟩ := h
  have hpq : q ≠ p := by rintro rfl; exact hne rfl
  exact ⟨q, vs, rfl, hp, by rw [size_setCells]; exact hl, hn, fun i h => (World.cell?_setCells_out p us o w _ (fun e => absurd e hpq)).trans (hc i h), fun i h => (World.frozen?_setCells p us o w _).trans (hf i h), hi, hv⟩

theorem BoxN.done {B : Nat} {w : World} {n : Nat} {s : Value} {us : List Value} (h : BoxN B w n s true (.agg us.toArray)) : ∃ p, s = .pointer (some ⟨p, 0, none⟩) ∧ B ≤ p ∧ p < w.heap.size ∧ ∀ i, i < n → w.cell? ⟨p, i, none⟩ = some (us.getD i undef) ∧ w.frozen? ⟨p, i, none⟩ = false := by
  obtain ⟨p, vs, rfl, hp, hl, hn, hc, hf, hi, hv⟩ := h
  have e := hv rfl
  simp only [Value.agg.injEq] at e
  have e' : us = vs := by simpa using congrArg Array.toList e
  subst e'
  exact ⟨p, rfl, hp, hl, fun i h => ⟨hc i h, hf i h⟩⟩

def Boxes (B : Nat) : List (Nat × Bool × Bool × Value × Value) → World → Prop
  | [], _ => True
  | (n, p, q, t, x) :: l, w => (p = true → BoxN B w n t q x) ∧ Boxes B l w
theorem Boxes.below {B : Nat} {w w' : World} (hb : Below w.heap.size w w') : ∀ {l : List (Nat × Bool × Bool × Value × Value)}, Boxes B l w → Boxes B l w'
  | [], _ => trivial
  | (_, _, _, _, _) :: _, h => ⟨fun e => (h.1 e).below hb, Boxes.below hb h.2⟩
def AwayAll (p : Bool) (t : Value) : List (Nat × Bool × Bool × Value × Value) → Prop
  | [] => True
  | (_, p', _, t', _) :: l => (p = true → p' = true → t ≠ t') ∧ AwayAll p t l
def Apart : List (Nat × Bool × Bool × Value × Value) → Prop
  | [] => True
  | (_, p, _, t, _) :: l => AwayAll p t l ∧ Apart l

structure RX (B : Nat) (W0 : World) (l : List (Bool × (World → Value → Prop) × Value)) (bx : List (Nat × Bool × Bool × Value × Value)) (w : World) : Prop where
  bel : Below B W0 w
  siz : B ≤ w.heap.size
  vals : Vals l w
  boxes : Boxes B bx w
  ne : Apart bx
theorem RX.step {B : Nat} {W0 w w' : World} {l : List (Bool × (World → Value → Prop) × Value)} {bx : List (Nat × Bool × Bool × Value × Value)} (h : RX B W0 l bx w) (k : AllKeep l) (hb : Below w.heap.size w w') : RX B W0 l bx w' :=
  ⟨h.bel.trans (hb.mono h.siz), Nat.le_trans h.siz hb.size, h.vals.keep k (KeepAll.of_below hb), h.boxes.below hb, h.ne⟩
theorem bl_new {w : World} (o : Obj) : Below w.heap.size w (w.alloc o) := (Below.refl _ _).alloc (Nat.le_refl _) o
end Go.Proofs.YtbapeilpkhbbeaaGreatDoor

/- exact.groups: the iterator at numbers of any size: the groups of 19 digits, the lowest first. -/
namespace Go.Proofs.YtbapeilpkhbbeaaGreatDoor
open Go.RowKit Go.Shelf
attribute [local go_sem] Oper.semAt_some

/-- The groups of a number's digits, the lowest first. -/
def gls (n : Nat) : List Nat := if h : n = 0 then [] else (n % 10000000000000000000) :: gls (n / 10000000000000000000)
termination_by n
decreasing_by exact Nat.div_lt_self (by omega) (by decide)
theorem gls_zero : gls 0 = [] := by rw [gls]; rfl
theorem gls_pos {n : Nat} (h : n ≠ 0) : gls n = (n % 10000000000000000000) :: gls (n / 10000000000000000000) := by
  rw [gls, dif_neg h]
abbrev Grp := { x : Nat // x < 10000000000000000000 }

/-- The call hands back a number in new memory, and a rest. -/
def RetDO (w : World) (n m : Int) (K : Nat) (e : Ending) (w' : World) : Prop := ∃ v, e = .returned (.tuple #[v, .int .u64 m]) ∧ OwnV w' w.heap.size v n K ∧ Below w.heap.size w w'
set_option maxRecDepth 100000 in
set_option maxHeartbeats 2000000 in
theorem divideLimb_own (va : Value) (a x : Int) (K : Nat) (w : World) (hA : Nt w va a K) (hK : K ≤ 1073741824) (x0 : 0 < x) (x1 : x < B64) :
    Calls Tryz.prog 107 #[va, .int .u64 x] w (RetDO w (a / x) (a % x) K) := by
  obtain ⟨ao, ca, LA, rfl, hA⟩ := hA
  obtain ⟨n, hn⟩ : ∃ n, n = LA.length := ⟨_, rfl⟩
  have hn30 : n ≤ 1073741824 := by have := hA.le; omega
  rw [← hn]
  have HA := hid hA; have Hn := hid hn; have X1 := hid x1
  clear hA hn x1
  obtain ⟨i0, hi, hz0, hz1, hz2⟩ := info_parts Tryz.info63
  go_enter Tryz.func107, Tryz.ntmps107
  go_wp2_with (at_make; refine wpList_make_row w rfl _ _ 54 rfl 63 i0 .u64 Tryz.underlying54 hi hz0 hz1 .i64 .i64 _ _ n rfl rfl rfl rfl (by rw [hz2]; omega) (by unfold maxLen; omega) ?_)
  intro w1 hrow hg1
  have hb1 := grown_below hg1
  have H0 : DivI w w1 w.heap.size LA x n [] 0 := ⟨by simpa using hrow, grown_any hg1, by simpa using Hn.out, Dig.nil _, Int.le_refl 0, x0, by rw [List.drop_of_length_le (by have := Hn.out; omega)]; simp [val]⟩
  have HG1 := hid (HA.out.rd.ne (Nat.le_refl w.heap.size))
  clear hrow hg1
  go_wp2
  go_loopw [7, 8] (fun rv iv wr => ∃ j : Nat, ∃ QT r, j ≤ n ∧ iv = .int .i64 ((j : Int) - 1) ∧ rv = .int .u64 r ∧ DivI w wr w.heap.size LA x j QT r ∧ Below w.heap.size w wr) (fun _ iv _ => (intOf iv + 1).toNat)
  case atStart => exact ⟨n, [], 0, Nat.le_refl _, rfl, rfl, H0, hb1⟩
  case round =>
    obtain ⟨j, QT, r, hj, rfl, rfl, H, hb⟩ := hrel
    cases j with
    | zero =>
      have hr : Row .u64 63 wr w.heap.size QT := by have := H.row; simpa using this
      have hl : QT.length = n := by have := H.len; have := Hn.out; omega
      have he := H.eq
      rw [List.drop_zero, HA.out.eq] at he
      have hqr := (Int.ediv_emod_unique x0 (a := a) (r := r) (q := val B64 QT)).2 ⟨by rw [he, Int.mul_comm]; omega, H.r0, H.r1⟩
      have ht := trim64_any (some ⟨w.heap.size, 0, none⟩) n QT wr (row_rd hr (by omega) (by omega))
      have hres := own_row (c := n) (K := K) hr H.dig hqr.1.symm (by omega) (by omega) (by have := HA.out.le; have := Hn.out; omega) (Nat.le_refl _)
      rw [hl] at ht
      have HT := hid ht; have Hres := hid hres; have HQ := hid hqr.2
      clear ht hres hr hl he hqr H H0 hb1
      go_wp2_with (go_at_call 96; refine HT.out.mono ?_; rintro e w2 ⟨rfl, rfl⟩)
      go_ret2
      exact ⟨_, by rw [HQ.out]; rfl, Hres.out, hb⟩
    | succ j =>
      have hjn : j < n := by omega
      obtain ⟨b, o, rfl⟩ := HA.out.rd.adr (by have := Hn.out; omega)
      have hc := (HA.out.rd.keptNew H.gr HG1.out).cell b o rfl j (by have := Hn.out; omega)
      have hd := HA.out.dig.at B64_pos j
      obtain ⟨y, hy⟩ : ∃ y, y = LA[j]?.getD 0 := ⟨_, rfl⟩
      rw [← hy] at hc hd
      have HS := hid (fun nq => H.step x0 y hy hd.1 hd.2 nq)
      have hq := H.row.cell j (by have := H.len; simp; omega)
      have hf := H.row.frozen j
      obtain ⟨u, hu⟩ : ∃ u, u = ((List.replicate (j + 1) 0 ++ QT)[j]?.getD 0 : Int) := ⟨_, rfl⟩
      rw [← hu] at hq
      have HC := hid (div64_any r y x H.r0 H.r1 hd.1 hd.2 X1.out wr)
      have HH := hid H
      have hk0 : (0 : Int) ≤ (j : Int) := by omega
      clear H H0 hb1 hd hy hu
      go_wp2_with (go_at_call 135; refine HC.out.mono ?_; rintro e w2 ⟨rfl, nq, rfl⟩)
      go_roundw
      case rel => exact ⟨j, _, _, by omega, by go_num, rfl, HS.out nq, ((below_drewN hb nq).setCell (Nat.le_refl _) _)⟩
      case measure => simp [intOf]


/-- Rows of limbs stay. -/
def KeepT (W W' : World) : Prop := ∀ (k : Nat) (cs : Array Value) (z : Nat × Nat), W.heap[k]? = some (Obj.cells cs 63 z) → W'.heap[k]? = some (Obj.cells cs 63 z)
theorem KeepT.trans {A B C : World} (h : KeepT A B) (k : KeepT B C) : KeepT A C := fun i cs z e => k i cs z (h i cs z e)
theorem KeepT.below {W W' : World} (h : Below W.heap.size W W') : KeepT W W' := fun k _ _ e => (h.block k (Array.getElem?_eq_some_iff.1 e).1).trans e
theorem KeepT.put {B : Nat} (W : World) (l : Nat) (o o' : Obj) (_ : B ≤ l) (h : W.heap[l]? = some o) (hc : o.isCells = false) (_ : o.isWalk = false) : KeepT W (W.putObj l o') := fun k cs z e => by
  refine (World.putObj_heap_other (fun hk => ?_)).trans e
  subst hk
  rw [e] at h
  cases h
  cases hc
theorem OwnV.keepT {W W' : World} {B : Nat} {v : Value} {n : Int} {K : Nat} (h : OwnV W B v n K) (hk : KeepT W W') : OwnV W' B v n K := by
  rcases h with ⟨g, c, L, S, e, h, hK⟩ | h
  · exact .inl ⟨g, c, L, S, e, ⟨hk _ _ _ h.row, h.dig, h.nrm, h.eq, h.cap, h.most, h.base⟩, hK⟩
  · exact .inr h

set_option maxRecDepth 100000 in
set_option maxHeartbeats 1000000 in
theorem groups1_any (n : Nat) (hn : 1 ≤ n) (Bn y K : Nat) (hK : K ≤ 1000000) (a : Option Addr) (k c : Nat) (w : World) (hBn : Bn < w.heap.size) (hc : w.cell? ⟨Bn, 0, none⟩ = some (.slice a k c)) (hA : Nt w (.slice a k c) y K) :
    SeqStopsK Fence.wide n Tryz.prog 106 #[.pointer (some ⟨Bn, 0, none⟩)] (fun x : Grp => #[.int .u64 (x.1 : Int)]) KeepT (fun ys => ys.map (·.1) = gls y) (fun _ => True) (gls y).length w := fun l J Jx W hW hJ _ hY h0 => by
  have hBW : W.cell? ⟨Bn, 0, none⟩ = some (.slice a k c) := (hW.cell (p := ⟨Bn, 0, none⟩) hBn).trans hc
  have HA := hid (hA.below hW (Nat.le_refl _))
  have HJ := hid (fun pre A B hp (hg : Below A.heap.size A B) => hJ pre A B none hp (below_grown hg) (fun r h => by cases h))
  have HY := hid hY
  have H0 := hid h0
  clear hJ hY h0 hA hc
  refine callsIn_of_wp Tryz.func106 rfl trivial ?_ rfl
  simp only [Tryz.ntmps106, List.size_toArray, List.length_cons, List.length_nil, Nat.reduceAdd, Nat.reduceSub, Array.replicate_succ, Array.replicate_zero, List.push_toArray, List.append_toArray, List.nil_append, List.cons_append]
  gi_wp2
  gi_loopw [3] (fun p wr => ∃ (pre : List Grp) (q : Nat), gls y = pre.map (·.1) ++ gls q ∧ Nt wr p q K ∧ J pre wr) (fun p wr => natOf wr p)
  case atStart => exact ⟨[], y, rfl, HA.out, H0.out⟩
  case round =>
    obtain ⟨pre, q, he, hp, hj⟩ := hrel
    obtain ⟨a', k', c', rfl, _⟩ := Nt.opened hp
    have hl0 := Nt.len0 hp
    by_cases hq : q = 0
    · subst hq
      obtain rfl : k' = 0 := hl0.2 rfl
      have HE := hid he; have HJ0 := hid hj
      clear he hj hl0 hp HA H0 HY
      gi_wp2
      go_end0
      exact ⟨⟨_, rfl⟩, .inl ⟨pre, by have := HE.out; rw [gls_zero, List.append_nil] at this; exact this.symm, HJ0.out⟩⟩
    · have hk0 : k' ≠ 0 := fun h => hq (by have := hl0.1 h; omega)
      have hkI : ¬ (k' : Int) = 0 := by omega
      have hkJ : (0 : Int) < k' := by omega
      have hlen : pre.length < (gls y).length := by rw [he, gls_pos hq]; simp
      obtain ⟨x, hxe⟩ : ∃ x : Nat, x = q % 10000000000000000000 := ⟨_, rfl⟩
      obtain ⟨d, hde⟩ : ∃ d : Nat, d = q / 10000000000000000000 := ⟨_, rfl⟩
      have hx : x < 10000000000000000000 := by rw [hxe]; exact Nat.mod_lt _ (by decide)
      have he2 : gls q = x :: gls d := by rw [gls_pos hq, hxe, hde]
      have Hdq := hid (show d < q by rw [hde]; exact Nat.div_lt_self (by omega) (by decide))
      have HE := hid (show gls y = (pre ++ [(⟨x, hx⟩ : Grp)]).map (·.1) ++ gls d by rw [he, he2]; simp)
      have HP := hid hp; have Hj := hid hj; have HL := hid hlen
      have hdl := divideLimb_own (.slice a' k' c') q 10000000000000000000 K wr hp (by omega) (by omega) (by unfold B64; omega)
      rw [show (q : Int) / 10000000000000000000 = (d : Int) by omega, show (q : Int) % 10000000000000000000 = (x : Int) by omega] at hdl
      have HD := hid hdl
      clear he hj hl0 hp HA H0 hq hk0 hlen hdl he2 hxe hde
      gi_wp2_with (refine ⟨trivial, ?_⟩; gi_at_call 107; refine (callsIn_wide.2 HD.out).mono ?_)
      rintro e W1 ⟨v1, rfl, hv1, hb1⟩
      have Hv1 := hid hv1
      have HJ1 := hid (HJ.out _ _ _ Hj.out hb1)
      clear hv1 hb1
      obtain ⟨fn, tmps, assign, body, hy, hR⟩ := HY.out pre ⟨x, hx⟩ W1 HJ1.out HL.out
      gi_wp2
      refine hR.mono ?_
      rintro e W3 (⟨rfl, hJ3, hk3⟩ | ⟨rfl, hJx3⟩)
      · have H3 := hid hJ3; have HN := hid (Hv1.out.keepT hk3).nt
        clear hJ3
        gi_wp2
        go_roundw
        case rel => exact ⟨pre ++ [⟨x, hx⟩], d, HE.out, HN.out, H3.out⟩
        case measure =>
          rw [natOf_eq HN.out, natOf_eq HP.out]
          have := Hdq.out
          omega
      · have HX := hid hJx3
        clear hJx3
        gi_wp2
        refine bodyPost_ret (results_none rfl _ _ _) rfl ?_
        exact ⟨⟨_, rfl⟩, .inr ⟨pre ++ [⟨x, hx⟩], trivial, HX.out⟩⟩
end Go.Proofs.YtbapeilpkhbbeaaGreatDoor
