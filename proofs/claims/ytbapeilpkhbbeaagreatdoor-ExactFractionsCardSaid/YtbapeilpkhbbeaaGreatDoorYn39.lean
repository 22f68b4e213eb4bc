/- The document's own integers: SameInt, LikeInt; the law's spoil. The document's ratios, the parts that the laws use: NoInt, None, Same, Whole; isRatio and spoilRatio of the laws. The law's own: an integer in memory of its own. The law ExactInts. Written by gen_ints.py. -/
import Derived.Test.YtbapeilpkhbbeaaGreatDoorYn26
import Derived.Test.YtbapeilpkhbbeaaGreatDoorYn38
import Derived.Laws.MakeOwn
import Derived.Test.YtbapeilpkhbbeaaGreatDoorYn13
import Derived.Test.YtbapeilpkhbbeaaGreatDoorYn15
import Derived.Test.YtbapeilpkhbbeaaGreatDoorYn29
import Derived.Test.YtbapeilpkhbbeaaGreatDoorYn16
/- The document's own integers: SameInt, LikeInt; the law's spoil. -/
namespace Go.Proofs.YtbapeilpkhbbeaaGreatDoor
open Go.RowKit

set_option maxRecDepth 100000 in
set_option maxHeartbeats 4000000 in
theorem sameInt_any (u v : Value) (z : Int) (Ka Kb : Nat) (w : World) (hu : An w u z Ka) (hv : Zt w v z Kb) (hK : Kb ≤ 268435456) :
    Calls Tryz.prog 82 #[u, v] w fun e w' => e = .returned (.bool true) ∧ Below w.heap.size w w' := by
  obtain ⟨ao, ca, L, rfl, hr, dL, nL, eL, _⟩ := hu
  obtain ⟨yb, yo, ym, yc, rfl, Hy, Hys, Hyb⟩ := Zt.opened hv
  obtain ⟨n, hn⟩ : ∃ n, n = L.length := ⟨_, rfl⟩
  obtain ⟨xb, hxb⟩ : ∃ xb, xb = decide (z < 0) := ⟨_, rfl⟩
  rw [← hxb, ← hn]
  have hyx : yb = xb := by rw [Hyb.out, hxb]
  subst hyx
  have hb : Below w.heap.size w ((w.alloc (.cells #[.bool yb, .slice ao n ca] 24)).alloc (.cells #[.bool yb, .slice yo ym yc] 31)) := ((Below.refl _ _).alloc (Nat.le_refl _) _).alloc (by simp) _
  have hI := rint_any _ z Kb _ (Hy.out _ hb) hK
  have HI := hid hI; have HB := hid hb; have HR := hid hr; have Hn := hid hn
  have HD := hid (And.intro dL (And.intro nL eL)); have Hxb := hid hxb
  clear hI hb hr hn dL nL eL hxb hv
  go_enter Tryz.func82, Tryz.ntmps82
  go_wp2_with fail
  refine HI.out.mono ?_
  rintro e w1 ⟨_, rfl, ⟨bo, bc, M, rfl, hrM, dM, nM, eM, _⟩, hb1⟩
  rw [← Hxb.out]
  obtain rfl : L = M := val_inj B32_pos HD.out.1 dM HD.out.2.1 nM (by rw [HD.out.2.2, eM])
  rw [← Hn.out]
  obtain ⟨W1, hW1⟩ : ∃ W1, W1 = w1.alloc (.cells #[.bool yb, .slice bo n bc] 24) := ⟨_, rfl⟩
  have hb1' : Below w.heap.size w w1 := HB.out.trans (hb1.mono HB.out.size)
  have hbW : Below w.heap.size w W1 := by rw [hW1]; exact hb1'.alloc hb1'.size _
  have c0 : W1.cell? ⟨w.heap.size, 0, none⟩ = some (.bool yb) ∧ W1.cell? ⟨w.heap.size, 1, none⟩ = some (.slice ao n ca) := by
    have hlow : Below (w.heap.size + 1) ((w.alloc (.cells #[.bool yb, .slice ao n ca] 24)).alloc (.cells #[.bool yb, .slice yo ym yc] 31)) W1 := by
      rw [hW1]; exact (hb1.mono (by simp)).alloc (by have := hb1.size; simp at this; omega) _
    constructor <;> (rw [hlow.cell (by simp)]; simp [go_sem])
  have c1 : W1.cell? ⟨w1.heap.size, 0, none⟩ = some (.bool yb) ∧ W1.cell? ⟨w1.heap.size, 1, none⟩ = some (.slice bo n bc) := by rw [hW1]; constructor <;> simp [go_sem]
  have hs := sameWords_any ao bo ca bc L L W1 (HR.out.below hbW (Nat.le_refl _)) (by rw [hW1]; exact hrM.below ((Below.refl _ _).alloc (Nat.le_refl _) _) (Nat.le_refl _))
  rw [← Hn.out, decide_eq_true rfl] at hs
  obtain ⟨c00, c01⟩ := c0
  obtain ⟨c10, c11⟩ := c1
  have HS := hid hs; have HbW := hid hbW; have HW1 := hid hW1
  clear hs hbW hb1 hb1' hrM dM nM eM HD HR
  have hyy : (yb == yb) = true := by simp
  go_upto_region 2 with (fail)
  rw [← hW1]
  clear hW1
  go_wp2_with fail
  refine HS.out.mono ?_
  rintro e w2 ⟨rfl, nq, rfl⟩
  have HF := hid (below_drewN HbW.out nq)
  go_wp2
  go_ret
  exact ⟨rfl, HF.out⟩

/-- The value v (an api.Int) has these words. -/
def Lk (w : World) (v : Value) (neg : Bool) (W : List Int) : Prop := ∃ ao c, v = .agg #[.bool neg, .slice ao W.length c] ∧ Rd w .u32 ao c W

set_option maxRecDepth 100000 in
set_option maxHeartbeats 4000000 in
theorem likeInt_any (u v : Value) (neg : Bool) (W : List Int) (w : World) (hu : Lk w u neg W) (hv : Lk w v neg W) :
    Calls Tryz.prog 45 #[u, v] w fun e w' => e = .returned (.bool true) ∧ Below w.heap.size w w' := by
  obtain ⟨ao, ca, rfl, hr⟩ := hu
  obtain ⟨bo, cb, rfl, hr2⟩ := hv
  obtain ⟨n, hn⟩ : ∃ n, n = W.length := ⟨_, rfl⟩
  rw [← hn]
  have hb : Below w.heap.size w ((w.alloc (.cells #[.bool neg, .slice ao n ca] 24)).alloc (.cells #[.bool neg, .slice bo n cb] 24)) := ((Below.refl _ _).alloc (Nat.le_refl _) _).alloc (by simp) _
  have hs := sameWords_any ao bo ca cb W W _ (hr.below hb (Nat.le_refl _)) (hr2.below hb (Nat.le_refl _))
  rw [← hn, decide_eq_true rfl] at hs
  have HS := hid hs; have HB := hid hb
  have hyy : (neg == neg) = true := by simp
  clear hs hb hr hr2 hn
  go_enter Tryz.func45, Tryz.ntmps45
  go_wp2_with fail
  refine HS.out.mono ?_
  rintro e w2 ⟨rfl, nq, rfl⟩
  have HF := hid (below_drewN HB.out nq)
  go_wp2
  go_ret
  exact ⟨rfl, HF.out⟩

/-- Words that may be written over: they lie in blocks from B on. -/
def Sp (w : World) (B : Nat) (v : Value) : Prop := ∃ b ao n c, v = .agg #[.bool b, .slice ao n c] ∧ n ≤ 1073741824 ∧ n ≤ c ∧ c ≤ 9223372036854775807 ∧ (0 < n → ∃ g off, ao = some ⟨g, off, none⟩ ∧ B ≤ g ∧ ∀ i, i < n → (∃ x, 0 ≤ x ∧ x < 4294967296 ∧ w.cell? ⟨g, off + i, none⟩ = some (.int .u32 x)) ∧ w.frozen? ⟨g, off + i, none⟩ = false)
/-- What a spoilt world keeps. -/
structure Spd (B : Nat) (w w' : World) : Prop where
  low : Below B w w'
  siz : w.heap.size ≤ w'.heap.size
  cel : ∀ a v, w.cell? a = some v → (∀ x, v ≠ .int .u32 x) → w'.cell? a = some v
  u32 : ∀ a x, w.cell? a = some (.int .u32 x) → 0 ≤ x → x < 4294967296 → ∃ y, 0 ≤ y ∧ y < 4294967296 ∧ w'.cell? a = some (.int .u32 y)
  frz : ∀ a, a.block < w.heap.size → w'.frozen? a = w.frozen? a
theorem Spd.refl (B : Nat) (w : World) : Spd B w w := ⟨Below.refl _ _, Nat.le_refl _, fun _ _ h _ => h, fun _ x h h0 h1 => ⟨x, h0, h1, h⟩, fun _ _ => rfl⟩
theorem Spd.trans {B : Nat} {a b c : World} (h : Spd B a b) (g : Spd B b c) : Spd B a c :=
  ⟨h.low.trans g.low, Nat.le_trans h.siz g.siz, fun p _ e hn => g.cel p _ (h.cel p _ e hn) hn, fun p x e h0 h1 => by obtain ⟨y, y0, y1, e'⟩ := h.u32 p x e h0 h1; exact g.u32 p y e' y0 y1, fun p hp => (g.frz p (Nat.lt_of_lt_of_le hp h.siz)).trans (h.frz p hp)⟩
theorem Spd.of_below {B : Nat} {w w' : World} (hb : Below w.heap.size w w') (hB : B ≤ w.heap.size) : Spd B w w' :=
  ⟨hb.mono hB, hb.size, fun a _ e _ => (hb.cell (World.block_lt_of_cell? w a e)).trans e, fun a x e h0 h1 => ⟨x, h0, h1, (hb.cell (World.block_lt_of_cell? w a e)).trans e⟩, fun _ ha => hb.frozen ha⟩
theorem Spd.drewN {B : Nat} {w w' : World} (h : Spd B w w') (n : Nat) : Spd B w (w'.drewN n) := ⟨below_drewN h.low n, h.siz, h.cel, h.u32, h.frz⟩
theorem Spd.set {B : Nat} {w w' : World} (h : Spd B w w') {a : Addr} (ha : B ≤ a.block) {x y : Int} (hx : w'.cell? a = some (.int .u32 x)) (y0 : 0 ≤ y) (y1 : y < 4294967296) : Spd B w (w'.setCell a (.int .u32 y)) := by
  refine ⟨h.low.setCell ha _, by simpa using h.siz, fun p _ e hn => ?_, fun p z e h0 h1 => ?_, fun p hp => ?_⟩
  · have e' := h.cel p _ e hn
    have hne : a ≠ p := by rintro rfl; rw [hx] at e'; exact hn x (Option.some.inj e').symm
    exact (World.cell?_setCell_other w' a _ _ hne).trans e'
  · obtain ⟨u, u0, u1, e'⟩ := h.u32 p z e h0 h1
    by_cases hne : a = p
    · subst hne
      exact ⟨y, y0, y1, World.cell?_setCell_same w' a _ hx⟩
    · exact ⟨u, u0, u1, (World.cell?_setCell_other w' a _ _ hne).trans e'⟩
  · rw [World.frozen?_setCell]; exact h.frz p hp

end Go.Proofs.YtbapeilpkhbbeaaGreatDoor

/- The document's ratios, the parts that the laws use: NoInt, None, Same, Whole; isRatio and spoilRatio of the laws. -/
namespace Go.Proofs.YtbapeilpkhbbeaaGreatDoor
open Go.RowKit

theorem An.opened {w : World} {v : Value} {z : Int} {K : Nat} (h : An w v z K) : ∃ b ao m c, v = .agg #[.bool b, .slice ao m c] ∧ Hid (∀ w', Below w.heap.size w w' → An w' (.agg #[.bool b, .slice ao m c]) z K) := by
  obtain ⟨ao, c, L, rfl, h⟩ := h
  exact ⟨_, ao, L.length, c, rfl, hid (fun w' hb => An.below ⟨ao, c, L, rfl, h⟩ hb (Nat.le_refl _))⟩

set_option maxRecDepth 100000 in
set_option maxHeartbeats 1000000 in
theorem noInt_any (ao : Option Addr) (c : Nat) (w : World) :
    Calls Tryz.prog 81 #[.agg #[.bool false, .slice ao 0 c]] w fun e w' => e = .returned (.bool true) ∧ Below w.heap.size w w' := by
  have hb : Below w.heap.size w (w.alloc (.cells #[.bool false, .slice ao 0 c] 24)) := (Below.refl _ _).alloc (Nat.le_refl _) _
  have HB := hid hb
  clear hb
  go_enter Tryz.func81, Tryz.ntmps81
  go_wp2
  go_ret
  exact ⟨rfl, HB.out⟩

/-- An api.Ratio in normal form; a ratio of the document's. -/
def Rt (w : World) (v : Value) (x y : Int) (K : Nat) : Prop := ∃ b1 o1 m1 c1 b2 o2 m2 c2, v = .agg #[.bool b1, .slice o1 m1 c1, .bool b2, .slice o2 m2 c2] ∧ An w (.agg #[.bool b1, .slice o1 m1 c1]) x K ∧ An w (.agg #[.bool b2, .slice o2 m2 c2]) y K
def Qt (w : World) (v : Value) (x y : Int) (K : Nat) : Prop := ∃ b1 o1 m1 c1 b2 o2 m2 c2, v = .agg #[.bool b1, .slice o1 m1 c1, .bool b2, .slice o2 m2 c2] ∧ Zt w (.agg #[.bool b1, .slice o1 m1 c1]) x K ∧ Zt w (.agg #[.bool b2, .slice o2 m2 c2]) y K
theorem Rt.below {w w' : World} {v : Value} {x y : Int} {K B : Nat} (h : Rt w v x y K) (hb : Below B w w') (hB : w.heap.size ≤ B) : Rt w' v x y K := by
  obtain ⟨b1, o1, m1, c1, b2, o2, m2, c2, rfl, h1, h2⟩ := h
  exact ⟨b1, o1, m1, c1, b2, o2, m2, c2, rfl, h1.below hb hB, h2.below hb hB⟩
theorem Qt.below {w w' : World} {v : Value} {x y : Int} {K B : Nat} (h : Qt w v x y K) (hb : Below B w w') (hB : w.heap.size ≤ B) : Qt w' v x y K := by
  obtain ⟨b1, o1, m1, c1, b2, o2, m2, c2, rfl, h1, h2⟩ := h
  exact ⟨b1, o1, m1, c1, b2, o2, m2, c2, rfl, h1.below hb hB, h2.below hb hB⟩

set_option maxRecDepth 100000 in
set_option maxHeartbeats 1000000 in
theorem rsame_any (u v : Value) (x y : Int) (Ka K : Nat) (w : World) (hu : Rt w u x y Ka) (hv : Qt w v x y K) (hK : K ≤ 268435456) :
    Calls Tryz.prog 44 #[u, v] w fun e w' => e = .returned (.bool true) ∧ Below w.heap.size w w' := by
  obtain ⟨b1, o1, m1, c1, b2, o2, m2, c2, rfl, h1, h2⟩ := hu
  obtain ⟨e1, p1, n1, d1, e2, p2, n2, d2, rfl, g1, g2⟩ := hv
  go_enter Tryz.func44, Tryz.ntmps44
  go_wp2_with fail
  obtain ⟨W0, hW0⟩ : ∃ W0, W0 = ((w.alloc (.cells #[.bool b1, .slice o1 m1 c1, .bool b2, .slice o2 m2 c2] 26)).alloc (.cells #[.bool e1, .slice p1 n1 d1, .bool e2, .slice p2 n2 d2] 33)) := ⟨_, rfl⟩
  have hB0 : Below w.heap.size w W0 := by rw [hW0]; exact ((Below.refl _ _).alloc (Nat.le_refl _) _).alloc (by simp) _
  have hz0 : W0.heap.size = w.heap.size + 2 := by rw [hW0]; simp
  have HS : Hid (∀ w', Below W0.heap.size W0 w' → w'.cell? ⟨w.heap.size, 2, none⟩ = some (.bool b2) ∧ w'.cell? ⟨w.heap.size, 3, none⟩ = some (.slice o2 m2 c2) ∧ w'.cell? ⟨w.heap.size + 1, 2, none⟩ = some (.bool e2) ∧ w'.cell? ⟨w.heap.size + 1, 3, none⟩ = some (.slice p2 n2 d2)) := hid (fun w' hb => by
    refine ⟨?_, ?_, ?_, ?_⟩ <;> (rw [hb.cell (by rw [hz0]; simp), hW0]; simp [go_sem]))
  rw [← hW0]
  clear hW0
  refine (sameInt_any _ _ x Ka K _ (h1.below hB0 (Nat.le_refl _)) (g1.below hB0 (Nat.le_refl _)) hK).mono ?_
  rintro e w1 ⟨rfl, hb1⟩
  obtain ⟨k0, k1, k2, k3⟩ := HS.out _ hb1
  have hB1 := hB0.trans (hb1.mono (by omega))
  go_wp2_with fail
  refine (sameInt_any _ _ y Ka K _ (h2.below hB1 (Nat.le_refl _)) (g2.below hB1 (Nat.le_refl _)) hK).mono ?_
  rintro e w2 ⟨rfl, hb2⟩
  have hB2 := hB1.trans (hb2.mono hB1.size)
  go_wp2
  go_ret
  exact ⟨rfl, hB2⟩

set_option maxRecDepth 100000 in
set_option maxHeartbeats 1000000 in
theorem none_any (o1 o2 : Option Addr) (c1 c2 : Nat) (w : World) :
    Calls Tryz.prog 43 #[.agg #[.bool false, .slice o1 0 c1, .bool false, .slice o2 0 c2]] w fun e w' => e = .returned (.bool true) ∧ Below w.heap.size w w' := by
  go_enter Tryz.func43, Tryz.ntmps43
  go_wp2_with fail
  obtain ⟨W0, hW0⟩ : ∃ W0, W0 = (w.alloc (.cells #[.bool false, .slice o1 0 c1, .bool false, .slice o2 0 c2] 26)) := ⟨_, rfl⟩
  have hB0 : Below w.heap.size w W0 := by rw [hW0]; exact (Below.refl _ _).alloc (Nat.le_refl _) _
  have hz0 : W0.heap.size = w.heap.size + 1 := by rw [hW0]; simp
  have HS : Hid (∀ w', Below W0.heap.size W0 w' → w'.cell? ⟨w.heap.size, 2, none⟩ = some (.bool false) ∧ w'.cell? ⟨w.heap.size, 3, none⟩ = some (.slice o2 0 c2)) := hid (fun w' hb => by
    refine ⟨?_, ?_⟩ <;> (rw [hb.cell (by rw [hz0]; simp), hW0]; simp [go_sem]))
  rw [← hW0]
  clear hW0
  refine (noInt_any o1 c1 _).mono ?_
  rintro e w1 ⟨rfl, hb1⟩
  obtain ⟨k0, k1⟩ := HS.out _ hb1
  have hB1 := hB0.trans (hb1.mono (by omega))
  go_wp2_with fail
  refine (noInt_any o2 c2 _).mono ?_
  rintro e w2 ⟨rfl, hb2⟩
  have hB2 := hB1.trans (hb2.mono hB1.size)
  go_wp2
  go_ret
  exact ⟨rfl, hB2⟩

set_option maxRecDepth 100000 in
set_option maxHeartbeats 1000000 in
theorem isRatio_none (o1 o2 : Option Addr) (c1 c2 : Nat) (err : Int) (w : World) (he : err ≠ 0) (v : Value) (hp : ∃ e1 p1 n1 d1 e2 p2 n2 d2, v = .agg #[.bool e1, .slice p1 n1 d1, .bool e2, .slice p2 n2 d2]) :
    Calls Tryz.prog 13 #[.agg #[.bool false, .slice o1 0 c1, .bool false, .slice o2 0 c2], .int .i64 err, v, .int .i64 err] w fun e w' => e = .returned (.bool true) ∧ Below w.heap.size w w' := by
  obtain ⟨e1, p1, n1, d1, e2, p2, n2, d2, rfl⟩ := hp
  go_enter Tryz.func13, Tryz.ntmps13
  go_wp2_with fail
  have hB0 : Below w.heap.size w ((w.alloc (.cells #[.bool false, .slice o1 0 c1, .bool false, .slice o2 0 c2] 26)).alloc (.cells #[.bool e1, .slice p1 n1 d1, .bool e2, .slice p2 n2 d2] 33)) := ((Below.refl _ _).alloc (Nat.le_refl _) _).alloc (by simp) _
  refine (none_any o1 o2 c1 c2 _).mono ?_
  rintro e w1 ⟨rfl, hb1⟩
  have hB1 := hB0.trans (hb1.mono hB0.size)
  go_wp2
  go_ret
  exact ⟨rfl, hB1⟩

set_option maxRecDepth 100000 in
set_option maxHeartbeats 1000000 in
theorem isRatio_same (u v : Value) (x y : Int) (Ka K : Nat) (w : World) (hu : Rt w u x y Ka) (hv : Qt w v x y K) (hK : K ≤ 268435456) :
    Calls Tryz.prog 13 #[u, .int .i64 0, v, .int .i64 0] w fun e w' => e = .returned (.bool true) ∧ Below w.heap.size w w' := by
  have hu' := hu; have hv' := hv
  obtain ⟨b1, o1, m1, c1, b2, o2, m2, c2, rfl, _, _⟩ := hu
  obtain ⟨e1, p1, n1, d1, e2, p2, n2, d2, rfl, _, _⟩ := hv
  go_enter Tryz.func13, Tryz.ntmps13
  go_wp2_with fail
  have hB0 : Below w.heap.size w ((w.alloc (.cells #[.bool b1, .slice o1 m1 c1, .bool b2, .slice o2 m2 c2] 26)).alloc (.cells #[.bool e1, .slice p1 n1 d1, .bool e2, .slice p2 n2 d2] 33)) := ((Below.refl _ _).alloc (Nat.le_refl _) _).alloc (by simp) _
  refine (rsame_any _ _ x y Ka K _ (hu'.below hB0 (Nat.le_refl _)) (hv'.below hB0 (Nat.le_refl _)) hK).mono ?_
  rintro e w1 ⟨rfl, hb1⟩
  have hB1 := hB0.trans (hb1.mono hB0.size)
  go_wp2
  go_ret
  exact ⟨rfl, hB1⟩
end Go.Proofs.YtbapeilpkhbbeaaGreatDoor

/- The law's own: an integer in memory of its own. -/
namespace Go.Proofs.YtbapeilpkhbbeaaGreatDoor
open Go.RowKit

/-- The cells of a new row. -/
def mkCells (n : Nat) : Array Value := madeCells (Value.cells (.int .u32 0)) ((n + 3) * 1)
theorem mkCells_size (n : Nat) : (mkCells n).size = (n + 3) * 1 := by
  have h : (mkCells n).toList.length = (n + 3) * 1 := by
    unfold mkCells
    rw [Nat.mul_one, show Value.cells (.int .u32 0) = #[.int .u32 0] from rfl, toList_madeCells_one]; simp
  simpa using h
theorem run_mk (n : Nat) (hn : n ≤ 1073741824) (w : World) : (Instr.makeSlice 22 (.int .i64 0) (.int .i64 ((n : Int) + 3))).run Tryz.prog w = .ok (.slice (some ⟨w.heap.size, 0, none⟩) 0 (n + 3)) (w.alloc (.cells (mkCells n) 89)) := by
  obtain ⟨i0, hi, hz0, hz1, hz2⟩ := info_parts Tryz.info89
  have hr := run_make (P := Tryz.prog) w 22 89 i0 (.int .u32 0) Tryz.underlying22 hi hz0 .i64 .i64 0 ((n : Int) + 3) (by omega) (by omega) (by rw [hz2]; omega) (by omega)
  rw [hz1] at hr
  have e : ((n : Int) + 3).toNat = n + 3 := by omega
  rw [e] at hr
  exact hr

/-- Both blocks are made. -/
structure OwI (w W0 wx : World) (neg : Bool) (n g r : Nat) : Prop where
  ob : wx.heap[g]? = some (.cells #[.bool neg, .slice (some ⟨r, 0, none⟩) 0 (n + 3)] 24 (0, 0))
  own : wx.ownsRow (w.heap.size + 2) 89 1 (.slice (some ⟨r, 0, none⟩) 0 (n + 3)) 0 []
  ne : g ≠ r
  g2 : w.heap.size + 2 ≤ g
  low : Below (w.heap.size + 2) W0 wx

theorem OwI.one {w W0 : World} {neg : Bool} {n : Nat} {Z : Array Value} (hw0 : W0.heap.size = w.heap.size + 2) (hn : n ≤ 1073741824) (hZ : Z.size = (n + 3) * 1) :
    OwI w W0 ((W0.alloc (.cells Z 89)).alloc (.cells #[.bool neg, .slice (some ⟨W0.heap.size, 0, none⟩) 0 (n + 3)] 24)).drew neg n (W0.heap.size + 1) W0.heap.size := by
  refine ⟨?_, ?_, by omega, by omega, ((((Below.refl _ _).alloc (by omega) _).alloc (by simp; omega) _)).drew⟩
  · have h := Obs.new 24 (W0.alloc (.cells Z 89)) [.bool neg, .slice (some ⟨W0.heap.size, 0, none⟩) 0 (n + 3)]
    have e : (W0.alloc (.cells Z 89)).heap.size = W0.heap.size + 1 := by simp
    rw [e] at h; exact h
  · exact (World.ownsRow_made W0 Z (n + 3) (by omega) (by unfold maxLen; omega) hZ).alloc _
theorem OwI.two {w W0 : World} {neg : Bool} {n : Nat} {Z : Array Value} (hw0 : W0.heap.size = w.heap.size + 2) (hn : n ≤ 1073741824) (hZ : Z.size = (n + 3) * 1) :
    OwI w W0 ((W0.alloc (.cells #[.bool neg, .slice (some ⟨W0.heap.size + 1, 0, none⟩) 0 (n + 3)] 24)).alloc (.cells Z 89)).drew neg n W0.heap.size (W0.heap.size + 1) := by
  refine ⟨?_, ?_, by omega, by omega, ((((Below.refl _ _).alloc (by omega) _).alloc (by simp; omega) _)).drew⟩
  · exact (Obs.new 24 W0 [.bool neg, .slice (some ⟨W0.heap.size + 1, 0, none⟩) 0 (n + 3)]).alloc _
  · have h := World.ownsRow_made (base := w.heap.size + 2) (e := 89) (size := 1) (W0.alloc (.cells #[.bool neg, .slice (some ⟨W0.heap.size + 1, 0, none⟩) 0 (n + 3)] 24)) Z (n + 3) (by simp; omega) (by unfold maxLen; omega) hZ
    have e : (W0.alloc (.cells #[.bool neg, .slice (some ⟨W0.heap.size + 1, 0, none⟩) 0 (n + 3)] 24)).heap.size = W0.heap.size + 1 := by simp
    rw [e] at h; exact h

theorem run_append0 (W : World) (r cap c : Nat) : (Builtin.append_ #[22, 22] 22 #[.slice (some ⟨r, 0, none⟩) 0 cap, .slice none 0 c]).run Tryz.prog W = .ok (.slice (some ⟨r, 0, none⟩) 0 cap) W := by
  obtain ⟨i0, hi, hz0, hz1, hz2⟩ := info_parts Tryz.info89
  simp [Builtin.append_, run_underlying Tryz.underlying22, sizeOf, typeInfo, hi, Builtin.lenOf, Builtin.firstCells, storeCells]

def RetLk (w : World) (neg : Bool) (W : List Int) (e : Ending) (w' : World) : Prop := ∃ v, e = .returned v ∧ Lk w' v neg W ∧ Below w.heap.size w w'

set_option maxRecDepth 100000 in
set_option maxHeartbeats 4000000 in
theorem own_any (v : Value) (neg : Bool) (W : List Int) (w : World) (hv : Lk w v neg W) (hn : W.length ≤ 1073741824) :
    Calls Tryz.prog 15 #[v] w (RetLk w neg W) := by
  obtain ⟨ao, c, rfl, hr⟩ := hv
  obtain ⟨n, hne⟩ : ∃ n, n = W.length := ⟨_, rfl⟩
  rw [← hne] at hn ⊢
  have Hr := hid hr; have Hn := hid hne
  clear hr hne
  have hmk := run_mk n hn
  obtain ⟨Z, hZ⟩ : ∃ Z, mkCells n = Z := ⟨_, rfl⟩
  have hZs := mkCells_size n
  rw [hZ] at hmk hZs
  have HZs := hid hZs
  clear hZ hZs
  obtain ⟨i0, hi, hz0, hz1, hz2⟩ := info_parts Tryz.info89
  go_enter Tryz.func15, Tryz.ntmps15
  go_upto_region 1 with (fail)
  obtain ⟨W0, hW0⟩ : ∃ W0, W0 = ((w.alloc (.cells #[.bool neg, .slice ao n c] 24)).alloc (.cells #[.bool false, .slice none 0 0] 24)) := ⟨_, rfl⟩
  have hB0 : Below w.heap.size w W0 := by rw [hW0]; exact ((Below.refl _ _).alloc (Nat.le_refl _) _).alloc (by simp) _
  have hw0 : W0.heap.size = w.heap.size + 2 := by rw [hW0]; simp
  have HS : Hid (∀ w', Below (w.heap.size + 2) W0 w' → w'.cell? ⟨w.heap.size, 0, none⟩ = some (.bool neg) ∧ w'.cell? ⟨w.heap.size, 1, none⟩ = some (.slice ao n c)) := hid (fun w' hb => by
    refine ⟨?_, ?_⟩ <;> (rw [hb.cell (by simp), hW0]; simp [go_sem]))
  have HT : Hid (∀ w', Below (w.heap.size + 2) W0 w' → w'.cell? ⟨w.heap.size + 1, 0, none⟩ = some (.bool false) ∧ w'.cell? ⟨w.heap.size + 1, 1, none⟩ = some (.slice none 0 0) ∧ w'.frozen? ⟨w.heap.size + 1, 0, none⟩ = false ∧ w'.frozen? ⟨w.heap.size + 1, 1, none⟩ = false) := hid (fun w' hb => by
    refine ⟨?_, ?_, ?_, ?_⟩ <;> (first | (rw [hb.cell (by simp), hW0]; simp [go_sem]; done) | (rw [hb.frozen (by simp), hW0]; simp [go_sem]; done)))
  rw [← hW0]
  clear hW0
  have HB0 := hid hB0; have Hw0 := hid hw0
  obtain ⟨hs0, hs1⟩ := HS.out _ (Below.refl _ _)
  have hle : w.heap.size + 2 ≤ W0.heap.size := by rw [hw0]; exact Nat.le_refl _
  clear hB0 hw0
  have hw3 : IntKind.i64.wrap ((n : Int) + 3) = (n : Int) + 3 := IntWalk.i64_in _ (by omega)
  go_cut [3] (fun s3 wx => ∃ g r, s3 = .pointer (some ⟨g, 0, none⟩) ∧ OwI w W0 wx neg n g r)
  case first =>
    go_region_held3 (fun w' => w'.cell? ⟨w.heap.size, 0, none⟩ = some (.bool neg) ∧ w'.cell? ⟨w.heap.size, 1, none⟩ = some (.slice ao n c)) ((refine HS.out _ ?_; first | exact Below.refl _ _ | exact (Below.refl _ _).drew | exact ((Below.refl _ W0).alloc hle _) | exact ((Below.refl _ W0).alloc hle _).drew | exact (((Below.refl _ W0).alloc hle _).alloc (by simp; omega) _) | exact (((Below.refl _ W0).alloc hle _).alloc (by simp; omega) _).drew | exact ((((Below.refl _ W0).alloc hle _).alloc (by simp; omega) _).setCell (by simp; omega) _).setCell (by simp; omega) _)) (fail)
    all_goals (go_wp2_with fail; go_meet; first | exact ⟨_, _, rfl, OwI.one Hw0.out hn HZs.out⟩ | exact ⟨_, _, rfl, OwI.two Hw0.out hn HZs.out⟩)
  case rest =>
    obtain ⟨g, r, rfl, HO⟩ := hcut
    obtain ⟨k0, k1⟩ := HS.out _ HO.low
    have b0 : wc.cell? ⟨g, 0, none⟩ = some (.bool neg) := (cell_of_row wc g 0 _ _ (0, 0) HO.ob).trans rfl
    have b1 : wc.cell? ⟨g, 1, none⟩ = some (.slice (some ⟨r, 0, none⟩) 0 (n + 3)) := (cell_of_row wc g 1 _ _ (0, 0) HO.ob).trans rfl
    have b2 := frozen_of_row wc g 1 _ _ HO.ob
    have HHO := hid HO
    -- what the append leaves
    have key : ∀ w3 : World, w3.ownsRow (w.heap.size + 2) 89 1 (.slice (some ⟨r, 0, none⟩) n (n + 3)) n (W.map (Value.int .u32)) → wc.grownBy w3 (some r) →
        (w3.cell? ⟨g, 0, none⟩ = some (.bool neg) ∧ w3.cell? ⟨g, 1, none⟩ = some (.slice (some ⟨r, 0, none⟩) 0 (n + 3)) ∧ w3.frozen? ⟨g, 1, none⟩ = false) ∧ Below (w.heap.size + 2) W0 w3 ∧ Rd w3 .u32 (some ⟨r, 0, none⟩) (n + 3) W := by
      intro w3 ho hg
      have hob : w3.heap[g]? = some (.cells #[.bool neg, .slice (some ⟨r, 0, none⟩) 0 (n + 3)] 24 (0, 0)) := by
        rw [hg.block g (Array.getElem?_eq_some_iff.1 HO.ob).1 (by simp; exact HO.ne)]; exact HO.ob
      refine ⟨⟨(cell_of_row w3 g 0 _ _ (0, 0) hob).trans rfl, (cell_of_row w3 g 1 _ _ (0, 0) hob).trans rfl, frozen_of_row w3 g 1 _ _ hob⟩, HO.low.grown hg ?_ (fun i e => by cases e; exact owns_block HO.own r rfl), owns_any ho Hn.out.symm⟩
      have := (Array.getElem?_eq_some_iff.1 HO.ob).1; have := HO.g2; omega
    have HKey := hid key
    clear key HO hs0 hs1
    rcases ao with _ | ad
    · have hn0 : n = 0 := by
        rcases Nat.eq_zero_or_pos n with h | h
        · exact h
        · obtain ⟨_, _, e⟩ := Hr.out.adr (by have := Hn.out; omega); cases e
      have happ : ∀ X : World, (Builtin.append_ #[22, 22] 22 #[.slice (some ⟨r, 0, none⟩) 0 (n + 3), .slice none n c]).run Tryz.prog X = .ok (.slice (some ⟨r, 0, none⟩) n (n + 3)) X := fun X => by
        subst hn0; exact run_append0 X r _ c
      have hown0 : wc.ownsRow (w.heap.size + 2) 89 1 (.slice (some ⟨r, 0, none⟩) n (n + 3)) n (W.map (Value.int .u32)) := by
        have hW : W = [] := List.eq_nil_of_length_eq_zero (by have := Hn.out; omega)
        rw [hW]; subst hn0; exact HHO.out.own
      obtain ⟨⟨a0, a1, af⟩, hlow3, hrd3⟩ := HKey.out wc hown0 (grown_refl _ _)
      clear hn0 hown0 a0 a1 af
      have a1 := b1
      have HF := hid hlow3; have HR3 := hid hrd3
      obtain ⟨hr0, hr1, hr2, hr3⟩ := HT.out _ hlow3
      have hgn : (⟨g, 1, none⟩ : Addr) ≠ ⟨w.heap.size + 1, 0, none⟩ := by intro e; have := HHO.out.g2; simp at e <;> omega
      have hgn1 : (⟨g, 1, none⟩ : Addr) ≠ ⟨w.heap.size + 1, 1, none⟩ := by intro e; have := HHO.out.g2; simp at e <;> omega
      have e0 : (wc.setCell ⟨g, 1, none⟩ (.slice (some ⟨r, 0, none⟩) n (n + 3))).cell? ⟨w.heap.size + 1, 0, none⟩ = some (.bool false) := (World.cell?_setCell_other _ _ _ _ hgn).trans hr0
      have e1 : (wc.setCell ⟨g, 1, none⟩ (.slice (some ⟨r, 0, none⟩) n (n + 3))).cell? ⟨w.heap.size + 1, 1, none⟩ = some (.slice none 0 0) := (World.cell?_setCell_other _ _ _ _ hgn1).trans hr1
      clear hgn hgn1 hr0 hr1
      clear hlow3 hrd3
      go_wp2
      refine bodyPost_ret (v := .agg #[.bool neg, .slice (some ⟨r, 0, none⟩) n (n + 3)]) (by simp [results, Tryz.results15, go_sem, e0, e1]) rfl ⟨_, rfl, ⟨_, _, by rw [Hn.out], ?_⟩, (((HB0.out.trans (HF.out.mono (by omega))).setCell (by simp; have := HHO.out.g2; omega) _).setCell (by simp) _).setCell (by simp) _⟩
      rw [← Hn.out]
      exact ((HR3.out.set a1 (fun x h => (by cases h)) _).set (u := .bool false) e0 (fun x h => (by cases h)) _).set (u := .slice none 0 0) (by simp [go_sem, e1]) (fun x h => (by cases h)) _
    · obtain ⟨ab, aoff, asp⟩ := ad
      have hsrc : ∀ j u, (W.map (Value.int .u32))[j]? = some u → wc.cell? ((⟨ab, aoff, asp⟩ : Addr).add j) = some u := by
        intro j u hj
        have hjl : j < W.length := by have := (List.getElem?_eq_some_iff.1 hj).1; simpa using this
        obtain ⟨b', o', e⟩ := Hr.out.adr (by omega)
        obtain ⟨rfl, rfl, rfl⟩ : ab = b' ∧ aoff = o' ∧ asp = none := by simpa using e
        have hadd : (⟨ab, aoff, none⟩ : Addr).add j = ⟨ab, aoff + j, none⟩ := by unfold Addr.add; split <;> simp_all
        rw [hadd, (Hr.out.below (HB0.out.trans (HHO.out.low.mono (by omega))) (Nat.le_refl _)).cell ab aoff rfl j hjl, ← hj]; simp [hjl]
      have HSrc := hid hsrc
      clear hsrc
      go_wp2_with (at_builtin; refine wpList_append_fits _ rfl _ _ 22 rfl (w.heap.size + 2) 89 i0 1 Tryz.underlying22 hi hz1 r 0 (n + 3) [] rfl HHO.out.own ⟨ab, aoff, asp⟩ n c (W.map (Value.int .u32)) rfl ?c1 HSrc.out ?c2 ?c3 ?_)
      case c1 => have := Hn.out; simp; omega
      case c2 => intro u hu; simp only [List.mem_map] at hu; obtain ⟨x, _, rfl⟩ := hu; rfl
      case c3 => omega
      intro w3 hown hg
      obtain ⟨⟨a0, a1, af⟩, hlow3, hrd3⟩ := HKey.out w3 hown hg
      clear hown hg
      have HF := hid hlow3; have HR3 := hid hrd3
      obtain ⟨hr0, hr1, hr2, hr3⟩ := HT.out _ hlow3
      have hgn : (⟨g, 1, none⟩ : Addr) ≠ ⟨w.heap.size + 1, 0, none⟩ := by intro e; have := HHO.out.g2; simp at e <;> omega
      have hgn1 : (⟨g, 1, none⟩ : Addr) ≠ ⟨w.heap.size + 1, 1, none⟩ := by intro e; have := HHO.out.g2; simp at e <;> omega
      have e0 : (w3.setCell ⟨g, 1, none⟩ (.slice (some ⟨r, 0, none⟩) n (n + 3))).cell? ⟨w.heap.size + 1, 0, none⟩ = some (.bool false) := (World.cell?_setCell_other _ _ _ _ hgn).trans hr0
      have e1 : (w3.setCell ⟨g, 1, none⟩ (.slice (some ⟨r, 0, none⟩) n (n + 3))).cell? ⟨w.heap.size + 1, 1, none⟩ = some (.slice none 0 0) := (World.cell?_setCell_other _ _ _ _ hgn1).trans hr1
      clear hgn hgn1 hr0 hr1
      clear hlow3 hrd3
      go_wp2
      refine bodyPost_ret (v := .agg #[.bool neg, .slice (some ⟨r, 0, none⟩) n (n + 3)]) (by simp [results, Tryz.results15, go_sem, e0, e1]) rfl ⟨_, rfl, ⟨_, _, by rw [Hn.out], ?_⟩, (((HB0.out.trans (HF.out.mono (by omega))).setCell (by simp; have := HHO.out.g2; omega) _).setCell (by simp) _).setCell (by simp) _⟩
      rw [← Hn.out]
      exact ((HR3.out.set a1 (fun x h => (by cases h)) _).set (u := .bool false) e0 (fun x h => (by cases h)) _).set (u := .slice none 0 0) (by simp [go_sem, e1]) (fun x h => (by cases h)) _

end Go.Proofs.YtbapeilpkhbbeaaGreatDoor

/- The law ExactInts. Written by gen_ints.py. -/
namespace Go.Proofs.YtbapeilpkhbbeaaGreatDoor
open Go.RowKit

theorem Lk.keeps {neg : Bool} {W : List Int} (w w' : World) (v : Value) (hk : Keeps .u32 w w') (h : Lk w v neg W) : Lk w' v neg W := by
  obtain ⟨ao, c, rfl, h⟩ := h; exact ⟨ao, c, rfl, h.keeps hk⟩
theorem Lk.below {neg : Bool} {W : List Int} {w w' : World} {v : Value} {B : Nat} (h : Lk w v neg W) (hb : Below B w w') (hB : w.heap.size ≤ B) : Lk w' v neg W := by
  obtain ⟨ao, c, rfl, h⟩ := h; exact ⟨ao, c, rfl, h.below hb hB⟩
theorem Lk.opened {w : World} {v : Value} {neg : Bool} {W : List Int} (h : Lk w v neg W) : ∃ b ao m c, v = .agg #[.bool b, .slice ao m c] ∧ Hid (∀ w', Below w.heap.size w w' → Lk w' (.agg #[.bool b, .slice ao m c]) neg W) ∧ Hid (b = neg) ∧ Hid (m = W.length) := by
  obtain ⟨ao, c, rfl, h⟩ := h
  exact ⟨neg, ao, W.length, c, rfl, hid (fun w' hb => ⟨ao, c, rfl, h.below hb (Nat.le_refl _)⟩), hid rfl, hid rfl⟩
theorem Lk.ai {w : World} {v : Value} {neg : Bool} {W : List Int} (h : Lk w v neg W) (hd : Dig B32 W) {K : Nat} (hK : W.length ≤ K) : Ai w v (sgn neg (val B32 W)) K := by
  obtain ⟨ao, c, rfl, h⟩ := h; exact ⟨neg, ao, c, W, rfl, h, hd, hK, rfl⟩
theorem Zt.keeps {z : Int} {K : Nat} (w w' : World) (v : Value) (hk : Keeps .i64 w w') (h : Zt w v z K) : Zt w' v z K := by
  obtain ⟨s, rfl, ao, c, L, rfl, h⟩ := h
  exact ⟨_, rfl, ao, c, L, rfl, h.rd.keeps hk, h.dig, h.nrm, h.eq, h.le⟩

/-- A result: in normal form, its words may be written over. -/
def El (w : World) (B : Nat) (v : Value) (z : Int) : Prop := An w v z 200 ∧ Sp w B v
theorem Sp.below {w w' : World} {B B' : Nat} {v : Value} (h : Sp w B v) (hb : Below B' w w') (hB : w.heap.size ≤ B') : Sp w' B v := by
  obtain ⟨b, ao, n, c, e, h1, h2, h3, hp⟩ := h
  refine ⟨b, ao, n, c, e, h1, h2, h3, fun hn => ?_⟩
  obtain ⟨g, off, ea, hg, hc⟩ := hp hn
  refine ⟨g, off, ea, hg, fun i hi => ?_⟩
  obtain ⟨⟨x, x0, x1, hx⟩, hf⟩ := hc i hi
  have hl := Nat.lt_of_lt_of_le (World.block_lt_of_cell? w _ hx) hB
  exact ⟨⟨x, x0, x1, (hb.cell hl).trans hx⟩, (hb.frozen hl).trans hf⟩
theorem El.below {w w' : World} {B B' : Nat} {v : Value} {z : Int} (h : El w B v z) (hb : Below B' w w') (hB : w.heap.size ≤ B') : El w' B v z := ⟨h.1.below hb hB, h.2.below hb hB⟩
theorem El.opened {w : World} {B : Nat} {v : Value} {z : Int} (h : El w B v z) : ∃ b ao m c, v = .agg #[.bool b, .slice ao m c] ∧ Hid (∀ w', Below w.heap.size w w' → El w' B (.agg #[.bool b, .slice ao m c]) z) := by
  obtain ⟨⟨ao, c, L, rfl, hr⟩, h2⟩ := h
  exact ⟨_, ao, L.length, c, rfl, hid (fun w' hb => El.below ⟨⟨ao, c, L, rfl, hr⟩, h2⟩ hb (Nat.le_refl _))⟩

end Go.Proofs.YtbapeilpkhbbeaaGreatDoor
