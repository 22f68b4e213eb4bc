/- The document's ratios, the parts that the laws use: NoInt, None, Same, Whole; isRatio and spoilRatio of the laws. The law's own: an integer in memory of its own. The law ExactInts. Written by gen_ints.py. The document's ratios: Whole; the law's spoilRatio. -/
import Derived.Test.YtbapeilpkhbbeaaGreatBn25
import Derived.Laws.MakeOwn
import Derived.Test.YtbapeilpkhbbeaaGreatBn11
import Derived.Test.YtbapeilpkhbbeaaGreatBn13
import Derived.Test.YtbapeilpkhbbeaaGreatBn23
import Derived.Test.YtbapeilpkhbbeaaGreatBn14
import Derived.Test.YtbapeilpkhbbeaaGreatBn20
/- The document's ratios, the parts that the laws use: NoInt, None, Same, Whole; isRatio and spoilRatio of the laws. -/
namespace Go.Proofs.YtbapeilpkhbbeaaGreat
open Go.RowKit

theorem An.opened {w : World} {v : Value} {z : Int} {K : Nat} (h : An w v z K) : ∃ b ao m c, v = .agg #[.bool b, .slice ao m c] ∧ Hid (∀ w', Below w.heap.size w w' → An w' (.agg #[.bool b, .slice ao m c]) z K) := by
  obtain ⟨ao, c, L, rfl, h⟩ := h
  exact ⟨_, ao, L.length, c, rfl, hid (fun w' hb => An.below ⟨ao, c, L, rfl, h⟩ hb (Nat.le_refl _))⟩

set_option maxRecDepth 100000 in
set_option maxHeartbeats 1000000 in
theorem noInt_any (ao : Option Addr) (c : Nat) (w : World) :
    Calls Tryz.prog 90 #[.agg #[.bool false, .slice ao 0 c]] w fun e w' => e = .returned (.bool true) ∧ Below w.heap.size w w' := by
  have hb : Below w.heap.size w (w.alloc (.cells #[.bool false, .slice ao 0 c] 24)) := (Below.refl _ _).alloc (Nat.le_refl _) _
  have HB := hid hb
  clear hb
  go_enter Tryz.func90, Tryz.ntmps90
  go_wp2
  go_ret
  exact ⟨rfl, HB.out⟩

/-- An api.Ratio in normal form; a ratio of the document's. -/
def Rt (w : World) (v : Value) (x y : Int) (K : Nat) : Prop := ∃ b1 o1 m1 c1 b2 o2 m2 c2, v = .agg #[.bool b1, .slice o1 m1 c1, .bool b2, .slice o2 m2 c2] ∧ An w (.agg #[.bool b1, .slice o1 m1 c1]) x K ∧ An w (.agg #[.bool b2, .slice o2 m2 c2]) y K
def Qt (w : World) (v : Value) (x y : Int) (K : Nat) : Prop := ∃ b1 o1 m1 c1 b2 o2 m2 c2, v = .agg #[.bool b1, .slice o1 m1 c1, .bool b2, .slice o2 m2 c2] ∧ Zt w (.agg #[.bool b1, .slice o1 m1 c1]) x K ∧ Zt w (.agg #[.bool b2, .slice o2 m2 c2]) y K
theorem Rt.below {w w' : World} {v : Value} {x y : Int} {K B : Nat} (h : Rt w v x y K) (hb : Below B w w') (hB : w.heap.size ≤ B) : Rt w' v x y K := by
  obtain ⟨b1, o1, m1, c1, b2, o2, m2, c2, rfl, h1, h2⟩ := h
  exact ⟨b1, o1, m1, c1, b2, o2, m2, c2, rfl, h1.below hb hB, h2.below hb hB⟩
theorem Qt.below {w w' : World} {v : Value} {x y : Int} {K B : Nat} (h : Qt w v x y K) (hb : Below B w w') (hB : w.heap.size ≤ B) : Qt w' v x y K := by
  obtain ⟨b1, o1, m1, c1, b2, o2, m2, c2, rfl, h1, h2⟩ := h
  exact ⟨b1, o1, m1, c1, b2, o2, m2, c2, rfl, h1.below hb hB, h2.below hb hB⟩

set_option maxRecDepth 100000 in
set_option maxHeartbeats 1000000 in
theorem rsame_any (u v : Value) (x y : Int) (Ka K : Nat) (w : World) (hu : Rt w u x y Ka) (hv : Qt w v x y K) (hK : K ≤ 268435456) :
    Calls Tryz.prog 17 #[u, v] w fun e w' => e = .returned (.bool true) ∧ Below w.heap.size w w' := by
  obtain ⟨b1, o1, m1, c1, b2, o2, m2, c2, rfl, h1, h2⟩ := hu
  obtain ⟨e1, p1, n1, d1, e2, p2, n2, d2, rfl, g1, g2⟩ := hv
  go_enter Tryz.func17, Tryz.ntmps17
  go_wp2_with fail
  obtain ⟨W0, hW0⟩ : ∃ W0, W0 = ((w.alloc (.cells #[.bool b1, .slice o1 m1 c1, .bool b2, .slice o2 m2 c2] 26)).alloc (.cells #[.bool e1, .slice p1 n1 d1, .bool e2, .slice p2 n2 d2] 35)) := ⟨_, rfl⟩
  have hB0 : Below w.heap.size w W0 := by rw [hW0]; exact ((Below.refl _ _).alloc (Nat.le_refl _) _).alloc (by simp) _
  have hz0 : W0.heap.size = w.heap.size + 2 := by rw [hW0]; simp
  have HS : Hid (∀ w', Below W0.heap.size W0 w' → w'.cell? ⟨w.heap.size, 2, none⟩ = some (.bool b2) ∧ w'.cell? ⟨w.heap.size, 3, none⟩ = some (.slice o2 m2 c2) ∧ w'.cell? ⟨w.heap.size + 1, 2, none⟩ = some (.bool e2) ∧ w'.cell? ⟨w.heap.size + 1, 3, none⟩ = some (.slice p2 n2 d2)) := hid (fun w' hb => by
    refine ⟨?_, ?_, ?_, ?_⟩ <;> (rw [hb.cell (by rw [hz0]; simp), hW0]; simp [go_sem]))
  rw [← hW0]
  clear hW0
  refine (sameInt_any _ _ x Ka K _ (h1.below hB0 (Nat.le_refl _)) (g1.below hB0 (Nat.le_refl _)) hK).mono ?_
  rintro e w1 ⟨rfl, hb1⟩
  obtain ⟨k0, k1, k2, k3⟩ := HS.out _ hb1
  have hB1 := hB0.trans (hb1.mono (by omega))
  go_wp2_with fail
  refine (sameInt_any _ _ y Ka K _ (h2.below hB1 (Nat.le_refl _)) (g2.below hB1 (Nat.le_refl _)) hK).mono ?_
  rintro e w2 ⟨rfl, hb2⟩
  have hB2 := hB1.trans (hb2.mono hB1.size)
  go_wp2
  go_ret
  exact ⟨rfl, hB2⟩

set_option maxRecDepth 100000 in
set_option maxHeartbeats 1000000 in
theorem none_any (o1 o2 : Option Addr) (c1 c2 : Nat) (w : World) :
    Calls Tryz.prog 63 #[.agg #[.bool false, .slice o1 0 c1, .bool false, .slice o2 0 c2]] w fun e w' => e = .returned (.bool true) ∧ Below w.heap.size w w' := by
  go_enter Tryz.func63, Tryz.ntmps63
  go_wp2_with fail
  obtain ⟨W0, hW0⟩ : ∃ W0, W0 = (w.alloc (.cells #[.bool false, .slice o1 0 c1, .bool false, .slice o2 0 c2] 26)) := ⟨_, rfl⟩
  have hB0 : Below w.heap.size w W0 := by rw [hW0]; exact (Below.refl _ _).alloc (Nat.le_refl _) _
  have hz0 : W0.heap.size = w.heap.size + 1 := by rw [hW0]; simp
  have HS : Hid (∀ w', Below W0.heap.size W0 w' → w'.cell? ⟨w.heap.size, 2, none⟩ = some (.bool false) ∧ w'.cell? ⟨w.heap.size, 3, none⟩ = some (.slice o2 0 c2)) := hid (fun w' hb => by
    refine ⟨?_, ?_⟩ <;> (rw [hb.cell (by rw [hz0]; simp), hW0]; simp [go_sem]))
  rw [← hW0]
  clear hW0
  refine (noInt_any o1 c1 _).mono ?_
  rintro e w1 ⟨rfl, hb1⟩
  obtain ⟨k0, k1⟩ := HS.out _ hb1
  have hB1 := hB0.trans (hb1.mono (by omega))
  go_wp2_with fail
  refine (noInt_any o2 c2 _).mono ?_
  rintro e w2 ⟨rfl, hb2⟩
  have hB2 := hB1.trans (hb2.mono hB1.size)
  go_wp2
  go_ret
  exact ⟨rfl, hB2⟩

set_option maxRecDepth 100000 in
set_option maxHeartbeats 1000000 in
theorem isRatio_none (o1 o2 : Option Addr) (c1 c2 : Nat) (err : Int) (w : World) (he : err ≠ 0) (v : Value) (hp : ∃ e1 p1 n1 d1 e2 p2 n2 d2, v = .agg #[.bool e1, .slice p1 n1 d1, .bool e2, .slice p2 n2 d2]) :
    Calls Tryz.prog 21 #[.agg #[.bool false, .slice o1 0 c1, .bool false, .slice o2 0 c2], .int .i64 err, v, .int .i64 err] w fun e w' => e = .returned (.bool true) ∧ Below w.heap.size w w' := by
  obtain ⟨e1, p1, n1, d1, e2, p2, n2, d2, rfl⟩ := hp
  go_enter Tryz.func21, Tryz.ntmps21
  go_wp2_with fail
  have hB0 : Below w.heap.size w ((w.alloc (.cells #[.bool false, .slice o1 0 c1, .bool false, .slice o2 0 c2] 26)).alloc (.cells #[.bool e1, .slice p1 n1 d1, .bool e2, .slice p2 n2 d2] 35)) := ((Below.refl _ _).alloc (Nat.le_refl _) _).alloc (by simp) _
  refine (none_any o1 o2 c1 c2 _).mono ?_
  rintro e w1 ⟨rfl, hb1⟩
  have hB1 := hB0.trans (hb1.mono hB0.size)
  go_wp2
  go_ret
  exact ⟨rfl, hB1⟩

set_option maxRecDepth 100000 in
set_option maxHeartbeats 1000000 in
theorem isRatio_same (u v : Value) (x y : Int) (Ka K : Nat) (w : World) (hu : Rt w u x y Ka) (hv : Qt w v x y K) (hK : K ≤ 268435456) :
    Calls Tryz.prog 21 #[u, .int .i64 0, v, .int .i64 0] w fun e w' => e = .returned (.bool true) ∧ Below w.heap.size w w' := by
  have hu' := hu; have hv' := hv
  obtain ⟨b1, o1, m1, c1, b2, o2, m2, c2, rfl, _, _⟩ := hu
  obtain ⟨e1, p1, n1, d1, e2, p2, n2, d2, rfl, _, _⟩ := hv
  go_enter Tryz.func21, Tryz.ntmps21
  go_wp2_with fail
  have hB0 : Below w.heap.size w ((w.alloc (.cells #[.bool b1, .slice o1 m1 c1, .bool b2, .slice o2 m2 c2] 26)).alloc (.cells #[.bool e1, .slice p1 n1 d1, .bool e2, .slice p2 n2 d2] 35)) := ((Below.refl _ _).alloc (Nat.le_refl _) _).alloc (by simp) _
  refine (rsame_any _ _ x y Ka K _ (hu'.below hB0 (Nat.le_refl _)) (hv'.below hB0 (Nat.le_refl _)) hK).mono ?_
  rintro e w1 ⟨rfl, hb1⟩
  have hB1 := hB0.trans (hb1.mono hB0.size)
  go_wp2
  go_ret
  exact ⟨rfl, hB1⟩
end Go.Proofs.YtbapeilpkhbbeaaGreat

/- The law's own: an integer in memory of its own. -/
namespace Go.Proofs.YtbapeilpkhbbeaaGreat
open Go.RowKit

/-- The cells of a new row. -/
def mkCells (n : Nat) : Array Value := madeCells (Value.cells (.int .u32 0)) ((n + 3) * 1)
theorem mkCells_size (n : Nat) : (mkCells n).size = (n + 3) * 1 := by
  have h : (mkCells n).toList.length = (n + 3) * 1 := by
    unfold mkCells
    rw [Nat.mul_one, show Value.cells (.int .u32 0) = #[.int .u32 0] from rfl, toList_madeCells_one]; simp
  simpa using h
theorem run_mk (n : Nat) (hn : n ≤ 1073741824) (w : World) : (Instr.makeSlice 22 (.int .i64 0) (.int .i64 ((n : Int) + 3))).run Tryz.prog w = .ok (.slice (some ⟨w.heap.size, 0, none⟩) 0 (n + 3)) (w.alloc (.cells (mkCells n) 107)) := by
  obtain ⟨i0, hi, hz0, hz1, hz2⟩ := info_parts Tryz.info107
  have hr := run_make (P := Tryz.prog) w 22 107 i0 (.int .u32 0) Tryz.underlying22 hi hz0 .i64 .i64 0 ((n : Int) + 3) (by omega) (by omega) (by rw [hz2]; omega) (by omega)
  rw [hz1] at hr
  have e : ((n : Int) + 3).toNat = n + 3 := by omega
  rw [e] at hr
  exact hr

/-- Both blocks are made. -/
structure OwI (w W0 wx : World) (neg : Bool) (n g r : Nat) : Prop where
  ob : wx.heap[g]? = some (.cells #[.bool neg, .slice (some ⟨r, 0, none⟩) 0 (n + 3)] 24 (0, 0))
  own : wx.ownsRow (w.heap.size + 2) 107 1 (.slice (some ⟨r, 0, none⟩) 0 (n + 3)) 0 []
  ne : g ≠ r
  g2 : w.heap.size + 2 ≤ g
  low : Below (w.heap.size + 2) W0 wx

theorem OwI.one {w W0 : World} {neg : Bool} {n : Nat} {Z : Array Value} (hw0 : W0.heap.size = w.heap.size + 2) (hn : n ≤ 1073741824) (hZ : Z.size = (n + 3) * 1) :
    OwI w W0 ((W0.alloc (.cells Z 107)).alloc (.cells #[.bool neg, .slice (some ⟨W0.heap.size, 0, none⟩) 0 (n + 3)] 24)).drew neg n (W0.heap.size + 1) W0.heap.size := by
  refine ⟨?_, ?_, by omega, by omega, ((((Below.refl _ _).alloc (by omega) _).alloc (by simp; omega) _)).drew⟩
  · have h := Obs.new 24 (W0.alloc (.cells Z 107)) [.bool neg, .slice (some ⟨W0.heap.size, 0, none⟩) 0 (n + 3)]
    have e : (W0.alloc (.cells Z 107)).heap.size = W0.heap.size + 1 := by simp
    rw [e] at h; exact h
  · exact (World.ownsRow_made W0 Z (n + 3) (by omega) (by unfold maxLen; omega) hZ).alloc _
theorem OwI.two {w W0 : World} {neg : Bool} {n : Nat} {Z : Array Value} (hw0 : W0.heap.size = w.heap.size + 2) (hn : n ≤ 1073741824) (hZ : Z.size = (n + 3) * 1) :
    OwI w W0 ((W0.alloc (.cells #[.bool neg, .slice (some ⟨W0.heap.size + 1, 0, none⟩) 0 (n + 3)] 24)).alloc (.cells Z 107)).drew neg n W0.heap.size (W0.heap.size + 1) := by
  refine ⟨?_, ?_, by omega, by omega, ((((Below.refl _ _).alloc (by omega) _).alloc (by simp; omega) _)).drew⟩
  · exact (Obs.new 24 W0 [.bool neg, .slice (some ⟨W0.heap.size + 1, 0, none⟩) 0 (n + 3)]).alloc _
  · have h := World.ownsRow_made (base := w.heap.size + 2) (e := 107) (size := 1) (W0.alloc (.cells #[.bool neg, .slice (some ⟨W0.heap.size + 1, 0, none⟩) 0 (n + 3)] 24)) Z (n + 3) (by simp; omega) (by unfold maxLen; omega) hZ
    have e : (W0.alloc (.cells #[.bool neg, .slice (some ⟨W0.heap.size + 1, 0, none⟩) 0 (n + 3)] 24)).heap.size = W0.heap.size + 1 := by simp
    rw [e] at h; exact h

theorem run_append0 (W : World) (r cap c : Nat) : (Builtin.append_ #[22, 22] 22 #[.slice (some ⟨r, 0, none⟩) 0 cap, .slice none 0 c]).run Tryz.prog W = .ok (.slice (some ⟨r, 0, none⟩) 0 cap) W := by
  obtain ⟨i0, hi, hz0, hz1, hz2⟩ := info_parts Tryz.info107
  simp [Builtin.append_, run_underlying Tryz.underlying22, sizeOf, typeInfo, hi, Builtin.lenOf, Builtin.firstCells, storeCells]

def RetLk (w : World) (neg : Bool) (W : List Int) (e : Ending) (w' : World) : Prop := ∃ v, e = .returned v ∧ Lk w' v neg W ∧ Below w.heap.size w w'

set_option maxRecDepth 100000 in
set_option maxHeartbeats 4000000 in
theorem own_any (v : Value) (neg : Bool) (W : List Int) (w : World) (hv : Lk w v neg W) (hn : W.length ≤ 1073741824) :
    Calls Tryz.prog 32 #[v] w (RetLk w neg W) := by
  obtain ⟨ao, c, rfl, hr⟩ := hv
  obtain ⟨n, hne⟩ : ∃ n, n = W.length := ⟨_, rfl⟩
  rw [← hne] at hn ⊢
  have Hr := hid hr; have Hn := hid hne
  clear hr hne
  have hmk := run_mk n hn
  obtain ⟨Z, hZ⟩ : ∃ Z, mkCells n = Z := ⟨_, rfl⟩
  have hZs := mkCells_size n
  rw [hZ] at hmk hZs
  have HZs := hid hZs
  clear hZ hZs
  obtain ⟨i0, hi, hz0, hz1, hz2⟩ := info_parts Tryz.info107
  go_enter Tryz.func32, Tryz.ntmps32
  go_upto_region 1 with (fail)
  obtain ⟨W0, hW0⟩ : ∃ W0, W0 = ((w.alloc (.cells #[.bool neg, .slice ao n c] 24)).alloc (.cells #[.bool false, .slice none 0 0] 24)) := ⟨_, rfl⟩
  have hB0 : Below w.heap.size w W0 := by rw [hW0]; exact ((Below.refl _ _).alloc (Nat.le_refl _) _).alloc (by simp) _
  have hw0 : W0.heap.size = w.heap.size + 2 := by rw [hW0]; simp
  have HS : Hid (∀ w', Below (w.heap.size + 2) W0 w' → w'.cell? ⟨w.heap.size, 0, none⟩ = some (.bool neg) ∧ w'.cell? ⟨w.heap.size, 1, none⟩ = some (.slice ao n c)) := hid (fun w' hb => by
    refine ⟨?_, ?_⟩ <;> (rw [hb.cell (by simp), hW0]; simp [go_sem]))
  have HT : Hid (∀ w', Below (w.heap.size + 2) W0 w' → w'.cell? ⟨w.heap.size + 1, 0, none⟩ = some (.bool false) ∧ w'.cell? ⟨w.heap.size + 1, 1, none⟩ = some (.slice none 0 0) ∧ w'.frozen? ⟨w.heap.size + 1, 0, none⟩ = false ∧ w'.frozen? ⟨w.heap.size + 1, 1, none⟩ = false) := hid (fun w' hb => by
    refine ⟨?_, ?_, ?_, ?_⟩ <;> (first | (rw [hb.cell (by simp), hW0]; simp [go_sem]; done) | (rw [hb.frozen (by simp), hW0]; simp [go_sem]; done)))
  rw [← hW0]
  clear hW0
  have HB0 := hid hB0; have Hw0 := hid hw0
  obtain ⟨hs0, hs1⟩ := HS.out _ (Below.refl _ _)
  have hle : w.heap.size + 2 ≤ W0.heap.size := by rw [hw0]; exact Nat.le_refl _
  clear hB0 hw0
  have hw3 : IntKind.i64.wrap ((n : Int) + 3) = (n : Int) + 3 := IntWalk.i64_in _ (by omega)
  go_cut [3] (fun s3 wx => ∃ g r, s3 = .pointer (some ⟨g, 0, none⟩) ∧ OwI w W0 wx neg n g r)
  case first =>
    go_region_held3 (fun w' => w'.cell? ⟨w.heap.size, 0, none⟩ = some (.bool neg) ∧ w'.cell? ⟨w.heap.size, 1, none⟩ = some (.slice ao n c)) ((refine HS.out _ ?_; first | exact Below.refl _ _ | exact (Below.refl _ _).drew | exact ((Below.refl _ W0).alloc hle _) | exact ((Below.refl _ W0).alloc hle _).drew | exact (((Below.refl _ W0).alloc hle _).alloc (by simp; omega) _) | exact (((Below.refl _ W0).alloc hle _).alloc (by simp; omega) _).drew | exact ((((Below.refl _ W0).alloc hle _).alloc (by simp; omega) _).setCell (by simp; omega) _).setCell (by simp; omega) _)) (fail)
    all_goals (go_wp2_with fail; go_meet; first | exact ⟨_, _, rfl, OwI.one Hw0.out hn HZs.out⟩ | exact ⟨_, _, rfl, OwI.two Hw0.out hn HZs.out⟩)
  case rest =>
    obtain ⟨g, r, rfl, HO⟩ := hcut
    obtain ⟨k0, k1⟩ := HS.out _ HO.low
    have b0 : wc.cell? ⟨g, 0, none⟩ = some (.bool neg) := (cell_of_row wc g 0 _ _ (0, 0) HO.ob).trans rfl
    have b1 : wc.cell? ⟨g, 1, none⟩ = some (.slice (some ⟨r, 0, none⟩) 0 (n + 3)) := (cell_of_row wc g 1 _ _ (0, 0) HO.ob).trans rfl
    have b2 := frozen_of_row wc g 1 _ _ HO.ob
    have HHO := hid HO
    -- what the append leaves
    have key : ∀ w3 : World, w3.ownsRow (w.heap.size + 2) 107 1 (.slice (some ⟨r, 0, none⟩) n (n + 3)) n (W.map (Value.int .u32)) → wc.grownBy w3 (some r) →
        (w3.cell? ⟨g, 0, none⟩ = some (.bool neg) ∧ w3.cell? ⟨g, 1, none⟩ = some (.slice (some ⟨r, 0, none⟩) 0 (n + 3)) ∧ w3.frozen? ⟨g, 1, none⟩ = false) ∧ Below (w.heap.size + 2) W0 w3 ∧ Rd w3 .u32 (some ⟨r, 0, none⟩) (n + 3) W := by
      intro w3 ho hg
      have hob : w3.heap[g]? = some (.cells #[.bool neg, .slice (some ⟨r, 0, none⟩) 0 (n + 3)] 24 (0, 0)) := by
        rw [hg.block g (Array.getElem?_eq_some_iff.1 HO.ob).1 (by simp; exact HO.ne)]; exact HO.ob
      refine ⟨⟨(cell_of_row w3 g 0 _ _ (0, 0) hob).trans rfl, (cell_of_row w3 g 1 _ _ (0, 0) hob).trans rfl, frozen_of_row w3 g 1 _ _ hob⟩, HO.low.grown hg ?_ (fun i e => by cases e; exact owns_block HO.own r rfl), owns_any ho Hn.out.symm⟩
      have := (Array.getElem?_eq_some_iff.1 HO.ob).1; have := HO.g2; omega
    have HKey := hid key
    clear key HO hs0 hs1
    rcases ao with _ | ad
    · have hn0 : n = 0 := by
        rcases Nat.eq_zero_or_pos n with h | h
        · exact h
        · obtain ⟨_, _, e⟩ := Hr.out.adr (by have := Hn.out; omega); cases e
      have happ : ∀ X : World, (Builtin.append_ #[22, 22] 22 #[.slice (some ⟨r, 0, none⟩) 0 (n + 3), .slice none n c]).run Tryz.prog X = .ok (.slice (some ⟨r, 0, none⟩) n (n + 3)) X := fun X => by
        subst hn0; exact run_append0 X r _ c
      have hown0 : wc.ownsRow (w.heap.size + 2) 107 1 (.slice (some ⟨r, 0, none⟩) n (n + 3)) n (W.map (Value.int .u32)) := by
        have hW : W = [] := List.eq_nil_of_length_eq_zero (by have := Hn.out; omega)
        rw [hW]; subst hn0; exact HHO.out.own
      obtain ⟨⟨a0, a1, af⟩, hlow3, hrd3⟩ := HKey.out wc hown0 (grown_refl _ _)
      clear hn0 hown0 a0 a1 af
      have a1 := b1
      have HF := hid hlow3; have HR3 := hid hrd3
      obtain ⟨hr0, hr1, hr2, hr3⟩ := HT.out _ hlow3
      have hgn : (⟨g, 1, none⟩ : Addr) ≠ ⟨w.heap.size + 1, 0, none⟩ := by intro e; have := HHO.out.g2; simp at e <;> omega
      have hgn1 : (⟨g, 1, none⟩ : Addr) ≠ ⟨w.heap.size + 1, 1, none⟩ := by intro e; have := HHO.out.g2; simp at e <;> omega
      have e0 : (wc.setCell ⟨g, 1, none⟩ (.slice (some ⟨r, 0, none⟩) n (n + 3))).cell? ⟨w.heap.size + 1, 0, none⟩ = some (.bool false) := (World.cell?_setCell_other _ _ _ _ hgn).trans hr0
      have e1 : (wc.setCell ⟨g, 1, none⟩ (.slice (some ⟨r, 0, none⟩) n (n + 3))).cell? ⟨w.heap.size + 1, 1, none⟩ = some (.slice none 0 0) := (World.cell?_setCell_other _ _ _ _ hgn1).trans hr1
      clear hgn hgn1 hr0 hr1
      clear hlow3 hrd3
      go_wp2
      refine bodyPost_ret (v := .agg #[.bool neg, .slice (some ⟨r, 0, none⟩) n (n + 3)]) (by simp [results, Tryz.results32, go_sem, e0, e1]) rfl ⟨_, rfl, ⟨_, _, by rw [Hn.out], ?_⟩, (((HB0.out.trans (HF.out.mono (by omega))).setCell (by simp; have := HHO.out.g2; omega) _).setCell (by simp) _).setCell (by simp) _⟩
      rw [← Hn.out]
      exact ((HR3.out.set a1 (fun x h => (by cases h)) _).set (u := .bool false) e0 (fun x h => (by cases h)) _).set (u := .slice none 0 0) (by simp [go_sem, e1]) (fun x h => (by cases h)) _
    · obtain ⟨ab, aoff, asp⟩ := ad
      have hsrc : ∀ j u, (W.map (Value.int .u32))[j]? = some u → wc.cell? ((⟨ab, aoff, asp⟩ : Addr).add j) = some u := by
        intro j u hj
        have hjl : j < W.length := by have := (List.getElem?_eq_some_iff.1 hj).1; simpa using this
        obtain ⟨b', o', e⟩ := Hr.out.adr (by omega)
        obtain ⟨rfl, rfl, rfl⟩ : ab = b' ∧ aoff = o' ∧ asp = none := by simpa using e
        have hadd : (⟨ab, aoff, none⟩ : Addr).add j = ⟨ab, aoff + j, none⟩ := by unfold Addr.add; split <;> simp_all
        rw [hadd, (Hr.out.below (HB0.out.trans (HHO.out.low.mono (by omega))) (Nat.le_refl _)).cell ab aoff rfl j hjl, ← hj]; simp [hjl]
      have HSrc := hid hsrc
      clear hsrc
      go_wp2_with (at_builtin; refine wpList_append_fits _ rfl _ _ 22 rfl (w.heap.size + 2) 107 i0 1 Tryz.underlying22 hi hz1 r 0 (n + 3) [] rfl HHO.out.own ⟨ab, aoff, asp⟩ n c (W.map (Value.int .u32)) rfl ?c1 HSrc.out ?c2 ?c3 ?_)
      case c1 => have := Hn.out; simp; omega
      case c2 => intro u hu; simp only [List.mem_map] at hu; obtain ⟨x, _, rfl⟩ := hu; rfl
      case c3 => omega
      intro w3 hown hg
      obtain ⟨⟨a0, a1, af⟩, hlow3, hrd3⟩ := HKey.out w3 hown hg
      clear hown hg
      have HF := hid hlow3; have HR3 := hid hrd3
      obtain ⟨hr0, hr1, hr2, hr3⟩ := HT.out _ hlow3
      have hgn : (⟨g, 1, none⟩ : Addr) ≠ ⟨w.heap.size + 1, 0, none⟩ := by intro e; have := HHO.out.g2; simp at e <;> omega
      have hgn1 : (⟨g, 1, none⟩ : Addr) ≠ ⟨w.heap.size + 1, 1, none⟩ := by intro e; have := HHO.out.g2; simp at e <;> omega
      have e0 : (w3.setCell ⟨g, 1, none⟩ (.slice (some ⟨r, 0, none⟩) n (n + 3))).cell? ⟨w.heap.size + 1, 0, none⟩ = some (.bool false) := (World.cell?_setCell_other _ _ _ _ hgn).trans hr0
      have e1 : (w3.setCell ⟨g, 1, none⟩ (.slice (some ⟨r, 0, none⟩) n (n + 3))).cell? ⟨w.heap.size + 1, 1, none⟩ = some (.slice none 0 0) := (World.cell?_setCell_other _ _ _ _ hgn1).trans hr1
      clear hgn hgn1 hr0 hr1
      clear hlow3 hrd3
      go_wp2
      refine bodyPost_ret (v := .agg #[.bool neg, .slice (some ⟨r, 0, none⟩) n (n + 3)]) (by simp [results, Tryz.results32, go_sem, e0, e1]) rfl ⟨_, rfl, ⟨_, _, by rw [Hn.out], ?_⟩, (((HB0.out.trans (HF.out.mono (by omega))).setCell (by simp; have := HHO.out.g2; omega) _).setCell (by simp) _).setCell (by simp) _⟩
      rw [← Hn.out]
      exact ((HR3.out.set a1 (fun x h => (by cases h)) _).set (u := .bool false) e0 (fun x h => (by cases h)) _).set (u := .slice none 0 0) (by simp [go_sem, e1]) (fun x h => (by cases h)) _

end Go.Proofs.YtbapeilpkhbbeaaGreat

/- The law ExactInts. Written by gen_ints.py. -/
namespace Go.Proofs.YtbapeilpkhbbeaaGreat
open Go.RowKit

theorem Lk.keeps {neg : Bool} {W : List Int} (w w' : World) (v : Value) (hk : Keeps .u32 w w') (h : Lk w v neg W) : Lk w' v neg W := by
  obtain ⟨ao, c, rfl, h⟩ := h; exact ⟨ao, c, rfl, h.keeps hk⟩
theorem Lk.below {neg : Bool} {W : List Int} {w w' : World} {v : Value} {B : Nat} (h : Lk w v neg W) (hb : Below B w w') (hB : w.heap.size ≤ B) : Lk w' v neg W := by
  obtain ⟨ao, c, rfl, h⟩ := h; exact ⟨ao, c, rfl, h.below hb hB⟩
theorem Lk.opened {w : World} {v : Value} {neg : Bool} {W : List Int} (h : Lk w v neg W) : ∃ b ao m c, v = .agg #[.bool b, .slice ao m c] ∧ Hid (∀ w', Below w.heap.size w w' → Lk w' (.agg #[.bool b, .slice ao m c]) neg W) ∧ Hid (b = neg) ∧ Hid (m = W.length) := by
  obtain ⟨ao, c, rfl, h⟩ := h
  exact ⟨neg, ao, W.length, c, rfl, hid (fun w' hb => ⟨ao, c, rfl, h.below hb (Nat.le_refl _)⟩), hid rfl, hid rfl⟩
theorem Lk.ai {w : World} {v : Value} {neg : Bool} {W : List Int} (h : Lk w v neg W) (hd : Dig B32 W) {K : Nat} (hK : W.length ≤ K) : Ai w v (sgn neg (val B32 W)) K := by
  obtain ⟨ao, c, rfl, h⟩ := h; exact ⟨neg, ao, c, W, rfl, h, hd, hK, rfl⟩
theorem Zt.keeps {z : Int} {K : Nat} (w w' : World) (v : Value) (hk : Keeps .i64 w w') (h : Zt w v z K) : Zt w' v z K := by
  obtain ⟨s, rfl, ao, c, L, rfl, h⟩ := h
  exact ⟨_, rfl, ao, c, L, rfl, h.rd.keeps hk, h.dig, h.nrm, h.eq, h.le⟩

/-- A result: in normal form, its words may be written over. -/
def El (w : World) (B : Nat) (v : Value) (z : Int) : Prop := An w v z 200 ∧ Sp w B v
theorem Sp.below {w w' : World} {B B' : Nat} {v : Value} (h : Sp w B v) (hb : Below B' w w') (hB : w.heap.size ≤ B') : Sp w' B v := by
  obtain ⟨b, ao, n, c, e, h1, h2, h3, hp⟩ := h
  refine ⟨b, ao, n, c, e, h1, h2, h3, fun hn => ?_⟩
  obtain ⟨g, off, ea, hg, hc⟩ := hp hn
  refine ⟨g, off, ea, hg, fun i hi => ?_⟩
  obtain ⟨⟨x, x0, x1, hx⟩, hf⟩ := hc i hi
  have hl := Nat.lt_of_lt_of_le (World.block_lt_of_cell? w _ hx) hB
  exact ⟨⟨x, x0, x1, (hb.cell hl).trans hx⟩, (hb.frozen hl).trans hf⟩
theorem El.below {w w' : World} {B B' : Nat} {v : Value} {z : Int} (h : El w B v z) (hb : Below B' w w') (hB : w.heap.size ≤ B') : El w' B v z := ⟨h.1.below hb hB, h.2.below hb hB⟩
theorem FrA.el {w1 w : World} {v : Value} {z : Int} {K B : Nat} (h : FrA w1 w v z K) (hK : K ≤ 200) (hB : B ≤ w1.heap.size) : El w B v z := by
  obtain ⟨s, rfl, L, ho, hd, hn, hv, hl⟩ := h
  obtain ⟨ao, c, rfl⟩ := owns_slice ho
  refine ⟨⟨ao, c, L, rfl, owns_any ho rfl, hd, hn, hv, by omega⟩, _, ao, L.length, c, rfl, by omega, ?_, ?_, fun hp => ?_⟩
  · rcases ho.2 with ⟨e, h0⟩ | ⟨g, cap, cur, e, _, _, hnc, _⟩
    · omega
    · obtain ⟨_, _, rfl⟩ := Value.slice.inj e; exact hnc
  · exact (owns_any ho rfl).most
  · rcases ho.2 with ⟨e, h0⟩ | ⟨g, cap, cur, e, hg, hh, hnc, _⟩
    · omega
    · obtain ⟨rfl, _, rfl⟩ := Value.slice.inj e
      refine ⟨g, 0, rfl, by omega, fun i hi => ⟨?_, frozen_of_row w g _ _ _ hh⟩⟩
      have hdi := hd.at B32_pos i
      exact ⟨_, hdi.1, hdi.2, (owns_any ho rfl).cell g 0 rfl i hi⟩
theorem El.opened {w : World} {B : Nat} {v : Value} {z : Int} (h : El w B v z) : ∃ b ao m c, v = .agg #[.bool b, .slice ao m c] ∧ Hid (∀ w', Below w.heap.size w w' → El w' B (.agg #[.bool b, .slice ao m c]) z) := by
  obtain ⟨⟨ao, c, L, rfl, hr⟩, h2⟩ := h
  exact ⟨_, ao, L.length, c, rfl, hid (fun w' hb => El.below ⟨⟨ao, c, L, rfl, hr⟩, h2⟩ hb (Nat.le_refl _))⟩

theorem Zt.spd {w w' : World} {B : Nat} {v : Value} {z : Int} {K : Nat} (h : Zt w v z K) (hs : Spd B w w') : Zt w' v z K := by
  obtain ⟨s, rfl, ao, c, L, rfl, h⟩ := h
  exact ⟨_, rfl, ao, c, L, rfl, ⟨h.rd.cap, h.rd.most, h.rd.adr, fun b off e i hi => hs.cel _ _ (h.rd.cell b off e i hi) (fun x e => by cases e)⟩, h.dig, h.nrm, h.eq, h.le⟩
theorem Sp.spd {w w' : World} {B B' : Nat} {v : Value} (h : Sp w B v) (hs : Spd B' w w') : Sp w' B v := by
  obtain ⟨b, ao, n, c, e, h1, h2, h3, hp⟩ := h
  refine ⟨b, ao, n, c, e, h1, h2, h3, fun hn => ?_⟩
  obtain ⟨g, off, ea, hg, hc⟩ := hp hn
  refine ⟨g, off, ea, hg, fun i hi => ?_⟩
  obtain ⟨⟨x, x0, x1, hx⟩, hf⟩ := hc i hi
  obtain ⟨y, y0, y1, hy⟩ := hs.u32 _ _ hx x0 x1
  exact ⟨⟨y, y0, y1, hy⟩, (hs.frz _ (World.block_lt_of_cell? w _ hx)).trans hf⟩

end Go.Proofs.YtbapeilpkhbbeaaGreat

/- The document's ratios: Whole; the law's spoilRatio. -/
namespace Go.Proofs.YtbapeilpkhbbeaaGreat
open Go.RowKit

set_option maxRecDepth 100000 in
set_option maxHeartbeats 1000000 in
theorem rwhole_any (u : Value) (x : Int) (K : Nat) (w : World) (hu : Zt w u x K) (hK : 4 ≤ K) :
    Calls Tryz.prog 77 #[u] w fun e w' => ∃ f, e = .returned f ∧ Qt w' f x 1 K ∧ Below w.heap.size w w' := by
  obtain ⟨xb, xo, xm, xc, rfl, Hx, _, _⟩ := Zt.opened hu
  clear hu
  obtain ⟨W0, hW0⟩ : ∃ W0, W0 = ((w.alloc (.cells #[.bool xb, .slice xo xm xc] 33)).alloc (.cells #[.bool false, .slice none 0 0, .bool false, .slice none 0 0] 35)) := ⟨_, rfl⟩
  have hB0 : Below w.heap.size w W0 := by rw [hW0]; exact ((Below.refl _ _).alloc (Nat.le_refl _) _).alloc (by simp) _
  have hz0 : W0.heap.size = w.heap.size + 2 := by rw [hW0]; simp
  have HS : Hid (∀ w', Below (w.heap.size + 1) W0 w' → w'.cell? ⟨w.heap.size, 0, none⟩ = some (.bool xb) ∧ w'.cell? ⟨w.heap.size, 1, none⟩ = some (.slice xo xm xc)) := hid (fun w' hb => by
    refine ⟨?_, ?_⟩ <;> (rw [hb.cell (by simp <;> omega), hW0]; simp [go_sem]))
  have HT : Hid (∀ w', Below (w.heap.size + 2) W0 w' → (w'.cell? ⟨w.heap.size + 1, 0, none⟩ = some (.bool false) ∧ w'.cell? ⟨w.heap.size + 1, 1, none⟩ = some (.slice none 0 0) ∧ w'.cell? ⟨w.heap.size + 1, 2, none⟩ = some (.bool false) ∧ w'.cell? ⟨w.heap.size + 1, 3, none⟩ = some (.slice none 0 0)) ∧ (w'.frozen? ⟨w.heap.size + 1, 0, none⟩ = false ∧ w'.frozen? ⟨w.heap.size + 1, 1, none⟩ = false ∧ w'.frozen? ⟨w.heap.size + 1, 2, none⟩ = false ∧ w'.frozen? ⟨w.heap.size + 1, 3, none⟩ = false)) := hid (fun w' hb => by
    refine ⟨⟨?_, ?_, ?_, ?_⟩, ?_, ?_, ?_, ?_⟩ <;> (first | (rw [hb.cell (by simp), hW0]; simp [go_sem]; done) | (rw [hb.frozen (by simp), hW0]; simp [go_sem]; done)))
  have HB0 := hid hB0; have Hz0 := hid hz0; have HW := hid hW0
  clear hW0 hB0 hz0
  go_enter Tryz.func77, Tryz.ntmps77
  go_upto_region 1 with (fail)
  rw [← HW.out]
  go_region_held3 (fun w' => w'.cell? ⟨w.heap.size, 0, none⟩ = some (.bool xb) ∧ w'.cell? ⟨w.heap.size, 1, none⟩ = some (.slice xo xm xc)) ((refine HS.out _ ?_; repeat (first | assumption | exact Below.refl _ _ | exact (Below.refl _ _).drew | exact Below.drew (by assumption) | (refine Below.setCell ?_ (by simp) _)))) (first
    | (go_at_call 50; refine (rof_any 1 _ (by decide) (by decide)).mono ?_; rintro e w2 ⟨_, rfl, hv2, hb2⟩; obtain ⟨b2, o2, m2, c2, rfl, H2, _, _⟩ := Zt.opened hv2; have hB2 : Below (w.heap.size + 2) W0 w2 := ((Below.refl _ _).drew).trans (hb2.mono (by have := Hz0.out; simp; omega)); have hB2s : Below (w.heap.size + 1) W0 w2 := hB2.mono (by omega); obtain ⟨⟨hr0, hr1, hr2, hr3⟩, hf0, hf1, hf2, hf3⟩ := HT.out _ hB2))
  go_wp2
  have hbel : Below w.heap.size w w2 := HB0.out.trans (hB2.mono (by omega))
  refine bodyPost_ret (v := .agg #[.bool xb, .slice xo xm xc, .bool b2, .slice o2 m2 c2]) (by simp [results, Tryz.results77, go_sem, hr0, hr1, hr2, hr3]) rfl ⟨_, rfl, ?_, (((hbel.setCell (by simp <;> omega) _).setCell (by simp <;> omega) _).setCell (by simp <;> omega) _).setCell (by simp <;> omega) _⟩
  have hx2 := Hx.out _ hbel
  have h12 := H2.out _ (Below.refl _ _)
  refine ⟨xb, xo, xm, xc, b2, o2, m2, c2, rfl, ?_, ?_⟩
  · exact zt_keeps ((((((Keeps.refl _ _).setCell (u := .bool false) hr0 (fun x h => (by cases h)) _).setCell (u := .slice none 0 0) (by simp [go_sem, hr1]) (fun x h => (by cases h)) _).setCell (u := .bool false) (by simp [go_sem, hr2]) (fun x h => (by cases h)) _).setCell (u := .slice none 0 0) (by simp [go_sem, hr3]) (fun x h => (by cases h)) _)) hx2
  · exact Zt.mono (zt_keeps ((((((Keeps.refl _ _).setCell (u := .bool false) hr0 (fun x h => (by cases h)) _).setCell (u := .slice none 0 0) (by simp [go_sem, hr1]) (fun x h => (by cases h)) _).setCell (u := .bool false) (by simp [go_sem, hr2]) (fun x h => (by cases h)) _).setCell (u := .slice none 0 0) (by simp [go_sem, hr3]) (fun x h => (by cases h)) _)) h12) hK

set_option maxRecDepth 100000 in
set_option maxHeartbeats 1000000 in
theorem spoilRatio_any (B : Nat) (b1 b2 : Bool) (o1 o2 : Option Addr) (m1 c1 m2 c2 : Nat) (w : World) (h1 : Sp w B (.agg #[.bool b1, .slice o1 m1 c1])) (h2 : Sp w B (.agg #[.bool b2, .slice o2 m2 c2])) (hB : B ≤ w.heap.size) :
    Calls Tryz.prog 18 #[.agg #[.bool b1, .slice o1 m1 c1, .bool b2, .slice o2 m2 c2]] w fun e w' => e = .returned (.tuple #[]) ∧ Spd B w w' := by
  go_enter Tryz.func18, Tryz.ntmps18
  go_wp2_with fail
  obtain ⟨W0, hW0⟩ : ∃ W0, W0 = (w.alloc (.cells #[.bool b1, .slice o1 m1 c1, .bool b2, .slice o2 m2 c2] 26)) := ⟨_, rfl⟩
  have hB0 : Below w.heap.size w W0 := by rw [hW0]; exact (Below.refl _ _).alloc (Nat.le_refl _) _
  have hz0 : W0.heap.size = w.heap.size + 1 := by rw [hW0]; simp
  have k2 : W0.cell? ⟨w.heap.size, 2, none⟩ = some (.bool b2) := by rw [hW0]; simp [go_sem]
  have k3 : W0.cell? ⟨w.heap.size, 3, none⟩ = some (.slice o2 m2 c2) := by rw [hW0]; simp [go_sem]
  have hS0 : Spd B w W0 := Spd.of_below hB0 hB
  rw [← hW0]
  clear hW0
  refine (spoil_any B _ W0 (h1.spd hS0) (by omega)).mono ?_
  rintro e w1 ⟨rfl, hs1⟩
  have q2 := hs1.cel _ _ k2 (fun x e => by cases e)
  have q3 := hs1.cel _ _ k3 (fun x e => by cases e)
  have hS1 := hS0.trans hs1
  clear k2 k3
  go_wp2_with fail
  refine (spoil_any B _ w1 (h2.spd hS1) (by have := hs1.siz; omega)).mono ?_
  rintro e w2 ⟨rfl, hs2⟩
  have hS2 := hS1.trans hs2
  go_wp2
  exact bodyPost_end (results_none rfl _ _ _) rfl ⟨rfl, hS2⟩
end Go.Proofs.YtbapeilpkhbbeaaGreat
