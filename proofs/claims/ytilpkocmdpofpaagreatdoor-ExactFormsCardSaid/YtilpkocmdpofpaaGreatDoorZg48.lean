/- The law's own: an integer in memory of its own. The law's own once more: the words lie in memory of the call's own, with room for three more. How the arguments of the laws are opened (an api.Int reads as its sign and its list of words), and the last step of a row whose law returns true and leaves all that was there before. -/
import Derived.Test.YtilpkocmdpofpaaGreatDoorZg47
import Derived.Laws.MakeOwn
import Derived.Test.YtilpkocmdpofpaaGreatDoorZg15
import Derived.Deep.Onto
import Derived.ProofKit
import Derived.Below
import Derived.Lib.SmallJoins
import Derived.Deep.Slices
/- The law's own: an integer in memory of its own. -/
namespace Go.Proofs.YtilpkocmdpofpaaGreatDoor
open Go.RowKit

/-- The cells of a new row. -/
def mkCells (n : Nat) : Array Value := madeCells (Value.cells (.int .u32 0)) ((n + 3) * 1)
theorem mkCells_size (n : Nat) : (mkCells n).size = (n + 3) * 1 := by
  have h : (mkCells n).toList.length = (n + 3) * 1 := by
    unfold mkCells
    rw [Nat.mul_one, show Value.cells (.int .u32 0) = #[.int .u32 0] from rfl, toList_madeCells_one]; simp
  simpa using h
theorem run_mk (n : Nat) (hn : n ≤ 1073741824) (w : World) : (Instr.makeSlice 22 (.int .i64 0) (.int .i64 ((n : Int) + 3))).run Tryz.prog w = .ok (.slice (some ⟨w.heap.size, 0, none⟩) 0 (n + 3)) (w.alloc (.cells (mkCells n) 53)) := by
  obtain ⟨i0, hi, hz0, hz1, hz2⟩ := info_parts Tryz.info53
  have hr := run_make (P := Tryz.prog) w 22 53 i0 (.int .u32 0) Tryz.underlying22 hi hz0 .i64 .i64 0 ((n : Int) + 3) (by omega) (by omega) (by rw [hz2]; omega) (by omega)
  rw [hz1] at hr
  have e : ((n : Int) + 3).toNat = n + 3 := by omega
  rw [e] at hr
  exact hr

/-- Both blocks are made. -/
structure OwI (w W0 wx : World) (neg : Bool) (n g r : Nat) : Prop where
  ob : wx.heap[g]? = some (.cells #[.bool neg, .slice (some ⟨r, 0, none⟩) 0 (n + 3)] 24 (0, 0))
  own : wx.ownsRow (w.heap.size + 2) 53 1 (.slice (some ⟨r, 0, none⟩) 0 (n + 3)) 0 []
  ne : g ≠ r
  g2 : w.heap.size + 2 ≤ g
  low : Below (w.heap.size + 2) W0 wx

theorem OwI.one {w W0 : World} {neg : Bool} {n : Nat} {Z : Array Value} (hw0 : W0.heap.size = w.heap.size + 2) (hn : n ≤ 1073741824) (hZ : Z.size = (n + 3) * 1) :
    OwI w W0 ((W0.alloc (.cells Z 53)).alloc (.cells #[.bool neg, .slice (some ⟨W0.heap.size, 0, none⟩) 0 (n + 3)] 24)).drew neg n (W0.heap.size + 1) W0.heap.size := by
  refine ⟨?_, ?_, by omega, by omega, ((((Below.refl _ _).alloc (by omega) _).alloc (by simp; omega) _)).drew⟩
  · have h := Obs.new 24 (W0.alloc (.cells Z 53)) [.bool neg, .slice (some ⟨W0.heap.size, 0, none⟩) 0 (n + 3)]
    have e : (W0.alloc (.cells Z 53)).heap.size = W0.heap.size + 1 := by simp
    rw [e] at h; exact h
  · exact (World.ownsRow_made W0 Z (n + 3) (by omega) (by unfold maxLen; omega) hZ).alloc _
theorem OwI.two {w W0 : World} {neg : Bool} {n : Nat} {Z : Array Value} (hw0 : W0.heap.size = w.heap.size + 2) (hn : n ≤ 1073741824) (hZ : Z.size = (n + 3) * 1) :
    OwI w W0 ((W0.alloc (.cells #[.bool neg, .slice (some ⟨W0.heap.size + 1, 0, none⟩) 0 (n + 3)] 24)).alloc (.cells Z 53)).drew neg n W0.heap.size (W0.heap.size + 1) := by
  refine ⟨?_, ?_, by omega, by omega, ((((Below.refl _ _).alloc (by omega) _).alloc (by simp; omega) _)).drew⟩
  · exact (Obs.new 24 W0 [.bool neg, .slice (some ⟨W0.heap.size + 1, 0, none⟩) 0 (n + 3)]).alloc _
  · have h := World.ownsRow_made (base := w.heap.size + 2) (e := 53) (size := 1) (W0.alloc (.cells #[.bool neg, .slice (some ⟨W0.heap.size + 1, 0, none⟩) 0 (n + 3)] 24)) Z (n + 3) (by simp; omega) (by unfold maxLen; omega) hZ
    have e : (W0.alloc (.cells #[.bool neg, .slice (some ⟨W0.heap.size + 1, 0, none⟩) 0 (n + 3)] 24)).heap.size = W0.heap.size + 1 := by simp
    rw [e] at h; exact h

theorem run_append0 (W : World) (r cap c : Nat) : (Builtin.append_ #[22, 22] 22 #[.slice (some ⟨r, 0, none⟩) 0 cap, .slice none 0 c]).run Tryz.prog W = .ok (.slice (some ⟨r, 0, none⟩) 0 cap) W := by
  obtain ⟨i0, hi, hz0, hz1, hz2⟩ := info_parts Tryz.info53
  simp [Builtin.append_, run_underlying Tryz.underlying22, sizeOf, typeInfo, hi, Builtin.lenOf, Builtin.firstCells, storeCells]

def RetLk (w : World) (neg : Bool) (W : List Int) (e : Ending) (w' : World) : Prop := ∃ v, e = .returned v ∧ Lk w' v neg W ∧ Below w.heap.size w w'

set_option maxRecDepth 100000 in
set_option maxHeartbeats 4000000 in
theorem own_any (v : Value) (neg : Bool) (W : List Int) (w : World) (hv : Lk w v neg W) (hn : W.length ≤ 1073741824) :
    Calls Tryz.prog 41 #[v] w (RetLk w neg W) := by
  obtain ⟨ao, c, rfl, hr⟩ := hv
  obtain ⟨n, hne⟩ : ∃ n, n = W.length := ⟨_, rfl⟩
  rw [← hne] at hn ⊢
  have Hr := hid hr; have Hn := hid hne
  clear hr hne
  have hmk := run_mk n hn
  obtain ⟨Z, hZ⟩ : ∃ Z, mkCells n = Z := ⟨_, rfl⟩
  have hZs := mkCells_size n
  rw [hZ] at hmk hZs
  have HZs := hid hZs
  clear hZ hZs
  obtain ⟨i0, hi, hz0, hz1, hz2⟩ := info_parts Tryz.info53
  go_enter Tryz.func41, Tryz.ntmps41
  go_upto_region 1 with (fail)
  obtain ⟨W0, hW0⟩ : ∃ W0, W0 = ((w.alloc (.cells #[.bool neg, .slice ao n c] 24)).alloc (.cells #[.bool false, .slice none 0 0] 24)) := ⟨_, rfl⟩
  have hB0 : Below w.heap.size w W0 := by rw [hW0]; exact ((Below.refl _ _).alloc (Nat.le_refl _) _).alloc (by simp) _
  have hw0 : W0.heap.size = w.heap.size + 2 := by rw [hW0]; simp
  have HS : Hid (∀ w', Below (w.heap.size + 2) W0 w' → w'.cell? ⟨w.heap.size, 0, none⟩ = some (.bool neg) ∧ w'.cell? ⟨w.heap.size, 1, none⟩ = some (.slice ao n c)) := hid (fun w' hb => by
    refine ⟨?_, ?_⟩ <;> (rw [hb.cell (by simp), hW0]; simp [go_sem]))
  have HT : Hid (∀ w', Below (w.heap.size + 2) W0 w' → w'.cell? ⟨w.heap.size + 1, 0, none⟩ = some (.bool false) ∧ w'.cell? ⟨w.heap.size + 1, 1, none⟩ = some (.slice none 0 0) ∧ w'.frozen? ⟨w.heap.size + 1, 0, none⟩ = false ∧ w'.frozen? ⟨w.heap.size + 1, 1, none⟩ = false) := hid (fun w' hb => by
    refine ⟨?_, ?_, ?_, ?_⟩ <;> (first | (rw [hb.cell (by simp), hW0]; simp [go_sem]; done) | (rw [hb.frozen (by simp), hW0]; simp [go_sem]; done)))
  rw [← hW0]
  clear hW0
  have HB0 := hid hB0; have Hw0 := hid hw0
  obtain ⟨hs0, hs1⟩ := HS.out _ (Below.refl _ _)
  have hle : w.heap.size + 2 ≤ W0.heap.size := by rw [hw0]; exact Nat.le_refl _
  clear hB0 hw0
  have hw3 : IntKind.i64.wrap ((n : Int) + 3) = (n : Int) + 3 := IntWalk.i64_in _ (by omega)
  go_cut [3] (fun s3 wx => ∃ g r, s3 = .pointer (some ⟨g, 0, none⟩) ∧ OwI w W0 wx neg n g r)
  case first =>
    go_region_held3 (fun w' => w'.cell? ⟨w.heap.size, 0, none⟩ = some (.bool neg) ∧ w'.cell? ⟨w.heap.size, 1, none⟩ = some (.slice ao n c)) ((refine HS.out _ ?_; first | exact Below.refl _ _ | exact (Below.refl _ _).drew | exact ((Below.refl _ W0).alloc hle _) | exact ((Below.refl _ W0).alloc hle _).drew | exact (((Below.refl _ W0).alloc hle _).alloc (by simp; omega) _) | exact (((Below.refl _ W0).alloc hle _).alloc (by simp; omega) _).drew | exact ((((Below.refl _ W0).alloc hle _).alloc (by simp; omega) _).setCell (by simp; omega) _).setCell (by simp; omega) _)) (fail)
    all_goals (go_wp2_with fail; go_meet; first | exact ⟨_, _, rfl, OwI.one Hw0.out hn HZs.out⟩ | exact ⟨_, _, rfl, OwI.two Hw0.out hn HZs.out⟩)
  case rest =>
    obtain ⟨g, r, rfl, HO⟩ := hcut
    obtain ⟨k0, k1⟩ := HS.out _ HO.low
    have b0 : wc.cell? ⟨g, 0, none⟩ = some (.bool neg) := (cell_of_row wc g 0 _ _ (0, 0) HO.ob).trans rfl
    have b1 : wc.cell? ⟨g, 1, none⟩ = some (.slice (some ⟨r, 0, none⟩) 0 (n + 3)) := (cell_of_row wc g 1 _ _ (0, 0) HO.ob).trans rfl
    have b2 := frozen_of_row wc g 1 _ _ HO.ob
    have HHO := hid HO
    -- what the append leaves
    have key : ∀ w3 : World, w3.ownsRow (w.heap.size + 2) 53 1 (.slice (some ⟨r, 0, none⟩) n (n + 3)) n (W.map (Value.int .u32)) → wc.grownBy w3 (some r) →
        (w3.cell? ⟨g, 0, none⟩ = some (.bool neg) ∧ w3.cell? ⟨g, 1, none⟩ = some (.slice (some ⟨r, 0, none⟩) 0 (n + 3)) ∧ w3.frozen? ⟨g, 1, none⟩ = false) ∧ Below (w.heap.size + 2) W0 w3 ∧ Rd w3 .u32 (some ⟨r, 0, none⟩) (n + 3) W := by
      intro w3 ho hg
      have hob : w3.heap[g]? = some (.cells #[.bool neg, .slice (some ⟨r, 0, none⟩) 0 (n + 3)] 24 (0, 0)) := by
        rw [hg.block g (Array.getElem?_eq_some_iff.1 HO.ob).1 (by simp; exact HO.ne)]; exact HO.ob
      refine ⟨⟨(cell_of_row w3 g 0 _ _ (0, 0) hob).trans rfl, (cell_of_row w3 g 1 _ _ (0, 0) hob).trans rfl, frozen_of_row w3 g 1 _ _ hob⟩, HO.low.grown hg ?_ (fun i e => by cases e; exact owns_block HO.own r rfl), owns_any ho Hn.out.symm⟩
      have := (Array.getElem?_eq_some_iff.1 HO.ob).1; have := HO.g2; omega
    have HKey := hid key
    clear key HO hs0 hs1
    rcases ao with _ | ad
    · have hn0 : n = 0 := by
        rcases Nat.eq_zero_or_pos n with h | h
        · exact h
        · obtain ⟨_, _, e⟩ := Hr.out.adr (by have := Hn.out; omega); cases e
      have happ : ∀ X : World, (Builtin.append_ #[22, 22] 22 #[.slice (some ⟨r, 0, none⟩) 0 (n + 3), .slice none n c]).run Tryz.prog X = .ok (.slice (some ⟨r, 0, none⟩) n (n + 3)) X := fun X => by
        subst hn0; exact run_append0 X r _ c
      have hown0 : wc.ownsRow (w.heap.size + 2) 53 1 (.slice (some ⟨r, 0, none⟩) n (n + 3)) n (W.map (Value.int .u32)) := by
        have hW : W = [] := List.eq_nil_of_length_eq_zero (by have := Hn.out; omega)
        rw [hW]; subst hn0; exact HHO.out.own
      obtain ⟨⟨a0, a1, af⟩, hlow3, hrd3⟩ := HKey.out wc hown0 (grown_refl _ _)
      clear hn0 hown0 a0 a1 af
      have a1 := b1
      have HF := hid hlow3; have HR3 := hid hrd3
      obtain ⟨hr0, hr1, hr2, hr3⟩ := HT.out _ hlow3
      have hgn : (⟨g, 1, none⟩ : Addr) ≠ ⟨w.heap.size + 1, 0, none⟩ := by intro e; have := HHO.out.g2; simp at e <;> omega
      have hgn1 : (⟨g, 1, none⟩ : Addr) ≠ ⟨w.heap.size + 1, 1, none⟩ := by intro e; have := HHO.out.g2; simp at e <;> omega
      have e0 : (wc.setCell ⟨g, 1, none⟩ (.slice (some ⟨r, 0, none⟩) n (n + 3))).cell? ⟨w.heap.size + 1, 0, none⟩ = some (.bool false) := (World.cell?_setCell_other _ _ _ _ hgn).trans hr0
      have e1 : (wc.setCell ⟨g, 1, none⟩ (.slice (some ⟨r, 0, none⟩) n (n + 3))).cell? ⟨w.heap.size + 1, 1, none⟩ = some (.slice none 0 0) := (World.cell?_setCell_other _ _ _ _ hgn1).trans hr1
      clear hgn hgn1 hr0 hr1
      clear hlow3 hrd3
      go_wp2
      refine bodyPost_ret (v := .agg #[.bool neg, .slice (some ⟨r, 0, none⟩) n (n + 3)]) (by simp [results, Tryz.results41, go_sem, e0, e1]) rfl ⟨_, rfl, ⟨_, _, by rw [Hn.out], ?_⟩, (((HB0.out.trans (HF.out.mono (by omega))).setCell (by simp; have := HHO.out.g2; omega) _).setCell (by simp) _).setCell (by simp) _⟩
      rw [← Hn.out]
      exact ((HR3.out.set a1 (fun x h => (by cases h)) _).set (u := .bool false) e0 (fun x h => (by cases h)) _).set (u := .slice none 0 0) (by simp [go_sem, e1]) (fun x h => (by cases h)) _
    · obtain ⟨ab, aoff, asp⟩ := ad
      have hsrc : ∀ j u, (W.map (Value.int .u32))[j]? = some u → wc.cell? ((⟨ab, aoff, asp⟩ : Addr).add j) = some u := by
        intro j u hj
        have hjl : j < W.length := by have := (List.getElem?_eq_some_iff.1 hj).1; simpa using this
        obtain ⟨b', o', e⟩ := Hr.out.adr (by omega)
        obtain ⟨rfl, rfl, rfl⟩ : ab = b' ∧ aoff = o' ∧ asp = none := by simpa using e
        have hadd : (⟨ab, aoff, none⟩ : Addr).add j = ⟨ab, aoff + j, none⟩ := by unfold Addr.add; split <;> simp_all
        rw [hadd, (Hr.out.below (HB0.out.trans (HHO.out.low.mono (by omega))) (Nat.le_refl _)).cell ab aoff rfl j hjl, ← hj]; simp [hjl]
      have HSrc := hid hsrc
      clear hsrc
      go_wp2_with (at_builtin; refine wpList_append_fits _ rfl _ _ 22 rfl (w.heap.size + 2) 53 i0 1 Tryz.underlying22 hi hz1 r 0 (n + 3) [] rfl HHO.out.own ⟨ab, aoff, asp⟩ n c (W.map (Value.int .u32)) rfl ?c1 HSrc.out ?c2 ?c3 ?_)
      case c1 => have := Hn.out; simp; omega
      case c2 => intro u hu; simp only [List.mem_map] at hu; obtain ⟨x, _, rfl⟩ := hu; rfl
      case c3 => omega
      intro w3 hown hg
      obtain ⟨⟨a0, a1, af⟩, hlow3, hrd3⟩ := HKey.out w3 hown hg
      clear hown hg
      have HF := hid hlow3; have HR3 := hid hrd3
      obtain ⟨hr0, hr1, hr2, hr3⟩ := HT.out _ hlow3
      have hgn : (⟨g, 1, none⟩ : Addr) ≠ ⟨w.heap.size + 1, 0, none⟩ := by intro e; have := HHO.out.g2; simp at e <;> omega
      have hgn1 : (⟨g, 1, none⟩ : Addr) ≠ ⟨w.heap.size + 1, 1, none⟩ := by intro e; have := HHO.out.g2; simp at e <;> omega
      have e0 : (w3.setCell ⟨g, 1, none⟩ (.slice (some ⟨r, 0, none⟩) n (n + 3))).cell? ⟨w.heap.size + 1, 0, none⟩ = some (.bool false) := (World.cell?_setCell_other _ _ _ _ hgn).trans hr0
      have e1 : (w3.setCell ⟨g, 1, none⟩ (.slice (some ⟨r, 0, none⟩) n (n + 3))).cell? ⟨w.heap.size + 1, 1, none⟩ = some (.slice none 0 0) := (World.cell?_setCell_other _ _ _ _ hgn1).trans hr1
      clear hgn hgn1 hr0 hr1
      clear hlow3 hrd3
      go_wp2
      refine bodyPost_ret (v := .agg #[.bool neg, .slice (some ⟨r, 0, none⟩) n (n + 3)]) (by simp [results, Tryz.results41, go_sem, e0, e1]) rfl ⟨_, rfl, ⟨_, _, by rw [Hn.out], ?_⟩, (((HB0.out.trans (HF.out.mono (by omega))).setCell (by simp; have := HHO.out.g2; omega) _).setCell (by simp) _).setCell (by simp) _⟩
      rw [← Hn.out]
      exact ((HR3.out.set a1 (fun x h => (by cases h)) _).set (u := .bool false) e0 (fun x h => (by cases h)) _).set (u := .slice none 0 0) (by simp [go_sem, e1]) (fun x h => (by cases h)) _

end Go.Proofs.YtilpkocmdpofpaaGreatDoor

/- The law's own once more: the words lie in memory of the call's own, with room for three more. -/
namespace Go.Proofs.YtilpkocmdpofpaaGreatDoor
open Go.RowKit

theorem grown_put (w : World) (a : Addr) (u : Value) : w.grownBy (w.setCell a u) (some a.block) :=
  ⟨rfl, rfl, rfl, (by simp), fun k _ hk => Below.heap_setCell _ _ _ k (fun e => hk (by rw [e]))⟩
/-- The call hands back these words, in memory of its own, with room for three more. -/
def RetLkO (w : World) (neg : Bool) (W : List Int) (e : Ending) (w' : World) : Prop := ∃ r, e = .returned (.agg #[.bool neg, .slice (some ⟨r, 0, none⟩) W.length (W.length + 3)]) ∧ w'.ownsRow w.heap.size 53 1 (.slice (some ⟨r, 0, none⟩) W.length (W.length + 3)) W.length (W.map (Value.int .u32)) ∧ Below w.heap.size w w'

set_option maxRecDepth 100000 in
set_option maxHeartbeats 4000000 in
theorem own_owns (v : Value) (neg : Bool) (W : List Int) (w : World) (hv : Lk w v neg W) (hn : W.length ≤ 1073741824) :
    Calls Tryz.prog 41 #[v] w (RetLkO w neg W) := by
  obtain ⟨ao, c, rfl, hr⟩ := hv
  obtain ⟨n, hne⟩ : ∃ n, n = W.length := ⟨_, rfl⟩
  rw [← hne] at hn ⊢
  have Hr := hid hr; have Hn := hid hne
  clear hr hne
  have hmk := run_mk n hn
  obtain ⟨Z, hZ⟩ : ∃ Z, mkCells n = Z := ⟨_, rfl⟩
  have hZs := mkCells_size n
  rw [hZ] at hmk hZs
  have HZs := hid hZs
  clear hZ hZs
  obtain ⟨i0, hi, hz0, hz1, hz2⟩ := info_parts Tryz.info53
  go_enter Tryz.func41, Tryz.ntmps41
  go_upto_region 1 with (fail)
  obtain ⟨W0, hW0⟩ : ∃ W0, W0 = ((w.alloc (.cells #[.bool neg, .slice ao n c] 24)).alloc (.cells #[.bool false, .slice none 0 0] 24)) := ⟨_, rfl⟩
  have hB0 : Below w.heap.size w W0 := by rw [hW0]; exact ((Below.refl _ _).alloc (Nat.le_refl _) _).alloc (by simp) _
  have hw0 : W0.heap.size = w.heap.size + 2 := by rw [hW0]; simp
  have HS : Hid (∀ w', Below (w.heap.size + 2) W0 w' → w'.cell? ⟨w.heap.size, 0, none⟩ = some (.bool neg) ∧ w'.cell? ⟨w.heap.size, 1, none⟩ = some (.slice ao n c)) := hid (fun w' hb => by
    refine ⟨?_, ?_⟩ <;> (rw [hb.cell (by simp), hW0]; simp [go_sem]))
  have HT : Hid (∀ w', Below (w.heap.size + 2) W0 w' → w'.cell? ⟨w.heap.size + 1, 0, none⟩ = some (.bool false) ∧ w'.cell? ⟨w.heap.size + 1, 1, none⟩ = some (.slice none 0 0) ∧ w'.frozen? ⟨w.heap.size + 1, 0, none⟩ = false ∧ w'.frozen? ⟨w.heap.size + 1, 1, none⟩ = false) := hid (fun w' hb => by
    refine ⟨?_, ?_, ?_, ?_⟩ <;> (first | (rw [hb.cell (by simp), hW0]; simp [go_sem]; done) | (rw [hb.frozen (by simp), hW0]; simp [go_sem]; done)))
  rw [← hW0]
  clear hW0
  have HB0 := hid hB0; have Hw0 := hid hw0
  obtain ⟨hs0, hs1⟩ := HS.out _ (Below.refl _ _)
  have hle : w.heap.size + 2 ≤ W0.heap.size := by rw [hw0]; exact Nat.le_refl _
  clear hB0 hw0
  have hw3 : IntKind.i64.wrap ((n : Int) + 3) = (n : Int) + 3 := IntWalk.i64_in _ (by omega)
  go_cut [3] (fun s3 wx => ∃ g r, s3 = .pointer (some ⟨g, 0, none⟩) ∧ OwI w W0 wx neg n g r)
  case first =>
    go_region_held3 (fun w' => w'.cell? ⟨w.heap.size, 0, none⟩ = some (.bool neg) ∧ w'.cell? ⟨w.heap.size, 1, none⟩ = some (.slice ao n c)) ((refine HS.out _ ?_; first | exact Below.refl _ _ | exact (Below.refl _ _).drew | exact ((Below.refl _ W0).alloc hle _) | exact ((Below.refl _ W0).alloc hle _).drew | exact (((Below.refl _ W0).alloc hle _).alloc (by simp; omega) _) | exact (((Below.refl _ W0).alloc hle _).alloc (by simp; omega) _).drew | exact ((((Below.refl _ W0).alloc hle _).alloc (by simp; omega) _).setCell (by simp; omega) _).setCell (by simp; omega) _)) (fail)
    all_goals (go_wp2_with fail; go_meet; first | exact ⟨_, _, rfl, OwI.one Hw0.out hn HZs.out⟩ | exact ⟨_, _, rfl, OwI.two Hw0.out hn HZs.out⟩)
  case rest =>
    obtain ⟨g, r, rfl, HO⟩ := hcut
    obtain ⟨k0, k1⟩ := HS.out _ HO.low
    have b0 : wc.cell? ⟨g, 0, none⟩ = some (.bool neg) := (cell_of_row wc g 0 _ _ (0, 0) HO.ob).trans rfl
    have b1 : wc.cell? ⟨g, 1, none⟩ = some (.slice (some ⟨r, 0, none⟩) 0 (n + 3)) := (cell_of_row wc g 1 _ _ (0, 0) HO.ob).trans rfl
    have b2 := frozen_of_row wc g 1 _ _ HO.ob
    have HHO := hid HO
    -- what the append leaves
    have key : ∀ w3 : World, w3.ownsRow (w.heap.size + 2) 53 1 (.slice (some ⟨r, 0, none⟩) n (n + 3)) n (W.map (Value.int .u32)) → wc.grownBy w3 (some r) →
        (w3.cell? ⟨g, 0, none⟩ = some (.bool neg) ∧ w3.cell? ⟨g, 1, none⟩ = some (.slice (some ⟨r, 0, none⟩) 0 (n + 3)) ∧ w3.frozen? ⟨g, 1, none⟩ = false) ∧ Below (w.heap.size + 2) W0 w3 ∧ w3.ownsRow (w.heap.size + 2) 53 1 (.slice (some ⟨r, 0, none⟩) n (n + 3)) n (W.map (Value.int .u32)) := by
      intro w3 ho hg
      have hob : w3.heap[g]? = some (.cells #[.bool neg, .slice (some ⟨r, 0, none⟩) 0 (n + 3)] 24 (0, 0)) := by
        rw [hg.block g (Array.getElem?_eq_some_iff.1 HO.ob).1 (by simp; exact HO.ne)]; exact HO.ob
      refine ⟨⟨(cell_of_row w3 g 0 _ _ (0, 0) hob).trans rfl, (cell_of_row w3 g 1 _ _ (0, 0) hob).trans rfl, frozen_of_row w3 g 1 _ _ hob⟩, HO.low.grown hg ?_ (fun i e => by cases e; exact owns_block HO.own r rfl), ho⟩
      have := (Array.getElem?_eq_some_iff.1 HO.ob).1; have := HO.g2; omega
    have HKey := hid key
    clear key HO hs0 hs1
    rcases ao with _ | ad
    · have hn0 : n = 0 := by
        rcases Nat.eq_zero_or_pos n with h | h
        · exact h
        · obtain ⟨_, _, e⟩ := Hr.out.adr (by have := Hn.out; omega); cases e
      have happ : ∀ X : World, (Builtin.append_ #[22, 22] 22 #[.slice (some ⟨r, 0, none⟩) 0 (n + 3), .slice none n c]).run Tryz.prog X = .ok (.slice (some ⟨r, 0, none⟩) n (n + 3)) X := fun X => by
        subst hn0; exact run_append0 X r _ c
      have hown0 : wc.ownsRow (w.heap.size + 2) 53 1 (.slice (some ⟨r, 0, none⟩) n (n + 3)) n (W.map (Value.int .u32)) := by
        have hW : W = [] := List.eq_nil_of_length_eq_zero (by have := Hn.out; omega)
        rw [hW]; subst hn0; exact HHO.out.own
      obtain ⟨⟨a0, a1, af⟩, hlow3, hrd3⟩ := HKey.out wc hown0 (grown_refl _ _)
      clear hn0 hown0 a0 a1 af
      have a1 := b1
      have HF := hid hlow3; have HR3 := hid hrd3
      obtain ⟨hr0, hr1, hr2, hr3⟩ := HT.out _ hlow3
      have hgn : (⟨g, 1, none⟩ : Addr) ≠ ⟨w.heap.size + 1, 0, none⟩ := by intro e; have := HHO.out.g2; simp at e <;> omega
      have hgn1 : (⟨g, 1, none⟩ : Addr) ≠ ⟨w.heap.size + 1, 1, none⟩ := by intro e; have := HHO.out.g2; simp at e <;> omega
      have e0 : (wc.setCell ⟨g, 1, none⟩ (.slice (some ⟨r, 0, none⟩) n (n + 3))).cell? ⟨w.heap.size + 1, 0, none⟩ = some (.bool false) := (World.cell?_setCell_other _ _ _ _ hgn).trans hr0
      have e1 : (wc.setCell ⟨g, 1, none⟩ (.slice (some ⟨r, 0, none⟩) n (n + 3))).cell? ⟨w.heap.size + 1, 1, none⟩ = some (.slice none 0 0) := (World.cell?_setCell_other _ _ _ _ hgn1).trans hr1
      clear hgn hgn1 hr0 hr1
      clear hlow3 hrd3
      go_wp2
      refine bodyPost_ret (v := .agg #[.bool neg, .slice (some ⟨r, 0, none⟩) n (n + 3)]) (by simp [results, Tryz.results41, go_sem, e0, e1]) rfl ⟨r, by rw [← Hn.out], ?_, (((HB0.out.trans (HF.out.mono (by omega))).setCell (by simp; have := HHO.out.g2; omega) _).setCell (by simp) _).setCell (by simp) _⟩
      rw [← Hn.out]
      refine World.ownsRow.mono (base := w.heap.size + 2) ?_ (by omega)
      exact ownsRow_setCell_below (ownsRow_setCell_below (HR3.out.kept (grown_put _ ⟨g, 1, none⟩ _) (.inr (fun e => HHO.out.ne (by simpa [Value.ownBlock] using e.symm)))) (by simp) _) (by simp) _
    · obtain ⟨ab, aoff, asp⟩ := ad
      have hsrc : ∀ j u, (W.map (Value.int .u32))[j]? = some u → wc.cell? ((⟨ab, aoff, asp⟩ : Addr).add j) = some u := by
        intro j u hj
        have hjl : j < W.length := by have := (List.getElem?_eq_some_iff.1 hj).1; simpa using this
        obtain ⟨b', o', e⟩ := Hr.out.adr (by omega)
        obtain ⟨rfl, rfl, rfl⟩ : ab = b' ∧ aoff = o' ∧ asp = none := by simpa using e
        have hadd : (⟨ab, aoff, none⟩ : Addr).add j = ⟨ab, aoff + j, none⟩ := by unfold Addr.add; split <;> simp_all
        rw [hadd, (Hr.out.below (HB0.out.trans (HHO.out.low.mono (by omega))) (Nat.le_refl _)).cell ab aoff rfl j hjl, ← hj]; simp [hjl]
      have HSrc := hid hsrc
      clear hsrc
      go_wp2_with (at_builtin; refine wpList_append_fits _ rfl _ _ 22 rfl (w.heap.size + 2) 53 i0 1 Tryz.underlying22 hi hz1 r 0 (n + 3) [] rfl HHO.out.own ⟨ab, aoff, asp⟩ n c (W.map (Value.int .u32)) rfl ?c1 HSrc.out ?c2 ?c3 ?_)
      case c1 => have := Hn.out; simp; omega
      case c2 => intro u hu; simp only [List.mem_map] at hu; obtain ⟨x, _, rfl⟩ := hu; rfl
      case c3 => omega
      intro w3 hown hg
      obtain ⟨⟨a0, a1, af⟩, hlow3, hrd3⟩ := HKey.out w3 hown hg
      clear hown hg
      have HF := hid hlow3; have HR3 := hid hrd3
      obtain ⟨hr0, hr1, hr2, hr3⟩ := HT.out _ hlow3
      have hgn : (⟨g, 1, none⟩ : Addr) ≠ ⟨w.heap.size + 1, 0, none⟩ := by intro e; have := HHO.out.g2; simp at e <;> omega
      have hgn1 : (⟨g, 1, none⟩ : Addr) ≠ ⟨w.heap.size + 1, 1, none⟩ := by intro e; have := HHO.out.g2; simp at e <;> omega
      have e0 : (w3.setCell ⟨g, 1, none⟩ (.slice (some ⟨r, 0, none⟩) n (n + 3))).cell? ⟨w.heap.size + 1, 0, none⟩ = some (.bool false) := (World.cell?_setCell_other _ _ _ _ hgn).trans hr0
      have e1 : (w3.setCell ⟨g, 1, none⟩ (.slice (some ⟨r, 0, none⟩) n (n + 3))).cell? ⟨w.heap.size + 1, 1, none⟩ = some (.slice none 0 0) := (World.cell?_setCell_other _ _ _ _ hgn1).trans hr1
      clear hgn hgn1 hr0 hr1
      clear hlow3 hrd3
      go_wp2
      refine bodyPost_ret (v := .agg #[.bool neg, .slice (some ⟨r, 0, none⟩) n (n + 3)]) (by simp [results, Tryz.results41, go_sem, e0, e1]) rfl ⟨r, by rw [← Hn.out], ?_, (((HB0.out.trans (HF.out.mono (by omega))).setCell (by simp; have := HHO.out.g2; omega) _).setCell (by simp) _).setCell (by simp) _⟩
      rw [← Hn.out]
      refine World.ownsRow.mono (base := w.heap.size + 2) ?_ (by omega)
      exact ownsRow_setCell_below (ownsRow_setCell_below (HR3.out.kept (grown_put _ ⟨g, 1, none⟩ _) (.inr (fun e => HHO.out.ne (by simpa [Value.ownBlock] using e.symm)))) (by simp) _) (by simp) _

end Go.Proofs.YtilpkocmdpofpaaGreatDoor

/- How the arguments of the laws are opened (an api.Int reads as its sign and its list of words), and the last step of a row whose law returns true and leaves all that was there before. -/
namespace Go.Proofs.YtilpkocmdpofpaaGreatDoor
open Go.ChangeShapes Go.WideShapes Go.ChangeAt Go.RowKit Go.Joins

theorem Tryz.ownKnobNone : ownKnob Tryz.prog.godebug = none := by kernel_rfl
theorem Tryz.laidOutAll : laidOutB Tryz.prog = true := by kernel_rfl

/-- The number that a value is. -/
def intOf : Value → Int | .int _ x => x | _ => 0

set_option maxRecDepth 100000 in
theorem openInt {H : Type} {enc : TypeId × Value → H} {r : Reach} {b0 : Nat} {W : World} {sp : Nat → Bool} {v : Value} {d : DataW H} {p : List MemPlace}
    (hv : Value.okWide Tryz.prog W r b0 24 v) (h : DataW.Trod enc Tryz.prog W 0 sp true 24 v d p) : ∃ neg L, Lk W v neg L ∧ Dig B32 L := by
  obtain ⟨c0, c1, y0, y1, m, rfl, rfl, rfl, hy0, hy1⟩ := open_agg2 Tryz.underlying24 (by kernel_rfl) (by kernel_rfl) hv h
  obtain ⟨b, e0, _⟩ := DataW.trod_bool Tryz.underlying4 hy0
  simp at e0
  subst e0
  rcases Go.Deep.open_slice1 Tryz.underlying22 (by kernel_rfl) hy1 with ⟨e1, _⟩ | ⟨a, len, cap, k, n, V, D, Pl, e1, hb, hl, hm, hmm, _, hx⟩
  · simp at e1
    subst e1
    exact ⟨b, [], ⟨none, 0, rfl, Rd.nil _ _⟩, fun x hx => by cases hx⟩
  · simp at e1
    subst e1
    have hk : len ≤ k := by rw [hmm]; split <;> omega
    have hw : ∀ i, i < len → ∃ x, V i = .int .u32 x ∧ 0 ≤ x ∧ x < B32 ∧ W.cell? (a.add i) = some (.int .u32 x) := by
      intro i hi
      obtain ⟨hc, ht⟩ := hx i (by omega)
      obtain ⟨x, ex, _, hwf⟩ := DataW.trod_int Tryz.underlying53 ht
      simp at ex
      simp [Lit.wf, IntKind.min, IntKind.max, IntKind.signed, IntKind.bits] at hwf
      refine ⟨x, ex, by omega, by unfold B32; omega, by rw [hc, ex]⟩
    have hget : ∀ i, i < len → (((List.range len).map fun i => intOf (V i))[i]?.getD 0) = intOf (V i) := by
      intro i hi
      simp [hi]
    refine ⟨b, (List.range len).map fun i => intOf (V i), ⟨some a, cap, by simp, ?_⟩, ?_⟩
    · refine ⟨by simpa using hl, by unfold maxLen at hm; omega, fun hp => ?_, fun b off e i hi => ?_⟩
      · obtain ⟨x, _, _, _, hc⟩ := hw 0 (by simpa using hp)
        have hs := World.cell?_spot hc
        obtain ⟨ab, aoff, asp⟩ := a
        have : asp = none := by simpa [Addr.add] using hs
        exact ⟨ab, aoff, by rw [this]⟩
      · simp at hi
        obtain rfl := Option.some.inj e
        obtain ⟨x, ex, _, _, hc⟩ := hw i hi
        rw [hget i hi, ex]
        have ea : Addr.add ⟨b, off, none⟩ i = ⟨b, off + i, none⟩ := by
          by_cases h0 : i = 0 <;> simp [Addr.add, h0]
        rw [ea] at hc
        simpa [intOf] using hc
    · intro x hx
      obtain ⟨i, hi, rfl⟩ := List.mem_map.1 hx
      obtain ⟨y, ey, y0, y1, _⟩ := hw i (by simpa using hi)
      rw [ey]
      exact ⟨y0, y1⟩

/-- What lies below a bound reads as it did, whatever was made above it. -/
theorem allStays {H : Type} {enc : TypeId × Value → H} {P : Program} (hl : laidOutB P = true) {W W' : World} {sp' : Nat → Bool} : ∀ {ts : List TypeId} {vs : List Value} {ds : List (DataW H)} {ps : List MemPlace},
    (∀ t ∈ ts, P.readableRec t = true ∧ t < P.types.size) → DataW.TrodAll enc P W 0 (fun _ => true) true ts vs ds ps → (∀ p ∈ ps, W.sameAt W' p) → (∀ p ∈ ps, sp' p.block = true) → DataW.TrodAll enc P W' 0 sp' true ts vs ds ps
  | [], _, _, _, _, h, _, _ => by
    obtain ⟨rfl, rfl, rfl⟩ := trodAll_nil h
    exact trodAll_mk0
  | t :: ts, _, _, _, ht, h, hs, hp => by
    obtain ⟨v, vs1, d, ds1, a, b, rfl, rfl, rfl, h1, h2⟩ := trodAll_cons h
    refine ⟨a, b, ?_, ?_, rfl⟩
    · exact WideElems.Trod_stays hl (ht t (by simp)).1 (ht t (by simp)).2 h1 (fun p k => hs p (by simp [k])) (fun p k => hp p (by simp [k]))
    · exact allStays hl (fun u k => ht u (by simp [k])) h2 (fun p k => hs p (by simp [k])) (fun p k => hp p (by simp [k]))

/-- The last step of a row: the law returns true, its arguments read as they did. -/
theorem lawTrue {H : Type} {enc : TypeId × Value → H} {P : Program} {f : Func} {s : ChangeSpec} {apart fresh handsOn : Bool} {W W' : World} {args : Array Value} {ds gs : List (DataW H)} {before : List MemPlace} {tb : TypeId}
    (hl : laidOutB P = true) (hr : ∀ t ∈ f.params.toList, P.readableRec t = true ∧ t < P.types.size) (hv : s.vars = []) (hres : f.resultTypes = #[tb]) (hb : P.underlying tb = some .bool)
    (hfn : s.fn H (ds ++ gs) = { results := [.lit (.bool true)], args := ds })
    (hW : DataW.Whole enc P f.params.toList s.vars apart W args.toList ds gs before) (hlow : Below W.heap.size W W') :
    s.post enc P f apart fresh handsOn false W args (.bool true) W' := by
  have hW' := hW
  obtain ⟨p, q, hA, hV, hpq, _, _⟩ := hW
  rw [hv] at hV
  obtain ⟨rfl, rfl⟩ := trodVars_none hV
  have hlt := hW'.lt
  have e0 : before = p := by rw [hpq]; simp
  subst e0
  refine ⟨ds, [], before, [], before, [], hW', ?_, ?_, ?_, ?_, fun h => by cases h⟩
  · rw [hfn, hres]
    exact trodAll_mk1 (shut_bool hb _)
  · rw [hfn]
    exact allStays hl hr hA (fun p k => hlow.same (hlt p k)) (fun p k => by simpa using hlt p k)
  · rw [hfn, hv]
    rfl
  · exact World.keptBut_mono (fun p k => ⟨k, Or.inr (Or.inl k)⟩) (hlow.frame (· ∈ before))
end Go.Proofs.YtilpkocmdpofpaaGreatDoor
