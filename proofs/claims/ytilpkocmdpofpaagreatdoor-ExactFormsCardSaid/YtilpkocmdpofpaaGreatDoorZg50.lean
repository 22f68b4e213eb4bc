/- The law ExactForms, its walk. Written by gen_forms.py. -/
import Derived.Test.YtilpkocmdpofpaaGreatDoorZg49
import Derived.Test.YtilpkocmdpofpaaGreatDoorZg43
import Derived.Test.YtilpkocmdpofpaaGreatDoorZg44
import Derived.RangeFuncBox
/- The law ExactForms, its walk. Written by gen_forms.py. -/
namespace Go.Proofs.YtilpkocmdpofpaaGreatDoor
open Go.RowKit

theorem ra_rv2 {w : World} {v : Value} {N D n d : Int} {K : Nat} (h : Ra w v N D K) (hD : 0 < D) (hd : 0 < d) (e : N * d = n * D) : Rv w v n d K :=
  ⟨hd, N, D, h, by rw [(rn_pos N hD).1, (rn_pos N hD).2]; exact e⟩
theorem set_one {w : World} {b : Nat} {v0 v1 : Value} {T : TypeId} (u : Value) (h : w.heap[b]? = some (.cells #[v0, v1] T (0, 0))) : (w.setCell ⟨b, 1, none⟩ u).heap[b]? = some (.cells #[v0, u] T (0, 0)) := by
  obtain ⟨hlt, hk⟩ := Array.getElem?_eq_some_iff.1 h
  show (w.heap.modify b _)[b]? = _
  rw [Array.getElem?_eq_getElem (by rw [Array.size_modify]; exact hlt), Array.getElem_modify_self, hk]
  rfl
theorem set_zero {w : World} {b : Nat} {v0 v1 : Value} {T : TypeId} (u : Value) (h : w.heap[b]? = some (.cells #[v0, v1] T (0, 0))) : (w.setCell ⟨b, 0, none⟩ u).heap[b]? = some (.cells #[u, v1] T (0, 0)) := by
  obtain ⟨hlt, hk⟩ := Array.getElem?_eq_some_iff.1 h
  show (w.heap.modify b _)[b]? = _
  rw [Array.getElem?_eq_getElem (by rw [Array.size_modify]; exact hlt), Array.getElem_modify_self, hk]
  rfl
/-- The second integer, while zeros are put behind its words. -/
structure FI (W0 wr : World) (neg : Bool) (W : List Int) (g bx j : Nat) : Prop where
  low : Below W0.heap.size W0 wr
  box : wr.heap[bx]? = some (.cells #[.bool neg, .slice (some ⟨g, 0, none⟩) (W.length + j) (W.length + 3)] 24 (0, 0))
  own : wr.ownsRow W0.heap.size 53 1 (.slice (some ⟨g, 0, none⟩) (W.length + j) (W.length + 3)) (W.length + j) ((W ++ List.replicate j 0).map (Value.int .u32))
  ne : bx ≠ g
  hb : W0.heap.size ≤ bx
theorem FI.next {W0 wr w3 : World} {neg : Bool} {W : List Int} {g bx j : Nat} (h : FI W0 wr neg W g bx j) (o : Obj)
    (hown : w3.ownsRow W0.heap.size 53 1 (.slice (some ⟨g, 0, none⟩) (W.length + j + 1) (W.length + 3)) (W.length + j + 1) ((W ++ List.replicate j 0).map (Value.int .u32) ++ [.int .u32 0])) (hg : (wr.alloc o).grownBy w3 (some g)) :
    (w3.cell? ⟨bx, 1, none⟩ = some (.slice (some ⟨g, 0, none⟩) (W.length + j) (W.length + 3)) ∧ w3.frozen? ⟨bx, 1, none⟩ = false) ∧ FI W0 (w3.setCell ⟨bx, 1, none⟩ (.slice (some ⟨g, 0, none⟩) (W.length + j + 1) (W.length + 3))) neg W g bx (j + 1) := by
  have hlt : bx < (wr.alloc o).heap.size := by have := (Array.getElem?_eq_some_iff.1 h.box).1; rw [World.size_alloc]; omega
  have hbx : w3.heap[bx]? = some (.cells #[.bool neg, .slice (some ⟨g, 0, none⟩) (W.length + j) (W.length + 3)] 24 (0, 0)) := by
    rw [hg.block bx hlt (by intro e; exact h.ne (by simpa using e))]
    exact (Below.heap_alloc wr o bx (Array.getElem?_eq_some_iff.1 h.box).1).trans h.box
  refine ⟨⟨(cell_of_row w3 bx 1 _ _ (0, 0) hbx).trans rfl, frozen_of_row w3 bx 1 _ _ hbx⟩, ?_, set_one _ hbx, ?_, h.ne, h.hb⟩
  · exact (((h.low.alloc h.low.size o).grown hg (by rw [World.size_alloc]; have := h.low.size; omega) (fun k e => by cases e; exact owns_block h.own g rfl))).setCell (p := ⟨bx, 1, none⟩) h.hb _
  · have e : (W ++ List.replicate (j + 1) 0).map (Value.int .u32) = (W ++ List.replicate j 0).map (Value.int .u32) ++ [.int .u32 0] := by
      rw [List.replicate_succ', ← List.append_assoc, List.map_append]; rfl
    rw [e]
    exact hown.kept (grown_put _ ⟨bx, 1, none⟩ _) (.inr (fun e => h.ne (by simpa [Value.ownBlock] using e.symm)))

theorem lk_ai {w : World} {v : Value} {neg : Bool} {W : List Int} {K : Nat} (h : Lk w v neg W) (hd : Dig B32 W) (hl : W.length ≤ K) : Ai w v (sgn neg (val B32 W)) K := by
  obtain ⟨ao, c, rfl, h⟩ := h
  exact ⟨neg, ao, c, W, rfl, h, hd, hl, rfl⟩
theorem dig_zeros {W : List Int} (h : Dig B32 W) (j : Nat) : Dig B32 (W ++ List.replicate j 0) := by
  intro u hu
  simp only [List.mem_append, List.mem_replicate] at hu
  rcases hu with hu | ⟨_, rfl⟩
  · exact h u hu
  · decide
theorem val_zeros : ∀ (W : List Int) (j : Nat), val B32 (W ++ List.replicate j 0) = val B32 W
  | [], 0 => rfl
  | [], j + 1 => by
    have := val_zeros [] j
    rw [List.nil_append] at this ⊢
    rw [List.replicate_succ]
    have e : val B32 (0 :: List.replicate j 0) = 0 + B32 * val B32 (List.replicate j 0) := rfl
    rw [e, this]
    simp [val]
  | u :: W, j => by rw [List.cons_append, val, val, val_zeros W j]
theorem sgn_flip {a : Bool} {n : Int} (h : sgn a n = 0) : sgn (!a) n = sgn a n := by
  rw [h]
  cases a <;> simp [sgn] at h ⊢ <;> omega
theorem cmp_zero {z : Int} (h : cmpI z 0 = 0) : z = 0 := by
  unfold cmpI at h
  (repeat' split at h) <;> omega
/-- The second integer, when its sign may have been changed. -/
def FJ (W0 : World) (neg : Bool) (W : List Int) (g bx tz : Nat) (wx : World) : Prop := ∃ nb : Bool, Below W0.heap.size W0 wx ∧ wx.heap[bx]? = some (.cells #[.bool nb, .slice (some ⟨g, 0, none⟩) (W.length + tz) (W.length + 3)] 24 (0, 0)) ∧ wx.ownsRow W0.heap.size 53 1 (.slice (some ⟨g, 0, none⟩) (W.length + tz) (W.length + 3)) (W.length + tz) ((W ++ List.replicate tz 0).map (Value.int .u32)) ∧ sgn nb (val B32 W) = sgn neg (val B32 W)

set_option maxRecDepth 100000 in
set_option maxHeartbeats 4000000 in
theorem exactForms_walk (a1 aa1 a2 : Bool) (p1 pp1 p2 : Option Addr) (l1 ll1 q1 qq1 q2 : Nat) (x y : Int) (W : List Int) (zz ff : Int) (w : World) (hu : Ra w (.agg #[.bool a1, .slice p1 l1 q1, .bool aa1, .slice pp1 ll1 qq1]) x y 8) (hv : Rd w .u32 p2 q2 W) (hd : Dig B32 W) (hl : W.length ≤ 8)
    (hz : 0 ≤ zz ∧ zz ≤ 255) (hf : 0 ≤ ff ∧ ff ≤ 4294967295) (t1 : Int) (ht1 : max (l1 : Int) (ll1 : Int) = t1) (g1 : ¬ 8 < t1) (hT : Tab w) :
    Calls Tryz.prog 6 #[(.agg #[.bool a1, .slice p1 l1 q1, .bool aa1, .slice pp1 ll1 qq1]), (.agg #[.bool a2, .slice p2 W.length q2]), .int .u8 zz, .int .u32 ff] w fun e w' => e = .returned (.bool true) ∧ Below w.heap.size w w' := by
  obtain ⟨W0, hW0⟩ : ∃ W0, W0 = ((w.alloc (.cells #[.bool a1, .slice p1 l1 q1, .bool aa1, .slice pp1 ll1 qq1] 26)).alloc (.cells #[.bool a2, .slice p2 W.length q2] 24)) := ⟨_, rfl⟩
  have hB0 : Below w.heap.size w W0 := by rw [hW0]; exact ((Below.refl _ _).alloc (Nat.le_refl _) _).alloc (by simp <;> omega) _
  have hz0 : W0.heap.size = w.heap.size + 2 := by rw [hW0]; simp
  have HS0 : Hid (∀ w', Below W0.heap.size W0 w' → w'.cell? ⟨w.heap.size, 0, none⟩ = some (.bool a1) ∧ w'.cell? ⟨w.heap.size, 1, none⟩ = some (.slice p1 l1 q1) ∧ w'.cell? ⟨w.heap.size, 2, none⟩ = some (.bool aa1) ∧ w'.cell? ⟨w.heap.size, 3, none⟩ = some (.slice pp1 ll1 qq1) ∧ w'.cell? ⟨w.heap.size + 1, 0, none⟩ = some (.bool a2) ∧ w'.cell? ⟨w.heap.size + 1, 1, none⟩ = some (.slice p2 W.length q2)) := hid (fun w' hb => by
    refine ⟨?_, ?_, ?_, ?_, ?_, ?_⟩ <;> (rw [hb.cell (by rw [hz0]; simp <;> omega), hW0]; simp [go_sem]))
  have VR : Hid (∀ w', Below W0.heap.size W0 w' → Ra w' (.agg #[.bool a1, .slice p1 l1 q1, .bool aa1, .slice pp1 ll1 qq1]) x y 8) := hid (fun w' hb => (hu.below hB0 (Nat.le_refl _)).below hb (Nat.le_refl _))
  have hvl : Lk w (.agg #[.bool a2, .slice p2 W.length q2]) a2 W := ⟨_, _, rfl, hv⟩
  have VN : Hid (∀ w', Below W0.heap.size W0 w' → Lk w' (.agg #[.bool a2, .slice p2 W.length q2]) a2 W) := hid (fun w' hb => by
    obtain ⟨ao, c, e, h⟩ := hvl
    exact ⟨ao, c, e, (h.below hB0 (Nat.le_refl _)).below hb (Nat.le_refl _)⟩)
  have HT : Hid (∀ w', Below W0.heap.size W0 w' → Tab w') := hid (fun w' hb => (hT.below hB0).below hb)
  obtain ⟨tz, htz, htz4⟩ : ∃ tz : Nat, zz.tmod 4 = (tz : Int) ∧ tz < 4 := by
    rw [Int.tmod_eq_emod_of_nonneg hz.1]; exact ⟨(zz % 4).toNat, by omega, by omega⟩
  have T1 := hid ht1; have HD := hid hd; have HL := hid hl; have Hf := hid hf
  obtain ⟨m, hm⟩ : ∃ m, m = W.length := ⟨_, rfl⟩
  have g2 : ¬ (8 : Int) < (W.length : Int) := by omega
  have HB0 := hid hB0; have HW0 := hid hW0
  clear hW0 hB0 hz0
  obtain ⟨i0, hi, hiz0, hiz1, hiz2⟩ := info_parts Tryz.info53
  clear ht1 hu hv hvl hd hz hf hT
  go_enter Tryz.func6, Tryz.ntmps6
  go_wp2_with fail
  rw [← HW0.out]
  refine (alive_any _).mono ?_
  rintro e w0 ⟨rfl, hX0⟩
  obtain ⟨k0, k1, k2, k3, k4, k5⟩ := HS0.out _ hX0
  go_wp2_with fail
  refine (wide_t _ _ _ _ _ _ _ _ t1 _ T1.out).mono ?_
  rintro e wa ⟨rfl, hba⟩
  have hXa := bl_tr hX0 hba
  clear k0 k1 k2 k3 k4 k5 hba hX0
  obtain ⟨k0, k1, k2, k3, k4, k5⟩ := HS0.out _ hXa
  go_upto_region 4 with (fail)
  go_wp2_with fail
  refine (own_owns _ a2 W _ (VN.out _ hXa) (by have := HL.out; omega)).mono ?_
  rintro e wq1 ⟨gr, rfl, hown, hbq⟩
  have hXq := bl_tr hXa hbq
  obtain ⟨Wx1, hW1⟩ : ∃ W1, W1 = wq1.alloc (.cells #[.bool a2, .slice (some ⟨gr, 0, none⟩) W.length (W.length + 3)] 24) := ⟨_, rfl⟩
  have HFI := hid (show FI W0 Wx1 a2 W gr wq1.heap.size 0 by
    rw [hW1]
    have hgl := (hown.lt gr rfl).2
    refine ⟨hXq.alloc hXq.size _, World.alloc_heap_new _ _, ?_, by omega, hXq.size⟩
    have h := (hown.mono hXa.size).alloc (.cells #[.bool a2, .slice (some ⟨gr, 0, none⟩) W.length (W.length + 3)] 24)
    simpa using h)
  have HWx1 := hid hW1
  clear k0 k1 k2 k3 k4 k5 hXa hbq hown hW1
  go_upto_region 5 with (fail)
  rw [← HWx1.out]
  go_wp2_with fail
  go_loopw [37] (fun iv wr => ∃ j : Nat, j ≤ tz ∧ iv = .int .u8 (j : Int) ∧ FI W0 wr a2 W gr wq1.heap.size j) (fun iv _ => tz - (intOf iv).toNat)
  case atStart => exact ⟨0, Nat.zero_le _, rfl, HFI.out⟩
  case round =>
    obtain ⟨j, hj, rfl, HI⟩ := hrel
    by_cases hlt : j < tz
    · have hjI : (j : Int) < (tz : Int) := by omega
      have hc1 : wr.cell? ⟨wq1.heap.size, 1, none⟩ = some (.slice (some ⟨gr, 0, none⟩) (W.length + j) (W.length + 3)) := (cell_of_row wr _ 1 _ _ (0, 0) HI.box).trans rfl
      have hHI := hid HI
      have hj255 : IntKind.u8.wrap ((j : Int) + 1) = (j : Int) + 1 := by rw [IntKind.wrap_u8]; omega
      clear HI
      go_wp2_with (at_builtin; refine wpList_append_fits _ rfl _ _ 22 rfl W0.heap.size 53 i0 1 Tryz.underlying22 hi hiz1 gr (W.length + j) (W.length + 3) _ rfl (hHI.out.own.alloc _) ⟨wr.heap.size, 0, none⟩ 1 1 [.int .u32 0] rfl ?c1 ?c0 ?c2 ?c3 ?_)
      case c1 => rfl
      case c0 => exact World.news_of_block (cs := #[.int .u32 0]) (t := 53) (fr := (0, 0)) (World.alloc_heap_new wr _)
      case c2 => simp [Value.oneCell']
      case c3 => omega
      intro w3 hown hg
      obtain ⟨⟨hc3, hf3⟩, HN⟩ := hHI.out.next _ (by simpa using hown) hg
      have HNx := hid HN
      clear hown hg HN
      go_wp2
      go_roundw
      case rel => exact ⟨j + 1, by omega, by go_num, HNx.out⟩
      case measure => simp [intOf]; omega
    · obtain rfl : j = tz := by omega
      have hHI := hid HI
      clear HI HFI
      have hbx0 : wr.cell? ⟨wq1.heap.size, 0, none⟩ = some (.bool a2) := (cell_of_row wr _ 0 _ _ (0, 0) hHI.out.box).trans rfl
      have hbx1 : wr.cell? ⟨wq1.heap.size, 1, none⟩ = some (.slice (some ⟨gr, 0, none⟩) (W.length + j) (W.length + 3)) := (cell_of_row wr _ 1 _ _ (0, 0) hHI.out.box).trans rfl
      obtain ⟨k0, k1, k2, k3, k4, k5⟩ := HS0.out _ hHI.out.low
      obtain ⟨z, hz⟩ : ∃ z, z = sgn a2 (val B32 W) := ⟨_, rfl⟩
      obtain ⟨cz, hcz⟩ : ∃ c, c = cmpI z 0 := ⟨_, rfl⟩
      have HZ := hid hz; have HCZ := hid hcz
      clear hbx0 hbx1 hz hcz
      go_upto_region 9 with (fail)
      go_wp2_with fail
      refine (sign_z _ z cz 8 _ (by rw [HZ.out]; exact lk_ai (VN.out _ hHI.out.low) HD.out HL.out) HCZ.out.symm (by omega)).mono ?_
      rintro e ws ⟨rfl, hbs⟩
      have hbxs : ws.heap[wq1.heap.size]? = some (.cells #[.bool a2, .slice (some ⟨gr, 0, none⟩) (W.length + j) (W.length + 3)] 24 (0, 0)) := (hbs.block _ (Array.getElem?_eq_some_iff.1 hHI.out.box).1).trans hHI.out.box
      have HBs := hid hbs
      have Hbxs := hid hbxs
      clear k0 k1 k2 k3 k4 k5 hbs hbxs
      go_upto_if 47 with (fail)
      go_cut [47] from 48 (fun s47 wx => FJ W0 a2 W gr wq1.heap.size j wx)
      case first =>
        by_cases hz0 : cz = 0
        · have c0 : ws.cell? ⟨wq1.heap.size, 0, none⟩ = some (.bool a2) := (cell_of_row ws _ 0 _ _ (0, 0) Hbxs.out).trans rfl
          have f0 := frozen_of_row ws _ 0 _ _ Hbxs.out
          go_wp2_with fail
          go_meet
          exact ⟨!a2, (hHI.out.low.trans (HBs.out.mono hHI.out.low.size)).setCell (p := ⟨wq1.heap.size, 0, none⟩) hHI.out.hb _, set_zero _ Hbxs.out, (hHI.out.own.kept (row := none) (below_grown HBs.out) (Classical.em _)).kept (grown_put _ ⟨wq1.heap.size, 0, none⟩ _) (.inr (fun e => hHI.out.ne (by simpa [Value.ownBlock] using e.symm))), sgn_flip (by rw [← HZ.out]; exact cmp_zero (HCZ.out.symm.trans hz0))⟩
        · go_wp2_with fail
          go_meet
          exact ⟨a2, hHI.out.low.trans (HBs.out.mono hHI.out.low.size), Hbxs.out, hHI.out.own.kept (row := none) (below_grown HBs.out) (Classical.em _), rfl⟩
      case rest =>
        obtain ⟨nb, hlowc, hboxc, hownc, hsg⟩ := hcut
        obtain ⟨W1, rfl⟩ : ∃ W1, W1 = wc := ⟨_, rfl⟩
        have hrdc := owns_any hownc (by simp)
        have HS1 : Hid (∀ w', Below W1.heap.size W1 w' → (w'.cell? ⟨w.heap.size, 0, none⟩ = some (.bool a1) ∧ w'.cell? ⟨w.heap.size, 1, none⟩ = some (.slice p1 l1 q1) ∧ w'.cell? ⟨w.heap.size, 2, none⟩ = some (.bool aa1) ∧ w'.cell? ⟨w.heap.size, 3, none⟩ = some (.slice pp1 ll1 qq1) ∧ w'.cell? ⟨w.heap.size + 1, 0, none⟩ = some (.bool a2) ∧ w'.cell? ⟨w.heap.size + 1, 1, none⟩ = some (.slice p2 W.length q2)) ∧ w'.cell? ⟨wq1.heap.size, 0, none⟩ = some (.bool nb) ∧ w'.cell? ⟨wq1.heap.size, 1, none⟩ = some (.slice (some ⟨gr, 0, none⟩) (W.length + j) (W.length + 3))) := hid (fun w' hb => ⟨HS0.out _ (bl_tr hlowc hb), (hb.cell (p := ⟨wq1.heap.size, 0, none⟩) (Array.getElem?_eq_some_iff.1 hboxc).1).trans ((cell_of_row _ _ 0 _ _ (0, 0) hboxc).trans rfl), (hb.cell (p := ⟨wq1.heap.size, 1, none⟩) (Array.getElem?_eq_some_iff.1 hboxc).1).trans ((cell_of_row _ _ 1 _ _ (0, 0) hboxc).trans rfl)⟩)
        have VA : Hid (∀ w', Below W1.heap.size W1 w' → Ai w' (.agg #[.bool a2, .slice p2 W.length q2]) z 8) := hid (fun w' hb => by rw [HZ.out]; exact lk_ai (VN.out _ (bl_tr hlowc hb)) HD.out HL.out)
        have VB : Hid (∀ w', Below W1.heap.size W1 w' → Ai w' (.agg #[.bool nb, .slice (some ⟨gr, 0, none⟩) (W.length + j) (W.length + 3)]) z 12) := hid (fun w' hb => by
          refine ⟨nb, _, _, W ++ List.replicate j 0, by simp, hrdc.below hb (Nat.le_refl _), dig_zeros HD.out j, by have := HL.out; simp; omega, ?_⟩
          rw [HZ.out, ← hsg, val_zeros])
        replace VR := hid (fun w' hb => VR.out w' (bl_tr hlowc hb))
        replace HT := hid (fun w' hb => HT.out w' (bl_tr hlowc hb))
        have HB1 := hid (HB0.out.trans (hlowc.mono HB0.out.size)); have HW1 := hid trivial
        have hf0 := Hf.out.1; have hf1 := Hf.out.2
        clear hlowc hboxc hownc hsg hrdc HS0 HB0 HW0 VN HWx1 hHI HBs Hbxs
        go_upto_region 12 with (fail)
        obtain ⟨kb, hkb⟩ : ∃ kb, kb = (ff % 2 == 0) := ⟨_, rfl⟩
        rw [← hkb]
        obtain ⟨kz, hkz⟩ : ∃ kz, kz = sgn kb (ff + 4294967296) := ⟨_, rfl⟩
        have hkz0 : kz ≠ 0 := by rw [hkz]; unfold sgn; split <;> omega
        obtain ⟨wk, hwk⟩ : ∃ wk, wk = W1.alloc (.cells #[.int .u32 ff, .int .u32 1] 53) := ⟨_, rfl⟩
        rw [← hwk]
        have hXk : Below W1.heap.size W1 wk := by rw [hwk]; exact bl_new _
        have hsk : wk.heap.size = W1.heap.size + 1 := by rw [hwk]; simp
        have Hk0 : Hid (Ai wk (.agg #[.bool kb, .slice (some ⟨W1.heap.size, 0, none⟩) 2 2]) kz 2) := hid (by
          refine ⟨kb, _, _, [ff, 1], rfl, ?_, by intro u hu; simp at hu; rcases hu with rfl | rfl <;> (unfold B32; omega), by simp, by rw [hkz]; simp [val, B32]⟩
          rw [hwk]
          exact owns_any (L := [ff, 1]) (World.ownsRow_lit (base := W1.heap.size) (size := 1) W1 #[.int .u32 ff, .int .u32 1] 2 (Nat.le_refl _) (by unfold maxLen; omega) rfl) rfl)
        have Hkz0 := hid hkz0
        rw [← hsk]
        clear hkb hkz hkz0 hwk hsk
        obtain ⟨W2, hW2⟩ : ∃ W, W = wk.alloc (.cells #[.bool kb, .slice (some ⟨W1.heap.size, 0, none⟩) 2 2] 24) := ⟨_, rfl⟩
        have hal2 : Below wk.heap.size wk W2 := by rw [hW2]; exact bl_new _
        have hXn2 : Below W1.heap.size W1 W2 := bl_tr hXk hal2
        have HS2 : Hid (∀ w', Below W2.heap.size W2 w' → ((w'.cell? ⟨w.heap.size, 0, none⟩ = some (.bool a1) ∧ w'.cell? ⟨w.heap.size, 1, none⟩ = some (.slice p1 l1 q1) ∧ w'.cell? ⟨w.heap.size, 2, none⟩ = some (.bool aa1) ∧ w'.cell? ⟨w.heap.size, 3, none⟩ = some (.slice pp1 ll1 qq1) ∧ w'.cell? ⟨w.heap.size + 1, 0, none⟩ = some (.bool a2) ∧ w'.cell? ⟨w.heap.size + 1, 1, none⟩ = some (.slice p2 W.length q2)) ∧ w'.cell? ⟨wq1.heap.size, 0, none⟩ = some (.bool nb) ∧ w'.cell? ⟨wq1.heap.size, 1, none⟩ = some (.slice (some ⟨gr, 0, none⟩) (W.length + j) (W.length + 3))) ∧ w'.cell? ⟨wk.heap.size, 0, none⟩ = some (.bool kb) ∧ w'.cell? ⟨wk.heap.size, 1, none⟩ = some (.slice (some ⟨W1.heap.size, 0, none⟩) 2 2)) := hid (fun w' hb => by
          refine ⟨HS1.out _ (bl_tr hXn2 hb), ?_, ?_⟩ <;> (rw [hb.cell (by rw [hW2]; simp), hW2]; simp [go_sem]))
        replace VR := hid (fun w' hb => VR.out w' (bl_tr hXn2 hb))
        replace VA := hid (fun w' hb => VA.out w' (bl_tr hXn2 hb))
        replace VB := hid (fun w' hb => VB.out w' (bl_tr hXn2 hb))
        replace HT := hid (fun w' hb => HT.out w' (bl_tr hXn2 hb))
        have VK : Hid (∀ w', Below W2.heap.size W2 w' → Ai w' (.agg #[.bool kb, .slice (some ⟨W1.heap.size, 0, none⟩) 2 2]) kz 2) := hid (fun w' hb => Hk0.out.below (bl_tr hal2 hb) (Nat.le_refl _))
        have HB2 := hid (HB1.out.trans (hXn2.mono HB1.out.size)); have HW2 := hid hW2
        clear hW2 hal2 hXn2 HS1 HB1 HW1
        rw [← HW2.out]
        have hbld : ∀ (b b2 : Bool) (o o2 : Option Addr) (m c m2 c2 : Nat) (w : World), (Instr.build 26 #[(0, .agg #[.bool b, .slice o m c]), (1, .agg #[.bool b2, .slice o2 m2 c2])]).run Tryz.prog w = .ok (.agg #[.bool b, .slice o m c, .bool b2, .slice o2 m2 c2]) w := fun b b2 o o2 m c m2 c2 w => by kernel_rfl
        have hX0 := Below.refl W2.heap.size W2
        have HKG : Hid (AllKeep [(false, (fun wq vq => vq = .pointer (some ⟨w.heap.size, 0, none⟩)), undef), (false, (fun wq vq => vq = .agg #[.bool a1, .slice p1 l1 q1]), undef), (false, (fun wq vq => vq = .agg #[.bool kb, .slice (some ⟨W1.heap.size, 0, none⟩) 2 2]), undef), (false, (fun wq vq => Ai wq vq (x * kz) (12)), undef), (false, (fun wq vq => vq = .pointer (some ⟨w.heap.size, 2, none⟩)), undef), (false, (fun wq vq => vq = .agg #[.bool aa1, .slice pp1 ll1 qq1]), undef), (false, (fun wq vq => vq = .agg #[.bool kb, .slice (some ⟨W1.heap.size, 0, none⟩) 2 2]), undef), (false, (fun wq vq => Ai wq vq (y * kz) (12)), undef), (false, (fun wq vq => Ra wq vq (x * kz) (y * kz) 12), undef)]) := hid ⟨kcV _, kcV _, kcV _, aiV _ _, kcV _, kcV _, kcV _, aiV _ _, raV _ _ _, trivial⟩
        refine region_inv (by kernel_rfl) (fun L act w' => ∃ f0 f1 f2 f3 f4 f5 f6 f7 f8 f9 f10, L = #[f0, f1, f2, f3, f4, f5, f6, f7, f8, f9, f10] ∧ (f10 = true → f9 = true ∧ f8 = true) ∧ ∃ s58 s59 s60 s61 s62 s63 s64 s65 s66 s12, act = { tmps := #[.agg #[.bool a1, .slice p1 l1 q1, .bool aa1, .slice pp1 ll1 qq1], .agg #[.bool a2, .slice p2 W.length q2], .int .u8 zz, .int .u32 ff, .pointer (some ⟨w.heap.size, 0, none⟩), .pointer (some ⟨w.heap.size + 1, 0, none⟩), undef, undef, .bool false, .bool true, .pointer (some ⟨wq1.heap.size, 0, none⟩), .pointer (some ⟨wk.heap.size, 0, none⟩), s12, undef, undef, undef, undef, undef, .bool true, .agg #[.bool a1, .slice p1 l1 q1, .bool aa1, .slice pp1 ll1 qq1], .int .i64 t1, .bool (decide (8 < t1)), .bool (decide (8 < t1)), .pointer (some ⟨w.heap.size + 1, 1, none⟩), .slice p2 W.length q2, .int .i64 (W.length : Int), .bool (decide (8 < (W.length : Int))), .bool (decide (8 < t1) || decide (8 < (W.length : Int))), .bool (decide (8 < t1) || decide (8 < (W.length : Int))), .bool true, .bool false, .bool (decide (8 < t1) || decide (8 < (W.length : Int))), undef, .agg #[.bool a2, .slice p2 W.length q2], .agg #[.bool a2, .slice (some ⟨gr, 0, none⟩) W.length (W.length + 3)], .int .u8 zz, .int .u8 (j : Int), .int .u8 (j : Int), .bool false, u39, u40, u41, u42, u43, u44, .agg #[.bool a2, .slice p2 W.length q2], .int .i64 cz, u47, u48, u49, u50, u51, .int .u32 ff, .int .u32 (ff % 2), .bool kb, .int .u32 ff, .slice (some ⟨W1.heap.size, 0, none⟩) 2 2, .agg #[.bool kb, .slice (some ⟨W1.heap.size, 0, none⟩) 2 2], s58, s59, s60, s61, s62, s63, s64, s65, s66, u67, u68, u69, u70, u71, u72, u73, u74, u75, u76, u77, u78, u79, u80, u81, u82, u83, u84, u85, u86, u87, u88, u89, u90, u91, u92, u93, u94, u95, u96, u97, u98, u99, u100, u101, u102, u103, u104, u105, u106, u107, u108, u109, u110, u111, u112, u113, u114, u115, u116, u117, u118, u119, u120, u121, u122, u123, u124, u125, u126, u127, u128, u129, u130, u131, u132, u133, u134, u135, u136, u137, u138], defers := [] } ∧ RX W2.heap.size W2 [(f0, (fun wq vq => vq = .pointer (some ⟨w.heap.size, 0, none⟩)), s58), (f1, (fun wq vq => vq = .agg #[.bool a1, .slice p1 l1 q1]), s59), (f2, (fun wq vq => vq = .agg #[.bool kb, .slice (some ⟨W1.heap.size, 0, none⟩) 2 2]), s60), (f3, (fun wq vq => Ai wq vq (x * kz) (12)), s61), (f4, (fun wq vq => vq = .pointer (some ⟨w.heap.size, 2, none⟩)), s62), (f5, (fun wq vq => vq = .agg #[.bool aa1, .slice pp1 ll1 qq1]), s63), (f6, (fun wq vq => vq = .agg #[.bool kb, .slice (some ⟨W1.heap.size, 0, none⟩) 2 2]), s64), (f7, (fun wq vq => Ai wq vq (y * kz) (12)), s65), (f8, (fun wq vq => Ra wq vq (x * kz) (y * kz) 12), s66)] [(4, f9, f10, s12, s66)] w') ?_ ?_ ?_
        · exact ⟨_, _, _, _, _, _, _, _, _, _, _, rfl, nofun, _, _, _, _, _, _, _, _, _, _, rfl, hX0.drew, hX0.size, ⟨nofun, nofun, nofun, nofun, nofun, nofun, nofun, nofun, nofun, trivial⟩, ⟨nofun, trivial⟩, ⟨trivial, trivial⟩⟩
        · rintro L act w' i hs ⟨f0, f1, f2, f3, f4, f5, f6, f7, f8, f9, f10, rfl, d0, s58, s59, s60, s61, s62, s63, s64, s65, s66, s12, rfl, J⟩ hi
          obtain ⟨hi, hn, hd⟩ := waits_spec (dep := [[], [0], [], [1, 2], [], [4], [], [5, 6, 3], [3, 7], [], [9, 8, 7]]) (by kernel_rfl) hi
          have hiN : i < 11 := hi
          obtain ⟨⟨⟨k0, k1, k2, k3, k4, k5⟩, k6, k7⟩, k8, k9⟩ := HS2.out w' J.bel
          have HJ := hid J
          rcases (show i = 0 ∨ i = 1 ∨ i = 2 ∨ i = 3 ∨ i = 4 ∨ i = 5 ∨ i = 6 ∨ i = 7 ∨ i = 8 ∨ i = 9 ∨ i = 10 by omega) with rfl | rfl | rfl | rfl | rfl | rfl | rfl | rfl | rfl | rfl | rfl
          · clear J hd hi hiN hn
            refine wpOp_step rfl (fun kq hKq => ?_)
            go_simp
            exact hKq _ _ ⟨true, f1, f2, f3, f4, f5, f6, f7, f8, f9, f10, rfl, d0, _, _, _, _, _, _, _, _, _, _, rfl, HJ.out.bel, HJ.out.siz, ⟨fun _ => rfl, HJ.out.vals.2.1, HJ.out.vals.2.2.1, HJ.out.vals.2.2.2.1, HJ.out.vals.2.2.2.2.1, HJ.out.vals.2.2.2.2.2.1, HJ.out.vals.2.2.2.2.2.2.1, HJ.out.vals.2.2.2.2.2.2.2.1, HJ.out.vals.2.2.2.2.2.2.2.2.1, trivial⟩, ⟨HJ.out.boxes.1, trivial⟩, HJ.out.ne⟩
          · have e58 : s58 = .pointer (some ⟨w.heap.size, 0, none⟩) := J.vals.1 (hd 0 (by simp))
            subst e58
            clear J hd hi hiN hn
            refine wpOp_step rfl (fun kq hKq => ?_)
            go_simp
            exact hKq _ _ ⟨f0, true, f2, f3, f4, f5, f6, f7, f8, f9, f10, rfl, d0, _, _, _, _, _, _, _, _, _, _, rfl, HJ.out.bel, HJ.out.siz, ⟨HJ.out.vals.1, fun _ => rfl, HJ.out.vals.2.2.1, HJ.out.vals.2.2.2.1, HJ.out.vals.2.2.2.2.1, HJ.out.vals.2.2.2.2.2.1, HJ.out.vals.2.2.2.2.2.2.1, HJ.out.vals.2.2.2.2.2.2.2.1, HJ.out.vals.2.2.2.2.2.2.2.2.1, trivial⟩, ⟨HJ.out.boxes.1, trivial⟩, HJ.out.ne⟩
          · clear J hd hi hiN hn
            refine wpOp_step rfl (fun kq hKq => ?_)
            go_simp
            exact hKq _ _ ⟨f0, f1, true, f3, f4, f5, f6, f7, f8, f9, f10, rfl, d0, _, _, _, _, _, _, _, _, _, _, rfl, HJ.out.bel, HJ.out.siz, ⟨HJ.out.vals.1, HJ.out.vals.2.1, fun _ => rfl, HJ.out.vals.2.2.2.1, HJ.out.vals.2.2.2.2.1, HJ.out.vals.2.2.2.2.2.1, HJ.out.vals.2.2.2.2.2.2.1, HJ.out.vals.2.2.2.2.2.2.2.1, HJ.out.vals.2.2.2.2.2.2.2.2.1, trivial⟩, ⟨HJ.out.boxes.1, trivial⟩, HJ.out.ne⟩
          · obtain rfl : f3 = false := hn
            have e59 : s59 = .agg #[.bool a1, .slice p1 l1 q1] := J.vals.2.1 (hd 1 (by simp))
            subst e59
            have e60 : s60 = .agg #[.bool kb, .slice (some ⟨W1.heap.size, 0, none⟩) 2 2] := J.vals.2.2.1 (hd 2 (by simp))
            subst e60
            have hw := J.bel
            clear J hd hi hiN
            refine wpOp_step rfl (fun kq hKq => ?_)
            go_simp
            refine (mul_z _ _ x kz _ 8 2 12 _ (VR.out _ hw).num (VK.out _ hw) rfl (by omega) (by omega) (by omega)).mono ?_
            rintro e wz ⟨zb, zo, zm, zc, rfl, HZq, hb⟩
            have J2 := RX.step HJ.out HKG.out hb
            exact hKq _ _ ⟨f0, f1, f2, true, f4, f5, f6, f7, f8, f9, f10, rfl, d0, _, _, _, _, _, _, _, _, _, _, rfl, J2.bel, J2.siz, ⟨J2.vals.1, J2.vals.2.1, J2.vals.2.2.1, fun _ => HZq.out, J2.vals.2.2.2.2.1, J2.vals.2.2.2.2.2.1, J2.vals.2.2.2.2.2.2.1, J2.vals.2.2.2.2.2.2.2.1, J2.vals.2.2.2.2.2.2.2.2.1, trivial⟩, ⟨J2.boxes.1, trivial⟩, J2.ne⟩
          · clear J hd hi hiN hn
            refine wpOp_step rfl (fun kq hKq => ?_)
            go_simp
            exact hKq _ _ ⟨f0, f1, f2, f3, true, f5, f6, f7, f8, f9, f10, rfl, d0, _, _, _, _, _, _, _, _, _, _, rfl, HJ.out.bel, HJ.out.siz, ⟨HJ.out.vals.1, HJ.out.vals.2.1, HJ.out.vals.2.2.1, HJ.out.vals.2.2.2.1, fun _ => rfl, HJ.out.vals.2.2.2.2.2.1, HJ.out.vals.2.2.2.2.2.2.1, HJ.out.vals.2.2.2.2.2.2.2.1, HJ.out.vals.2.2.2.2.2.2.2.2.1, trivial⟩, ⟨HJ.out.boxes.1, trivial⟩, HJ.out.ne⟩
          · have e62 : s62 = .pointer (some ⟨w.heap.size, 2, none⟩) := J.vals.2.2.2.2.1 (hd 4 (by simp))
            subst e62
            clear J hd hi hiN hn
            refine wpOp_step rfl (fun kq hKq => ?_)
            go_simp
            exact hKq _ _ ⟨f0, f1, f2, f3, f4, true, f6, f7, f8, f9, f10, rfl, d0, _, _, _, _, _, _, _, _, _, _, rfl, HJ.out.bel, HJ.out.siz, ⟨HJ.out.vals.1, HJ.out.vals.2.1, HJ.out.vals.2.2.1, HJ.out.vals.2.2.2.1, HJ.out.vals.2.2.2.2.1, fun _ => rfl, HJ.out.vals.2.2.2.2.2.2.1, HJ.out.vals.2.2.2.2.2.2.2.1, HJ.out.vals.2.2.2.2.2.2.2.2.1, trivial⟩, ⟨HJ.out.boxes.1, trivial⟩, HJ.out.ne⟩
          · clear J hd hi hiN hn
            refine wpOp_step rfl (fun kq hKq => ?_)
            go_simp
            exact hKq _ _ ⟨f0, f1, f2, f3, f4, f5, true, f7, f8, f9, f10, rfl, d0, _, _, _, _, _, _, _, _, _, _, rfl, HJ.out.bel, HJ.out.siz, ⟨HJ.out.vals.1, HJ.out.vals.2.1, HJ.out.vals.2.2.1, HJ.out.vals.2.2.2.1, HJ.out.vals.2.2.2.2.1, HJ.out.vals.2.2.2.2.2.1, fun _ => rfl, HJ.out.vals.2.2.2.2.2.2.2.1, HJ.out.vals.2.2.2.2.2.2.2.2.1, trivial⟩, ⟨HJ.out.boxes.1, trivial⟩, HJ.out.ne⟩
          · obtain rfl : f7 = false := hn
            have e63 : s63 = .agg #[.bool aa1, .slice pp1 ll1 qq1] := J.vals.2.2.2.2.2.1 (hd 5 (by simp))
            subst e63
            have e64 : s64 = .agg #[.bool kb, .slice (some ⟨W1.heap.size, 0, none⟩) 2 2] := J.vals.2.2.2.2.2.2.1 (hd 6 (by simp))
            subst e64
            have hw := J.bel
            clear J hd hi hiN
            refine wpOp_step rfl (fun kq hKq => ?_)
            go_simp
            refine (mul_z _ _ y kz _ 8 2 12 _ (VR.out _ hw).den (VK.out _ hw) rfl (by omega) (by omega) (by omega)).mono ?_
            rintro e wz ⟨zb, zo, zm, zc, rfl, HZq, hb⟩
            have J2 := RX.step HJ.out HKG.out hb
            exact hKq _ _ ⟨f0, f1, f2, f3, f4, f5, f6, true, f8, f9, f10, rfl, d0, _, _, _, _, _, _, _, _, _, _, rfl, J2.bel, J2.siz, ⟨J2.vals.1, J2.vals.2.1, J2.vals.2.2.1, J2.vals.2.2.2.1, J2.vals.2.2.2.2.1, J2.vals.2.2.2.2.2.1, J2.vals.2.2.2.2.2.2.1, fun _ => HZq.out, J2.vals.2.2.2.2.2.2.2.2.1, trivial⟩, ⟨J2.boxes.1, trivial⟩, J2.ne⟩
          · obtain rfl : f8 = false := hn
            obtain rfl : f10 = false := by cases f10 with | false => rfl | true => exact absurd (d0 rfl).2 (by simp)
            have h61 : (fun wq vq => Ai wq vq (x * kz) (12)) w' s61 := J.vals.2.2.2.1 (hd 3 (by simp))
            have h65 : (fun wq vq => Ai wq vq (y * kz) (12)) w' s65 := J.vals.2.2.2.2.2.2.2.1 (hd 7 (by simp))
            clear J hd hi hiN d0
            obtain ⟨b61, o61, m61, c61, rfl, H61⟩ := Ai.opened h61
            obtain ⟨b65, o65, m65, c65, rfl, H65⟩ := Ai.opened h65
            refine wpOp_step rfl (fun kq hKq => ?_)
            go_simp
            exact hKq _ _ ⟨f0, f1, f2, f3, f4, f5, f6, f7, true, f9, false, rfl, nofun, _, _, _, _, _, _, _, _, _, _, rfl, HJ.out.bel, HJ.out.siz, ⟨HJ.out.vals.1, HJ.out.vals.2.1, HJ.out.vals.2.2.1, HJ.out.vals.2.2.2.1, HJ.out.vals.2.2.2.2.1, HJ.out.vals.2.2.2.2.2.1, HJ.out.vals.2.2.2.2.2.2.1, HJ.out.vals.2.2.2.2.2.2.2.1, fun _ => ⟨b61, o61, m61, c61, b65, o65, m65, c65, rfl, H61.out _ (Below.refl _ _), H65.out _ (Below.refl _ _)⟩, trivial⟩, ⟨fun e => (HJ.out.boxes.1 e).fresh, trivial⟩, HJ.out.ne⟩
          · obtain rfl : f9 = false := hn
            obtain rfl : f10 = false := by cases f10 with | false => rfl | true => exact absurd (d0 rfl).1 (by simp)
            clear J hd hi hiN d0
            refine wpOp_step rfl (fun kq hKq => ?_)
            go_simp
            have J2 := RX.step HJ.out HKG.out (bl_new (w := w') (.cells #[.bool false, .slice none 0 0, .bool false, .slice none 0 0] 26))
            exact hKq _ _ ⟨f0, f1, f2, f3, f4, f5, f6, f7, f8, true, false, rfl, nofun, _, _, _, _, _, _, _, _, _, _, rfl, J2.bel, J2.siz, J2.vals, ⟨fun _ => boxn_new _ w' _ _ [.bool false, .slice none 0 0, .bool false, .slice none 0 0] (by intro i k x hi; match i, hi with | 0, _ => nofun | 1, _ => nofun | 2, _ => nofun | 3, _ => nofun) HJ.out.siz, trivial⟩, ⟨trivial, trivial⟩⟩
          · obtain rfl : f9 = true := hd 9 (by simp)
            obtain rfl : f8 = true := hd 8 (by simp)
            obtain ⟨sb, so, sm, sc, tb, tp, tm, tc, rfl, _⟩ := Ra.opened (J.vals.2.2.2.2.2.2.2.2.1 rfl)
            have HBX : Hid _ := hid (J.boxes.1 rfl)
            obtain ⟨p, vs, rfl, hp, hl, hnn, hc, hf, _⟩ := J.boxes.1 rfl
            have cc0 := hc 0 (by decide)
            have ff0 := hf 0 (by decide)
            have cc1 := hc 1 (by decide)
            have ff1 := hf 1 (by decide)
            have cc2 := hc 2 (by decide)
            have ff2 := hf 2 (by decide)
            have cc3 := hc 3 (by decide)
            have ff3 := hf 3 (by decide)
            clear J hd hi hiN hn hc hf hnn hl
            refine wpOp_step rfl (fun kq hKq => ?_)
            go_simp
            exact hKq _ _ ⟨f0, f1, f2, f3, f4, f5, f6, f7, true, true, true, rfl, fun _ => ⟨rfl, rfl⟩, _, _, _, _, _, _, _, _, _, _, rfl, below_setCells hp [.bool sb, .slice so sm sc, .bool tb, .slice tp tm tc] 0 HJ.out.bel, Nat.le_trans HJ.out.siz (Nat.le_of_eq (size_setCells p [.bool sb, .slice so sm sc, .bool tb, .slice tp tm tc] 0 w').symm), Vals.keep HKG.out (BoxN.keeps HBX.out (us := [.bool sb, .slice so sm sc, .bool tb, .slice tp tm tc]) rfl) HJ.out.vals, ⟨fun _ => BoxN.store HBX.out [.bool sb, .slice so sm sc, .bool tb, .slice tp tm tc] rfl (by intro i k x hi; match i, hi with | 0, _ => nofun | 1, _ => nofun | 2, _ => nofun | 3, _ => nofun), trivial⟩, HJ.out.ne⟩
        rintro L act w' hs ⟨f0, f1, f2, f3, f4, f5, f6, f7, f8, f9, f10, rfl, _, s58, s59, s60, s61, s62, s63, s64, s65, s66, s12, rfl, J⟩ hr
        have hd := early_done (by kernel_rfl) hs hr 11
        obtain rfl : f0 = true := hd 0 (by omega) (by simp)
        obtain rfl : f1 = true := hd 1 (by omega) (by simp)
        obtain rfl : f2 = true := hd 2 (by omega) (by simp)
        obtain rfl : f3 = true := hd 3 (by omega) (by simp)
        obtain rfl : f4 = true := hd 4 (by omega) (by simp)
        obtain rfl : f5 = true := hd 5 (by omega) (by simp)
        obtain rfl : f6 = true := hd 6 (by omega) (by simp)
        obtain rfl : f7 = true := hd 7 (by omega) (by simp)
        obtain rfl : f8 = true := hd 8 (by omega) (by simp)
        obtain rfl : f9 = true := hd 9 (by omega) (by simp)
        obtain rfl : f10 = true := hd 10 (by omega) (by simp)
        have e58 : s58 = .pointer (some ⟨w.heap.size, 0, none⟩) := J.vals.1 rfl
        subst e58
        have e59 : s59 = .agg #[.bool a1, .slice p1 l1 q1] := J.vals.2.1 rfl
        subst e59
        have e60 : s60 = .agg #[.bool kb, .slice (some ⟨W1.heap.size, 0, none⟩) 2 2] := J.vals.2.2.1 rfl
        subst e60
        have e62 : s62 = .pointer (some ⟨w.heap.size, 2, none⟩) := J.vals.2.2.2.2.1 rfl
        subst e62
        have e63 : s63 = .agg #[.bool aa1, .slice pp1 ll1 qq1] := J.vals.2.2.2.2.2.1 rfl
        subst e63
        have e64 : s64 = .agg #[.bool kb, .slice (some ⟨W1.heap.size, 0, none⟩) 2 2] := J.vals.2.2.2.2.2.2.1 rfl
        subst e64
        have hg12 : (fun wq vq => Ra wq vq (x * kz) (y * kz) 12) w' s66 := J.vals.2.2.2.2.2.2.2.2.1 rfl
        obtain ⟨sb, so, sm, sc, tb, tp, tm, tc, rfl, _⟩ := Ra.opened hg12
        obtain ⟨p12, rfl, hp12, hl12, hc12⟩ := BoxN.done (us := [.bool sb, .slice so sm sc, .bool tb, .slice tp tm tc]) (J.boxes.1 rfl)
        have k12_0 : w'.cell? ⟨p12, 0, none⟩ = some (.bool sb) := (hc12 0 (by decide)).1
        have k12_1 : w'.cell? ⟨p12, 1, none⟩ = some (.slice so sm sc) := (hc12 1 (by decide)).1
        have k12_2 : w'.cell? ⟨p12, 2, none⟩ = some (.bool tb) := (hc12 2 (by decide)).1
        have k12_3 : w'.cell? ⟨p12, 3, none⟩ = some (.slice tp tm tc) := (hc12 3 (by decide)).1
        clear hc12
        have hbel := J.bel
        have hsiz := J.siz
        have hv61 : (fun wq vq => Ai wq vq (x * kz) (12)) w' s61 := J.vals.2.2.2.1 rfl
        have hv65 : (fun wq vq => Ai wq vq (y * kz) (12)) w' s65 := J.vals.2.2.2.2.2.2.2.1 rfl
        clear hd hr hs J
        obtain ⟨W3, rfl⟩ : ∃ W3, W3 = w' := ⟨_, rfl⟩
        have HS3 : Hid (∀ w', Below W3.heap.size W3 w' → (((w'.cell? ⟨w.heap.size, 0, none⟩ = some (.bool a1) ∧ w'.cell? ⟨w.heap.size, 1, none⟩ = some (.slice p1 l1 q1) ∧ w'.cell? ⟨w.heap.size, 2, none⟩ = some (.bool aa1) ∧ w'.cell? ⟨w.heap.size, 3, none⟩ = some (.slice pp1 ll1 qq1) ∧ w'.cell? ⟨w.heap.size + 1, 0, none⟩ = some (.bool a2) ∧ w'.cell? ⟨w.heap.size + 1, 1, none⟩ = some (.slice p2 W.length q2)) ∧ w'.cell? ⟨wq1.heap.size, 0, none⟩ = some (.bool nb) ∧ w'.cell? ⟨wq1.heap.size, 1, none⟩ = some (.slice (some ⟨gr, 0, none⟩) (W.length + j) (W.length + 3))) ∧ w'.cell? ⟨wk.heap.size, 0, none⟩ = some (.bool kb) ∧ w'.cell? ⟨wk.heap.size, 1, none⟩ = some (.slice (some ⟨W1.heap.size, 0, none⟩) 2 2)) ∧ w'.cell? ⟨p12, 0, none⟩ = some (.bool sb) ∧ w'.cell? ⟨p12, 1, none⟩ = some (.slice so sm sc) ∧ w'.cell? ⟨p12, 2, none⟩ = some (.bool tb) ∧ w'.cell? ⟨p12, 3, none⟩ = some (.slice tp tm tc)) := hid (fun w' hb => ⟨HS2.out _ (bl_tr hbel hb), (hb.cell (p := ⟨p12, 0, none⟩) hl12).trans k12_0, (hb.cell (p := ⟨p12, 1, none⟩) hl12).trans k12_1, (hb.cell (p := ⟨p12, 2, none⟩) hl12).trans k12_2, (hb.cell (p := ⟨p12, 3, none⟩) hl12).trans k12_3⟩)
        have VQ : Hid (∀ w', Below W3.heap.size W3 w' → Rv w' (.agg #[.bool a1, .slice p1 l1 q1, .bool aa1, .slice pp1 ll1 qq1]) (rn x y) (rd y) 8) := hid (fun w' hb => ⟨rd_pos y, x, y, VR.out w' (bl_tr hbel hb), rfl⟩)
        have VS : Hid (∀ w', Below W3.heap.size W3 w' → Rv w' (.agg #[.bool sb, .slice so sm sc, .bool tb, .slice tp tm tc]) (rn x y) (rd y) 12) := hid (fun w' hb => ⟨rd_pos y, x * kz, y * kz, Ra.below hg12 hb (Nat.le_refl _), ra_scale x y kz Hkz0.out⟩)
        replace VA := hid (fun w' hb => VA.out w' (bl_tr hbel hb))
        replace VB := hid (fun w' hb => VB.out w' (bl_tr hbel hb))
        replace HT := hid (fun w' hb => HT.out w' (bl_tr hbel hb))
        obtain ⟨n, hn⟩ : ∃ n, n = rn x y := ⟨_, rfl⟩
        obtain ⟨d, hd⟩ : ∃ d, d = rd y := ⟨_, rfl⟩
        have hd0 : 0 < d := by rw [hd]; exact rd_pos y
        rw [← hn, ← hd] at VQ VS
        obtain ⟨dt, hdt⟩ : ∃ dt, dt = dcT ((n * 10 ^ 3 * 2 + d).fdiv (d * 2)) 3 := ⟨_, rfl⟩
        obtain ⟨sh, hsh⟩ : ∃ sh, sh = shT (lowN n d) (lowD n d) := ⟨_, rfl⟩
        obtain ⟨tt, htt⟩ : ∃ tt, tt = tx z := ⟨_, rfl⟩
        have HD1 : Hid (∀ w', Below W3.heap.size W3 w' → Calls Tryz.prog 13 #[.agg #[.bool a1, .slice p1 l1 q1, .bool aa1, .slice pp1 ll1 qq1], .int .i64 3] w' fun e w2 => e = .returned (.tuple #[.string dt, .int .i64 0]) ∧ Below w'.heap.size w' w2) := hid (fun w' hb => by rw [hdt]; exact Decimal_rv _ n d 8 3 _ (VQ.out _ hb) (by omega) (by omega) (HT.out _ hb))
        have HD2 : Hid (∀ w', Below W3.heap.size W3 w' → Calls Tryz.prog 13 #[.agg #[.bool sb, .slice so sm sc, .bool tb, .slice tp tm tc], .int .i64 3] w' fun e w2 => e = .returned (.tuple #[.string dt, .int .i64 0]) ∧ Below w'.heap.size w' w2) := hid (fun w' hb => by rw [hdt]; exact Decimal_rv _ n d 12 3 _ (VS.out _ hb) (by omega) (by omega) (HT.out _ hb))
        have HX1 : Hid (∀ w', Below W3.heap.size W3 w' → Calls Tryz.prog 23 #[.agg #[.bool a2, .slice p2 W.length q2]] w' fun e w2 => e = .returned (.string tt) ∧ Below w'.heap.size w' w2) := hid (fun w' hb => by rw [htt]; exact Text_all z 8 _ _ (VA.out _ hb) (by omega) (HT.out _ hb))
        have HX2 : Hid (∀ w', Below W3.heap.size W3 w' → Calls Tryz.prog 23 #[.agg #[.bool nb, .slice (some ⟨gr, 0, none⟩) (W.length + j) (W.length + 3)]] w' fun e w2 => e = .returned (.string tt) ∧ Below w'.heap.size w' w2) := hid (fun w' hb => by rw [htt]; exact Text_all z 12 _ _ (VB.out _ hb) (by omega) (HT.out _ hb))
        have HH1 : Hid (∀ w', Below W3.heap.size W3 w' → Calls Tryz.prog 17 #[.agg #[.bool a1, .slice p1 l1 q1, .bool aa1, .slice pp1 ll1 qq1]] w' fun e w2 => e = .returned (.string sh) ∧ Below w'.heap.size w' w2) := hid (fun w' hb => by rw [hsh]; exact Show_rv _ n d 8 _ (VQ.out _ hb) (by omega) (HT.out _ hb))
        have HH2 : Hid (∀ w', Below W3.heap.size W3 w' → Calls Tryz.prog 17 #[.agg #[.bool sb, .slice so sm sc, .bool tb, .slice tp tm tc]] w' fun e w2 => e = .returned (.string sh) ∧ Below w'.heap.size w' w2) := hid (fun w' hb => by rw [hsh]; exact Show_rv _ n d 12 _ (VS.out _ hb) (by omega) (HT.out _ hb))
        have HH3 : Hid (∀ w' v', Below W3.heap.size W3 w' → Rv w' v' n d 14 → Calls Tryz.prog 17 #[v'] w' fun e w2 => e = .returned (.string sh) ∧ Below w'.heap.size w' w2) := hid (fun w' v' hb hv => by rw [hsh]; exact Show_rv _ n d 14 _ hv (by omega) (HT.out _ hb))
        have HB3 := hid (HB2.out.trans (hbel.mono HB2.out.size)); have Hd0 := hid hd0
        clear HS2 HB2 HW2 VK VR hbld hX0 hbel hsiz hp12 hl12 k12_0 k12_1 k12_2 k12_3 hg12 hn hd hd0 hdt hsh htt HKG
        have hX0 := Below.refl W3.heap.size W3
        go_upto_region 13 with (fail)
        obtain ⟨⟨⟨⟨k0, k1, k2, k3, k4, k5⟩, k6, k7⟩, k8, k9⟩, k10, k11, k12, k13⟩ := HS3.out _ hX0
        go_wp2_with fail
        refine (HD1.out _ hX0).mono ?_
        rintro e wd ⟨rfl, hbd⟩
        clear k0 k1 k2 k3 k4 k5 k6 k7 k8 k9 k10 k11 k12 k13
        go_upto_region 14 with (fail)
        obtain ⟨⟨⟨⟨k0, k1, k2, k3, k4, k5⟩, k6, k7⟩, k8, k9⟩, k10, k11, k12, k13⟩ := HS3.out _ hbd
        go_wp2_with fail
        refine (HD2.out _ hbd).mono ?_
        rintro e we ⟨rfl, hbe⟩
        clear k0 k1 k2 k3 k4 k5 k6 k7 k8 k9 k10 k11 k12 k13
        have hYe := bl_tr hbd hbe
        clear hX0 hbd hbe HD1 HD2
        go_upto_region 15 with (fail)
        have tk1 := hid trivial
        have tk2 := hid trivial
        have tk3 := hid trivial
        have tk4 := hid trivial
        have tk5 := hid trivial
        have tk6 := hid trivial
        have tk7 := hid trivial
        have tk8 := hid trivial
        go_region_held3 (fun w' => (((w'.cell? ⟨w.heap.size, 0, none⟩ = some (.bool a1) ∧ w'.cell? ⟨w.heap.size, 1, none⟩ = some (.slice p1 l1 q1) ∧ w'.cell? ⟨w.heap.size, 2, none⟩ = some (.bool aa1) ∧ w'.cell? ⟨w.heap.size, 3, none⟩ = some (.slice pp1 ll1 qq1) ∧ w'.cell? ⟨w.heap.size + 1, 0, none⟩ = some (.bool a2) ∧ w'.cell? ⟨w.heap.size + 1, 1, none⟩ = some (.slice p2 W.length q2)) ∧ w'.cell? ⟨wq1.heap.size, 0, none⟩ = some (.bool nb) ∧ w'.cell? ⟨wq1.heap.size, 1, none⟩ = some (.slice (some ⟨gr, 0, none⟩) (W.length + j) (W.length + 3))) ∧ w'.cell? ⟨wk.heap.size, 0, none⟩ = some (.bool kb) ∧ w'.cell? ⟨wk.heap.size, 1, none⟩ = some (.slice (some ⟨W1.heap.size, 0, none⟩) 2 2)) ∧ w'.cell? ⟨p12, 0, none⟩ = some (.bool sb) ∧ w'.cell? ⟨p12, 1, none⟩ = some (.slice so sm sc) ∧ w'.cell? ⟨p12, 2, none⟩ = some (.bool tb) ∧ w'.cell? ⟨p12, 3, none⟩ = some (.slice tp tm tc)) ((refine HS3.out _ ?_; first | assumption | exact Below.drew (by assumption))) (first
            | (clear tk1; go_at_call 23; refine (HX1.out _ hYe.drew).mono ?_; rintro e v1 ⟨rfl, hbq⟩; have hY1 : Below W3.heap.size W3 v1 := (hYe.drew).trans (hbq.mono (hYe.drew).size))
            | (clear tk2; go_at_call 23; refine (HX2.out _ hY1).mono ?_; rintro e v2 ⟨rfl, hbq⟩; have hY2 : Below W3.heap.size W3 v2 := (hY1).trans (hbq.mono (hY1).size))
            | (clear tk3; go_at_call 44; refine (equal_z _ _ z z 12 _ ((VA.out _ hY2).mono (by omega)) (VB.out _ hY2) rfl (by omega)).mono ?_; rintro e v3 ⟨rfl, hbq⟩; have hY3 : Below W3.heap.size W3 v3 := (hY2).trans (hbq.mono (hY2).size))
            | (clear tk4; go_at_call 43; refine (mul_z _ _ z z _ 8 12 24 _ (VA.out _ hY3) (VB.out _ hY3) rfl (by omega) (by omega) (by omega)).mono ?_; rintro e v4 ⟨b4, o4, m4, c4, rfl, H4, hbq⟩; have hY4 : Below W3.heap.size W3 v4 := (hY3).trans (hbq.mono (hY3).size))
            | (clear tk5; go_at_call 43; refine (mul_z _ _ z z _ 8 8 24 _ (VA.out _ hY4) (VA.out _ hY4) rfl (by omega) (by omega) (by omega)).mono ?_; rintro e v5 ⟨b5, o5, m5, c5, rfl, H5, hbq5⟩; have hY5 : Below W3.heap.size W3 v5 := (hY4).trans (hbq5.mono (hY4).size))
            | (clear tk6; go_at_call 44; refine (equal_z _ _ _ _ 24 _ (Ai.below H4.out (hbq5) (Nat.le_refl _)) H5.out rfl (by omega)).mono ?_; rintro e v6 ⟨rfl, hbq⟩; have hY6 : Below W3.heap.size W3 v6 := (hY5).trans (hbq.mono (hY5).size))
            | (clear tk7; go_at_call 42; refine (sign_z _ z cz 8 _ (VA.out _ hY6) HCZ.out.symm (by omega)).mono ?_; rintro e v7 ⟨rfl, hbq⟩; have hY7 : Below W3.heap.size W3 v7 := (hY6).trans (hbq.mono (hY6).size))
            | (clear tk8; go_at_call 42; refine (sign_z _ z cz 12 _ (VB.out _ hY7) HCZ.out.symm (by omega)).mono ?_; rintro e v8 ⟨rfl, hbq⟩; have hY8 : Below W3.heap.size W3 v8 := (hY7).trans (hbq.mono (hY7).size)))
        clear hY1 hY2 hY3 hY4 hY5 hY6 hY7
        go_upto_region 16 with (fail)
        have tl1 := hid trivial
        have tl2 := hid trivial
        have tl3 := hid trivial
        have tl4 := hid trivial
        have tl5 := hid trivial
        have tl6 := hid trivial
        have tl7 := hid trivial
        have tl8 := hid trivial
        have tl9 := hid trivial
        go_region_held3 (fun w' => (((w'.cell? ⟨w.heap.size, 0, none⟩ = some (.bool a1) ∧ w'.cell? ⟨w.heap.size, 1, none⟩ = some (.slice p1 l1 q1) ∧ w'.cell? ⟨w.heap.size, 2, none⟩ = some (.bool aa1) ∧ w'.cell? ⟨w.heap.size, 3, none⟩ = some (.slice pp1 ll1 qq1) ∧ w'.cell? ⟨w.heap.size + 1, 0, none⟩ = some (.bool a2) ∧ w'.cell? ⟨w.heap.size + 1, 1, none⟩ = some (.slice p2 W.length q2)) ∧ w'.cell? ⟨wq1.heap.size, 0, none⟩ = some (.bool nb) ∧ w'.cell? ⟨wq1.heap.size, 1, none⟩ = some (.slice (some ⟨gr, 0, none⟩) (W.length + j) (W.length + 3))) ∧ w'.cell? ⟨wk.heap.size, 0, none⟩ = some (.bool kb) ∧ w'.cell? ⟨wk.heap.size, 1, none⟩ = some (.slice (some ⟨W1.heap.size, 0, none⟩) 2 2)) ∧ w'.cell? ⟨p12, 0, none⟩ = some (.bool sb) ∧ w'.cell? ⟨p12, 1, none⟩ = some (.slice so sm sc) ∧ w'.cell? ⟨p12, 2, none⟩ = some (.bool tb) ∧ w'.cell? ⟨p12, 3, none⟩ = some (.slice tp tm tc)) ((refine HS3.out _ ?_; first | assumption | exact Below.drew (by assumption))) (first
            | (clear tl1; go_at_call 34; refine (same_rv _ _ n d n d 12 _ ((VQ.out _ hY8.drew).mono (by omega)) (VS.out _ hY8.drew) rfl (by omega)).mono ?_; rintro e y1 ⟨rfl, hbq⟩; have hZ1 : Below W3.heap.size W3 y1 := (hY8.drew).trans (hbq.mono (hY8.drew).size))
            | (clear tl2; go_at_call 17; refine (HH1.out _ hZ1).mono ?_; rintro e y2 ⟨rfl, hbq⟩; have hZ2 : Below W3.heap.size W3 y2 := (hZ1).trans (hbq.mono (hZ1).size))
            | (clear tl3; go_at_call 17; refine (HH2.out _ hZ2).mono ?_; rintro e y3 ⟨rfl, hbq⟩; have hZ3 : Below W3.heap.size W3 y3 := (hZ2).trans (hbq.mono (hZ2).size))
            | (clear tl4; go_at_call 24; refine (Lowest_rv _ n d 12 14 _ (VS.out _ hZ3) (by omega) (by omega)).mono ?_; rintro e y4 ⟨NL, DL, b14, o14, m14, c14, bb14, oo14, mm14, cc14, ⟨hLp, hLe⟩, rfl, H14, hbq⟩; have hZ4 : Below W3.heap.size W3 y4 := (hZ3).trans (hbq.mono (hZ3).size))
            | (clear tl5; go_at_call 17; refine (HH3.out _ _ hZ4 (ra_rv2 H14.out hLp Hd0.out hLe)).mono ?_; rintro e y5 ⟨rfl, hbq⟩; have hZ5 : Below W3.heap.size W3 y5 := (hZ4).trans (hbq.mono (hZ4).size))
            | (clear tl6; go_at_call 17; refine (HH1.out _ hZ5).mono ?_; rintro e y6 ⟨rfl, hbq⟩; have hZ6 : Below W3.heap.size W3 y6 := (hZ5).trans (hbq.mono (hZ5).size))
            | (clear tl7; go_at_call 28; refine (Floor_rv _ n d 8 18 _ (VQ.out _ hZ6) (by omega) (by omega)).mono ?_; rintro e y7 ⟨b7, o7, m7, c7, rfl, H7, hbq⟩; have hZ7 : Below W3.heap.size W3 y7 := (hZ6).trans (hbq.mono (hZ6).size))
            | (clear tl8; go_at_call 28; refine (Floor_rv _ n d 12 18 _ (VS.out _ hZ7) (by omega) (by omega)).mono ?_; rintro e y8 ⟨b8, o8, m8, c8, rfl, H8, hbf8⟩; have hZ8 : Below W3.heap.size W3 y8 := (hZ7).trans (hbf8.mono (hZ7).size))
            | (clear tl9; go_at_call 44; refine (equal_z _ _ _ _ 18 _ (Ai.below H7.out hbf8 (Nat.le_refl _)) H8.out rfl (by omega)).mono ?_; rintro e y9 ⟨rfl, hbq⟩; have hZ9 : Below W3.heap.size W3 y9 := (hZ8).trans (hbq.mono (hZ8).size)))
        go_wp2
        go_ret
        exact ⟨rfl, HB3.out.trans (hZ9.mono HB3.out.size)⟩
end Go.Proofs.YtilpkocmdpofpaaGreatDoor
