/- The document's own integers: SameWords, Int, SameInt, LikeInt, NoInt. The document's own integers: SameInt, LikeInt; the law's spoil. The document's ratios, the parts that the laws use: NoInt, None, Same, Whole; isRatio and spoilRatio of the laws. The law's own: an integer in memory of its own. exact.Cmp. Written by gen_cmp.py. The law ExactInts. Written by gen_ints.py. exact.Over: the ratio of two numbers of 64 bits, or ErrZero. The document's ratios: Whole; the law's spoilRatio. -/
import Derived.Test.YthgccegjopieoaaDoorTx09
import Derived.Test.YthgccegjopieoaaDoorTx08
import Derived.Laws.MakeOwn
import Derived.Test.YthgccegjopieoaaDoorTx06
import Derived.Test.YthgccegjopieoaaDoorTx05
/- The document's own integers: SameWords, Int, SameInt, LikeInt, NoInt. -/
namespace Go.Proofs.YthgccegjopieoaaDoor
open Go.RowKit

/-! Lists of words. -/
theorem take_eq_step {L M : List Int} {k : Nat} (hl : k < L.length) (hm : k < M.length) (h : L.take k = M.take k) (he : L[k]?.getD 0 = M[k]?.getD 0) : L.take (k + 1) = M.take (k + 1) := by
  rw [take_succ_getD L k hl, take_succ_getD M k hm, h, he]

set_option maxRecDepth 100000 in
set_option maxHeartbeats 4000000 in
theorem sameWords_any (ao bo : Option Addr) (ca cb : Nat) (L M : List Int) (w : World) (hL : Rd w .u32 ao ca L) (hM : Rd w .u32 bo cb M) :
    Calls Tryd.prog 33 #[.slice ao L.length ca, .slice bo M.length cb] w fun e w' => e = .returned (.bool (decide (L = M))) ∧ ∃ nq, w' = w.drewN nq := by
  obtain ⟨n, hn⟩ : ∃ n, n = L.length := ⟨_, rfl⟩
  obtain ⟨m, hm⟩ : ∃ m, m = M.length := ⟨_, rfl⟩
  have hcap := hL.cap; have hmost := hL.most
  rw [← hn] at hcap
  rw [← hn, ← hm]
  have HL := hid hL; have HM := hid hM
  by_cases hnm : n = m
  · subst hnm
    have Hn := hid hn; have Hm := hid hm
    have hb : ((n : Int) != (n : Int)) = false := by simp
    clear hL hM hn hm
    go_enter Tryd.func33, Tryd.ntmps33
    go_wp2
    go_loopw [5] (fun iv wr => ∃ k : Nat, k ≤ n ∧ iv = .int .i64 k ∧ Hid (L.take k = M.take k) ∧ Hid (∃ nq, wr = w.drewN nq)) (fun iv _ => n - (intOf iv).toNat)
    case atStart => exact ⟨0, Nat.zero_le _, rfl, hid rfl, hid ⟨0, rfl⟩⟩
    case round =>
      obtain ⟨k, hk, rfl, HE, HW⟩ := hrel
      obtain ⟨nq, rfl⟩ := HW.out
      by_cases hlt : k < n
      · obtain ⟨ab, ao', rfl⟩ := HL.out.adr (by have := Hn.out; omega)
        obtain ⟨bb, bo', rfl⟩ := HM.out.adr (by have := Hm.out; omega)
        have h1 := HL.out.cell ab ao' rfl k (by have := Hn.out; omega)
        have h2 := HM.out.cell bb bo' rfl k (by have := Hm.out; omega)
        have HSt := hid (take_eq_step (show k < L.length by have := Hn.out; omega) (show k < M.length by have := Hm.out; omega) HE.out)
        have HNe := hid (show L = M → L[k]?.getD 0 = M[k]?.getD 0 from fun h => by rw [h])
        obtain ⟨x, hx⟩ : ∃ x, x = L[k]?.getD 0 := ⟨_, rfl⟩
        obtain ⟨y, hy⟩ : ∃ y, y = M[k]?.getD 0 := ⟨_, rfl⟩
        rw [← hx] at h1 HSt HNe; rw [← hy] at h2 HSt HNe
        have hk0 : (0 : Int) ≤ (k : Int) := by omega
        clear hx hy
        by_cases hxy : x = y
        · subst hxy
          have HSt2 := hid (HSt.out rfl)
          have hxx : (x != x) = false := by simp
          clear HSt HNe
          go_wp2
          go_quiet (fail)
          go_wp2
          go_roundw
          case rel => exact ⟨k + 1, by omega, by go_num, HSt2, hid ⟨_, rfl⟩⟩
          case measure => simp [intOf]; omega
        · have hxy' : (x != y) = true := by rw [bne_iff_ne]; exact hxy
          have HD := hid (decide_eq_false (fun h => hxy (HNe.out h)))
          clear HSt HNe
          go_wp2
          go_quiet (fail)
          go_wp2
          go_ret
          exact ⟨by rw [HD.out]; rfl, _, World.drewN_drewN _ _ _⟩
      · obtain rfl : k = n := by omega
        have HD := hid (decide_eq_true (show L = M by have := HE.out; rwa [List.take_of_length_le (by have := Hn.out; omega), List.take_of_length_le (by have := Hm.out; omega)] at this))
        clear HE
        go_wp2
        go_ret
        exact ⟨by rw [HD.out]; rfl, _, rfl⟩
  · have HD := hid (decide_eq_false (show ¬ L = M from fun h => hnm (by rw [hn, hm, h])))
    have hb : ((n : Int) != (m : Int)) = true := by rw [bne_iff_ne]; omega
    have hb2 : ¬ (n : Int) = (m : Int) := by omega
    clear hL hM hn hm HL HM
    go_enter Tryd.func33, Tryd.ntmps33
    go_wp2
    go_ret
    exact ⟨by rw [HD.out]; rfl, 0, rfl⟩

def pack16 : List Int → List Int
  | [] => []
  | [x] => [x]
  | x :: y :: l => (x + 65536 * y) :: pack16 l
theorem pack16_val : ∀ l : List Int, val B32 (pack16 l) = val R16 l
  | [] => rfl
  | [x] => by simp [pack16, val]
  | x :: y :: l => by
    have h := pack16_val l
    have e : B32 = 4294967296 := rfl
    have e2 : R16 = 65536 := rfl
    rw [e, e2] at h
    simp only [pack16, val, h, e, e2]
    omega
theorem pack16_len : ∀ l : List Int, (pack16 l).length = (l.length + 1) / 2
  | [] => rfl
  | [x] => by simp [pack16]
  | x :: y :: l => by simp only [pack16, List.length_cons, pack16_len l]; omega
theorem pack16_dig : ∀ {l : List Int}, Dig R16 l → Dig B32 (pack16 l)
  | [], _ => Dig.nil _
  | [x], h => by
    have h1 := h.head; unfold R16 at h1
    exact Dig.cons h1.1 (by unfold B32; omega) (Dig.nil _)
  | x :: y :: l, h => by
    have h1 := h.head; have h2 := h.tail.head; unfold R16 at h1 h2
    exact Dig.cons (by omega) (by unfold B32; omega) (pack16_dig h.tail.tail)
theorem pack16_nrm {l : List Int} (hd : Dig R16 l) (hn : Nrm l) : Nrm (pack16 l) := by
  rcases Nat.eq_zero_or_pos l.length with h0 | h0
  · rw [List.eq_nil_of_length_eq_zero h0]; rfl
  · have lo := hn.low R16_pos hd h0
    obtain ⟨q, hq⟩ : ∃ q, (l.length + 1) / 2 = q + 1 := ⟨(l.length + 1) / 2 - 1, by omega⟩
    refine nrm_of_low B32_pos (pack16_dig hd) (by rw [pack16_len, hq]) ?_
    rw [pack16_val]
    have e : B32 ^ q = R16 ^ (2 * q) := by rw [Int.pow_mul]; rfl
    rw [e]
    exact Int.le_trans (pow_mono R16_pos (by omega)) lo
theorem pack16_step : ∀ (k : Nat) (L : List Int), 2 * k < L.length → pack16 (L.take (2 * k + 2)) = pack16 (L.take (2 * k)) ++ [L[2 * k]?.getD 0 + 65536 * L[2 * k + 1]?.getD 0]
  | 0, [], h => by simp at h
  | 0, [x], _ => by simp [pack16]
  | 0, x :: y :: l, _ => by simp [pack16]
  | k + 1, [], h => by simp at h
  | k + 1, [x], h => by simp at h
  | k + 1, x :: y :: l, h => by
    have ih := pack16_step k l (by simp at h; omega)
    have e1 : 2 * (k + 1) + 2 = (2 * k + 2) + 1 + 1 := by omega
    have e2 : 2 * (k + 1) = 2 * k + 1 + 1 := by omega
    rw [e1, e2]
    simp only [List.take_succ_cons, pack16, ih, List.cons_append]
    simp

/-- The value v (an api.Int) is the normal form of z. -/
def An (w : World) (v : Value) (z : Int) (K : Nat) : Prop := ∃ ao c L, v = .agg #[.bool (decide (z < 0)), .slice ao L.length c] ∧ Rd w .u32 ao c L ∧ Dig B32 L ∧ Nrm L ∧ val B32 L = (z.natAbs : Int) ∧ L.length ≤ K
theorem An.below {w w' : World} {v : Value} {n : Int} {K B : Nat} (h : An w v n K) (hb : Below B w w') (hB : w.heap.size ≤ B) : An w' v n K := by
  obtain ⟨ao, c, L, e, hr, h⟩ := h; exact ⟨ao, c, L, e, hr.below hb hB, h⟩
theorem An.set {w : World} {s : Value} {n : Int} {K : Nat} (h : An w s n K) {a : Addr} {u : Value} (hu : w.cell? a = some u) (hn : ∀ x, u ≠ .int .u32 x) (v : Value) : An (w.setCell a v) s n K := by
  obtain ⟨ao, c, L, e, hr, h⟩ := h; exact ⟨ao, c, L, e, hr.set hu hn v, h⟩
def RetAn (w : World) (z : Int) (K : Nat) (e : Ending) (w' : World) : Prop := ∃ v, e = .returned v ∧ An w' v z K ∧ Below w.heap.size w w'

theorem owns_slice {w : World} {base n s : Nat} {e : TypeId} {v : Value} {xs : List Value} (h : w.ownsRow base e s v n xs) : ∃ ao cap, v = .slice ao n cap := by
  rcases h.2 with ⟨rfl, rfl⟩ | ⟨g, cap, cur, rfl, _⟩
  · exact ⟨_, _, rfl⟩
  · exact ⟨_, _, rfl⟩

theorem owns_any {w : World} {base n c : Nat} {e : TypeId} {k : IntKind} {vo : Option Addr} {L : List Int} (h : w.ownsRow base e 1 (.slice vo n c) n (L.map (Value.int k))) (hl : L.length = n) : Rd w k vo c L := by
  rcases h.2 with ⟨e, rfl⟩ | ⟨g, cap, cur, e, hb, hh, hn, hcm, _⟩
  · obtain rfl : L = [] := List.eq_nil_of_length_eq_zero hl
    obtain ⟨rfl, _, rfl⟩ := Value.slice.inj e
    exact Rd.nil _ _
  · obtain ⟨rfl, _, rfl⟩ := Value.slice.inj e
    subst hl
    exact owns_rd h hcm

/-- The words so far. -/
structure InI (w W0 wr : World) (nb : Bool) (L : List Int) (k : Nat) (ov : Value) : Prop where
  ob : wr.heap[w.heap.size + 2]? = some (.cells #[.bool nb, ov] 24 (0, 0))
  own : wr.ownsRow W0.heap.size 52 1 ov k ((pack16 (L.take (2 * k))).map (Value.int .u32))
  low : Below (w.heap.size + 2) W0 wr
  siz : W0.heap.size ≤ wr.heap.size

theorem InI.cells {w W0 wr : World} {nb : Bool} {L : List Int} {k : Nat} {ov : Value} (H : InI w W0 wr nb L k ov) :
    wr.cell? ⟨w.heap.size + 2, 0, none⟩ = some (.bool nb) ∧ wr.cell? ⟨w.heap.size + 2, 1, none⟩ = some ov ∧ wr.frozen? ⟨w.heap.size + 2, 1, none⟩ = false :=
  ⟨(cell_of_row wr _ 0 _ _ (0, 0) H.ob).trans rfl, (cell_of_row wr _ 1 _ _ (0, 0) H.ob).trans rfl, frozen_of_row wr _ 1 _ _ H.ob⟩

theorem InI.kept3 {w W0 wr w3 : World} {nb : Bool} {L : List Int} {k : Nat} {ov : Value} (H : InI w W0 wr nb L k ov) (hw0 : W0.heap.size = w.heap.size + 3) {o : Obj} (hg : (wr.alloc o).grownBy w3 ov.ownBlock) : w3.heap[w.heap.size + 2]? = some (.cells #[.bool nb, ov] 24 (0, 0)) := by
  rw [hg.block (w.heap.size + 2) (by have := H.siz; simp; omega) (fun e => by have := owns_block H.own _ e.symm; omega)]
  show (wr.heap.push o)[w.heap.size + 2]? = _
  rw [Array.getElem?_push_lt (by have := H.siz; omega)]
  have h := H.ob
  rw [Array.getElem?_eq_getElem (by have := H.siz; omega)] at h
  exact h
theorem InI.next {w W0 wr w3 : World} {nb : Bool} {L : List Int} {k : Nat} {ov ov' : Value} (H : InI w W0 wr nb L k ov) (hw0 : W0.heap.size = w.heap.size + 3) (o : Obj) (y : Int) (hk : 2 * k < L.length) (hy : y = L[2 * k]?.getD 0 + 65536 * L[2 * k + 1]?.getD 0)
    (hown : w3.ownsRow W0.heap.size 52 1 ov' (k + 1) ((pack16 (L.take (2 * k))).map (Value.int .u32) ++ [.int .u32 y])) (hg : (wr.alloc o).grownBy w3 ov.ownBlock) :
    InI w W0 (w3.setCell ⟨w.heap.size + 2, 1, none⟩ ov') nb L (k + 1) ov' := by
  have hlow3 : Below (w.heap.size + 2) W0 w3 := (H.low.alloc (by have := H.siz; omega) o).grown hg (by have := H.siz; simp; omega) (fun i e => by have := owns_block H.own i e; omega)
  have hsz3 : W0.heap.size ≤ w3.heap.size := by have := hg.size; simp at this; have := H.siz; omega
  have hob3 : w3.heap[w.heap.size + 2]? = some (.cells #[.bool nb, ov] 24 (0, 0)) := by
    rw [hg.block (w.heap.size + 2) (by have := H.siz; simp; omega) (fun e => by have := owns_block H.own _ e.symm; omega)]
    show (wr.heap.push o)[w.heap.size + 2]? = _
    rw [Array.getElem?_push_lt (by have := H.siz; omega)]
    have h := H.ob
    rw [Array.getElem?_eq_getElem (by have := H.siz; omega)] at h
    exact h
  refine ⟨?_, ?_, hlow3.setCell (Nat.le_refl _) _, by simpa using hsz3⟩
  · rw [heap_setCell_same w3 _ 1 _ _ _ hob3]; rfl
  · have h := ownsRow_setCell_below hown (a := ⟨w.heap.size + 2, 1, none⟩) (by simp; omega) ov'
    rw [show 2 * (k + 1) = 2 * k + 2 by omega, pack16_step k L hk, ← hy, List.map_append]
    exact h

set_option maxRecDepth 100000 in
set_option maxHeartbeats 8000000 in
theorem rint_any (v : Value) (z : Int) (K : Nat) (w : World) (h : Zt w v z K) (hK : K ≤ 268435456) :
    Calls Tryd.prog 32 #[v] w (RetAn w z ((K + 1) / 2)) := by
  obtain ⟨_, rfl, ao, c, L, rfl, h⟩ := h
  obtain ⟨n, hn⟩ : ∃ n, n = L.length := ⟨_, rfl⟩
  have hnK := h.le
  rw [← hn] at hnK ⊢
  obtain ⟨nb, hnb⟩ : ∃ nb, nb = decide (z < 0) := ⟨_, rfl⟩
  rw [← hnb]
  have H := hid h; have Hn := hid hn; have Hnb := hid hnb
  clear h hn hnb
  obtain ⟨i0, hi, hz0, hz1, hz2⟩ := info_parts Tryd.info52
  go_enter Tryd.func32, Tryd.ntmps32
  go_upto_region 2 with (fail)
  obtain ⟨W0, hW0⟩ : ∃ W0, W0 = (((w.alloc (.cells #[.bool nb, .slice ao n c] 30)).alloc (.cells #[.bool false, .slice none 0 0] 24)).alloc (.cells #[.bool nb, .slice none 0 0] 24)) := ⟨_, rfl⟩
  have hB0 : Below w.heap.size w W0 := by rw [hW0]; exact (((Below.refl _ _).alloc (Nat.le_refl _) _).alloc (by simp) _).alloc (by simp; omega) _
  have hw0 : W0.heap.size = w.heap.size + 3 := by rw [hW0]; simp
  have HS : Hid (∀ w', Below (w.heap.size + 2) W0 w' → w'.cell? ⟨w.heap.size, 0, none⟩ = some (.bool nb) ∧ w'.cell? ⟨w.heap.size, 1, none⟩ = some (.slice ao n c)) := hid (fun w' hb => by
    refine ⟨?_, ?_⟩ <;> (rw [hb.cell (by simp <;> omega), hW0]; simp [go_sem]))
  have HT : Hid (∀ w', Below (w.heap.size + 2) W0 w' → w'.cell? ⟨w.heap.size + 1, 0, none⟩ = some (.bool false) ∧ w'.cell? ⟨w.heap.size + 1, 1, none⟩ = some (.slice none 0 0) ∧ w'.frozen? ⟨w.heap.size + 1, 0, none⟩ = false ∧ w'.frozen? ⟨w.heap.size + 1, 1, none⟩ = false) := hid (fun w' hb => by
    refine ⟨?_, ?_, ?_, ?_⟩ <;> (first | (rw [hb.cell (by simp <;> omega), hW0]; simp [go_sem]; done) | (rw [hb.frozen (by simp <;> omega), hW0]; simp [go_sem]; done)))
  have hI0 : InI w W0 W0 nb L 0 (.slice none 0 0) := by
    refine ⟨?_, ⟨by simp [pack16], .inl ⟨rfl, rfl⟩⟩, Below.refl _ _, Nat.le_refl _⟩
    rw [hW0]
    show ((((w.heap.push _).push _).push _))[w.heap.size + 2]? = _
    have e : w.heap.size + 2 = ((w.heap.push (.cells #[.bool nb, .slice ao n c] 30)).push (.cells #[.bool false, .slice none 0 0] 24)).size := by simp
    rw [e, Array.getElem?_push_size]
  rw [← hW0, show w.heap.size + 1 + 1 = w.heap.size + 2 from rfl]
  clear hW0
  have HI0 := hid hI0; have HB0 := hid hB0; have Hw0 := hid hw0
  clear hI0 hB0 hw0
  go_wp2
  go_loopw [4] (fun iv wr => ∃ j k : Nat, ∃ ov, j ≤ n + 1 ∧ iv = .int .i64 j ∧ Hid (j = 2 * k) ∧ InI w W0 wr nb L k ov) (fun iv _ => n + 2 - (intOf iv).toNat)
  case atStart => exact ⟨0, 0, _, Nat.zero_le _, rfl, hid rfl, HI0.out⟩
  case round =>
    obtain ⟨j, k, ov, hj, rfl, HJ, HI⟩ := hrel
    obtain ⟨hs0, hs1⟩ := HS.out _ HI.low
    obtain ⟨vo, vc, rfl⟩ := owns_slice HI.own
    obtain ⟨c0, c1, f1⟩ := HI.cells
    by_cases hlt : j < n
    · obtain ⟨b, o, rfl⟩ := H.out.rd.adr (by have := Hn.out; omega)
      have hrd : Rd wr .i64 (some ⟨b, o, none⟩) c L := H.out.rd.below (HB0.out.trans (HI.low.mono (by omega))) (Nat.le_refl _)
      have hx := hrd.cell b o rfl j (by have := Hn.out; omega)
      have dx := H.out.dig.at R16_pos j
      have dy := H.out.dig.at R16_pos (j + 1)
      obtain ⟨x, hxe⟩ : ∃ x, x = L[j]?.getD 0 := ⟨_, rfl⟩
      rw [← hxe] at hx dx
      have x0 := dx.1; have x1 : x < 65536 := dx.2
      have y0 := dy.1; have y1 : L[j + 1]?.getD 0 < 65536 := dy.2
      have hj0 : (0 : Int) ≤ (j : Int) := by omega
      by_cases h2 : j + 1 < n
      · have hy := hrd.cell b o rfl (j + 1) (by have := Hn.out; omega)
        obtain ⟨y, hye⟩ : ∃ y, y = L[j + 1]?.getD 0 := ⟨_, rfl⟩
        rw [← hye] at hy y0 y1
        have HT2 : Hid (x + 65536 * y = L[2 * k]?.getD 0 + 65536 * L[2 * k + 1]?.getD 0) := hid (by rw [← HJ.out, ← hxe, ← hye])
        obtain ⟨t, ht⟩ : ∃ t, x + 65536 * y = t := ⟨_, rfl⟩
        have t0 : 0 ≤ t := by omega
        have t1 : t < 4294967296 := by omega
        have q1 : IntKind.u32.wrap t = t := by rw [IntKind.wrap_u32]; omega
        rw [ht] at HT2
        have h2i : (j : Int) + 1 < (n : Int) := by omega
        have HH := hid HI
        clear hxe hye dx dy hrd HI HI0
        go_wp2_with (at_builtin; refine wpList_append_own _ rfl _ _ 22 rfl W0.heap.size 52 i0 (.int .u32 0) 1 4 Tryd.underlying22 hi hz0 hz1 hz2 rfl (by decide) _ k _ rfl (HH.out.own.alloc _) ⟨wr.heap.size, 0, none⟩ 1 1 [.int .u32 t] rfl rfl (fun j u hj => new_one0 j u hj) ?c2 ?c3 ?c4 ?c5 ?_)
        case c2 => first | rfl | (intro u hu; simp at hu; subst hu; rfl)
        case c3 => have := HJ.out; unfold maxLen; omega
        case c4 => have := HJ.out; omega
        case c5 => have := HH.out.siz; simp; omega
        intro ov' w3 hown hg _
        obtain ⟨no, nc, rfl⟩ := owns_slice hown
        have hn := HH.out.next Hw0.out _ t (by have := HJ.out; have := Hn.out; omega) HT2.out hown hg
        have ho := hn.cells
        have hf3 : w3.cell? ⟨w.heap.size + 2, 1, none⟩ = some (.slice vo k vc) ∧ w3.frozen? ⟨w.heap.size + 2, 1, none⟩ = false := by
          have hne : (Value.slice vo k vc).ownBlock ≠ some (w.heap.size + 2) := fun e => by have := owns_block HH.out.own _ e; have := Hw0.out; omega
          exact ⟨hg.cell (a := ⟨w.heap.size + 2, 1, none⟩) (by rw [(Below.refl _ _).alloc (Nat.le_refl wr.heap.size) _ |>.cell (by have := HH.out.siz; have := Hw0.out; simp; omega)]; exact HH.out.cells.2.1) (Ne.symm hne), frozen_of_row w3 _ 1 _ _ (HH.out.kept3 Hw0.out hg)⟩
        obtain ⟨g1, g2⟩ := hf3
        have HN := hid hn
        clear hown hg hn ho
        go_wp2
        go_roundw
        case rel => exact ⟨j + 2, k + 1, _, by omega, by go_num, hid (by have := HJ.out; omega), HN.out⟩
        case measure => simp [intOf]; omega
      · have hye : L[j + 1]?.getD 0 = 0 := by
          have : L.length ≤ j + 1 := by have := Hn.out; omega
          simp [this]
        have HT2 : Hid (x = L[2 * k]?.getD 0 + 65536 * L[2 * k + 1]?.getD 0) := hid (by rw [← HJ.out, hye, ← hxe]; omega)
        obtain ⟨t, ht⟩ : ∃ t, x = t := ⟨_, rfl⟩
        subst ht
        have q1 : IntKind.u32.wrap x = x := by rw [IntKind.wrap_u32]; omega
        obtain rfl : n = j + 1 := by omega
        have h2i : ¬ (j : Int) + 1 < ((j + 1 : Nat) : Int) := by omega
        clear h2
        have HH := hid HI
        clear hxe hye dx dy hrd HI HI0
        go_wp2_with (at_builtin; refine wpList_append_own _ rfl _ _ 22 rfl W0.heap.size 52 i0 (.int .u32 0) 1 4 Tryd.underlying22 hi hz0 hz1 hz2 rfl (by decide) _ k _ rfl (HH.out.own.alloc _) ⟨wr.heap.size, 0, none⟩ 1 1 [.int .u32 x] rfl rfl (fun j u hj => new_one0 j u hj) ?c2 ?c3 ?c4 ?c5 ?_)
        case c2 => first | rfl | (intro u hu; simp at hu; subst hu; rfl)
        case c3 => have := HJ.out; unfold maxLen; omega
        case c4 => have := HJ.out; omega
        case c5 => have := HH.out.siz; simp; omega
        intro ov' w3 hown hg _
        obtain ⟨no, nc, rfl⟩ := owns_slice hown
        have hn := HH.out.next Hw0.out _ x (by have := HJ.out; have := Hn.out; omega) HT2.out hown hg
        have ho := hn.cells
        have hf3 : w3.cell? ⟨w.heap.size + 2, 1, none⟩ = some (.slice vo k vc) ∧ w3.frozen? ⟨w.heap.size + 2, 1, none⟩ = false := by
          have hne : (Value.slice vo k vc).ownBlock ≠ some (w.heap.size + 2) := fun e => by have := owns_block HH.out.own _ e; have := Hw0.out; omega
          exact ⟨hg.cell (a := ⟨w.heap.size + 2, 1, none⟩) (by rw [(Below.refl _ _).alloc (Nat.le_refl wr.heap.size) _ |>.cell (by have := HH.out.siz; have := Hw0.out; simp; omega)]; exact HH.out.cells.2.1) (Ne.symm hne), frozen_of_row w3 _ 1 _ _ (HH.out.kept3 Hw0.out hg)⟩
        obtain ⟨g1, g2⟩ := hf3
        have HN := hid hn
        clear hown hg hn ho
        go_wp2
        go_roundw
        case rel => exact ⟨j + 2, k + 1, _, by omega, by go_num, hid (by have := HJ.out; omega), HN.out⟩
        case measure => simp [intOf]; omega
    · have hall : L.take (2 * k) = L := List.take_of_length_le (by have := HJ.out; have := Hn.out; omega)
      have ho := HI.own
      rw [hall] at ho
      have hkl : (pack16 L).length = k := by have := ho.1; simpa using this
      have hrd := owns_any ho hkl
      have hAn : An wr (.agg #[.bool nb, .slice vo k vc]) z ((K + 1) / 2) := by
        have hl := pack16_len L
        rw [Hnb.out]
        exact ⟨vo, vc, pack16 L, by rw [hkl], hrd, pack16_dig H.out.dig, pack16_nrm H.out.dig H.out.nrm, by rw [pack16_val]; exact H.out.eq, by have := H.out.le; omega⟩
      have hlow := HB0.out.trans (HI.low.mono (by omega))
      obtain ⟨hr0, hr1, hr2, hr3⟩ := HT.out _ HI.low
      have HAn := hid hAn; have HLow := hid hlow
      clear hall ho hkl hrd hAn hlow HI HI0
      go_wp2
      refine bodyPost_ret (v := .agg #[.bool nb, .slice vo k vc]) (by simp [results, Tryd.results32, go_sem, hr0, hr1]) rfl ⟨_, rfl, ?_, (HLow.out.setCell (by simp <;> omega) _).setCell (by simp <;> omega) _⟩
      exact (HAn.out.set hr0 (fun x h => (by cases h)) _).set (u := .slice none 0 0) (by simp [go_sem, hr1]) (fun x h => (by cases h)) _

end Go.Proofs.YthgccegjopieoaaDoor

/- The document's own integers: SameInt, LikeInt; the law's spoil. -/
namespace Go.Proofs.YthgccegjopieoaaDoor
open Go.RowKit

set_option maxRecDepth 100000 in
set_option maxHeartbeats 4000000 in
theorem sameInt_any (u v : Value) (z : Int) (Ka Kb : Nat) (w : World) (hu : An w u z Ka) (hv : Zt w v z Kb) (hK : Kb ≤ 268435456) :
    Calls Tryd.prog 19 #[u, v] w fun e w' => e = .returned (.bool true) ∧ Below w.heap.size w w' := by
  obtain ⟨ao, ca, L, rfl, hr, dL, nL, eL, _⟩ := hu
  obtain ⟨yb, yo, ym, yc, rfl, Hy, Hys, Hyb⟩ := Zt.opened hv
  obtain ⟨n, hn⟩ : ∃ n, n = L.length := ⟨_, rfl⟩
  obtain ⟨xb, hxb⟩ : ∃ xb, xb = decide (z < 0) := ⟨_, rfl⟩
  rw [← hxb, ← hn]
  have hyx : yb = xb := by rw [Hyb.out, hxb]
  subst hyx
  have hb : Below w.heap.size w ((w.alloc (.cells #[.bool yb, .slice ao n ca] 24)).alloc (.cells #[.bool yb, .slice yo ym yc] 30)) := ((Below.refl _ _).alloc (Nat.le_refl _) _).alloc (by simp) _
  have hI := rint_any _ z Kb _ (Hy.out _ hb) hK
  have HI := hid hI; have HB := hid hb; have HR := hid hr; have Hn := hid hn
  have HD := hid (And.intro dL (And.intro nL eL)); have Hxb := hid hxb
  clear hI hb hr hn dL nL eL hxb hv
  go_enter Tryd.func19, Tryd.ntmps19
  go_wp2_with fail
  refine HI.out.mono ?_
  rintro e w1 ⟨_, rfl, ⟨bo, bc, M, rfl, hrM, dM, nM, eM, _⟩, hb1⟩
  rw [← Hxb.out]
  obtain rfl : L = M := val_inj B32_pos HD.out.1 dM HD.out.2.1 nM (by rw [HD.out.2.2, eM])
  rw [← Hn.out]
  obtain ⟨W1, hW1⟩ : ∃ W1, W1 = w1.alloc (.cells #[.bool yb, .slice bo n bc] 24) := ⟨_, rfl⟩
  have hb1' : Below w.heap.size w w1 := HB.out.trans (hb1.mono HB.out.size)
  have hbW : Below w.heap.size w W1 := by rw [hW1]; exact hb1'.alloc hb1'.size _
  have c0 : W1.cell? ⟨w.heap.size, 0, none⟩ = some (.bool yb) ∧ W1.cell? ⟨w.heap.size, 1, none⟩ = some (.slice ao n ca) := by
    have hlow : Below (w.heap.size + 1) ((w.alloc (.cells #[.bool yb, .slice ao n ca] 24)).alloc (.cells #[.bool yb, .slice yo ym yc] 30)) W1 := by
      rw [hW1]; exact (hb1.mono (by simp)).alloc (by have := hb1.size; simp at this; omega) _
    constructor <;> (rw [hlow.cell (by simp)]; simp [go_sem])
  have c1 : W1.cell? ⟨w1.heap.size, 0, none⟩ = some (.bool yb) ∧ W1.cell? ⟨w1.heap.size, 1, none⟩ = some (.slice bo n bc) := by rw [hW1]; constructor <;> simp [go_sem]
  have hs := sameWords_any ao bo ca bc L L W1 (HR.out.below hbW (Nat.le_refl _)) (by rw [hW1]; exact hrM.below ((Below.refl _ _).alloc (Nat.le_refl _) _) (Nat.le_refl _))
  rw [← Hn.out, decide_eq_true rfl] at hs
  obtain ⟨c00, c01⟩ := c0
  obtain ⟨c10, c11⟩ := c1
  have HS := hid hs; have HbW := hid hbW; have HW1 := hid hW1
  clear hs hbW hb1 hb1' hrM dM nM eM HD HR
  have hyy : (yb == yb) = true := by simp
  go_upto_region 2 with (fail)
  rw [← hW1]
  clear hW1
  go_wp2_with fail
  refine HS.out.mono ?_
  rintro e w2 ⟨rfl, nq, rfl⟩
  have HF := hid (below_drewN HbW.out nq)
  go_wp2
  go_ret
  exact ⟨rfl, HF.out⟩

/-- The value v (an api.Int) has these words. -/
def Lk (w : World) (v : Value) (neg : Bool) (W : List Int) : Prop := ∃ ao c, v = .agg #[.bool neg, .slice ao W.length c] ∧ Rd w .u32 ao c W

/-- Words that may be written over: they lie in blocks from B on. -/
def Sp (w : World) (B : Nat) (v : Value) : Prop := ∃ b ao n c, v = .agg #[.bool b, .slice ao n c] ∧ n ≤ 1073741824 ∧ n ≤ c ∧ c ≤ 9223372036854775807 ∧ (0 < n → ∃ g off, ao = some ⟨g, off, none⟩ ∧ B ≤ g ∧ ∀ i, i < n → (∃ x, 0 ≤ x ∧ x < 4294967296 ∧ w.cell? ⟨g, off + i, none⟩ = some (.int .u32 x)) ∧ w.frozen? ⟨g, off + i, none⟩ = false)
/-- What a spoilt world keeps. -/
structure Spd (B : Nat) (w w' : World) : Prop where
  low : Below B w w'
  siz : w.heap.size ≤ w'.heap.size
  cel : ∀ a v, w.cell? a = some v → (∀ x, v ≠ .int .u32 x) → w'.cell? a = some v
  u32 : ∀ a x, w.cell? a = some (.int .u32 x) → 0 ≤ x → x < 4294967296 → ∃ y, 0 ≤ y ∧ y < 4294967296 ∧ w'.cell? a = some (.int .u32 y)
  frz : ∀ a, a.block < w.heap.size → w'.frozen? a = w.frozen? a
theorem Spd.refl (B : Nat) (w : World) : Spd B w w := ⟨Below.refl _ _, Nat.le_refl _, fun _ _ h _ => h, fun _ x h h0 h1 => ⟨x, h0, h1, h⟩, fun _ _ => rfl⟩
theorem Spd.trans {B : Nat} {a b c : World} (h : Spd B a b) (g : Spd B b c) : Spd B a c :=
  ⟨h.low.trans g.low, Nat.le_trans h.siz g.siz, fun p _ e hn => g.cel p _ (h.cel p _ e hn) hn, fun p x e h0 h1 => by obtain ⟨y, y0, y1, e'⟩ := h.u32 p x e h0 h1; exact g.u32 p y e' y0 y1, fun p hp => (g.frz p (Nat.lt_of_lt_of_le hp h.siz)).trans (h.frz p hp)⟩
theorem Spd.of_below {B : Nat} {w w' : World} (hb : Below w.heap.size w w') (hB : B ≤ w.heap.size) : Spd B w w' :=
  ⟨hb.mono hB, hb.size, fun a _ e _ => (hb.cell (World.block_lt_of_cell? w a e)).trans e, fun a x e h0 h1 => ⟨x, h0, h1, (hb.cell (World.block_lt_of_cell? w a e)).trans e⟩, fun _ ha => hb.frozen ha⟩
theorem Spd.drewN {B : Nat} {w w' : World} (h : Spd B w w') (n : Nat) : Spd B w (w'.drewN n) := ⟨below_drewN h.low n, h.siz, h.cel, h.u32, h.frz⟩
theorem Spd.set {B : Nat} {w w' : World} (h : Spd B w w') {a : Addr} (ha : B ≤ a.block) {x y : Int} (hx : w'.cell? a = some (.int .u32 x)) (y0 : 0 ≤ y) (y1 : y < 4294967296) : Spd B w (w'.setCell a (.int .u32 y)) := by
  refine ⟨h.low.setCell ha _, by simpa using h.siz, fun p _ e hn => ?_, fun p z e h0 h1 => ?_, fun p hp => ?_⟩
  · have e' := h.cel p _ e hn
    have hne : a ≠ p := by rintro rfl; rw [hx] at e'; exact hn x (Option.some.inj e').symm
    exact (World.cell?_setCell_other w' a _ _ hne).trans e'
  · obtain ⟨u, u0, u1, e'⟩ := h.u32 p z e h0 h1
    by_cases hne : a = p
    · subst hne
      exact ⟨y, y0, y1, World.cell?_setCell_same w' a _ hx⟩
    · exact ⟨u, u0, u1, (World.cell?_setCell_other w' a _ _ hne).trans e'⟩
  · rw [World.frozen?_setCell]; exact h.frz p hp

end Go.Proofs.YthgccegjopieoaaDoor

/- The document's ratios, the parts that the laws use: NoInt, None, Same, Whole; isRatio and spoilRatio of the laws. -/
namespace Go.Proofs.YthgccegjopieoaaDoor
open Go.RowKit

theorem An.opened {w : World} {v : Value} {z : Int} {K : Nat} (h : An w v z K) : ∃ b ao m c, v = .agg #[.bool b, .slice ao m c] ∧ Hid (∀ w', Below w.heap.size w w' → An w' (.agg #[.bool b, .slice ao m c]) z K) := by
  obtain ⟨ao, c, L, rfl, h⟩ := h
  exact ⟨_, ao, L.length, c, rfl, hid (fun w' hb => An.below ⟨ao, c, L, rfl, h⟩ hb (Nat.le_refl _))⟩

set_option maxRecDepth 100000 in
set_option maxHeartbeats 1000000 in
theorem noInt_any (ao : Option Addr) (c : Nat) (w : World) :
    Calls Tryd.prog 18 #[.agg #[.bool false, .slice ao 0 c]] w fun e w' => e = .returned (.bool true) ∧ Below w.heap.size w w' := by
  have hb : Below w.heap.size w (w.alloc (.cells #[.bool false, .slice ao 0 c] 24)) := (Below.refl _ _).alloc (Nat.le_refl _) _
  have HB := hid hb
  clear hb
  go_enter Tryd.func18, Tryd.ntmps18
  go_wp2
  go_ret
  exact ⟨rfl, HB.out⟩

/-- An api.Ratio in normal form; a ratio of the document's. -/
def Rt (w : World) (v : Value) (x y : Int) (K : Nat) : Prop := ∃ b1 o1 m1 c1 b2 o2 m2 c2, v = .agg #[.bool b1, .slice o1 m1 c1, .bool b2, .slice o2 m2 c2] ∧ An w (.agg #[.bool b1, .slice o1 m1 c1]) x K ∧ An w (.agg #[.bool b2, .slice o2 m2 c2]) y K
def Qt (w : World) (v : Value) (x y : Int) (K : Nat) : Prop := ∃ b1 o1 m1 c1 b2 o2 m2 c2, v = .agg #[.bool b1, .slice o1 m1 c1, .bool b2, .slice o2 m2 c2] ∧ Zt w (.agg #[.bool b1, .slice o1 m1 c1]) x K ∧ Zt w (.agg #[.bool b2, .slice o2 m2 c2]) y K
theorem Rt.below {w w' : World} {v : Value} {x y : Int} {K B : Nat} (h : Rt w v x y K) (hb : Below B w w') (hB : w.heap.size ≤ B) : Rt w' v x y K := by
  obtain ⟨b1, o1, m1, c1, b2, o2, m2, c2, rfl, h1, h2⟩ := h
  exact ⟨b1, o1, m1, c1, b2, o2, m2, c2, rfl, h1.below hb hB, h2.below hb hB⟩
theorem Qt.below {w w' : World} {v : Value} {x y : Int} {K B : Nat} (h : Qt w v x y K) (hb : Below B w w') (hB : w.heap.size ≤ B) : Qt w' v x y K := by
  obtain ⟨b1, o1, m1, c1, b2, o2, m2, c2, rfl, h1, h2⟩ := h
  exact ⟨b1, o1, m1, c1, b2, o2, m2, c2, rfl, h1.below hb hB, h2.below hb hB⟩

end Go.Proofs.YthgccegjopieoaaDoor

/- The law's own: an integer in memory of its own. -/
namespace Go.Proofs.YthgccegjopieoaaDoor
open Go.RowKit

end Go.Proofs.YthgccegjopieoaaDoor

/- exact.Cmp. Written by gen_cmp.py. -/
namespace Go.Proofs.YthgccegjopieoaaDoor
open Go.RowKit

end Go.Proofs.YthgccegjopieoaaDoor

/- The law ExactInts. Written by gen_ints.py. -/
namespace Go.Proofs.YthgccegjopieoaaDoor
open Go.RowKit

theorem Lk.below {neg : Bool} {W : List Int} {w w' : World} {v : Value} {B : Nat} (h : Lk w v neg W) (hb : Below B w w') (hB : w.heap.size ≤ B) : Lk w' v neg W := by
  obtain ⟨ao, c, rfl, h⟩ := h; exact ⟨ao, c, rfl, h.below hb hB⟩
theorem Lk.opened {w : World} {v : Value} {neg : Bool} {W : List Int} (h : Lk w v neg W) : ∃ b ao m c, v = .agg #[.bool b, .slice ao m c] ∧ Hid (∀ w', Below w.heap.size w w' → Lk w' (.agg #[.bool b, .slice ao m c]) neg W) ∧ Hid (b = neg) ∧ Hid (m = W.length) := by
  obtain ⟨ao, c, rfl, h⟩ := h
  exact ⟨neg, ao, W.length, c, rfl, hid (fun w' hb => ⟨ao, c, rfl, h.below hb (Nat.le_refl _)⟩), hid rfl, hid rfl⟩
theorem Lk.ai {w : World} {v : Value} {neg : Bool} {W : List Int} (h : Lk w v neg W) (hd : Dig B32 W) {K : Nat} (hK : W.length ≤ K) : Ai w v (sgn neg (val B32 W)) K := by
  obtain ⟨ao, c, rfl, h⟩ := h; exact ⟨neg, ao, c, W, rfl, h, hd, hK, rfl⟩
/-- A result: in normal form, its words may be written over. -/
def El (w : World) (B : Nat) (v : Value) (z : Int) : Prop := An w v z 200 ∧ Sp w B v
theorem Sp.below {w w' : World} {B B' : Nat} {v : Value} (h : Sp w B v) (hb : Below B' w w') (hB : w.heap.size ≤ B') : Sp w' B v := by
  obtain ⟨b, ao, n, c, e, h1, h2, h3, hp⟩ := h
  refine ⟨b, ao, n, c, e, h1, h2, h3, fun hn => ?_⟩
  obtain ⟨g, off, ea, hg, hc⟩ := hp hn
  refine ⟨g, off, ea, hg, fun i hi => ?_⟩
  obtain ⟨⟨x, x0, x1, hx⟩, hf⟩ := hc i hi
  have hl := Nat.lt_of_lt_of_le (World.block_lt_of_cell? w _ hx) hB
  exact ⟨⟨x, x0, x1, (hb.cell hl).trans hx⟩, (hb.frozen hl).trans hf⟩
theorem El.below {w w' : World} {B B' : Nat} {v : Value} {z : Int} (h : El w B v z) (hb : Below B' w w') (hB : w.heap.size ≤ B') : El w' B v z := ⟨h.1.below hb hB, h.2.below hb hB⟩
theorem El.opened {w : World} {B : Nat} {v : Value} {z : Int} (h : El w B v z) : ∃ b ao m c, v = .agg #[.bool b, .slice ao m c] ∧ Hid (∀ w', Below w.heap.size w w' → El w' B (.agg #[.bool b, .slice ao m c]) z) := by
  obtain ⟨⟨ao, c, L, rfl, hr⟩, h2⟩ := h
  exact ⟨_, ao, L.length, c, rfl, hid (fun w' hb => El.below ⟨⟨ao, c, L, rfl, hr⟩, h2⟩ hb (Nat.le_refl _))⟩

end Go.Proofs.YthgccegjopieoaaDoor

/- exact.Over: the ratio of two numbers of 64 bits, or ErrZero. -/
namespace Go.Proofs.YthgccegjopieoaaDoor
open Go.RowKit

theorem FrA.ai {w0 w : World} {v : Value} {z : Int} {K : Nat} (h : FrA w0 w v z K) : Ai w v z K := by
  obtain ⟨s, rfl, L, ho, hd, hn, hv, hl⟩ := h
  obtain ⟨ao, c, rfl⟩ := owns_slice ho
  refine ⟨_, ao, c, L, rfl, owns_any ho rfl, hd, hl, ?_⟩
  rw [hv]
  unfold sgn
  by_cases h : z < 0 <;> simp [h] <;> omega

end Go.Proofs.YthgccegjopieoaaDoor

/- The document's ratios: Whole; the law's spoilRatio. -/
namespace Go.Proofs.YthgccegjopieoaaDoor
open Go.RowKit

end Go.Proofs.YthgccegjopieoaaDoor
