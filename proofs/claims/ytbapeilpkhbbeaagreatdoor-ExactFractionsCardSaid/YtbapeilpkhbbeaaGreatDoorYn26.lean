/- The document's own integers: SameWords, Int, SameInt, LikeInt, NoInt. exact.Over: the ratio of two numbers of 64 bits, or ErrZero. exact.readRatio where the denominator is not 0. (exact.fraction).plus where the denominators are the same. -/
import Derived.Test.YtbapeilpkhbbeaaGreatDoorYn25
import Derived.Test.YtbapeilpkhbbeaaGreatDoorYn16
import Derived.Test.YtbapeilpkhbbeaaGreatDoorYn07
/- The document's own integers: SameWords, Int, SameInt, LikeInt, NoInt. -/
namespace Go.Proofs.YtbapeilpkhbbeaaGreatDoor
open Go.RowKit

/-! Lists of words. -/
theorem take_eq_step {L M : List Int} {k : Nat} (hl : k < L.length) (hm : k < M.length) (h : L.take k = M.take k) (he : L[k]?.getD 0 = M[k]?.getD 0) : L.take (k + 1) = M.take (k + 1) := by
  rw [take_succ_getD L k hl, take_succ_getD M k hm, h, he]

set_option maxRecDepth 100000 in
set_option maxHeartbeats 4000000 in
theorem sameWords_any (ao bo : Option Addr) (ca cb : Nat) (L M : List Int) (w : World) (hL : Rd w .u32 ao ca L) (hM : Rd w .u32 bo cb M) :
    Calls Tryz.prog 83 #[.slice ao L.length ca, .slice bo M.length cb] w fun e w' => e = .returned (.bool (decide (L = M))) ∧ ∃ nq, w' = w.drewN nq := by
  obtain ⟨n, hn⟩ : ∃ n, n = L.length := ⟨_, rfl⟩
  obtain ⟨m, hm⟩ : ∃ m, m = M.length := ⟨_, rfl⟩
  have hcap := hL.cap; have hmost := hL.most
  rw [← hn] at hcap
  rw [← hn, ← hm]
  have HL := hid hL; have HM := hid hM
  by_cases hnm : n = m
  · subst hnm
    have Hn := hid hn; have Hm := hid hm
    have hb : ((n : Int) != (n : Int)) = false := by simp
    clear hL hM hn hm
    go_enter Tryz.func83, Tryz.ntmps83
    go_wp2
    go_loopw [5] (fun iv wr => ∃ k : Nat, k ≤ n ∧ iv = .int .i64 k ∧ Hid (L.take k = M.take k) ∧ Hid (∃ nq, wr = w.drewN nq)) (fun iv _ => n - (intOf iv).toNat)
    case atStart => exact ⟨0, Nat.zero_le _, rfl, hid rfl, hid ⟨0, rfl⟩⟩
    case round =>
      obtain ⟨k, hk, rfl, HE, HW⟩ := hrel
      obtain ⟨nq, rfl⟩ := HW.out
      by_cases hlt : k < n
      · obtain ⟨ab, ao', rfl⟩ := HL.out.adr (by have := Hn.out; omega)
        obtain ⟨bb, bo', rfl⟩ := HM.out.adr (by have := Hm.out; omega)
        have h1 := HL.out.cell ab ao' rfl k (by have := Hn.out; omega)
        have h2 := HM.out.cell bb bo' rfl k (by have := Hm.out; omega)
        have HSt := hid (take_eq_step (show k < L.length by have := Hn.out; omega) (show k < M.length by have := Hm.out; omega) HE.out)
        have HNe := hid (show L = M → L[k]?.getD 0 = M[k]?.getD 0 from fun h => by rw [h])
        obtain ⟨x, hx⟩ : ∃ x, x = L[k]?.getD 0 := ⟨_, rfl⟩
        obtain ⟨y, hy⟩ : ∃ y, y = M[k]?.getD 0 := ⟨_, rfl⟩
        rw [← hx] at h1 HSt HNe; rw [← hy] at h2 HSt HNe
        have hk0 : (0 : Int) ≤ (k : Int) := by omega
        clear hx hy
        by_cases hxy : x = y
        · subst hxy
          have HSt2 := hid (HSt.out rfl)
          have hxx : (x != x) = false := by simp
          clear HSt HNe
          go_wp2
          go_quiet (fail)
          go_wp2
          go_roundw
          case rel => exact ⟨k + 1, by omega, by go_num, HSt2, hid ⟨_, rfl⟩⟩
          case measure => simp [intOf]; omega
        · have hxy' : (x != y) = true := by rw [bne_iff_ne]; exact hxy
          have HD := hid (decide_eq_false (fun h => hxy (HNe.out h)))
          clear HSt HNe
          go_wp2
          go_quiet (fail)
          go_wp2
          go_ret
          exact ⟨by rw [HD.out]; rfl, _, World.drewN_drewN _ _ _⟩
      · obtain rfl : k = n := by omega
        have HD := hid (decide_eq_true (show L = M by have := HE.out; rwa [List.take_of_length_le (by have := Hn.out; omega), List.take_of_length_le (by have := Hm.out; omega)] at this))
        clear HE
        go_wp2
        go_ret
        exact ⟨by rw [HD.out]; rfl, _, rfl⟩
  · have HD := hid (decide_eq_false (show ¬ L = M from fun h => hnm (by rw [hn, hm, h])))
    have hb : ((n : Int) != (m : Int)) = true := by rw [bne_iff_ne]; omega
    have hb2 : ¬ (n : Int) = (m : Int) := by omega
    clear hL hM hn hm HL HM
    go_enter Tryz.func83, Tryz.ntmps83
    go_wp2
    go_ret
    exact ⟨by rw [HD.out]; rfl, 0, rfl⟩

def pack16 : List Int → List Int
  | [] => []
  | [x] => [x]
  | x :: y :: l => (x + 65536 * y) :: pack16 l
theorem pack16_val : ∀ l : List Int, val B32 (pack16 l) = val R16 l
  | [] => rfl
  | [x] => by simp [pack16, val]
  | x :: y :: l => by
    have h := pack16_val l
    have e : B32 = 4294967296 := rfl
    have e2 : R16 = 65536 := rfl
    rw [e, e2] at h
    simp only [pack16, val, h, e, e2]
    omega
theorem pack16_len : ∀ l : List Int, (pack16 l).length = (l.length + 1) / 2
  | [] => rfl
  | [x] => by simp [pack16]
  | x :: y :: l => by simp only [pack16, List.length_cons, pack16_len l]; omega
theorem pack16_dig : ∀ {l : List Int}, Dig R16 l → Dig B32 (pack16 l)
  | [], _ => Dig.nil _
  | [x], h => by
    have h1 := h.head; unfold R16 at h1
    exact Dig.cons h1.1 (by unfold B32; omega) (Dig.nil _)
  | x :: y :: l, h => by
    have h1 := h.head; have h2 := h.tail.head; unfold R16 at h1 h2
    exact Dig.cons (by omega) (by unfold B32; omega) (pack16_dig h.tail.tail)
theorem pack16_nrm {l : List Int} (hd : Dig R16 l) (hn : Nrm l) : Nrm (pack16 l) := by
  rcases Nat.eq_zero_or_pos l.length with h0 | h0
  · rw [List.eq_nil_of_length_eq_zero h0]; rfl
  · have lo := hn.low R16_pos hd h0
    obtain ⟨q, hq⟩ : ∃ q, (l.length + 1) / 2 = q + 1 := ⟨(l.length + 1) / 2 - 1, by omega⟩
    refine nrm_of_low B32_pos (pack16_dig hd) (by rw [pack16_len, hq]) ?_
    rw [pack16_val]
    have e : B32 ^ q = R16 ^ (2 * q) := by rw [Int.pow_mul]; rfl
    rw [e]
    exact Int.le_trans (pow_mono R16_pos (by omega)) lo
theorem pack16_step : ∀ (k : Nat) (L : List Int), 2 * k < L.length → pack16 (L.take (2 * k + 2)) = pack16 (L.take (2 * k)) ++ [L[2 * k]?.getD 0 + 65536 * L[2 * k + 1]?.getD 0]
  | 0, [], h => by simp at h
  | 0, [x], _ => by simp [pack16]
  | 0, x :: y :: l, _ => by simp [pack16]
  | k + 1, [], h => by simp at h
  | k + 1, [x], h => by simp at h
  | k + 1, x :: y :: l, h => by
    have ih := pack16_step k l (by simp at h; omega)
    have e1 : 2 * (k + 1) + 2 = (2 * k + 2) + 1 + 1 := by omega
    have e2 : 2 * (k + 1) = 2 * k + 1 + 1 := by omega
    rw [e1, e2]
    simp only [List.take_succ_cons, pack16, ih, List.cons_append]
    simp

/-- The value v (an api.Int) is the normal form of z. -/
def An (w : World) (v : Value) (z : Int) (K : Nat) : Prop := ∃ ao c L, v = .agg #[.bool (decide (z < 0)), .slice ao L.length c] ∧ Rd w .u32 ao c L ∧ Dig B32 L ∧ Nrm L ∧ val B32 L = (z.natAbs : Int) ∧ L.length ≤ K
theorem An.below {w w' : World} {v : Value} {n : Int} {K B : Nat} (h : An w v n K) (hb : Below B w w') (hB : w.heap.size ≤ B) : An w' v n K := by
  obtain ⟨ao, c, L, e, hr, h⟩ := h; exact ⟨ao, c, L, e, hr.below hb hB, h⟩
theorem An.set {w : World} {s : Value} {n : Int} {K : Nat} (h : An w s n K) {a : Addr} {u : Value} (hu : w.cell? a = some u) (hn : ∀ x, u ≠ .int .u32 x) (v : Value) : An (w.setCell a v) s n K := by
  obtain ⟨ao, c, L, e, hr, h⟩ := h; exact ⟨ao, c, L, e, hr.set hu hn v, h⟩
def RetAn (w : World) (z : Int) (K : Nat) (e : Ending) (w' : World) : Prop := ∃ v, e = .returned v ∧ An w' v z K ∧ Below w.heap.size w w'

theorem owns_slice {w : World} {base n s : Nat} {e : TypeId} {v : Value} {xs : List Value} (h : w.ownsRow base e s v n xs) : ∃ ao cap, v = .slice ao n cap := by
  rcases h.2 with ⟨rfl, rfl⟩ | ⟨g, cap, cur, rfl, _⟩
  · exact ⟨_, _, rfl⟩
  · exact ⟨_, _, rfl⟩

theorem owns_any {w : World} {base n c : Nat} {e : TypeId} {k : IntKind} {vo : Option Addr} {L : List Int} (h : w.ownsRow base e 1 (.slice vo n c) n (L.map (Value.int k))) (hl : L.length = n) : Rd w k vo c L := by
  rcases h.2 with ⟨e, rfl⟩ | ⟨g, cap, cur, e, hb, hh, hn, hcm, _⟩
  · obtain rfl : L = [] := List.eq_nil_of_length_eq_zero hl
    obtain ⟨rfl, _, rfl⟩ := Value.slice.inj e
    exact Rd.nil _ _
  · obtain ⟨rfl, _, rfl⟩ := Value.slice.inj e
    subst hl
    exact owns_rd h hcm

/-- The words so far. -/
structure InI (w W0 wr : World) (nb : Bool) (L : List Int) (k : Nat) (ov : Value) : Prop where
  ob : wr.heap[w.heap.size + 2]? = some (.cells #[.bool nb, ov] 24 (0, 0))
  own : wr.ownsRow W0.heap.size 89 1 ov k ((pack16 (L.take (2 * k))).map (Value.int .u32))
  low : Below (w.heap.size + 2) W0 wr
  siz : W0.heap.size ≤ wr.heap.size

theorem InI.cells {w W0 wr : World} {nb : Bool} {L : List Int} {k : Nat} {ov : Value} (H : InI w W0 wr nb L k ov) :
    wr.cell? ⟨w.heap.size + 2, 0, none⟩ = some (.bool nb) ∧ wr.cell? ⟨w.heap.size + 2, 1, none⟩ = some ov ∧ wr.frozen? ⟨w.heap.size + 2, 1, none⟩ = false :=
  ⟨(cell_of_row wr _ 0 _ _ (0, 0) H.ob).trans rfl, (cell_of_row wr _ 1 _ _ (0, 0) H.ob).trans rfl, frozen_of_row wr _ 1 _ _ H.ob⟩

theorem InI.kept3 {w W0 wr w3 : World} {nb : Bool} {L : List Int} {k : Nat} {ov : Value} (H : InI w W0 wr nb L k ov) (hw0 : W0.heap.size = w.heap.size + 3) {o : Obj} (hg : (wr.alloc o).grownBy w3 ov.ownBlock) : w3.heap[w.heap.size + 2]? = some (.cells #[.bool nb, ov] 24 (0, 0)) := by
  rw [hg.block (w.heap.size + 2) (by have := H.siz; simp; omega) (fun e => by have := owns_block H.own _ e.symm; omega)]
  show (wr.heap.push o)[w.heap.size + 2]? = _
  rw [Array.getElem?_push_lt (by have := H.siz; omega)]
  have h := H.ob
  rw [Array.getElem?_eq_getElem (by have := H.siz; omega)] at h
  exact h
theorem InI.next {w W0 wr w3 : World} {nb : Bool} {L : List Int} {k : Nat} {ov ov' : Value} (H : InI w W0 wr nb L k ov) (hw0 : W0.heap.size = w.heap.size + 3) (o : Obj) (y : Int) (hk : 2 * k < L.length) (hy : y = L[2 * k]?.getD 0 + 65536 * L[2 * k + 1]?.getD 0)
    (hown : w3.ownsRow W0.heap.size 89 1 ov' (k + 1) ((pack16 (L.take (2 * k))).map (Value.int .u32) ++ [.int .u32 y])) (hg : (wr.alloc o).grownBy w3 ov.ownBlock) :
    InI w W0 (w3.setCell ⟨w.heap.size + 2, 1, none⟩ ov') nb L (k + 1) ov' := by
  have hlow3 : Below (w.heap.size + 2) W0 w3 := (H.low.alloc (by have := H.siz; omega) o).grown hg (by have := H.siz; simp; omega) (fun i e => by have := owns_block H.own i e; omega)
  have hsz3 : W0.heap.size ≤ w3.heap.size := by have := hg.size; simp at this; have := H.siz; omega
  have hob3 : w3.heap[w.heap.size + 2]? = some (.cells #[.bool nb, ov] 24 (0, 0)) := by
    rw [hg.block (w.heap.size + 2) (by have := H.siz; simp; omega) (fun e => by have := owns_block H.own _ e.symm; omega)]
    show (wr.heap.push o)[w.heap.size + 2]? = _
    rw [Array.getElem?_push_lt (by have := H.siz; omega)]
    have h := H.ob
    rw [Array.getElem?_eq_getElem (by have := H.siz; omega)] at h
    exact h
  refine ⟨?_, ?_, hlow3.setCell (Nat.le_refl _) _, by simpa using hsz3⟩
  · rw [heap_setCell_same w3 _ 1 _ _ _ hob3]; rfl
  · have h := ownsRow_setCell_below hown (a := ⟨w.heap.size + 2, 1, none⟩) (by simp; omega) ov'
    rw [show 2 * (k + 1) = 2 * k + 2 by omega, pack16_step k L hk, ← hy, List.map_append]
    exact h

set_option maxRecDepth 100000 in
set_option maxHeartbeats 8000000 in
theorem rint_any (v : Value) (z : Int) (K : Nat) (w : World) (h : Zt w v z K) (hK : K ≤ 268435456) :
    Calls Tryz.prog 123 #[v] w (RetAn w z ((K + 1) / 2)) := by
  obtain ⟨_, rfl, ao, c, L, rfl, h⟩ := h
  obtain ⟨n, hn⟩ : ∃ n, n = L.length := ⟨_, rfl⟩
  have hnK := h.le
  rw [← hn] at hnK ⊢
  obtain ⟨nb, hnb⟩ : ∃ nb, nb = decide (z < 0) := ⟨_, rfl⟩
  rw [← hnb]
  have H := hid h; have Hn := hid hn; have Hnb := hid hnb
  clear h hn hnb
  obtain ⟨i0, hi, hz0, hz1, hz2⟩ := info_parts Tryz.info89
  go_enter Tryz.func123, Tryz.ntmps123
  go_upto_region 2 with (fail)
  obtain ⟨W0, hW0⟩ : ∃ W0, W0 = (((w.alloc (.cells #[.bool nb, .slice ao n c] 31)).alloc (.cells #[.bool false, .slice none 0 0] 24)).alloc (.cells #[.bool nb, .slice none 0 0] 24)) := ⟨_, rfl⟩
  have hB0 : Below w.heap.size w W0 := by rw [hW0]; exact (((Below.refl _ _).alloc (Nat.le_refl _) _).alloc (by simp) _).alloc (by simp; omega) _
  have hw0 : W0.heap.size = w.heap.size + 3 := by rw [hW0]; simp
  have HS : Hid (∀ w', Below (w.heap.size + 2) W0 w' → w'.cell? ⟨w.heap.size, 0, none⟩ = some (.bool nb) ∧ w'.cell? ⟨w.heap.size, 1, none⟩ = some (.slice ao n c)) := hid (fun w' hb => by
    refine ⟨?_, ?_⟩ <;> (rw [hb.cell (by simp <;> omega), hW0]; simp [go_sem]))
  have HT : Hid (∀ w', Below (w.heap.size + 2) W0 w' → w'.cell? ⟨w.heap.size + 1, 0, none⟩ = some (.bool false) ∧ w'.cell? ⟨w.heap.size + 1, 1, none⟩ = some (.slice none 0 0) ∧ w'.frozen? ⟨w.heap.size + 1, 0, none⟩ = false ∧ w'.frozen? ⟨w.heap.size + 1, 1, none⟩ = false) := hid (fun w' hb => by
    refine ⟨?_, ?_, ?_, ?_⟩ <;> (first | (rw [hb.cell (by simp <;> omega), hW0]; simp [go_sem]; done) | (rw [hb.frozen (by simp <;> omega), hW0]; simp [go_sem]; done)))
  have hI0 : InI w W0 W0 nb L 0 (.slice none 0 0) := by
    refine ⟨?_, ⟨by simp [pack16], .inl ⟨rfl, rfl⟩⟩, Below.refl _ _, Nat.le_refl _⟩
    rw [hW0]
    show ((((w.heap.push _).push _).push _))[w.heap.size + 2]? = _
    have e : w.heap.size + 2 = ((w.heap.push (.cells #[.bool nb, .slice ao n c] 31)).push (.cells #[.bool false, .slice none 0 0] 24)).size := by simp
    rw [e, Array.getElem?_push_size]
  rw [← hW0, show w.heap.size + 1 + 1 = w.heap.size + 2 from rfl]
  clear hW0
  have HI0 := hid hI0; have HB0 := hid hB0; have Hw0 := hid hw0
  clear hI0 hB0 hw0
  go_wp2
  go_loopw [4] (fun iv wr => ∃ j k : Nat, ∃ ov, j ≤ n + 1 ∧ iv = .int .i64 j ∧ Hid (j = 2 * k) ∧ InI w W0 wr nb L k ov) (fun iv _ => n + 2 - (intOf iv).toNat)
  case atStart => exact ⟨0, 0, _, Nat.zero_le _, rfl, hid rfl, HI0.out⟩
  case round =>
    obtain ⟨j, k, ov, hj, rfl, HJ, HI⟩ := hrel
    obtain ⟨hs0, hs1⟩ := HS.out _ HI.low
    obtain ⟨vo, vc, rfl⟩ := owns_slice HI.own
    obtain ⟨c0, c1, f1⟩ := HI.cells
    by_cases hlt : j < n
    · obtain ⟨b, o, rfl⟩ := H.out.rd.adr (by have := Hn.out; omega)
      have hrd : Rd wr .i64 (some ⟨b, o, none⟩) c L := H.out.rd.below (HB0.out.trans (HI.low.mono (by omega))) (Nat.le_refl _)
      have hx := hrd.cell b o rfl j (by have := Hn.out; omega)
      have dx := H.out.dig.at R16_pos j
      have dy := H.out.dig.at R16_pos (j + 1)
      obtain ⟨x, hxe⟩ : ∃ x, x = L[j]?.getD 0 := ⟨_, rfl⟩
      rw [← hxe] at hx dx
      have x0 := dx.1; have x1 : x < 65536 := dx.2
      have y0 := dy.1; have y1 : L[j + 1]?.getD 0 < 65536 := dy.2
      have hj0 : (0 : Int) ≤ (j : Int) := by omega
      by_cases h2 : j + 1 < n
      · have hy := hrd.cell b o rfl (j + 1) (by have := Hn.out; omega)
        obtain ⟨y, hye⟩ : ∃ y, y = L[j + 1]?.getD 0 := ⟨_, rfl⟩
        rw [← hye] at hy y0 y1
        have HT2 : Hid (x + 65536 * y = L[2 * k]?.getD 0 + 65536 * L[2 * k + 1]?.getD 0) := hid (by rw [← HJ.out, ← hxe, ← hye])
        obtain ⟨t, ht⟩ : ∃ t, x + 65536 * y = t := ⟨_, rfl⟩
        have t0 : 0 ≤ t := by omega
        have t1 : t < 4294967296 := by omega
        have q1 : IntKind.u32.wrap t = t := by rw [IntKind.wrap_u32]; omega
        rw [ht] at HT2
        have h2i : (j : Int) + 1 < (n : Int) := by omega
        have HH := hid HI
        clear hxe hye dx dy hrd HI HI0
        go_wp2_with (at_builtin; refine wpList_append_own _ rfl _ _ 22 rfl W0.heap.size 89 i0 (.int .u32 0) 1 4 Tryz.underlying22 hi hz0 hz1 hz2 rfl (by decide) _ k _ rfl (HH.out.own.alloc _) ⟨wr.heap.size, 0, none⟩ 1 1 [.int .u32 t] rfl rfl (fun j u hj => new_one0 j u hj) ?c2 ?c3 ?c4 ?c5 ?_)
        case c2 => first | rfl | (intro u hu; simp at hu; subst hu; rfl)
        case c3 => have := HJ.out; unfold maxLen; omega
        case c4 => have := HJ.out; omega
        case c5 => have := HH.out.siz; simp; omega
        intro ov' w3 hown hg _
        obtain ⟨no, nc, rfl⟩ := owns_slice hown
        have hn := HH.out.next Hw0.out _ t (by have := HJ.out; have := Hn.out; omega) HT2.out hown hg
        have ho := hn.cells
        have hf3 : w3.cell? ⟨w.heap.size + 2, 1, none⟩ = some (.slice vo k vc) ∧ w3.frozen? ⟨w.heap.size + 2, 1, none⟩ = false := by
          have hne : (Value.slice vo k vc).ownBlock ≠ some (w.heap.size + 2) := fun e => by have := owns_block HH.out.own _ e; have := Hw0.out; omega
          exact ⟨hg.cell (a := ⟨w.heap.size + 2, 1, none⟩) (by rw [(Below.refl _ _).alloc (Nat.le_refl wr.heap.size) _ |>.cell (by have := HH.out.siz; have := Hw0.out; simp; omega)]; exact HH.out.cells.2.1) (Ne.symm hne), frozen_of_row w3 _ 1 _ _ (HH.out.kept3 Hw0.out hg)⟩
        obtain ⟨g1, g2⟩ := hf3
        have HN := hid hn
        clear hown hg hn ho
        go_wp2
        go_roundw
        case rel => exact ⟨j + 2, k + 1, _, by omega, by go_num, hid (by have := HJ.out; omega), HN.out⟩
        case measure => simp [intOf]; omega
      · have hye : L[j + 1]?.getD 0 = 0 := by
          have : L.length ≤ j + 1 := by have := Hn.out; omega
          simp [this]
        have HT2 : Hid (x = L[2 * k]?.getD 0 + 65536 * L[2 * k + 1]?.getD 0) := hid (by rw [← HJ.out, hye, ← hxe]; omega)
        obtain ⟨t, ht⟩ : ∃ t, x = t := ⟨_, rfl⟩
        subst ht
        have q1 : IntKind.u32.wrap x = x := by rw [IntKind.wrap_u32]; omega
        obtain rfl : n = j + 1 := by omega
        have h2i : ¬ (j : Int) + 1 < ((j + 1 : Nat) : Int) := by omega
        clear h2
        have HH := hid HI
        clear hxe hye dx dy hrd HI HI0
        go_wp2_with (at_builtin; refine wpList_append_own _ rfl _ _ 22 rfl W0.heap.size 89 i0 (.int .u32 0) 1 4 Tryz.underlying22 hi hz0 hz1 hz2 rfl (by decide) _ k _ rfl (HH.out.own.alloc _) ⟨wr.heap.size, 0, none⟩ 1 1 [.int .u32 x] rfl rfl (fun j u hj => new_one0 j u hj) ?c2 ?c3 ?c4 ?c5 ?_)
        case c2 => first | rfl | (intro u hu; simp at hu; subst hu; rfl)
        case c3 => have := HJ.out; unfold maxLen; omega
        case c4 => have := HJ.out; omega
        case c5 => have := HH.out.siz; simp; omega
        intro ov' w3 hown hg _
        obtain ⟨no, nc, rfl⟩ := owns_slice hown
        have hn := HH.out.next Hw0.out _ x (by have := HJ.out; have := Hn.out; omega) HT2.out hown hg
        have ho := hn.cells
        have hf3 : w3.cell? ⟨w.heap.size + 2, 1, none⟩ = some (.slice vo k vc) ∧ w3.frozen? ⟨w.heap.size + 2, 1, none⟩ = false := by
          have hne : (Value.slice vo k vc).ownBlock ≠ some (w.heap.size + 2) := fun e => by have := owns_block HH.out.own _ e; have := Hw0.out; omega
          exact ⟨hg.cell (a := ⟨w.heap.size + 2, 1, none⟩) (by rw [(Below.refl _ _).alloc (Nat.le_refl wr.heap.size) _ |>.cell (by have := HH.out.siz; have := Hw0.out; simp; omega)]; exact HH.out.cells.2.1) (Ne.symm hne), frozen_of_row w3 _ 1 _ _ (HH.out.kept3 Hw0.out hg)⟩
        obtain ⟨g1, g2⟩ := hf3
        have HN := hid hn
        clear hown hg hn ho
        go_wp2
        go_roundw
        case rel => exact ⟨j + 2, k + 1, _, by omega, by go_num, hid (by have := HJ.out; omega), HN.out⟩
        case measure => simp [intOf]; omega
    · have hall : L.take (2 * k) = L := List.take_of_length_le (by have := HJ.out; have := Hn.out; omega)
      have ho := HI.own
      rw [hall] at ho
      have hkl : (pack16 L).length = k := by have := ho.1; simpa using this
      have hrd := owns_any ho hkl
      have hAn : An wr (.agg #[.bool nb, .slice vo k vc]) z ((K + 1) / 2) := by
        have hl := pack16_len L
        rw [Hnb.out]
        exact ⟨vo, vc, pack16 L, by rw [hkl], hrd, pack16_dig H.out.dig, pack16_nrm H.out.dig H.out.nrm, by rw [pack16_val]; exact H.out.eq, by have := H.out.le; omega⟩
      have hlow := HB0.out.trans (HI.low.mono (by omega))
      obtain ⟨hr0, hr1, hr2, hr3⟩ := HT.out _ HI.low
      have HAn := hid hAn; have HLow := hid hlow
      clear hall ho hkl hrd hAn hlow HI HI0
      go_wp2
      refine bodyPost_ret (v := .agg #[.bool nb, .slice vo k vc]) (by simp [results, Tryz.results123, go_sem, hr0, hr1]) rfl ⟨_, rfl, ?_, (HLow.out.setCell (by simp <;> omega) _).setCell (by simp <;> omega) _⟩
      exact (HAn.out.set hr0 (fun x h => (by cases h)) _).set (u := .slice none 0 0) (by simp [go_sem, hr1]) (fun x h => (by cases h)) _

end Go.Proofs.YtbapeilpkhbbeaaGreatDoor

/- exact.Over: the ratio of two numbers of 64 bits, or ErrZero. -/
namespace Go.Proofs.YtbapeilpkhbbeaaGreatDoor
open Go.RowKit

theorem FrA.ai {w0 w : World} {v : Value} {z : Int} {K : Nat} (h : FrA w0 w v z K) : Ai w v z K := by
  obtain ⟨s, rfl, L, ho, hd, hn, hv, hl⟩ := h
  obtain ⟨ao, c, rfl⟩ := owns_slice ho
  refine ⟨_, ao, c, L, rfl, owns_any ho rfl, hd, hl, ?_⟩
  rw [hv]
  unfold sgn
  by_cases h : z < 0 <;> simp [h] <;> omega

end Go.Proofs.YtbapeilpkhbbeaaGreatDoor

/- exact.readRatio where the denominator is not 0. -/
namespace Go.Proofs.YtbapeilpkhbbeaaGreatDoor
open Go.RowKit

/-- A value that reads as a ratio of two integers. -/
def Ra (w : World) (v : Value) (x y : Int) (K : Nat) : Prop := ∃ b1 o1 m1 c1 b2 o2 m2 c2, v = .agg #[.bool b1, .slice o1 m1 c1, .bool b2, .slice o2 m2 c2] ∧ Ai w (.agg #[.bool b1, .slice o1 m1 c1]) x K ∧ Ai w (.agg #[.bool b2, .slice o2 m2 c2]) y K
theorem Ra.below {w w' : World} {v : Value} {x y : Int} {K B : Nat} (h : Ra w v x y K) (hb : Below B w w') (hB : w.heap.size ≤ B) : Ra w' v x y K := by
  obtain ⟨b1, o1, m1, c1, b2, o2, m2, c2, rfl, h1, h2⟩ := h
  exact ⟨b1, o1, m1, c1, b2, o2, m2, c2, rfl, h1.below hb hB, h2.below hb hB⟩
theorem Ra.opened {w : World} {v : Value} {x y : Int} {K : Nat} (h : Ra w v x y K) : ∃ b1 o1 m1 c1 b2 o2 m2 c2, v = .agg #[.bool b1, .slice o1 m1 c1, .bool b2, .slice o2 m2 c2] ∧ Hid (∀ w', Below w.heap.size w w' → Ai w' (.agg #[.bool b1, .slice o1 m1 c1]) x K) ∧ Hid (∀ w', Below w.heap.size w w' → Ai w' (.agg #[.bool b2, .slice o2 m2 c2]) y K) := by
  obtain ⟨b1, o1, m1, c1, b2, o2, m2, c2, rfl, h1, h2⟩ := h
  exact ⟨b1, o1, m1, c1, b2, o2, m2, c2, rfl, hid (fun _ hb => h1.below hb (Nat.le_refl _)), hid (fun _ hb => h2.below hb (Nat.le_refl _))⟩
theorem FrR.ra {w0 w : World} {v : Value} {x y : Int} {K : Nat} (h : FrR w0 w v x y K) : Ra w v x y K := by
  obtain ⟨b1, o1, m1, c1, b2, o2, m2, c2, rfl, h1, h2⟩ := FrR.opened h
  exact ⟨b1, o1, m1, c1, b2, o2, m2, c2, rfl, h1.out.ai, h2.out.ai⟩

set_option maxRecDepth 100000 in
set_option maxHeartbeats 1000000 in
theorem readRatio_ne (v : Value) (x y : Int) (K : Nat) (w : World) (hv : Ra w v x y K) (hy : y ≠ 0) (hK : K ≤ 1073741823) :
    Calls Tryz.prog 19 #[v] w fun e w' => ∃ f, e = .returned f ∧ Ft w' f (sgn (decide (x < 0) != decide (y < 0)) (x.natAbs : Int)) (y.natAbs : Int) ((K + 1) / 2) ∧ Below w.heap.size w w' := by
  obtain ⟨xb, xo, xm, xc, yb, yo, ym, yc, rfl, Hx, Hy⟩ := Ra.opened hv
  clear hv
  obtain ⟨W0, hW0⟩ : ∃ W0, W0 = ((w.alloc (.cells #[.bool xb, .slice xo xm xc, .bool yb, .slice yo ym yc] 26)).alloc (.cells #[.bool false, .slice none 0 0, .slice none 0 0] 58)) := ⟨_, rfl⟩
  have hB0 : Below w.heap.size w W0 := by rw [hW0]; exact ((Below.refl _ _).alloc (Nat.le_refl _) _).alloc (by simp) _
  have hz0 : W0.heap.size = w.heap.size + 2 := by rw [hW0]; simp
  have HS : Hid (∀ w', Below (w.heap.size + 1) W0 w' → w'.cell? ⟨w.heap.size, 0, none⟩ = some (.bool xb) ∧ w'.cell? ⟨w.heap.size, 1, none⟩ = some (.slice xo xm xc) ∧ w'.cell? ⟨w.heap.size, 2, none⟩ = some (.bool yb) ∧ w'.cell? ⟨w.heap.size, 3, none⟩ = some (.slice yo ym yc)) := hid (fun w' hb => by
    refine ⟨?_, ?_, ?_, ?_⟩ <;> (rw [hb.cell (by simp <;> omega), hW0]; simp [go_sem]))
  have HT : Hid (∀ w', Below (w.heap.size + 2) W0 w' → (w'.cell? ⟨w.heap.size + 1, 0, none⟩ = some (.bool false) ∧ w'.cell? ⟨w.heap.size + 1, 1, none⟩ = some (.slice none 0 0) ∧ w'.cell? ⟨w.heap.size + 1, 2, none⟩ = some (.slice none 0 0)) ∧ (w'.frozen? ⟨w.heap.size + 1, 0, none⟩ = false ∧ w'.frozen? ⟨w.heap.size + 1, 1, none⟩ = false ∧ w'.frozen? ⟨w.heap.size + 1, 2, none⟩ = false)) := hid (fun w' hb => by
    refine ⟨⟨?_, ?_, ?_⟩, ?_, ?_, ?_⟩ <;> (first | (rw [hb.cell (by simp <;> omega), hW0]; simp [go_sem]; done) | (rw [hb.frozen (by simp <;> omega), hW0]; simp [go_sem]; done)))
  have HB0 := hid hB0; have Hz0 := hid hz0; have HW := hid hW0
  clear hW0 hB0 hz0
  have hcy : cmpI y 0 ≠ 0 := by unfold cmpI; split <;> (try split) <;> omega
  obtain ⟨t, ht⟩ : ∃ t, t = cmpI y 0 := ⟨_, rfl⟩
  rw [← ht] at hcy
  have Ht := hid ht
  clear ht
  go_enter Tryz.func19, Tryz.ntmps19
  go_upto_region 1 with (fail)
  rw [← HW.out]
  obtain ⟨k0, k1, k2, k3⟩ := HS.out _ (Below.refl _ _)
  go_wp2_with fail
  refine (read_any _ y K _ (Hy.out _ HB0.out) (by omega)).mono ?_
  rintro e w1 ⟨_, rfl, hv1, hb1⟩
  obtain ⟨b1, o1, m1, c1, rfl, H1, H1s, H1b⟩ := It.opened hv1
  have hB1 : Below (w.heap.size + 2) W0 w1 := hb1.mono (by have := Hz0.out; omega)
  clear k0 k1 k2 k3 hv1 hb1
  go_wp2_with fail
  obtain ⟨W2, hW2⟩ : ∃ W2, W2 = w1.alloc (.cells #[.bool b1, .slice o1 m1 c1] 56) := ⟨_, rfl⟩
  have hal : Below w1.heap.size w1 W2 := by rw [hW2]; exact (Below.refl _ _).alloc (Nat.le_refl _) _
  have hz2 : W2.heap.size = w1.heap.size + 1 := by rw [hW2]; simp
  have hs1 := hB1.size
  have hB2 : Below (w.heap.size + 2) W0 W2 := hB1.trans (hal.mono (by have := Hz0.out; omega))
  have hbx := HS.out _ (hB2.mono (by omega))
  have hby0 : W2.cell? ⟨w1.heap.size, 0, none⟩ = some (.bool b1) := by rw [hW2]; simp [go_sem]
  have hby1 : W2.cell? ⟨w1.heap.size, 1, none⟩ = some (.slice o1 m1 c1) := by rw [hW2]; simp [go_sem]
  have HSS : Hid (∀ w', Kp W2.heap.size (w.heap.size + 1) W2 w' → w'.cell? ⟨w.heap.size, 0, none⟩ = some (.bool xb) ∧ w'.cell? ⟨w.heap.size, 1, none⟩ = some (.slice xo xm xc) ∧ w'.cell? ⟨w1.heap.size, 0, none⟩ = some (.bool b1) ∧ w'.cell? ⟨w1.heap.size, 1, none⟩ = some (.slice o1 m1 c1)) := hid (fun w' h => by
    have := Hz0.out
    exact ⟨(h.cell _ (by simp; omega) (by simp)).trans hbx.1, (h.cell _ (by simp; omega) (by simp)).trans hbx.2.1, (h.cell _ (by simp; omega) (by simp; omega)).trans hby0, (h.cell _ (by simp; omega) (by simp; omega)).trans hby1⟩)
  rw [← hW2]
  have HAL := hid hal; have HB2 := hid hB2; have Hz2 := hid hz2; have Hs1 := hid hs1
  clear hW2 hbx hby0 hby1 hal hB2 hz2 hs1 hB1
  refine (sign_any _ y _ _ (H1.out _ HAL.out)).mono ?_
  rintro e w3 ⟨rfl, hb3⟩
  rw [← Ht.out]
  have hw3 : Below w.heap.size w w3 := HB0.out.trans ((HB2.out.trans (hb3.mono HB2.out.size |>.mono (by have := Hz0.out; omega))).mono (by omega))
  go_wp2
  go_region_held3 (fun w' => w'.cell? ⟨w.heap.size, 0, none⟩ = some (.bool xb) ∧ w'.cell? ⟨w.heap.size, 1, none⟩ = some (.slice xo xm xc) ∧ w'.cell? ⟨w1.heap.size, 0, none⟩ = some (.bool b1) ∧ w'.cell? ⟨w1.heap.size, 1, none⟩ = some (.slice o1 m1 c1)) ((refine HSS.out _ ?_; repeat (first | assumption | exact Kp.of_below (by assumption) | exact Kp.of_below (Below.refl _ _) | exact Kp.of_below (Below.refl _ _).drew | exact Kp.of_below (Below.drew (by assumption)) | (refine Kp.set ?_ (by simp) _)))) (first
    | (go_at_call 39; refine (read_any _ x K _ (Hx.out _ hw3.drew) (by omega)).mono ?_; rintro e w4 ⟨_, rfl, hv4, hb4⟩; obtain ⟨b4, o4, m4, c4, rfl, H4, H4s, H4b⟩ := It.opened hv4; have hX4 : Below W2.heap.size W2 w4 := hb3.drew.trans (hb4.mono (by have := hb3.size; simp; omega)))
    | (go_at_call 52; refine (divided_any _ _ x y _ _ (H4.out _ (Below.refl _ _)) (H1.out _ (HAL.out.trans (hX4.mono HAL.out.size)))).mono ?_; rintro e w5 ⟨_, rfl, ⟨_, _, rfl, hn5, hd5⟩, hb5⟩; obtain ⟨o6, m6, c6, rfl, H6⟩ := Nt.opened hn5; obtain ⟨o7, m7, c7, rfl, H7⟩ := Nt.opened hd5; have hX5 : Below W2.heap.size W2 w5 := hX4.trans (hb5.mono hX4.size); obtain ⟨⟨hr0, hr1, hr2⟩, hf0, hf1, hf2⟩ := HT.out _ (HB2.out.trans (hX5.mono HB2.out.size |>.mono (by have := Hz0.out; omega)))))
  go_wp2
  have hz0 := Hz0.out; have hz2 := Hz2.out; have hs1 := Hs1.out; have hs5 := hX5.size
  have hw5 : Below w.heap.size w w5 := HB0.out.trans ((HB2.out.trans (hX5.mono (by omega))).mono (by omega))
  refine bodyPost_ret (v := .agg #[.bool (decide (sgn (decide (x < 0) != decide (y < 0)) (x.natAbs : Int) < 0)), .slice o6 m6 c6, .slice o7 m7 c7]) (by simp [results, Tryz.results19, go_sem, hr0, hr1, hr2]) rfl ⟨_, rfl, ?_, ((hw5.setCell (by simp <;> omega) _).setCell (by simp <;> omega) _).setCell (by simp <;> omega) _⟩
  refine ⟨_, _, rfl, ?_, ?_⟩
  · exact nt_keeps (((((Keeps.refl _ _).setCell (u := .bool false) hr0 (fun x h => (by cases h)) _).setCell (u := .slice none 0 0) (by simp [go_sem, hr1]) (fun x h => (by cases h)) _).setCell (u := .slice none 0 0) (by simp [go_sem, hr2]) (fun x h => (by cases h)) _)) (H6.out _ (Below.refl _ _))
  · exact nt_keeps (((((Keeps.refl _ _).setCell (u := .bool false) hr0 (fun x h => (by cases h)) _).setCell (u := .slice none 0 0) (by simp [go_sem, hr1]) (fun x h => (by cases h)) _).setCell (u := .slice none 0 0) (by simp [go_sem, hr2]) (fun x h => (by cases h)) _)) (H7.out _ (Below.refl _ _))
end Go.Proofs.YtbapeilpkhbbeaaGreatDoor

/- (exact.fraction).plus where the denominators are the same. -/
namespace Go.Proofs.YtbapeilpkhbbeaaGreatDoor
open Go.RowKit

theorem Ft.opened {w : World} {v : Value} {z d : Int} {K : Nat} (h : Ft w v z d K) : ∃ b o m c o2 m2 c2, v = .agg #[.bool b, .slice o m c, .slice o2 m2 c2] ∧ Hid (∀ w', Below w.heap.size w w' → It w' (.agg #[.bool b, .slice o m c]) z K) ∧ Hid (∀ w', Below w.heap.size w w' → Nt w' (.slice o2 m2 c2) d K) ∧ Hid (b = decide (z < 0)) := by
  obtain ⟨_, _, rfl, h1, h2⟩ := h
  obtain ⟨o, m, c, rfl, H1⟩ := Nt.opened h1
  obtain ⟨o2, m2, c2, rfl, H2⟩ := Nt.opened h2
  exact ⟨_, o, m, c, o2, m2, c2, rfl, hid (fun w' hb => ⟨_, rfl, H1.out w' hb⟩), H2, hid rfl⟩

end Go.Proofs.YtbapeilpkhbbeaaGreatDoor
