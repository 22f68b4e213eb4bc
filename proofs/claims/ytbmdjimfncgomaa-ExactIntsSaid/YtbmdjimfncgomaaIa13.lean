/- The document's own integers: SameWords, Int, SameInt, LikeInt, NoInt. The document's own integers: SameInt, LikeInt; the law's spoil. Lehmer's steps: the highest 64 bits; what the steps are. -/
import Derived.Test.YtbmdjimfncgomaaIa12
import Derived.Test.YtbmdjimfncgomaaIa08
import Derived.Test.YtbmdjimfncgomaaIa11
/- The document's own integers: SameWords, Int, SameInt, LikeInt, NoInt. -/
namespace Go.Proofs.Ytbmdjimfncgomaa
open Go.RowKit

/-! Lists of words. -/
theorem take_eq_step {L M : List Int} {k : Nat} (hl : k < L.length) (hm : k < M.length) (h : L.take k = M.take k) (he : L[k]?.getD 0 = M[k]?.getD 0) : L.take (k + 1) = M.take (k + 1) := by
  rw [take_succ_getD L k hl, take_succ_getD M k hm, h, he]

set_option maxRecDepth 100000 in
set_option maxHeartbeats 4000000 in
theorem sameWords_any (ao bo : Option Addr) (ca cb : Nat) (L M : List Int) (w : World) (hL : Rd w .u32 ao ca L) (hM : Rd w .u32 bo cb M) :
    Calls Try.prog 62 #[.slice ao L.length ca, .slice bo M.length cb] w fun e w' => e = .returned (.bool (decide (L = M))) ∧ ∃ nq, w' = w.drewN nq := by
  obtain ⟨n, hn⟩ : ∃ n, n = L.length := ⟨_, rfl⟩
  obtain ⟨m, hm⟩ : ∃ m, m = M.length := ⟨_, rfl⟩
  have hcap := hL.cap; have hmost := hL.most
  rw [← hn] at hcap
  rw [← hn, ← hm]
  have HL := hid hL; have HM := hid hM
  by_cases hnm : n = m
  · subst hnm
    have Hn := hid hn; have Hm := hid hm
    have hb : ((n : Int) != (n : Int)) = false := by simp
    clear hL hM hn hm
    go_enter Try.func62, Try.ntmps62
    go_wp2
    go_loopw [5] (fun iv wr => ∃ k : Nat, k ≤ n ∧ iv = .int .i64 k ∧ Hid (L.take k = M.take k) ∧ Hid (∃ nq, wr = w.drewN nq)) (fun iv _ => n - (intOf iv).toNat)
    case atStart => exact ⟨0, Nat.zero_le _, rfl, hid rfl, hid ⟨0, rfl⟩⟩
    case round =>
      obtain ⟨k, hk, rfl, HE, HW⟩ := hrel
      obtain ⟨nq, rfl⟩ := HW.out
      by_cases hlt : k < n
      · obtain ⟨ab, ao', rfl⟩ := HL.out.adr (by have := Hn.out; omega)
        obtain ⟨bb, bo', rfl⟩ := HM.out.adr (by have := Hm.out; omega)
        have h1 := HL.out.cell ab ao' rfl k (by have := Hn.out; omega)
        have h2 := HM.out.cell bb bo' rfl k (by have := Hm.out; omega)
        have HSt := hid (take_eq_step (show k < L.length by have := Hn.out; omega) (show k < M.length by have := Hm.out; omega) HE.out)
        have HNe := hid (show L = M → L[k]?.getD 0 = M[k]?.getD 0 from fun h => by rw [h])
        obtain ⟨x, hx⟩ : ∃ x, x = L[k]?.getD 0 := ⟨_, rfl⟩
        obtain ⟨y, hy⟩ : ∃ y, y = M[k]?.getD 0 := ⟨_, rfl⟩
        rw [← hx] at h1 HSt HNe; rw [← hy] at h2 HSt HNe
        have hk0 : (0 : Int) ≤ (k : Int) := by omega
        clear hx hy
        by_cases hxy : x = y
        · subst hxy
          have HSt2 := hid (HSt.out rfl)
          have hxx : (x != x) = false := by simp
          clear HSt HNe
          go_wp2
          go_quiet (fail)
          go_wp2
          go_roundw
          case rel => exact ⟨k + 1, by omega, by go_num, HSt2, hid ⟨_, rfl⟩⟩
          case measure => simp [intOf]; omega
        · have hxy' : (x != y) = true := by rw [bne_iff_ne]; exact hxy
          have HD := hid (decide_eq_false (fun h => hxy (HNe.out h)))
          clear HSt HNe
          go_wp2
          go_quiet (fail)
          go_wp2
          go_ret
          exact ⟨by rw [HD.out]; rfl, _, World.drewN_drewN _ _ _⟩
      · obtain rfl : k = n := by omega
        have HD := hid (decide_eq_true (show L = M by have := HE.out; rwa [List.take_of_length_le (by have := Hn.out; omega), List.take_of_length_le (by have := Hm.out; omega)] at this))
        clear HE
        go_wp2
        go_ret
        exact ⟨by rw [HD.out]; rfl, _, rfl⟩
  · have HD := hid (decide_eq_false (show ¬ L = M from fun h => hnm (by rw [hn, hm, h])))
    have hb : ((n : Int) != (m : Int)) = true := by rw [bne_iff_ne]; omega
    have hb2 : ¬ (n : Int) = (m : Int) := by omega
    clear hL hM hn hm HL HM
    go_enter Try.func62, Try.ntmps62
    go_wp2
    go_ret
    exact ⟨by rw [HD.out]; rfl, 0, rfl⟩

def pack16 : List Int → List Int
  | [] => []
  | [x] => [x]
  | x :: y :: l => (x + 65536 * y) :: pack16 l
theorem pack16_val : ∀ l : List Int, val B32 (pack16 l) = val R16 l
  | [] => rfl
  | [x] => by simp [pack16, val]
  | x :: y :: l => by
    have h := pack16_val l
    have e : B32 = 4294967296 := rfl
    have e2 : R16 = 65536 := rfl
    rw [e, e2] at h
    simp only [pack16, val, h, e, e2]
    omega
theorem pack16_len : ∀ l : List Int, (pack16 l).length = (l.length + 1) / 2
  | [] => rfl
  | [x] => by simp [pack16]
  | x :: y :: l => by simp only [pack16, List.length_cons, pack16_len l]; omega
theorem pack16_dig : ∀ {l : List Int}, Dig R16 l → Dig B32 (pack16 l)
  | [], _ => Dig.nil _
  | [x], h => by
    have h1 := h.head; unfold R16 at h1
    exact Dig.cons h1.1 (by unfold B32; omega) (Dig.nil _)
  | x :: y :: l, h => by
    have h1 := h.head; have h2 := h.tail.head; unfold R16 at h1 h2
    exact Dig.cons (by omega) (by unfold B32; omega) (pack16_dig h.tail.tail)
theorem pack16_nrm {l : List Int} (hd : Dig R16 l) (hn : Nrm l) : Nrm (pack16 l) := by
  rcases Nat.eq_zero_or_pos l.length with h0 | h0
  · rw [List.eq_nil_of_length_eq_zero h0]; rfl
  · have lo := hn.low R16_pos hd h0
    obtain ⟨q, hq⟩ : ∃ q, (l.length + 1) / 2 = q + 1 := ⟨(l.length + 1) / 2 - 1, by omega⟩
    refine nrm_of_low B32_pos (pack16_dig hd) (by rw [pack16_len, hq]) ?_
    rw [pack16_val]
    have e : B32 ^ q = R16 ^ (2 * q) := by rw [Int.pow_mul]; rfl
    rw [e]
    exact Int.le_trans (pow_mono R16_pos (by omega)) lo
theorem pack16_step : ∀ (k : Nat) (L : List Int), 2 * k < L.length → pack16 (L.take (2 * k + 2)) = pack16 (L.take (2 * k)) ++ [L[2 * k]?.getD 0 + 65536 * L[2 * k + 1]?.getD 0]
  | 0, [], h => by simp at h
  | 0, [x], _ => by simp [pack16]
  | 0, x :: y :: l, _ => by simp [pack16]
  | k + 1, [], h => by simp at h
  | k + 1, [x], h => by simp at h
  | k + 1, x :: y :: l, h => by
    have ih := pack16_step k l (by simp at h; omega)
    have e1 : 2 * (k + 1) + 2 = (2 * k + 2) + 1 + 1 := by omega
    have e2 : 2 * (k + 1) = 2 * k + 1 + 1 := by omega
    rw [e1, e2]
    simp only [List.take_succ_cons, pack16, ih, List.cons_append]
    simp

/-- The value v (an api.Int) is the normal form of z. -/
def An (w : World) (v : Value) (z : Int) (K : Nat) : Prop := ∃ ao c L, v = .agg #[.bool (decide (z < 0)), .slice ao L.length c] ∧ Rd w .u32 ao c L ∧ Dig B32 L ∧ Nrm L ∧ val B32 L = (z.natAbs : Int) ∧ L.length ≤ K
theorem An.below {w w' : World} {v : Value} {n : Int} {K B : Nat} (h : An w v n K) (hb : Below B w w') (hB : w.heap.size ≤ B) : An w' v n K := by
  obtain ⟨ao, c, L, e, hr, h⟩ := h; exact ⟨ao, c, L, e, hr.below hb hB, h⟩
theorem An.set {w : World} {s : Value} {n : Int} {K : Nat} (h : An w s n K) {a : Addr} {u : Value} (hu : w.cell? a = some u) (hn : ∀ x, u ≠ .int .u32 x) (v : Value) : An (w.setCell a v) s n K := by
  obtain ⟨ao, c, L, e, hr, h⟩ := h; exact ⟨ao, c, L, e, hr.set hu hn v, h⟩
def RetAn (w : World) (z : Int) (K : Nat) (e : Ending) (w' : World) : Prop := ∃ v, e = .returned v ∧ An w' v z K ∧ Below w.heap.size w w'

theorem owns_slice {w : World} {base n s : Nat} {e : TypeId} {v : Value} {xs : List Value} (h : w.ownsRow base e s v n xs) : ∃ ao cap, v = .slice ao n cap := by
  rcases h.2 with ⟨rfl, rfl⟩ | ⟨g, cap, cur, rfl, _⟩
  · exact ⟨_, _, rfl⟩
  · exact ⟨_, _, rfl⟩

theorem owns_any {w : World} {base n c : Nat} {e : TypeId} {k : IntKind} {vo : Option Addr} {L : List Int} (h : w.ownsRow base e 1 (.slice vo n c) n (L.map (Value.int k))) (hl : L.length = n) : Rd w k vo c L := by
  rcases h.2 with ⟨e, rfl⟩ | ⟨g, cap, cur, e, hb, hh, hn, hcm, _⟩
  · obtain rfl : L = [] := List.eq_nil_of_length_eq_zero hl
    obtain ⟨rfl, _, rfl⟩ := Value.slice.inj e
    exact Rd.nil _ _
  · obtain ⟨rfl, _, rfl⟩ := Value.slice.inj e
    subst hl
    exact owns_rd h hcm

/-- The words so far. -/
structure InI (w W0 wr : World) (nb : Bool) (L : List Int) (k : Nat) (ov : Value) : Prop where
  ob : wr.heap[w.heap.size + 2]? = some (.cells #[.bool nb, ov] 24 (0, 0))
  own : wr.ownsRow W0.heap.size 74 1 ov k ((pack16 (L.take (2 * k))).map (Value.int .u32))
  low : Below (w.heap.size + 2) W0 wr
  siz : W0.heap.size ≤ wr.heap.size

theorem InI.cells {w W0 wr : World} {nb : Bool} {L : List Int} {k : Nat} {ov : Value} (H : InI w W0 wr nb L k ov) :
    wr.cell? ⟨w.heap.size + 2, 0, none⟩ = some (.bool nb) ∧ wr.cell? ⟨w.heap.size + 2, 1, none⟩ = some ov ∧ wr.frozen? ⟨w.heap.size + 2, 1, none⟩ = false :=
  ⟨(cell_of_row wr _ 0 _ _ (0, 0) H.ob).trans rfl, (cell_of_row wr _ 1 _ _ (0, 0) H.ob).trans rfl, frozen_of_row wr _ 1 _ _ H.ob⟩

theorem InI.kept3 {w W0 wr w3 : World} {nb : Bool} {L : List Int} {k : Nat} {ov : Value} (H : InI w W0 wr nb L k ov) (hw0 : W0.heap.size = w.heap.size + 3) {o : Obj} (hg : (wr.alloc o).grownBy w3 ov.ownBlock) : w3.heap[w.heap.size + 2]? = some (.cells #[.bool nb, ov] 24 (0, 0)) := by
  rw [hg.block (w.heap.size + 2) (by have := H.siz; simp; omega) (fun e => by have := owns_block H.own _ e.symm; omega)]
  show (wr.heap.push o)[w.heap.size + 2]? = _
  rw [Array.getElem?_push_lt (by have := H.siz; omega)]
  have h := H.ob
  rw [Array.getElem?_eq_getElem (by have := H.siz; omega)] at h
  exact h
theorem InI.next {w W0 wr w3 : World} {nb : Bool} {L : List Int} {k : Nat} {ov ov' : Value} (H : InI w W0 wr nb L k ov) (hw0 : W0.heap.size = w.heap.size + 3) (o : Obj) (y : Int) (hk : 2 * k < L.length) (hy : y = L[2 * k]?.getD 0 + 65536 * L[2 * k + 1]?.getD 0)
    (hown : w3.ownsRow W0.heap.size 74 1 ov' (k + 1) ((pack16 (L.take (2 * k))).map (Value.int .u32) ++ [.int .u32 y])) (hg : (wr.alloc o).grownBy w3 ov.ownBlock) :
    InI w W0 (w3.setCell ⟨w.heap.size + 2, 1, none⟩ ov') nb L (k + 1) ov' := by
  have hlow3 : Below (w.heap.size + 2) W0 w3 := (H.low.alloc (by have := H.siz; omega) o).grown hg (by have := H.siz; simp; omega) (fun i e => by have := owns_block H.own i e; omega)
  have hsz3 : W0.heap.size ≤ w3.heap.size := by have := hg.size; simp at this; have := H.siz; omega
  have hob3 : w3.heap[w.heap.size + 2]? = some (.cells #[.bool nb, ov] 24 (0, 0)) := by
    rw [hg.block (w.heap.size + 2) (by have := H.siz; simp; omega) (fun e => by have := owns_block H.own _ e.symm; omega)]
    show (wr.heap.push o)[w.heap.size + 2]? = _
    rw [Array.getElem?_push_lt (by have := H.siz; omega)]
    have h := H.ob
    rw [Array.getElem?_eq_getElem (by have := H.siz; omega)] at h
    exact h
  refine ⟨?_, ?_, hlow3.setCell (Nat.le_refl _) _, by simpa using hsz3⟩
  · rw [heap_setCell_same w3 _ 1 _ _ _ hob3]; rfl
  · have h := ownsRow_setCell_below hown (a := ⟨w.heap.size + 2, 1, none⟩) (by simp; omega) ov'
    rw [show 2 * (k + 1) = 2 * k + 2 by omega, pack16_step k L hk, ← hy, List.map_append]
    exact h

set_option maxRecDepth 100000 in
set_option maxHeartbeats 8000000 in
theorem rint_any (v : Value) (z : Int) (K : Nat) (w : World) (h : Zt w v z K) (hK : K ≤ 268435456) :
    Calls Try.prog 61 #[v] w (RetAn w z ((K + 1) / 2)) := by
  obtain ⟨_, rfl, ao, c, L, rfl, h⟩ := h
  obtain ⟨n, hn⟩ : ∃ n, n = L.length := ⟨_, rfl⟩
  have hnK := h.le
  rw [← hn] at hnK ⊢
  obtain ⟨nb, hnb⟩ : ∃ nb, nb = decide (z < 0) := ⟨_, rfl⟩
  rw [← hnb]
  have H := hid h; have Hn := hid hn; have Hnb := hid hnb
  clear h hn hnb
  obtain ⟨i0, hi, hz0, hz1, hz2⟩ := info_parts Try.info74
  go_enter Try.func61, Try.ntmps61
  go_upto_region 2 with (fail)
  obtain ⟨W0, hW0⟩ : ∃ W0, W0 = (((w.alloc (.cells #[.bool nb, .slice ao n c] 28)).alloc (.cells #[.bool false, .slice none 0 0] 24)).alloc (.cells #[.bool nb, .slice none 0 0] 24)) := ⟨_, rfl⟩
  have hB0 : Below w.heap.size w W0 := by rw [hW0]; exact (((Below.refl _ _).alloc (Nat.le_refl _) _).alloc (by simp) _).alloc (by simp; omega) _
  have hw0 : W0.heap.size = w.heap.size + 3 := by rw [hW0]; simp
  have HS : Hid (∀ w', Below (w.heap.size + 2) W0 w' → w'.cell? ⟨w.heap.size, 0, none⟩ = some (.bool nb) ∧ w'.cell? ⟨w.heap.size, 1, none⟩ = some (.slice ao n c)) := hid (fun w' hb => by
    refine ⟨?_, ?_⟩ <;> (rw [hb.cell (by simp <;> omega), hW0]; simp [go_sem]))
  have HT : Hid (∀ w', Below (w.heap.size + 2) W0 w' → w'.cell? ⟨w.heap.size + 1, 0, none⟩ = some (.bool false) ∧ w'.cell? ⟨w.heap.size + 1, 1, none⟩ = some (.slice none 0 0) ∧ w'.frozen? ⟨w.heap.size + 1, 0, none⟩ = false ∧ w'.frozen? ⟨w.heap.size + 1, 1, none⟩ = false) := hid (fun w' hb => by
    refine ⟨?_, ?_, ?_, ?_⟩ <;> (first | (rw [hb.cell (by simp <;> omega), hW0]; simp [go_sem]; done) | (rw [hb.frozen (by simp <;> omega), hW0]; simp [go_sem]; done)))
  have hI0 : InI w W0 W0 nb L 0 (.slice none 0 0) := by
    refine ⟨?_, ⟨by simp [pack16], .inl ⟨rfl, rfl⟩⟩, Below.refl _ _, Nat.le_refl _⟩
    rw [hW0]
    show ((((w.heap.push _).push _).push _))[w.heap.size + 2]? = _
    have e : w.heap.size + 2 = ((w.heap.push (.cells #[.bool nb, .slice ao n c] 28)).push (.cells #[.bool false, .slice none 0 0] 24)).size := by simp
    rw [e, Array.getElem?_push_size]
  rw [← hW0, show w.heap.size + 1 + 1 = w.heap.size + 2 from rfl]
  clear hW0
  have HI0 := hid hI0; have HB0 := hid hB0; have Hw0 := hid hw0
  clear hI0 hB0 hw0
  go_wp2
  go_loopw [4] (fun iv wr => ∃ j k : Nat, ∃ ov, j ≤ n + 1 ∧ iv = .int .i64 j ∧ Hid (j = 2 * k) ∧ InI w W0 wr nb L k ov) (fun iv _ => n + 2 - (intOf iv).toNat)
  case atStart => exact ⟨0, 0, _, Nat.zero_le _, rfl, hid rfl, HI0.out⟩
  case round =>
    obtain ⟨j, k, ov, hj, rfl, HJ, HI⟩ := hrel
    obtain ⟨hs0, hs1⟩ := HS.out _ HI.low
    obtain ⟨vo, vc, rfl⟩ := owns_slice HI.own
    obtain ⟨c0, c1, f1⟩ := HI.cells
    by_cases hlt : j < n
    · obtain ⟨b, o, rfl⟩ := H.out.rd.adr (by have := Hn.out; omega)
      have hrd : Rd wr .i64 (some ⟨b, o, none⟩) c L := H.out.rd.below (HB0.out.trans (HI.low.mono (by omega))) (Nat.le_refl _)
      have hx := hrd.cell b o rfl j (by have := Hn.out; omega)
      have dx := H.out.dig.at R16_pos j
      have dy := H.out.dig.at R16_pos (j + 1)
      obtain ⟨x, hxe⟩ : ∃ x, x = L[j]?.getD 0 := ⟨_, rfl⟩
      rw [← hxe] at hx dx
      have x0 := dx.1; have x1 : x < 65536 := dx.2
      have y0 := dy.1; have y1 : L[j + 1]?.getD 0 < 65536 := dy.2
      have hj0 : (0 : Int) ≤ (j : Int) := by omega
      by_cases h2 : j + 1 < n
      · have hy := hrd.cell b o rfl (j + 1) (by have := Hn.out; omega)
        obtain ⟨y, hye⟩ : ∃ y, y = L[j + 1]?.getD 0 := ⟨_, rfl⟩
        rw [← hye] at hy y0 y1
        have HT2 : Hid (x + 65536 * y = L[2 * k]?.getD 0 + 65536 * L[2 * k + 1]?.getD 0) := hid (by rw [← HJ.out, ← hxe, ← hye])
        obtain ⟨t, ht⟩ : ∃ t, x + 65536 * y = t := ⟨_, rfl⟩
        have t0 : 0 ≤ t := by omega
        have t1 : t < 4294967296 := by omega
        have q1 : IntKind.u32.wrap t = t := by rw [IntKind.wrap_u32]; omega
        rw [ht] at HT2
        have h2i : (j : Int) + 1 < (n : Int) := by omega
        have HH := hid HI
        clear hxe hye dx dy hrd HI HI0
        go_wp2_with (at_builtin; refine wpList_append_own _ rfl _ _ 22 rfl W0.heap.size 74 i0 (.int .u32 0) 1 4 Try.underlying22 hi hz0 hz1 hz2 rfl (by decide) _ k _ rfl (HH.out.own.alloc _) ⟨wr.heap.size, 0, none⟩ 1 1 [.int .u32 t] rfl rfl (fun j u hj => new_one0 j u hj) ?c2 ?c3 ?c4 ?c5 ?_)
        case c2 => first | rfl | (intro u hu; simp at hu; subst hu; rfl)
        case c3 => have := HJ.out; unfold maxLen; omega
        case c4 => have := HJ.out; omega
        case c5 => have := HH.out.siz; simp; omega
        intro ov' w3 hown hg _
        obtain ⟨no, nc, rfl⟩ := owns_slice hown
        have hn := HH.out.next Hw0.out _ t (by have := HJ.out; have := Hn.out; omega) HT2.out hown hg
        have ho := hn.cells
        have hf3 : w3.cell? ⟨w.heap.size + 2, 1, none⟩ = some (.slice vo k vc) ∧ w3.frozen? ⟨w.heap.size + 2, 1, none⟩ = false := by
          have hne : (Value.slice vo k vc).ownBlock ≠ some (w.heap.size + 2) := fun e => by have := owns_block HH.out.own _ e; have := Hw0.out; omega
          exact ⟨hg.cell (a := ⟨w.heap.size + 2, 1, none⟩) (by rw [(Below.refl _ _).alloc (Nat.le_refl wr.heap.size) _ |>.cell (by have := HH.out.siz; have := Hw0.out; simp; omega)]; exact HH.out.cells.2.1) (Ne.symm hne), frozen_of_row w3 _ 1 _ _ (HH.out.kept3 Hw0.out hg)⟩
        obtain ⟨g1, g2⟩ := hf3
        have HN := hid hn
        clear hown hg hn ho
        go_wp2
        go_roundw
        case rel => exact ⟨j + 2, k + 1, _, by omega, by go_num, hid (by have := HJ.out; omega), HN.out⟩
        case measure => simp [intOf]; omega
      · have hye : L[j + 1]?.getD 0 = 0 := by
          have : L.length ≤ j + 1 := by have := Hn.out; omega
          simp [this]
        have HT2 : Hid (x = L[2 * k]?.getD 0 + 65536 * L[2 * k + 1]?.getD 0) := hid (by rw [← HJ.out, hye, ← hxe]; omega)
        obtain ⟨t, ht⟩ : ∃ t, x = t := ⟨_, rfl⟩
        subst ht
        have q1 : IntKind.u32.wrap x = x := by rw [IntKind.wrap_u32]; omega
        obtain rfl : n = j + 1 := by omega
        have h2i : ¬ (j : Int) + 1 < ((j + 1 : Nat) : Int) := by omega
        clear h2
        have HH := hid HI
        clear hxe hye dx dy hrd HI HI0
        go_wp2_with (at_builtin; refine wpList_append_own _ rfl _ _ 22 rfl W0.heap.size 74 i0 (.int .u32 0) 1 4 Try.underlying22 hi hz0 hz1 hz2 rfl (by decide) _ k _ rfl (HH.out.own.alloc _) ⟨wr.heap.size, 0, none⟩ 1 1 [.int .u32 x] rfl rfl (fun j u hj => new_one0 j u hj) ?c2 ?c3 ?c4 ?c5 ?_)
        case c2 => first | rfl | (intro u hu; simp at hu; subst hu; rfl)
        case c3 => have := HJ.out; unfold maxLen; omega
        case c4 => have := HJ.out; omega
        case c5 => have := HH.out.siz; simp; omega
        intro ov' w3 hown hg _
        obtain ⟨no, nc, rfl⟩ := owns_slice hown
        have hn := HH.out.next Hw0.out _ x (by have := HJ.out; have := Hn.out; omega) HT2.out hown hg
        have ho := hn.cells
        have hf3 : w3.cell? ⟨w.heap.size + 2, 1, none⟩ = some (.slice vo k vc) ∧ w3.frozen? ⟨w.heap.size + 2, 1, none⟩ = false := by
          have hne : (Value.slice vo k vc).ownBlock ≠ some (w.heap.size + 2) := fun e => by have := owns_block HH.out.own _ e; have := Hw0.out; omega
          exact ⟨hg.cell (a := ⟨w.heap.size + 2, 1, none⟩) (by rw [(Below.refl _ _).alloc (Nat.le_refl wr.heap.size) _ |>.cell (by have := HH.out.siz; have := Hw0.out; simp; omega)]; exact HH.out.cells.2.1) (Ne.symm hne), frozen_of_row w3 _ 1 _ _ (HH.out.kept3 Hw0.out hg)⟩
        obtain ⟨g1, g2⟩ := hf3
        have HN := hid hn
        clear hown hg hn ho
        go_wp2
        go_roundw
        case rel => exact ⟨j + 2, k + 1, _, by omega, by go_num, hid (by have := HJ.out; omega), HN.out⟩
        case measure => simp [intOf]; omega
    · have hall : L.take (2 * k) = L := List.take_of_length_le (by have := HJ.out; have := Hn.out; omega)
      have ho := HI.own
      rw [hall] at ho
      have hkl : (pack16 L).length = k := by have := ho.1; simpa using this
      have hrd := owns_any ho hkl
      have hAn : An wr (.agg #[.bool nb, .slice vo k vc]) z ((K + 1) / 2) := by
        have hl := pack16_len L
        rw [Hnb.out]
        exact ⟨vo, vc, pack16 L, by rw [hkl], hrd, pack16_dig H.out.dig, pack16_nrm H.out.dig H.out.nrm, by rw [pack16_val]; exact H.out.eq, by have := H.out.le; omega⟩
      have hlow := HB0.out.trans (HI.low.mono (by omega))
      obtain ⟨hr0, hr1, hr2, hr3⟩ := HT.out _ HI.low
      have HAn := hid hAn; have HLow := hid hlow
      clear hall ho hkl hrd hAn hlow HI HI0
      go_wp2
      refine bodyPost_ret (v := .agg #[.bool nb, .slice vo k vc]) (by simp [results, Try.results61, go_sem, hr0, hr1]) rfl ⟨_, rfl, ?_, (HLow.out.setCell (by simp <;> omega) _).setCell (by simp <;> omega) _⟩
      exact (HAn.out.set hr0 (fun x h => (by cases h)) _).set (u := .slice none 0 0) (by simp [go_sem, hr1]) (fun x h => (by cases h)) _

end Go.Proofs.Ytbmdjimfncgomaa

/- The document's own integers: SameInt, LikeInt; the law's spoil. -/
namespace Go.Proofs.Ytbmdjimfncgomaa
open Go.RowKit

set_option maxRecDepth 100000 in
set_option maxHeartbeats 4000000 in
theorem sameInt_any (u v : Value) (z : Int) (Ka Kb : Nat) (w : World) (hu : An w u z Ka) (hv : Zt w v z Kb) (hK : Kb ≤ 268435456) :
    Calls Try.prog 19 #[u, v] w fun e w' => e = .returned (.bool true) ∧ Below w.heap.size w w' := by
  obtain ⟨ao, ca, L, rfl, hr, dL, nL, eL, _⟩ := hu
  obtain ⟨yb, yo, ym, yc, rfl, Hy, Hys, Hyb⟩ := Zt.opened hv
  obtain ⟨n, hn⟩ : ∃ n, n = L.length := ⟨_, rfl⟩
  obtain ⟨xb, hxb⟩ : ∃ xb, xb = decide (z < 0) := ⟨_, rfl⟩
  rw [← hxb, ← hn]
  have hyx : yb = xb := by rw [Hyb.out, hxb]
  subst hyx
  have hb : Below w.heap.size w ((w.alloc (.cells #[.bool yb, .slice ao n ca] 24)).alloc (.cells #[.bool yb, .slice yo ym yc] 28)) := ((Below.refl _ _).alloc (Nat.le_refl _) _).alloc (by simp) _
  have hI := rint_any _ z Kb _ (Hy.out _ hb) hK
  have HI := hid hI; have HB := hid hb; have HR := hid hr; have Hn := hid hn
  have HD := hid (And.intro dL (And.intro nL eL)); have Hxb := hid hxb
  clear hI hb hr hn dL nL eL hxb hv
  go_enter Try.func19, Try.ntmps19
  go_wp2_with fail
  refine HI.out.mono ?_
  rintro e w1 ⟨_, rfl, ⟨bo, bc, M, rfl, hrM, dM, nM, eM, _⟩, hb1⟩
  rw [← Hxb.out]
  obtain rfl : L = M := val_inj B32_pos HD.out.1 dM HD.out.2.1 nM (by rw [HD.out.2.2, eM])
  rw [← Hn.out]
  obtain ⟨W1, hW1⟩ : ∃ W1, W1 = w1.alloc (.cells #[.bool yb, .slice bo n bc] 24) := ⟨_, rfl⟩
  have hb1' : Below w.heap.size w w1 := HB.out.trans (hb1.mono HB.out.size)
  have hbW : Below w.heap.size w W1 := by rw [hW1]; exact hb1'.alloc hb1'.size _
  have c0 : W1.cell? ⟨w.heap.size, 0, none⟩ = some (.bool yb) ∧ W1.cell? ⟨w.heap.size, 1, none⟩ = some (.slice ao n ca) := by
    have hlow : Below (w.heap.size + 1) ((w.alloc (.cells #[.bool yb, .slice ao n ca] 24)).alloc (.cells #[.bool yb, .slice yo ym yc] 28)) W1 := by
      rw [hW1]; exact (hb1.mono (by simp)).alloc (by have := hb1.size; simp at this; omega) _
    constructor <;> (rw [hlow.cell (by simp)]; simp [go_sem])
  have c1 : W1.cell? ⟨w1.heap.size, 0, none⟩ = some (.bool yb) ∧ W1.cell? ⟨w1.heap.size, 1, none⟩ = some (.slice bo n bc) := by rw [hW1]; constructor <;> simp [go_sem]
  have hs := sameWords_any ao bo ca bc L L W1 (HR.out.below hbW (Nat.le_refl _)) (by rw [hW1]; exact hrM.below ((Below.refl _ _).alloc (Nat.le_refl _) _) (Nat.le_refl _))
  rw [← Hn.out, decide_eq_true rfl] at hs
  obtain ⟨c00, c01⟩ := c0
  obtain ⟨c10, c11⟩ := c1
  have HS := hid hs; have HbW := hid hbW; have HW1 := hid hW1
  clear hs hbW hb1 hb1' hrM dM nM eM HD HR
  have hyy : (yb == yb) = true := by simp
  go_upto_region 2 with (fail)
  rw [← hW1]
  clear hW1
  go_wp2_with fail
  refine HS.out.mono ?_
  rintro e w2 ⟨rfl, nq, rfl⟩
  have HF := hid (below_drewN HbW.out nq)
  go_wp2
  go_ret
  exact ⟨rfl, HF.out⟩

/-- The value v (an api.Int) has these words. -/
def Lk (w : World) (v : Value) (neg : Bool) (W : List Int) : Prop := ∃ ao c, v = .agg #[.bool neg, .slice ao W.length c] ∧ Rd w .u32 ao c W

set_option maxRecDepth 100000 in
set_option maxHeartbeats 4000000 in
theorem likeInt_any (u v : Value) (neg : Bool) (W : List Int) (w : World) (hu : Lk w u neg W) (hv : Lk w v neg W) :
    Calls Try.prog 25 #[u, v] w fun e w' => e = .returned (.bool true) ∧ Below w.heap.size w w' := by
  obtain ⟨ao, ca, rfl, hr⟩ := hu
  obtain ⟨bo, cb, rfl, hr2⟩ := hv
  obtain ⟨n, hn⟩ : ∃ n, n = W.length := ⟨_, rfl⟩
  rw [← hn]
  have hb : Below w.heap.size w ((w.alloc (.cells #[.bool neg, .slice ao n ca] 24)).alloc (.cells #[.bool neg, .slice bo n cb] 24)) := ((Below.refl _ _).alloc (Nat.le_refl _) _).alloc (by simp) _
  have hs := sameWords_any ao bo ca cb W W _ (hr.below hb (Nat.le_refl _)) (hr2.below hb (Nat.le_refl _))
  rw [← hn, decide_eq_true rfl] at hs
  have HS := hid hs; have HB := hid hb
  have hyy : (neg == neg) = true := by simp
  clear hs hb hr hr2 hn
  go_enter Try.func25, Try.ntmps25
  go_wp2_with fail
  refine HS.out.mono ?_
  rintro e w2 ⟨rfl, nq, rfl⟩
  have HF := hid (below_drewN HB.out nq)
  go_wp2
  go_ret
  exact ⟨rfl, HF.out⟩

/-- Words that may be written over: they lie in blocks from B on. -/
def Sp (w : World) (B : Nat) (v : Value) : Prop := ∃ b ao n c, v = .agg #[.bool b, .slice ao n c] ∧ n ≤ 1073741824 ∧ n ≤ c ∧ c ≤ 9223372036854775807 ∧ (0 < n → ∃ g off, ao = some ⟨g, off, none⟩ ∧ B ≤ g ∧ ∀ i, i < n → (∃ x, 0 ≤ x ∧ x < 4294967296 ∧ w.cell? ⟨g, off + i, none⟩ = some (.int .u32 x)) ∧ w.frozen? ⟨g, off + i, none⟩ = false)
/-- What a spoilt world keeps. -/
structure Spd (B : Nat) (w w' : World) : Prop where
  low : Below B w w'
  siz : w.heap.size ≤ w'.heap.size
  cel : ∀ a v, w.cell? a = some v → (∀ x, v ≠ .int .u32 x) → w'.cell? a = some v
  u32 : ∀ a x, w.cell? a = some (.int .u32 x) → 0 ≤ x → x < 4294967296 → ∃ y, 0 ≤ y ∧ y < 4294967296 ∧ w'.cell? a = some (.int .u32 y)
  frz : ∀ a, a.block < w.heap.size → w'.frozen? a = w.frozen? a
theorem Spd.refl (B : Nat) (w : World) : Spd B w w := ⟨Below.refl _ _, Nat.le_refl _, fun _ _ h _ => h, fun _ x h h0 h1 => ⟨x, h0, h1, h⟩, fun _ _ => rfl⟩
theorem Spd.trans {B : Nat} {a b c : World} (h : Spd B a b) (g : Spd B b c) : Spd B a c :=
  ⟨h.low.trans g.low, Nat.le_trans h.siz g.siz, fun p _ e hn => g.cel p _ (h.cel p _ e hn) hn, fun p x e h0 h1 => by obtain ⟨y, y0, y1, e'⟩ := h.u32 p x e h0 h1; exact g.u32 p y e' y0 y1, fun p hp => (g.frz p (Nat.lt_of_lt_of_le hp h.siz)).trans (h.frz p hp)⟩
theorem Spd.of_below {B : Nat} {w w' : World} (hb : Below w.heap.size w w') (hB : B ≤ w.heap.size) : Spd B w w' :=
  ⟨hb.mono hB, hb.size, fun a _ e _ => (hb.cell (World.block_lt_of_cell? w a e)).trans e, fun a x e h0 h1 => ⟨x, h0, h1, (hb.cell (World.block_lt_of_cell? w a e)).trans e⟩, fun _ ha => hb.frozen ha⟩
theorem Spd.drewN {B : Nat} {w w' : World} (h : Spd B w w') (n : Nat) : Spd B w (w'.drewN n) := ⟨below_drewN h.low n, h.siz, h.cel, h.u32, h.frz⟩
theorem Spd.set {B : Nat} {w w' : World} (h : Spd B w w') {a : Addr} (ha : B ≤ a.block) {x y : Int} (hx : w'.cell? a = some (.int .u32 x)) (y0 : 0 ≤ y) (y1 : y < 4294967296) : Spd B w (w'.setCell a (.int .u32 y)) := by
  refine ⟨h.low.setCell ha _, by simpa using h.siz, fun p _ e hn => ?_, fun p z e h0 h1 => ?_, fun p hp => ?_⟩
  · have e' := h.cel p _ e hn
    have hne : a ≠ p := by rintro rfl; rw [hx] at e'; exact hn x (Option.some.inj e').symm
    exact (World.cell?_setCell_other w' a _ _ hne).trans e'
  · obtain ⟨u, u0, u1, e'⟩ := h.u32 p z e h0 h1
    by_cases hne : a = p
    · subst hne
      exact ⟨y, y0, y1, World.cell?_setCell_same w' a _ hx⟩
    · exact ⟨u, u0, u1, (World.cell?_setCell_other w' a _ _ hne).trans e'⟩
  · rw [World.frozen?_setCell]; exact h.frz p hp

theorem bits_xor_u32 (x y : Int) : ∃ z, 0 ≤ z ∧ z < 4294967296 ∧ bits .xor .u32 x y = z := by
  refine ⟨bits .xor .u32 x y, ?_, ?_, rfl⟩
  · show 0 ≤ IntKind.u32.wrap ((BitVec.ofInt 32 x ^^^ BitVec.ofInt 32 y).toNat : Int)
    rw [IntKind.wrap_u32]; exact Int.emod_nonneg _ (by decide)
  · show IntKind.u32.wrap ((BitVec.ofInt 32 x ^^^ BitVec.ofInt 32 y).toNat : Int) < 4294967296
    rw [IntKind.wrap_u32]; exact Int.emod_lt_of_pos _ (by decide)

set_option maxRecDepth 100000 in
set_option maxHeartbeats 4000000 in
theorem spoil_any (B : Nat) (v : Value) (w : World) (hv : Sp w B v) (hB : B ≤ w.heap.size) :
    Calls Try.prog 20 #[v] w fun e w' => e = .returned (.tuple #[]) ∧ Spd B w w' := by
  obtain ⟨b, ao, n, c, rfl, hn, hnc, hcm, hp⟩ := hv
  have hb : Below w.heap.size w (w.alloc (.cells #[.bool b, .slice ao n c] 24)) := (Below.refl _ _).alloc (Nat.le_refl _) _
  have HS0 := hid (Spd.of_below (B := B) hb hB)
  have HBx := hid (show (w.alloc (.cells #[.bool b, .slice ao n c] 24)).cell? ⟨w.heap.size, 1, none⟩ = some (.slice ao n c) by simp [go_sem])
  have HP := hid hp
  clear hp hb
  go_enter Try.func20, Try.ntmps20
  go_wp2
  obtain ⟨W0, hW0⟩ : ∃ W0, W0 = w.alloc (.cells #[.bool b, .slice ao n c] 24) := ⟨_, rfl⟩
  rw [← hW0] at HS0 HBx ⊢
  have Hsz := hid (show W0.heap.size = w.heap.size + 1 by rw [hW0]; simp)
  clear hW0
  go_loopw [6] (fun iv wr => ∃ k : Nat, k ≤ n ∧ iv = .int .i64 k ∧ Spd B w wr ∧ wr.cell? ⟨w.heap.size, 1, none⟩ = some (.slice ao n c)) (fun iv _ => n - (intOf iv).toNat)
  case atStart => exact ⟨0, Nat.zero_le _, rfl, HS0.out, HBx.out⟩
  case round =>
    obtain ⟨k, hk, rfl, HS, hbx⟩ := hrel
    by_cases hlt : k < n
    · obtain ⟨g, off, rfl, hBg, hcells⟩ := HP.out (by omega)
      obtain ⟨⟨x, x0, x1, hx⟩, hf⟩ := hcells k hlt
      obtain ⟨y, y0, y1, hy⟩ := HS.u32 _ x hx x0 x1
      have hf' := (HS.frz _ (World.block_lt_of_cell? w _ hx)).trans hf
      obtain ⟨z, z0, z1, hz⟩ := bits_xor_u32 y 1515870810
      have HSt := hid (HS.set (a := ⟨g, off + k, none⟩) hBg hy z0 z1)
      have hne : (⟨g, off + k, none⟩ : Addr) ≠ ⟨w.heap.size, 1, none⟩ := by
        intro e
        have := World.block_lt_of_cell? w _ hx
        simp at e this; omega
      have HBx2 := hid ((World.cell?_setCell_other wr _ _ (.int .u32 z) hne).trans hbx)
      have hk0 : (0 : Int) ≤ (k : Int) := by omega
      clear HS hcells hx hf HS0 HBx hne
      go_wp2
      go_roundw
      case rel => exact ⟨k + 1, by omega, by go_num, HSt.out, HBx2.out⟩
      case measure => simp [intOf]; omega
    · obtain rfl : k = n := by omega
      have HF := hid HS
      clear HS HS0 HBx
      go_wp2
      (try simp only [Exit.inBlock, Exit.then]); exact bodyPost_end (results_none rfl _ _ _) rfl ⟨rfl, HF.out⟩

end Go.Proofs.Ytbmdjimfncgomaa

/- Lehmer's steps: the highest 64 bits; what the steps are. -/
namespace Go.Proofs.Ytbmdjimfncgomaa
open Go.RowKit

theorem or_up (h l : Int) (s : Nat) (h0 : 0 ≤ h) (h1 : h * 2 ^ s < 18446744073709551616) (l0 : 0 ≤ l) (l1 : l < 2 ^ s) (l2 : l < 18446744073709551616) : bits .or .u64 (h * 2 ^ s) l = l + h * 2 ^ s := by
  rw [← or_low h l s h0 h1 l0 l1 l2]
  obtain ⟨a, rfl⟩ := Int.eq_ofNat_of_zero_le h0
  obtain ⟨b, rfl⟩ := Int.eq_ofNat_of_zero_le l0
  have e : ((a : Int) * 2 ^ s) = ((a * 2 ^ s : Nat) : Int) := by simp
  rw [e] at h1 ⊢
  rw [bits_or_u64_nat _ _ (by omega) (by omega), bits_or_u64_nat _ _ (by omega) (by omega), Nat.or_comm]

/-- The number of which the highest limb is y. -/
theorem val_top {L : List Int} {k : Nat} (hl : L.length = k + 1) : val B64 L = val B64 (L.take k) + B64 ^ k * L[k]?.getD 0 := by
  have e := take_succ_getD L k (by omega)
  rw [List.take_of_length_le (by omega)] at e
  have h := congrArg (val B64) e
  rw [h, val_snoc, List.length_take, Nat.min_eq_left (by omega)]
theorem top_eq {L : List Int} {k : Nat} (hd : Dig B64 L) (hl : L.length = k + 1) : val B64 L / B64 ^ k = L[k]?.getD 0 := by
  have h1 := val_lt B64_pos (hd.take k)
  rw [List.length_take, Nat.min_eq_left (by omega)] at h1
  have h0 := val_nonneg B64_pos (hd.take k)
  exact ((Int.ediv_emod_unique (Int.pow_pos B64_pos)).2 ⟨(val_top hl).symm, h0, h1⟩).1

/-- The unit of the highest 64 bits. -/
def topS (m s : Nat) : Int := B64 ^ m * 2 ^ (64 - s)
theorem topS_pos {m s : Nat} (hs : s ≤ 63) : 0 < topS m s := Int.mul_pos (Int.pow_pos B64_pos) (pow_split hs).2.1

theorem top_one {L : List Int} {m s : Nat} (hd : Dig B64 L) (hl : L.length = m + 1) : L[m]?.getD 0 / 2 ^ (64 - s) = val B64 L / topS m s := by
  unfold topS
  rw [← Int.ediv_ediv_of_nonneg (Int.le_of_lt (Int.pow_pos B64_pos)), top_eq hd hl]
theorem top_none {L : List Int} {m s : Nat} (hd : Dig B64 L) (hl : L.length ≤ m) (hs : s ≤ 63) : val B64 L / topS m s = 0 := by
  refine Int.ediv_eq_zero_of_lt (val_nonneg B64_pos hd) (Int.lt_of_lt_of_le (val_lt B64_pos hd) (Int.le_trans (pow_mono B64_pos hl) ?_))
  unfold topS
  have p := (pow_split hs).2.1
  have q : (0 : Int) < B64 ^ m := Int.pow_pos B64_pos
  have := Int.mul_le_mul_of_nonneg_left (show (1 : Int) ≤ 2 ^ (64 - s) by omega) (Int.le_of_lt q)
  omega
theorem top_two {L : List Int} {m s : Nat} (hd : Dig B64 L) (hl : L.length = m + 2) (hs : s ≤ 63) (hy : L[m + 1]?.getD 0 * 2 ^ s < B64) :
    bits .or .u64 (L[m + 1]?.getD 0 * 2 ^ s) (L[m]?.getD 0 / 2 ^ (64 - s)) = val B64 L / topS m s := by
  obtain ⟨p1, p2, p3⟩ := pow_split hs
  have y0 := (hd.at B64_pos (m + 1)).1
  have z := hd.at B64_pos m
  have q0 : 0 ≤ L[m]?.getD 0 / 2 ^ (64 - s) := Int.ediv_nonneg z.1 (Int.le_of_lt p2)
  have q1 : L[m]?.getD 0 / 2 ^ (64 - s) < 2 ^ s := Int.ediv_lt_of_lt_mul p2 (by rw [Int.mul_comm, p3]; exact z.2)
  have q2 : L[m]?.getD 0 / 2 ^ (64 - s) < 18446744073709551616 := Int.lt_of_le_of_lt (Int.ediv_le_self _ z.1) z.2
  rw [or_up _ _ s y0 hy q0 q1 q2]
  have hv : val B64 L / B64 ^ m = L[m]?.getD 0 + B64 * L[m + 1]?.getD 0 := by
    have e1 := val_top (L := L) (k := m + 1) (by omega)
    have e2 := val_top (L := L.take (m + 1)) (k := m) (by rw [List.length_take]; omega)
    have e3 : (L.take (m + 1)).take m = L.take m := by rw [List.take_take, Nat.min_eq_left (by omega)]
    have e4 : (L.take (m + 1))[m]?.getD 0 = L[m]?.getD 0 := by simp
    rw [e3, e4] at e2
    rw [e2] at e1
    have h1 := val_lt B64_pos (hd.take m)
    rw [List.length_take, Nat.min_eq_left (by omega)] at h1
    have h0 := val_nonneg B64_pos (hd.take m)
    refine ((Int.ediv_emod_unique (Int.pow_pos B64_pos)).2 ⟨?_, h0, h1⟩).1
    rw [e1, Int.pow_succ]; grind
  unfold topS
  rw [← Int.ediv_ediv_of_nonneg (Int.le_of_lt (Int.pow_pos B64_pos)), hv, ← p3]
  rw [show L[m]?.getD 0 + 2 ^ (64 - s) * 2 ^ s * L[m + 1]?.getD 0 = L[m]?.getD 0 + 2 ^ (64 - s) * (L[m + 1]?.getD 0 * 2 ^ s) by grind]
  rw [Int.add_mul_ediv_left _ _ (by omega)]

theorem top_lt {L : List Int} {m s : Nat} (hd : Dig B64 L) (hn : Nrm L) (hl : L.length = m + 2) (hs : s ≤ 63) (hy : L[m + 1]?.getD 0 * 2 ^ s < B64) : val B64 L / topS m s < B64 := by
  obtain ⟨p1, p2, p3⟩ := pow_split hs
  have h := (top_shift hd hn hl hs hy).2
  refine Int.ediv_lt_of_lt_mul (topS_pos hs) ?_
  have e : B64 ^ (m + 1 + 1) = B64 * topS m s * 2 ^ s := by
    unfold topS; rw [Int.pow_succ, Int.pow_succ]
    rw [show B64 * (B64 ^ m * 2 ^ (64 - s)) * 2 ^ s = B64 * B64 ^ m * (2 ^ (64 - s) * 2 ^ s) by grind, p3]; grind
  rw [e] at h
  exact Int.lt_of_mul_lt_mul_right h (Int.le_of_lt p1)

/-- A number that is not greater has no greater limb at the top. -/
theorem top_le {L M : List Int} {k : Nat} (hd : Dig B64 L) (hm : Dig B64 M) (hl : L.length = k + 1) (hk : M.length = k + 1) (h : val B64 M ≤ val B64 L) : M[k]?.getD 0 ≤ L[k]?.getD 0 := by
  rw [← top_eq hd hl, ← top_eq hm hk]
  exact Int.ediv_le_ediv (Int.pow_pos B64_pos) h

/-- What foresee tells of a and b. -/
structure StepsN (a b cnt a0 b0 a1 b1 : Int) : Prop where
  c : 0 ≤ cnt ∧ cnt ≤ 8589934592
  a0s : 0 ≤ a0 ∧ a0 < B64
  b0s : 0 ≤ b0 ∧ b0 < B64
  a1s : 0 ≤ a1 ∧ a1 < B64
  b1s : 0 ≤ b1 ∧ b1 < B64
  did : 0 < cnt → ∃ R0 R1 : Int, (cnt % 2 = 0 ∧ R0 = a0 * a - b0 * b ∧ R1 = b1 * b - a1 * a ∨ cnt % 2 = 1 ∧ R0 = b0 * b - a0 * a ∧ R1 = a1 * a - b1 * b) ∧ 0 ≤ R1 ∧ R1 < R0 ∧ R0 ≤ b ∧ Int.gcd R0 R1 = Int.gcd a b

theorem LehN.steps {a b A B cnt a0 b0 a1 b1 hi lo : Int} (H : LehN a b A B cnt a0 b0 a1 b1 hi lo) : StepsN a b cnt a0 b0 a1 b1 := by
  have h1 := H.c0; have h2 := H.cb; have h3 := H.b0s; have h4 := H.b1s; have h5 := H.a00; have h6 := H.a10; have h7 := H.abs; have h8 := H.b00; have h9 := H.b11
  refine ⟨⟨h1, by omega⟩, ⟨h5, by unfold B64; omega⟩, ⟨h8, by unfold B64; omega⟩, ⟨h6, by unfold B64; omega⟩, ⟨by omega, by unfold B64; omega⟩, fun hp => ?_⟩
  obtain ⟨g, R0, R1, hg, e0, e1, _, _, hp1, hc, hgcd⟩ := H.sg
  refine ⟨R0, R1, ?_, hp1, by omega, by omega, hgcd⟩
  rcases hg with ⟨rfl, h⟩ | ⟨rfl, h⟩
  · left; exact ⟨h, by omega, by omega⟩
  · right; exact ⟨h, by omega, by omega⟩

/-- A sum modulo a power is the result, if that is below the power. -/
theorem low_eq {u v a b R P c l : Int} (hR : R = u * a - v * b) (hR0 : 0 ≤ R) (hR1 : R < P) (hl0 : 0 ≤ l) (hl1 : l < P) (he : l + P * c = u * (a % P) - v * b) : l = R := by
  have hP : 0 < P := by omega
  have e := Int.emod_add_mul_ediv a P
  have h : R = l + P * (c + u * (a / P)) := by
    rw [hR]
    generalize a % P = x at *
    generalize a / P = y at *
    rw [← e]; grind
  have h2 : R % P = l := by rw [h, Int.add_mul_emod_self_left]; exact Int.emod_eq_of_lt hl0 hl1
  rw [← h2]; exact Int.emod_eq_of_lt hR0 hR1

end Go.Proofs.Ytbmdjimfncgomaa
