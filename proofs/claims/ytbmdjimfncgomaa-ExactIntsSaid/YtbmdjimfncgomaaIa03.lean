/- exact.fromWords, (exact.natural).words: two words are a limb. (exact.natural).words: the words of a natural, in new memory. The document's own integers: sum. exact.add, exact.subtract, exact.clone. -/
import Derived.Test.YtbmdjimfncgomaaIa02
/- exact.fromWords, (exact.natural).words: two words are a limb. -/
namespace Go.Proofs.Ytbmdjimfncgomaa
open Go.RowKit

/-- 2^32, behind a name. -/
def B32 : Int := 4294967296
theorem B32_pos : 0 < B32 := by decide

/-- Two words are a limb. -/
def pack : List Int → List Int
  | [] => []
  | [x] => [x]
  | x :: y :: l => (x + B32 * y) :: pack l

theorem pack_val : ∀ l : List Int, val B64 (pack l) = val B32 l
  | [] => rfl
  | [x] => by simp [pack, val]
  | x :: y :: l => by
    have h := pack_val l
    simp only [pack, val, h]
    have e : B64 = B32 * B32 := by decide
    rw [e]; grind
theorem pack_len : ∀ l : List Int, (pack l).length = (l.length + 1) / 2
  | [] => rfl
  | [x] => by simp [pack]
  | x :: y :: l => by have h := pack_len l; simp only [pack, List.length_cons, h]; omega
theorem pack_dig : ∀ {l : List Int}, Dig B32 l → Dig B64 (pack l)
  | [], _ => Dig.nil _
  | [x], h => by
    have := h.head
    exact Dig.cons this.1 (Int.lt_trans this.2 (by decide)) (Dig.nil _)
  | x :: y :: l, h => by
    have h1 := h.head; have h2 := h.tail.head
    refine Dig.cons ?_ ?_ (pack_dig h.tail.tail)
    · unfold B32 at *; omega
    · unfold B32 B64 at *; omega
theorem pack_nrm : ∀ {l : List Int}, Dig B32 l → Nrm l → Nrm (pack l)
  | [], _, _ => rfl
  | [x], _, h => h
  | x :: y :: l, hd, h => by
    have ih := pack_nrm hd.tail.tail h.tail.tail
    unfold Nrm at ih ⊢
    simp only [pack, trimL, ih]
    split
    · next hc =>
      exfalso
      obtain ⟨h1, h2⟩ := hc
      have hl : l = [] := by
        have := pack_len l; rw [h1] at this; simp at this
        exact List.eq_nil_of_length_eq_zero (by omega)
      subst hl
      have hx := hd.head; have hy := hd.tail.head
      have : x = 0 ∧ y = 0 := by unfold B32 at *; constructor <;> omega
      obtain ⟨rfl, rfl⟩ := this
      simp [Nrm, trimL] at h
    · rfl
theorem pack_append : ∀ (j : Nat) (l m : List Int), l.length = 2 * j → pack (l ++ m) = pack l ++ pack m
  | 0, [], m, _ => rfl
  | 0, _ :: _, _, h => by simp at h
  | j + 1, [], _, h => by simp at h
  | j + 1, [x], _, h => by simp at h; omega
  | j + 1, x :: y :: l, m, h => by
    have := pack_append j l m (by simp at h; omega)
    simp [pack, this]

theorem or_high (lo h : Int) (h0 : 0 ≤ lo) (h1 : lo < B32) (k0 : 0 ≤ h) (k1 : h < B32) : bits .or .u64 lo (h * 4294967296) = lo + B32 * h := by
  obtain ⟨a, rfl⟩ := Int.eq_ofNat_of_zero_le h0
  obtain ⟨b, rfl⟩ := Int.eq_ofNat_of_zero_le k0
  unfold B32 at *
  have e : ((b : Int) * 4294967296) = ((b * 4294967296 : Nat) : Int) := by omega
  rw [e, bits_or_u64_nat a (b * 4294967296) (by omega) (by omega)]
  have := Nat.two_pow_add_eq_or_of_lt (i := 32) (show a < 2 ^ 32 by omega) b
  rw [show (2 : Nat) ^ 32 = 4294967296 from rfl] at this
  rw [Nat.or_comm, Nat.mul_comm b, ← this]; omega
theorem or_zero (x : Int) (h0 : 0 ≤ x) (h1 : x < B32) : bits .or .u64 0 x = x := by
  obtain ⟨a, rfl⟩ := Int.eq_ofNat_of_zero_le h0
  unfold B32 at *
  have := bits_or_u64_nat 0 a (by omega) (by omega)
  simpa using this

/-- After k words. -/
structure PackI (w wr : World) (g : Nat) (W : List Int) (N k : Nat) : Prop where
  row : Row .u64 105 wr g (pack (W.take k) ++ List.replicate (N - (k + 1) / 2) 0)
  gr : w.grownBy wr (some g)

theorem PackI.drew {w wr : World} {g : Nat} {W : List Int} {N k : Nat} (h : PackI w wr g W N k) : PackI w wr.drew g W N k := ⟨h.row, grown_drew h.gr⟩
theorem pack_take_len (W : List Int) (k : Nat) (h : k ≤ W.length) : (pack (W.take k)).length = (k + 1) / 2 := by rw [pack_len, List.length_take, Nat.min_eq_left h]

theorem PackI.even {w wr : World} {g : Nat} {W : List Int} {N j : Nat} (h : PackI w wr g W N (2 * j)) (hk : 2 * j < W.length) (hN : N = (W.length + 1) / 2) :
    wr.cell? ⟨g, j, none⟩ = some (.int .u64 0) ∧ PackI w (wr.setCell ⟨g, j, none⟩ (.int .u64 (W[2 * j]?.getD 0))) g W N (2 * j + 1) := by
  have hl := pack_take_len W (2 * j) (by omega)
  have hz : N - (2 * j + 1) / 2 = (N - (2 * j + 1 + 1) / 2) + 1 := by omega
  constructor
  · have := h.row.cell j (by simp [hl]; omega)
    rw [this, hz, List.replicate_succ, List.getElem?_append_right (by omega), show j - (pack (W.take (2 * j))).length = 0 by omega]
    rfl
  · refine ⟨?_, grown_trans h.gr (grown_set _ _ _ _)⟩
    have hr := h.row.set j (W[2 * j]?.getD 0)
    rw [hz, List.replicate_succ, List.set_append_right _ _ (by omega), show j - (pack (W.take (2 * j))).length = 0 by omega, List.set_cons_zero] at hr
    rw [take_succ_getD W (2 * j) hk, pack_append j _ _ (by simp; omega)]
    simpa [pack] using hr

theorem PackI.odd {w wr : World} {g : Nat} {W : List Int} {N j : Nat} (h : PackI w wr g W N (2 * j + 1)) (hk : 2 * j + 1 < W.length) :
    wr.cell? ⟨g, j, none⟩ = some (.int .u64 (W[2 * j]?.getD 0)) ∧ PackI w (wr.setCell ⟨g, j, none⟩ (.int .u64 (W[2 * j]?.getD 0 + B32 * W[2 * j + 1]?.getD 0))) g W N (2 * j + 2) := by
  have hl := pack_take_len W (2 * j) (by omega)
  have e1 : pack (W.take (2 * j + 1)) = pack (W.take (2 * j)) ++ [W[2 * j]?.getD 0] := by
    rw [take_succ_getD W (2 * j) (by omega), pack_append j _ _ (by simp; omega)]; rfl
  have e2 : pack (W.take (2 * j + 2)) = pack (W.take (2 * j)) ++ [W[2 * j]?.getD 0 + B32 * W[2 * j + 1]?.getD 0] := by
    rw [take_succ_getD W (2 * j + 1) hk, take_succ_getD W (2 * j) (by omega), List.append_assoc, pack_append j _ _ (by simp; omega)]; rfl
  have hz : (2 * j + 1 + 1) / 2 = (2 * j + 2 + 1) / 2 := by omega
  constructor
  · have := h.row.cell j (by simp [e1, hl]; omega)
    rw [this, e1, List.append_assoc, List.getElem?_append_right (by omega), show j - (pack (W.take (2 * j))).length = 0 by omega]
    rfl
  · refine ⟨?_, grown_trans h.gr (grown_set _ _ _ _)⟩
    have hr := h.row.set j (W[2 * j]?.getD 0 + B32 * W[2 * j + 1]?.getD 0)
    rw [e1, List.append_assoc, List.set_append_right _ _ (by omega), show j - (pack (W.take (2 * j))).length = 0 by omega] at hr
    rw [e2, List.append_assoc, ← hz]
    exact hr

set_option maxRecDepth 100000 in
set_option maxHeartbeats 1000000 in
theorem fromWords_any (ao : Option Addr) (ca : Nat) (W0 : List Int) (w : World) (hA : Rd w .u32 ao ca W0) (hd : Dig B32 W0) (hk : W0.length ≤ 1073741824) :
    Calls Try.prog 79 #[.slice ao W0.length ca] w (RetN w (val B32 W0) ((W0.length + 1) / 2)) := by
  obtain ⟨W, hW⟩ : ∃ W, W = trimL W0 := ⟨_, rfl⟩
  have htl := trimL_len W0
  rw [← hW] at htl
  have hAW : Rd w .u32 ao ca W := by rw [hW, trimL_take]; exact hA.take _
  have ht := trim32_any ao ca W0 w hA
  rw [← hW] at ht
  obtain ⟨n, hn⟩ : ∃ n, n = W.length := ⟨_, rfl⟩
  obtain ⟨n0, hn0⟩ : ∃ n0, n0 = W0.length := ⟨_, rfl⟩
  rw [← hn, ← hn0] at ht htl
  rw [← hn0] at hk ⊢
  have hdW : Dig B32 W := by rw [hW]; exact hd.trim
  have hv : val B64 (pack W) = val B32 W0 := by rw [pack_val, hW, val_trim]
  have hnr : Nrm (pack W) := pack_nrm hdW (by rw [hW]; exact Nrm.trim _)
  have HT := hid ht; have Hn := hid hn; have HA := hid hAW; have Hd := hid hdW; have Hv := hid hv; have Hnr := hid hnr
  clear ht hn hn0 hAW hdW hv hnr hA hd hW
  obtain ⟨i0, hi, hz0, hz1, hz2⟩ := info_parts Try.info105
  go_enter Try.func79, Try.ntmps79
  go_wp2_with (first | (go_at_call 100; refine HT.out.mono ?_; rintro e w1 ⟨rfl, rfl⟩) | (at_make; refine wpList_make_row w rfl _ _ 77 rfl 105 i0 .u64 Try.underlying77 hi hz0 hz1 .i64 .i64 _ _ ((n + 1) / 2) rfl rfl (by omega) (by omega) (by rw [hz2]; omega) (by unfold maxLen; omega) ?_))
  intro w1 hrow hg1
  have hg1b := grown_below hg1
  have H0 : PackI w w1 w.heap.size W ((n + 1) / 2) 0 := ⟨by simpa [pack] using hrow, grown_any hg1⟩
  have HR := hid (HA.out.below hg1b (Nat.le_refl _))
  have HG := hid (HA.out.ne (Nat.le_refl w.heap.size))
  clear hrow hg1 hg1b
  go_wp2
  go_loopw [15] (fun iv wr => ∃ k : Nat, k ≤ n ∧ iv = .int .i64 k ∧ PackI w wr w.heap.size W ((n + 1) / 2) k) (fun iv _ => n - (intOf iv).toNat)
  case atStart => exact ⟨0, Nat.zero_le _, rfl, H0⟩
  case round =>
    obtain ⟨k, hk, rfl, H⟩ := hrel
    by_cases hlt : k < n
    · obtain ⟨b, o, rfl⟩ := HA.out.adr (by have := Hn.out; omega)
      have hx : wr.cell? ⟨b, o + k, none⟩ = some (.int .u32 (W[k]?.getD 0)) := (HA.out.keptNew H.gr HG.out).cell b o rfl k (by have := Hn.out; omega)
      have hd := Hd.out.at B32_pos k
      rcases (show ∃ j, k = 2 * j ∨ k = 2 * j + 1 from ⟨k / 2, by omega⟩) with ⟨j, rfl | rfl⟩
      · obtain ⟨hc, HS⟩ := H.even (by have := Hn.out; omega) (by rw [Hn.out])
        have hf := H.row.frozen j
        obtain ⟨x, hxe⟩ : ∃ x, x = W[2 * j]?.getD 0 := ⟨_, rfl⟩
        rw [← hxe] at hx hd HS
        have e1 : (((2 * j : Nat) : Int)) / 2 = (j : Int) := by omega
        have e2 : (((2 * j : Nat) : Int)) % 2 = 0 := by omega
        have e3 := or_zero x hd.1 hd.2
        have d0 := hd.1; have d1 := hd.2; unfold B32 at d1
        have HS' := hid HS; have HX := hid hxe
        clear H HS hxe H0
        go_wp2
        go_region
        all_goals go_wp2
        go_roundw
        case rel => exact ⟨2 * j + 1, by omega, by go_num, HS'.out.drew⟩
        case measure => simp [intOf]; omega
      · obtain ⟨hc, HS⟩ := H.odd (by have := Hn.out; omega)
        have hf := H.row.frozen j
        obtain ⟨x, hxe⟩ : ∃ x, x = W[2 * j + 1]?.getD 0 := ⟨_, rfl⟩
        obtain ⟨y, hye⟩ : ∃ y, y = W[2 * j]?.getD 0 := ⟨_, rfl⟩
        have hy := Hd.out.at B32_pos (2 * j)
        rw [← hxe] at hx hd HS; rw [← hye] at hc HS hy
        have ej : (2 * j + 1) / 2 = j := by omega
        have hc' : wr.cell? ⟨w.heap.size, (2 * j + 1) / 2, none⟩ = some (.int .u64 y) := by rw [ej]; exact hc
        have hf' : wr.frozen? ⟨w.heap.size, (2 * j + 1) / 2, none⟩ = false := by rw [ej]; exact hf
        have HS2 : PackI w (wr.setCell ⟨w.heap.size, (2 * j + 1) / 2, none⟩ (.int .u64 (y + B32 * x))) w.heap.size W ((n + 1) / 2) (2 * j + 2) := by rw [ej]; exact HS
        have e2 : (2 * (j : Int) + 1) % 2 = 1 := by omega
        have e3 := or_high y x hy.1 hy.2 hd.1 hd.2
        have d0 := hd.1; have d1 := hd.2; unfold B32 at d1
        have HS' := hid HS2; have HX := hid hxe; have HY := hid hye
        clear H HS HS2 hxe hye H0 hc hf ej
        go_wp2
        go_region
        all_goals go_wp2
        go_roundw
        case rel => exact ⟨2 * j + 2, by omega, by go_num, HS'.out.drew⟩
        case measure => simp [intOf]; omega
    · obtain rfl : k = n := by omega
      clear H0
      go_wp2
      go_ret
      have hr := H.row
      rw [Hn.out, List.take_length, Nat.sub_self, List.replicate_zero, List.append_nil] at hr
      refine ⟨_, rfl, ?_, ⟨H.gr.os, H.gr.tape, H.gr.output, H.gr.size, fun i hi => H.gr.block i hi (fun e => by cases e; omega)⟩⟩
      have hN := nt_row (c := (k + 1) / 2) (K := (n0 + 1) / 2) hr (pack_dig Hd.out) Hv.out (by rw [pack_len, ← Hn.out]; omega) (by omega) (by rw [pack_len, ← Hn.out]; omega)
      rw [Hnr.out, pack_len, ← Hn.out] at hN
      exact hN

end Go.Proofs.Ytbmdjimfncgomaa

/- (exact.natural).words: the words of a natural, in new memory. -/
namespace Go.Proofs.Ytbmdjimfncgomaa
open Go.RowKit

def unpack : List Int → List Int
  | [] => []
  | x :: l => x % B32 :: x / B32 :: unpack l

theorem unpack_val : ∀ l : List Int, val B32 (unpack l) = val B64 l
  | [] => rfl
  | x :: l => by
    have h := unpack_val l
    have e : B64 = B32 * B32 := by decide
    have d := Int.emod_add_mul_ediv x B32
    simp only [unpack, val, h, e]; grind
theorem unpack_len : ∀ l : List Int, (unpack l).length = 2 * l.length
  | [] => rfl
  | x :: l => by simp only [unpack, List.length_cons, unpack_len l]; omega
theorem unpack_dig : ∀ {l : List Int}, Dig B64 l → Dig B32 (unpack l)
  | [], _ => Dig.nil _
  | x :: l, h => by
    have := h.head
    refine Dig.cons (Int.emod_nonneg _ (by decide)) (Int.emod_lt_of_pos _ B32_pos) (Dig.cons (Int.ediv_nonneg this.1 (by decide)) ?_ (unpack_dig h.tail))
    exact Int.ediv_lt_of_lt_mul B32_pos (by have := this.2; have e : B32 * B32 = B64 := by decide
                                            omega)
theorem unpack_snoc : ∀ (l : List Int) (x : Int), unpack (l ++ [x]) = unpack l ++ [x % B32, x / B32]
  | [], x => rfl
  | y :: l, x => by simp [unpack, unpack_snoc l x]

/-- A slice of words that the call has made, in normal form, whose number is n. -/
def FrW (w0 w : World) (v : Value) (n : Int) (K : Nat) : Prop := ∃ L : List Int, w.ownsRow w0.heap.size 74 1 v L.length (L.map (Value.int .u32)) ∧ Dig B32 L ∧ Nrm L ∧ val B32 L = n ∧ L.length ≤ K
def RetW (w : World) (n : Int) (K : Nat) (e : Ending) (w' : World) : Prop := ∃ v, e = .returned v ∧ FrW w w' v n K ∧ Below w.heap.size w w'

theorem owns_take {w : World} {base g n cap : Nat} {e : TypeId} {xs : List Value} (h : w.ownsRow base e 1 (.slice (some ⟨g, 0, none⟩) n cap) n xs) (m : Nat) (hm : m ≤ n) :
    w.ownsRow base e 1 (.slice (some ⟨g, 0, none⟩) m cap) m (xs.take m) := by
  rcases h.2 with ⟨h', _⟩ | ⟨g', cap', cur, h', hb, hg, hnc, hcm, hcs, ht⟩
  · simp at h'
  · simp only [Value.slice.injEq, Option.some.injEq, Addr.mk.injEq, and_true, true_and] at h'
    obtain ⟨rfl, rfl⟩ := h'
    refine ⟨by have := h.1; simp at this ⊢; omega, .inr ⟨g, cap, cur, rfl, hb, hg, by omega, hcm, hcs, ?_⟩⟩
    rw [← ht, List.take_take, Nat.min_eq_left (by omega)]; simp
theorem owns_rd {w : World} {base g cap : Nat} {e : TypeId} {k : IntKind} {L : List Int} (h : w.ownsRow base e 1 (.slice (some ⟨g, 0, none⟩) L.length cap) L.length (L.map (Value.int k))) (hc : cap ≤ 9223372036854775807) :
    Rd w k (some ⟨g, 0, none⟩) cap L := by
  have hcap : L.length ≤ cap := by
    rcases h.2 with ⟨h', _⟩ | ⟨g', cap', cur, h', hb, hg, hnc, _⟩
    · simp at h'
    · simp only [Value.slice.injEq, Option.some.injEq, Addr.mk.injEq, and_true, true_and] at h'
      obtain ⟨rfl, rfl⟩ := h'; exact hnc
  refine ⟨hcap, hc, fun _ => ⟨_, _, rfl⟩, fun b off e i hi => ?_⟩
  cases e
  rw [Nat.zero_add, h.cellAt i (by omega)]
  simp [hi]

theorem Try.info74 : (Try.prog.info? 74).map (fun i => (i.zero, i.size, i.bytes)) = some (some (.int .u32 0), 1, 4) := by kernel_rfl

set_option maxRecDepth 100000 in
set_option maxHeartbeats 1000000 in
theorem words_any (va : Value) (a : Int) (K : Nat) (w : World) (hA : Nt w va a K) (hk : K ≤ 1073741824) :
    Calls Try.prog 80 #[va] w (RetW w a (2 * K)) := by
  obtain ⟨ao, ca, L, rfl, hA⟩ := hA
  obtain ⟨n, hn⟩ : ∃ n, n = L.length := ⟨_, rfl⟩
  have hnK : n ≤ K := by have := hA.le; omega
  have hn30 : n ≤ 1073741824 := by omega
  rw [← hn]
  have HA := hid hA; have Hn := hid hn
  clear hA hn
  obtain ⟨i0, hi, hz0, hz1, hz2⟩ := info_parts Try.info74
  by_cases h0 : n = 0
  · subst h0
    go_enter Try.func80, Try.ntmps80
    go_wp2
    go_ret
    obtain rfl : L = [] := List.eq_nil_of_length_eq_zero Hn.out.symm
    exact ⟨_, rfl, ⟨[], World.ownsRow_nil _ _ _ _, Dig.nil _, rfl, HA.out.eq, Nat.zero_le _⟩, Below.refl _ _⟩
  · have hb0 : ((n : Int) == 0) = false := by rw [beq_eq_false_iff_ne]; omega
    obtain ⟨b, o, rfl⟩ := HA.out.rd.adr (by have := Hn.out; omega)
    go_enter Try.func80, Try.ntmps80
    go_wp2_with (at_make; refine wpList_make_own w rfl _ _ 22 rfl w.heap.size 74 i0 (.int .u32 0) 1 Try.underlying22 hi hz0 hz1 _ _ _ (2 * n) rfl rfl (by omega) (by rw [hz2]; omega) (by unfold maxLen; omega) (Nat.le_refl _) ?_)
    intro w1 hown1 hg1
    have hb1 := grown_below hg1
    go_wp2
    go_loopw [3, 15] (fun v iv wr => ∃ k : Nat, k ≤ n ∧ iv = .int .i64 k ∧ v = .slice (some ⟨w.heap.size, 0, none⟩) (2 * k) (2 * n) ∧ wr.ownsRow w.heap.size 74 1 (.slice (some ⟨w.heap.size, 0, none⟩) (2 * k) (2 * n)) (2 * k) ((unpack (L.take k)).map (Value.int .u32)) ∧ Below w.heap.size w wr) (fun _ iv _ => n - (intOf iv).toNat)
    case atStart => exact ⟨0, Nat.zero_le _, rfl, rfl, hown1, hb1⟩
    case round =>
      obtain ⟨k, hk, rfl, rfl, hown, hb⟩ := hrel
      by_cases hlt : k < n
      · have hx : wr.cell? ⟨b, o + k, none⟩ = some (.int .u64 (L[k]?.getD 0)) := (HA.out.rd.below hb (Nat.le_refl _)).cell b o rfl k (by have := Hn.out; omega)
        have hd := HA.out.dig.at B64_pos k
        have hts := take_succ_getD L k (by have := Hn.out; omega)
        have hus := unpack_snoc (L.take k) (L[k]?.getD 0)
        rw [← hts] at hus
        obtain ⟨x, hxe⟩ : ∃ x, x = L[k]?.getD 0 := ⟨_, rfl⟩
        rw [← hxe] at hx hd hus
        have HU := hid hus; have HX := hid hxe
        have d0 := hd.1; have d1 := hd.2; unfold B64 at d1
        clear hts hus hxe hown1 hg1 hb1
        go_wp2_with (at_builtin; refine wpList_append_fits _ rfl _ _ 22 rfl w.heap.size 74 i0 1 Try.underlying22 hi hz1 w.heap.size (2 * k) (2 * n) _ rfl (hown.alloc _) ⟨wr.heap.size, 0, none⟩ 2 2 [.int .u32 (x % 4294967296), .int .u32 (x / 4294967296)] rfl rfl ?c1 ?c2 ?c3 ?_)
        case c1 =>
          intro j u hj
          match j, hj with
          | 0, hj => simp at hj; subst hj; simp [Addr.add]
          | 1, hj => simp at hj; subst hj; simp [Addr.add]
        case c2 => intro u hu; simp at hu; rcases hu with rfl | rfl <;> rfl
        case c3 => omega
        intro w2 hown2 hg2
        have hb2 := (hb.alloc hb.size (.cells #[.int .u32 (x % 4294967296), .int .u32 (x / 4294967296)] 74)).grown hg2 (by simp; have := hb.size; omega) (fun k e => by cases e; exact Nat.le_refl _)
        have hown3 : w2.ownsRow w.heap.size 74 1 (.slice (some ⟨w.heap.size, 0, none⟩) (2 * (k + 1)) (2 * n)) (2 * (k + 1)) ((unpack (L.take (k + 1))).map (Value.int .u32)) := by
          rw [HU.out, List.map_append]; exact hown2
        clear hown2 hg2 hown hb
        have Hown := hid hown3; clear hown3
        go_wp2
        go_roundw
        case rel => exact ⟨k + 1, by omega, by go_num, rfl, Hown.out, hb2⟩
        case measure => simp [intOf]; omega
      · obtain rfl : k = n := by omega
        have hl : 2 * k = (unpack L).length := by rw [unpack_len, ← Hn.out]
        have hown4 : wr.ownsRow w.heap.size 74 1 (.slice (some ⟨w.heap.size, 0, none⟩) (unpack L).length (2 * k)) (unpack L).length ((unpack L).map (Value.int .u32)) := by
          have := hown; rw [Hn.out, List.take_length, ← Hn.out] at this; rw [← hl]; exact this
        have ht := trim32_any (some ⟨w.heap.size, 0, none⟩) (2 * k) (unpack L) wr (owns_rd hown4 (by omega))
        rw [← hl] at ht
        have HT := hid ht; have Hown := hid hown4; have Hb := hid hb
        clear ht hown4 hown hb hl hown1 hg1 hb1
        go_wp2_with (go_at_call 100; refine HT.out.mono ?_; rintro e w2 ⟨rfl, rfl⟩)
        go_ret
        refine ⟨_, rfl, ⟨trimL (unpack L), ?_, (unpack_dig HA.out.dig).trim, Nrm.trim _, by rw [val_trim, unpack_val]; exact HA.out.eq, ?_⟩, Hb.out⟩
        · have h := owns_take Hown.out (trimL (unpack L)).length (trimL_len _)
          rw [← List.map_take, ← trimL_take] at h
          exact h
        · have := trimL_len (unpack L); rw [unpack_len] at this; have := HA.out.le; omega

end Go.Proofs.Ytbmdjimfncgomaa

/- The document's own integers: sum. -/
namespace Go.Proofs.Ytbmdjimfncgomaa
open Go.RowKit

theorem owns_block {w : World} {base n s : Nat} {e : TypeId} {v : Value} {xs : List Value} (h : w.ownsRow base e s v n xs) : ∀ k, v.ownBlock = some k → base ≤ k := by
  intro k hk
  rcases h.2 with ⟨rfl, _⟩ | ⟨g, cap, cur, rfl, hb, _⟩
  · simp [Value.ownBlock] at hk
  · simp [Value.ownBlock] at hk; omega

/-- What holds of a sum of digits: k have been summed. -/
structure DsI (w wr : World) (A B : List Int) (k : Nat) (ov : Value) (Q : List Int) (c : Int) : Prop where
  own : wr.ownsRow w.heap.size 3 1 ov k (Q.map (Value.int .i64))
  len : Q.length = k
  dig : Dig R16 Q
  c0 : 0 ≤ c
  c1 : c ≤ 1
  eq : val R16 Q + R16 ^ k * c = val R16 (A.take k) + val R16 (B.take k)
  low : Below w.heap.size w wr

theorem DsI.next {w wr wx : World} {A B Q : List Int} {k : Nat} {ov ov' : Value} {c : Int} (H : DsI w wr A B k ov Q c) (x y : Int) (hx : x = A[k]?.getD 0) (hy : y = B[k]?.getD 0) (hA : Dig R16 A) (hB : Dig R16 B) (hka : k < A.length) (hkb : k < B.length)
    (hown : wx.ownsRow w.heap.size 3 1 ov' (k + 1) (Q.map (Value.int .i64) ++ [.int .i64 ((x + y + c) % 65536)])) (hlow : Below w.heap.size w wx) :
    DsI w wx A B (k + 1) ov' (Q ++ [(x + y + c) % 65536]) ((x + y + c) / 65536) := by
  have a := hA.at R16_pos k; have b := hB.at R16_pos k
  rw [← hx] at a; rw [← hy] at b
  have c0 := H.c0; have c1 := H.c1
  refine ⟨by rw [List.map_append]; exact hown, by simp [H.len], H.dig.append (Dig.cons (by omega) (by unfold R16; omega) (Dig.nil _)), by omega, by unfold R16 at a b; omega, ?_, hlow⟩
  rw [val_snoc, H.len, val_take_succ R16 A k hka, val_take_succ R16 B k hkb, ← hx, ← hy, Int.pow_succ]
  have e := H.eq
  have hd : (x + y + c) % 65536 + R16 * ((x + y + c) / 65536) = x + y + c := Int.emod_add_mul_ediv (x + y + c) 65536
  generalize (x + y + c) % 65536 = lo at *
  generalize (x + y + c) / 65536 = hi at *
  generalize R16 ^ k = p at *
  generalize R16 = r at *
  grind

def RetO (w : World) (n : Int) (K : Nat) (e : Ending) (w' : World) : Prop := ∃ v Q, e = .returned v ∧ w'.ownsRow w.heap.size 3 1 v K (Q.map (Value.int .i64)) ∧ Q.length = K ∧ Dig R16 Q ∧ val R16 Q = n ∧ Below w.heap.size w w'

set_option maxRecDepth 100000 in
set_option maxHeartbeats 4000000 in
theorem sum_any (ao bo : Option Addr) (ca cb N : Nat) (L M : List Int) (w : World) (hL : Rd w .i64 ao ca L) (hM : Rd w .i64 bo cb M) (dL : Dig R16 L) (dM : Dig R16 M) (hN : N = max L.length M.length) (hN30 : N ≤ 1073741824) :
    Calls Try.prog 52 #[.slice ao L.length ca, .slice bo M.length cb] w (RetO w (val R16 L + val R16 M) (N + 1)) := by
  obtain ⟨n, hn⟩ : ∃ n, n = L.length := ⟨_, rfl⟩
  obtain ⟨m, hm⟩ : ∃ m, m = M.length := ⟨_, rfl⟩
  have hnN : n ≤ N := by omega
  have hmN : m ≤ N := by omega
  have hdl := fun (w' : World) (hb : Below w.heap.size w w') (i : Nat) (hi : i ≤ 9223372036854775807) => digit_any ao ca i L w' (hL.below hb (Nat.le_refl _)) hi
  have hdm := fun (w' : World) (hb : Below w.heap.size w w') (i : Nat) (hi : i ≤ 9223372036854775807) => digit_any bo cb i M w' (hM.below hb (Nat.le_refl _)) hi
  have lP := pad_len (L := L) (N := N) (by omega)
  have lQ := pad_len (L := M) (N := N) (by omega)
  rw [← hn, ← hm] at hN
  rw [← hn] at hdl ⊢; rw [← hm] at hdm ⊢
  have HDl := hid hdl; have HDm := hid hdm; have HP := hid lP; have HQ := hid lQ; have DL := hid (pad_dig R16_pos dL N); have DM := hid (pad_dig R16_pos dM N)
  have hI0 : DsI w w (pad L N) (pad M N) 0 (.slice none 0 0) [] 0 := ⟨⟨by simp, .inl ⟨rfl, rfl⟩⟩, rfl, Dig.nil _, Int.le_refl 0, by decide, by simp [val], Below.refl _ _⟩
  have HI0 := hid hI0
  clear hdl hdm lP lQ hL hM dL dM hn hm hI0
  obtain ⟨i0, hi, hz0, hz1, hz2⟩ := info_parts Try.info3
  rcases Nat.lt_or_ge n m with hnm | hnm
  all_goals
    go_enter Try.func52, Try.ntmps52
    go_wp2
    go_loopw [5, 6, 7] (fun ov cv iv wr => ∃ k : Nat, ∃ Q c, k ≤ N ∧ iv = .int .i64 k ∧ cv = .int .i64 c ∧ DsI w wr (pad L N) (pad M N) k ov Q c) (fun _ _ iv _ => N - (intOf iv).toNat)
    case atStart => exact ⟨0, [], 0, Nat.zero_le _, rfl, rfl, HI0.out⟩
    case round =>
      obtain ⟨k, Q, c, hk, rfl, rfl, H⟩ := hrel
      by_cases hlt : k < N
      · have h1 := HDl.out _ H.low k (by omega)
        have h2 := HDm.out _ H.low k (by omega)
        have ha := DL.out.at R16_pos k; have hb := DM.out.at R16_pos k
        rw [pad_get] at ha hb
        obtain ⟨x, hx⟩ : ∃ x, x = L[k]?.getD 0 := ⟨_, rfl⟩
        obtain ⟨y, hy⟩ : ∃ y, y = M[k]?.getD 0 := ⟨_, rfl⟩
        rw [← hx] at h1 ha; rw [← hy] at h2 hb
        have HX := hid (show x = (pad L N)[k]?.getD 0 by rw [pad_get]; exact hx)
        have HY := hid (show y = (pad M N)[k]?.getD 0 by rw [pad_get]; exact hy)
        have c0 := H.c0; have c1 := H.c1
        have x0 := ha.1; have x1 : x < 65536 := ha.2; have y0 := hb.1; have y1 : y < 65536 := hb.2
        have H1 := hid h1; have H2 := hid h2; have HH := hid H
        clear h1 h2 ha hb hx hy H HI0
        go_wp2_with fail
        refine H1.out.mono ?_
        rintro e w1 ⟨rfl, rfl⟩
        go_wp2_with fail
        refine H2.out.mono ?_
        rintro e w2 ⟨rfl, rfl⟩
        go_wp2_with (at_builtin; refine wpList_append_own _ rfl _ _ 26 rfl w.heap.size 3 i0 (.int .i64 0) 1 8 Try.underlying26 hi hz0 hz1 hz2 rfl (by decide) _ k (Q.map (Value.int .i64)) rfl (HH.out.own.alloc _) ⟨w2.heap.size, 0, none⟩ 1 1 [.int .i64 ((x + y + c) % 65536)] rfl rfl ?c1 ?c2 ?c3 ?c4 ?c5 ?_)
        case c1 =>
          intro j u hj
          match j, hj with
          | 0, hj => simp at hj; subst hj; simp [Addr.add]
        case c2 => intro u hu; simp at hu; subst hu; rfl
        case c3 => unfold maxLen; omega
        case c4 => omega
        case c5 => have := HH.out.low.size; simp; omega
        intro ov' w3 hown hg _
        have hlow := (HH.out.low.alloc HH.out.low.size (.cells #[.int .i64 ((x + y + c) % 65536)] 3)).grown hg (by have := HH.out.low.size; simp; omega) (fun i e => owns_block HH.out.own i e)
        have HI := hid (HH.out.next x y HX.out HY.out DL.out DM.out (by have := HP.out; omega) (by have := HQ.out; omega) hown hlow)
        clear hown hg hlow
        go_wp2
        go_roundw
        case rel => exact ⟨k + 1, _, _, by omega, by go_num, rfl, HI.out⟩
        case measure => simp [intOf]; omega
      · obtain rfl : k = N := by omega
        have HH := hid H
        have c0 := H.c0; have c1 := H.c1
        clear H HI0
        go_wp2_with (at_builtin; refine wpList_append_own _ rfl _ _ 26 rfl w.heap.size 3 i0 (.int .i64 0) 1 8 Try.underlying26 hi hz0 hz1 hz2 rfl (by decide) _ k (Q.map (Value.int .i64)) rfl (HH.out.own.alloc _) ⟨wr.heap.size, 0, none⟩ 1 1 [.int .i64 c] rfl rfl ?c1 ?c2 ?c3 ?c4 ?c5 ?_)
        case c1 =>
          intro j u hj
          match j, hj with
          | 0, hj => simp at hj; subst hj; simp [Addr.add]
        case c2 => intro u hu; simp at hu; subst hu; rfl
        case c3 => unfold maxLen; omega
        case c4 => omega
        case c5 => have := HH.out.low.size; simp; omega
        intro ov' w3 hown hg _
        have hlow := (HH.out.low.alloc HH.out.low.size (.cells #[.int .i64 c] 3)).grown hg (by have := HH.out.low.size; simp; omega) (fun i e => owns_block HH.out.own i e)
        have hkk : max n m = k := hN.symm
        have hown' : w3.ownsRow w.heap.size 3 1 ov' (k + 1) (Q.map (Value.int .i64) ++ [.int .i64 c]) := by
          first
            | exact hown
            | (rw [hkk] at hown; exact hown)
            | (rw [show n = k by omega] at hown; exact hown)
        have hr : RetO w (val R16 L + val R16 M) (k + 1) (.returned ov') w3 := by
          refine ⟨ov', Q ++ [c], rfl, by rw [List.map_append]; exact hown', by simp [HH.out.len], HH.out.dig.append (Dig.cons c0 (by unfold R16; omega) (Dig.nil _)), ?_, hlow⟩
          have e := HH.out.eq
          rw [List.take_of_length_le (by rw [HP.out]; exact Nat.le_refl _), List.take_of_length_le (by rw [HQ.out]; exact Nat.le_refl _), pad_val, pad_val] at e
          rw [val_snoc, HH.out.len]; exact e
        have HR := hid hr
        clear hown hown' hkk hg hlow hr
        go_wp2
        go_ret
        exact HR.out

end Go.Proofs.Ytbmdjimfncgomaa

/- exact.add, exact.subtract, exact.clone. -/
namespace Go.Proofs.Ytbmdjimfncgomaa
open Go.RowKit

set_option maxRecDepth 100000 in
set_option maxHeartbeats 1000000 in
theorem add_ge (ao bo : Option Addr) (ca cb : Nat) (LA LB : List Int) (a b : Int) (Ka Kb : Nat) (w : World) (hA : NtL w ao ca LA a Ka) (hB : NtL w bo cb LB b Kb) (hk : Ka ≤ 1073741824) (hle : LB.length ≤ LA.length) :
    Calls Try.prog 81 #[.slice ao LA.length ca, .slice bo LB.length cb] w (RetN w (a + b) (Ka + 1)) := by
  obtain ⟨n, hn⟩ : ∃ n, n = LA.length := ⟨_, rfl⟩
  obtain ⟨m, hm⟩ : ∃ m, m = LB.length := ⟨_, rfl⟩
  have hn30 : n ≤ 1073741824 := by have := hA.le; omega
  have hmn : m ≤ n := by omega
  rw [← hn, ← hm]
  have HA := hid hA; have HB := hid hB; have Hn := hid hn; have Hm := hid hm
  clear hA hB hn hm hle
  obtain ⟨i0, hi, hz0, hz1, hz2⟩ := info_parts Try.info105
  go_enter Try.func81, Try.ntmps81
  go_wp2_with (at_make; refine wpList_make_row w rfl _ _ 77 rfl 105 i0 .u64 Try.underlying77 hi hz0 hz1 .i64 .i64 _ _ (n + 1) rfl rfl (by omega) (by omega) (by rw [hz2]; omega) (by unfold maxLen; omega) ?_)
  intro w1 hrow hg1
  have hg1b := grown_below hg1
  have HRA := hid ((HA.out.rd).below hg1b (Nat.le_refl _))
  go_wp2_with ((with_reducible refine wpList_copy_row rfl _ _ _ _ rfl 105 Try.underlying77 Try.size105 .u64 105 w.heap.size [] (List.replicate (n + 1) 0) [] LA 0 (n + 1) n (n + 1) ao ca rfl rfl rfl (by simp) Hn.out (by simpa using hrow) HRA.out (by have := Hn.out; simp; omega) ?_))
  intro w2 hrow2 hg2
  have HG := hid (HB.out.rd.ne (Nat.le_refl w.heap.size))
  have HRB := hid ((HB.out.rd.below hg1b (Nat.le_refl _)).keptNew hg2 HG.out)
  have hrow2' : Row .u64 105 w2 w.heap.size ([] ++ (LA ++ [0]) ++ []) := by
    have e : n + 1 - LA.length = 1 := by have := Hn.out; omega
    rw [e] at hrow2; simpa using hrow2
  have Hrow2 := hid hrow2'; have Hb := hid hg1b; have Hg2 := hid hg2
  clear hrow2 hrow2' hrow hg1 hg1b hg2
  have hdd : Dig B64 (LA ++ [0]) := HA.out.dig.append (Dig.cons (Int.le_refl 0) (by decide) (Dig.nil _))
  have hc := addTo_any w.heap.size [] (LA ++ [0]) [] LB (n + 1) cb bo w2 Hrow2.out hdd HB.out.dig (by have := Hn.out; simp; omega) (by omega) HRB.out (by have := Hn.out; have := Hm.out; simp; omega) HG.out
  rw [show ([] : List Int).length = 0 from rfl, show (LA ++ [(0 : Int)]).length = n + 1 from by rw [Hn.out]; simp, ← Hm.out] at hc
  have Hc := hid hc; clear hc hdd
  go_wp2_with (go_at_call 101; refine Hc.out.mono ?_; rintro e w3 ⟨A1, cc, rfl, HI⟩)
  rw [show n + 1 = (LA ++ [(0 : Int)]).length from by rw [Hn.out]; simp] at HI
  obtain ⟨hrow3, hd3, hv3, hl3⟩ := add_done HA.out.dig HB.out.dig (by have := Hn.out; have := Hm.out; omega) HI
  have hg3 := HI.gr
  have ht := trim64_any (some ⟨w.heap.size, 0, none⟩) (n + 1) A1 w3 (row_rd hrow3 (by have := Hn.out; omega) (by omega))
  rw [hl3, ← Hn.out] at ht
  have HT := hid ht
  have hres : Nt w3 (.slice (some ⟨w.heap.size, 0, none⟩) (trimL A1).length (n + 1)) (a + b) (Ka + 1) :=
    nt_row hrow3 hd3 (by rw [hv3, HA.out.eq, HB.out.eq]) (by have := Hn.out; omega) (by omega) (by have := HA.out.le; omega)
  have hbel : Below w.heap.size w w3 := (Hb.out.grown Hg2.out Hb.out.size (fun k e => by cases e; exact Nat.le_refl _)).grown hg3 (by have := Hb.out.size; have := Hg2.out.size; omega) (fun k e => by cases e; exact Nat.le_refl _)
  have Hres := hid hres; have Hbel := hid hbel
  clear ht hres hbel hrow3 hd3 hv3 hl3 hg3 HI
  refine HT.out.mono ?_
  rintro e w4 ⟨rfl, rfl⟩
  go_wp2
  go_ret
  exact ⟨_, rfl, Hres.out, Hbel.out⟩

set_option maxRecDepth 100000 in
set_option maxHeartbeats 1000000 in
theorem add_lt (ao bo : Option Addr) (ca cb : Nat) (LA LB : List Int) (a b : Int) (Ka Kb : Nat) (w : World) (hA : NtL w ao ca LA a Ka) (hB : NtL w bo cb LB b Kb) (hk : Ka ≤ 1073741824) (hle : LB.length < LA.length) :
    Calls Try.prog 81 #[.slice bo LB.length cb, .slice ao LA.length ca] w (RetN w (a + b) (Ka + 1)) := by
  obtain ⟨n, hn⟩ : ∃ n, n = LA.length := ⟨_, rfl⟩
  obtain ⟨m, hm⟩ : ∃ m, m = LB.length := ⟨_, rfl⟩
  have hn30 : n ≤ 1073741824 := by have := hA.le; omega
  have hmn : m < n := by omega
  rw [← hn, ← hm]
  have HA := hid hA; have HB := hid hB; have Hn := hid hn; have Hm := hid hm
  clear hA hB hn hm hle
  obtain ⟨i0, hi, hz0, hz1, hz2⟩ := info_parts Try.info105
  have hmn' : m ≤ n := by omega
  go_enter Try.func81, Try.ntmps81
  go_wp2_with (at_make; refine wpList_make_row w rfl _ _ 77 rfl 105 i0 .u64 Try.underlying77 hi hz0 hz1 .i64 .i64 _ _ (n + 1) rfl rfl (by omega) (by omega) (by rw [hz2]; omega) (by unfold maxLen; omega) ?_)
  intro w1 hrow hg1
  have hg1b := grown_below hg1
  have HRA := hid ((HA.out.rd).below hg1b (Nat.le_refl _))
  go_wp2_with ((with_reducible refine wpList_copy_row rfl _ _ _ _ rfl 105 Try.underlying77 Try.size105 .u64 105 w.heap.size [] (List.replicate (n + 1) 0) [] LA 0 (n + 1) n (n + 1) ao ca rfl rfl rfl (by simp) Hn.out (by simpa using hrow) HRA.out (by have := Hn.out; simp; omega) ?_))
  intro w2 hrow2 hg2
  have HG := hid (HB.out.rd.ne (Nat.le_refl w.heap.size))
  have HRB := hid ((HB.out.rd.below hg1b (Nat.le_refl _)).keptNew hg2 HG.out)
  have hrow2' : Row .u64 105 w2 w.heap.size ([] ++ (LA ++ [0]) ++ []) := by
    have e : n + 1 - LA.length = 1 := by have := Hn.out; omega
    rw [e] at hrow2; simpa using hrow2
  have Hrow2 := hid hrow2'; have Hb := hid hg1b; have Hg2 := hid hg2
  clear hrow2 hrow2' hrow hg1 hg1b hg2
  have hdd : Dig B64 (LA ++ [0]) := HA.out.dig.append (Dig.cons (Int.le_refl 0) (by decide) (Dig.nil _))
  have hc := addTo_any w.heap.size [] (LA ++ [0]) [] LB (n + 1) cb bo w2 Hrow2.out hdd HB.out.dig (by have := Hn.out; simp; omega) (by omega) HRB.out (by have := Hn.out; have := Hm.out; simp; omega) HG.out
  rw [show ([] : List Int).length = 0 from rfl, show (LA ++ [(0 : Int)]).length = n + 1 from by rw [Hn.out]; simp, ← Hm.out] at hc
  have Hc := hid hc; clear hc hdd
  go_wp2_with (go_at_call 101; refine Hc.out.mono ?_; rintro e w3 ⟨A1, cc, rfl, HI⟩)
  rw [show n + 1 = (LA ++ [(0 : Int)]).length from by rw [Hn.out]; simp] at HI
  obtain ⟨hrow3, hd3, hv3, hl3⟩ := add_done HA.out.dig HB.out.dig (by have := Hn.out; have := Hm.out; omega) HI
  have hg3 := HI.gr
  have ht := trim64_any (some ⟨w.heap.size, 0, none⟩) (n + 1) A1 w3 (row_rd hrow3 (by have := Hn.out; omega) (by omega))
  rw [hl3, ← Hn.out] at ht
  have HT := hid ht
  have hres : Nt w3 (.slice (some ⟨w.heap.size, 0, none⟩) (trimL A1).length (n + 1)) (a + b) (Ka + 1) :=
    nt_row hrow3 hd3 (by rw [hv3, HA.out.eq, HB.out.eq]) (by have := Hn.out; omega) (by omega) (by have := HA.out.le; omega)
  have hbel : Below w.heap.size w w3 := (Hb.out.grown Hg2.out Hb.out.size (fun k e => by cases e; exact Nat.le_refl _)).grown hg3 (by have := Hb.out.size; have := Hg2.out.size; omega) (fun k e => by cases e; exact Nat.le_refl _)
  have Hres := hid hres; have Hbel := hid hbel
  clear ht hres hbel hrow3 hd3 hv3 hl3 hg3 HI
  refine HT.out.mono ?_
  rintro e w4 ⟨rfl, rfl⟩
  go_wp2
  go_ret
  exact ⟨_, rfl, Hres.out, Hbel.out⟩

theorem add_any (va vb : Value) (a b : Int) (Ka Kb K : Nat) (w : World) (hA : Nt w va a Ka) (hB : Nt w vb b Kb) (h1 : Ka ≤ 1073741824) (h2 : Kb ≤ 1073741824) (hK : Ka < K) (hK' : Kb < K) :
    Calls Try.prog 81 #[va, vb] w (RetN w (a + b) K) := by
  obtain ⟨ao, ca, LA, rfl, hA⟩ := hA
  obtain ⟨bo, cb, LB, rfl, hB⟩ := hB
  by_cases h : LB.length ≤ LA.length
  · refine (add_ge ao bo ca cb LA LB a b Ka Kb w hA hB h1 h).mono ?_
    rintro e w' ⟨v, rfl, hv, hb⟩
    exact ⟨v, rfl, hv.mono hK, hb⟩
  · refine (add_lt bo ao cb ca LB LA b a Kb Ka w hB hA h2 (by omega)).mono ?_
    rintro e w' ⟨v, rfl, hv, hb⟩
    exact ⟨v, rfl, by rw [Int.add_comm]; exact hv.mono hK', hb⟩

theorem sub_done {w wr : World} {g : Nat} {LA LB A1 : List Int} {cc : Int} (hle : val B64 LB ≤ val B64 LA)
    (h : SubI w wr g [] LA [] LA.length (val B64 LB) A1 cc) : Row .u64 105 wr g A1 ∧ Dig B64 A1 ∧ val B64 A1 = val B64 LA - val B64 LB ∧ A1.length = LA.length := by
  have e := h.eq
  have h1 := val_lt B64_pos h.dig
  rw [h.len] at h1
  have hcc : cc = 0 := by
    rcases (show cc = 0 ∨ cc = 1 by have := h.c0; have := h.c1; omega) with h | h
    · exact h
    · subst h; omega
  subst hcc
  exact ⟨by simpa using h.row, h.dig, by simpa using e, h.len⟩

set_option maxRecDepth 100000 in
set_option maxHeartbeats 1000000 in
theorem subtract_le (ao bo : Option Addr) (ca cb : Nat) (LA LB : List Int) (a b : Int) (Ka Kb : Nat) (w : World) (hA : NtL w ao ca LA a Ka) (hB : NtL w bo cb LB b Kb) (hk : Ka ≤ 1073741824) (hle : LB.length ≤ LA.length) (hba : b ≤ a) :
    Calls Try.prog 82 #[.slice ao LA.length ca, .slice bo LB.length cb] w (RetN w (a - b) Ka) := by
  obtain ⟨n, hn⟩ : ∃ n, n = LA.length := ⟨_, rfl⟩
  obtain ⟨m, hm⟩ : ∃ m, m = LB.length := ⟨_, rfl⟩
  have hn30 : n ≤ 1073741824 := by have := hA.le; omega
  have hmn : m ≤ n := by omega
  rw [← hn, ← hm]
  have HA := hid hA; have HB := hid hB; have Hn := hid hn; have Hm := hid hm
  clear hA hB hn hm hle
  obtain ⟨i0, hi, hz0, hz1, hz2⟩ := info_parts Try.info105
  go_enter Try.func82, Try.ntmps82
  go_wp2_with (at_make; refine wpList_make_row w rfl _ _ 77 rfl 105 i0 .u64 Try.underlying77 hi hz0 hz1 .i64 .i64 _ _ n rfl rfl (by omega) (by omega) (by rw [hz2]; omega) (by unfold maxLen; omega) ?_)
  intro w1 hrow hg1
  have hg1b := grown_below hg1
  have HRA := hid ((HA.out.rd).below hg1b (Nat.le_refl _))
  go_wp2_with ((with_reducible refine wpList_copy_row rfl _ _ _ _ rfl 105 Try.underlying77 Try.size105 .u64 105 w.heap.size [] (List.replicate n 0) [] LA 0 n n n ao ca rfl rfl rfl (by simp) Hn.out (by simpa using hrow) HRA.out (by have := Hn.out; simp; omega) ?_))
  intro w2 hrow2 hg2
  have HG := hid (HB.out.rd.ne (Nat.le_refl w.heap.size))
  have HRB := hid ((HB.out.rd.below hg1b (Nat.le_refl _)).keptNew hg2 HG.out)
  have hrow2' : Row .u64 105 w2 w.heap.size ([] ++ (LA) ++ []) := by
    have e : n - LA.length = 0 := by have := Hn.out; omega
    rw [e] at hrow2; simpa using hrow2
  have Hrow2 := hid hrow2'; have Hb := hid hg1b; have Hg2 := hid hg2
  clear hrow2 hrow2' hrow hg1 hg1b hg2
  have hdd : Dig B64 LA := HA.out.dig
  have hc := subFrom_any w.heap.size [] (LA) [] LB n cb bo w2 Hrow2.out hdd HB.out.dig (by have := Hn.out; simp; omega) (by omega) HRB.out (by have := Hn.out; have := Hm.out; simp; omega) HG.out
  rw [show ([] : List Int).length = 0 from rfl, ← Hn.out, ← Hm.out] at hc
  have Hc := hid hc; clear hc hdd
  go_wp2_with (go_at_call 102; refine Hc.out.mono ?_; rintro e w3 ⟨A1, cc, rfl, HI⟩)
  rw [Hn.out] at HI
  obtain ⟨hrow3, hd3, hv3, hl3⟩ := sub_done (by rw [HA.out.eq, HB.out.eq]; exact hba) HI
  have hg3 := HI.gr
  have ht := trim64_any (some ⟨w.heap.size, 0, none⟩) n A1 w3 (row_rd hrow3 (by have := Hn.out; omega) (by omega))
  rw [hl3, ← Hn.out] at ht
  have HT := hid ht
  have hres : Nt w3 (.slice (some ⟨w.heap.size, 0, none⟩) (trimL A1).length n) (a - b) Ka :=
    nt_row hrow3 hd3 (by rw [hv3, HA.out.eq, HB.out.eq]) (by have := Hn.out; omega) (by omega) (by have := HA.out.le; omega)
  have hbel : Below w.heap.size w w3 := (Hb.out.grown Hg2.out Hb.out.size (fun k e => by cases e; exact Nat.le_refl _)).grown hg3 (by have := Hb.out.size; have := Hg2.out.size; omega) (fun k e => by cases e; exact Nat.le_refl _)
  have Hres := hid hres; have Hbel := hid hbel
  clear ht hres hbel hrow3 hd3 hv3 hl3 hg3 HI
  refine HT.out.mono ?_
  rintro e w4 ⟨rfl, rfl⟩
  go_wp2
  go_ret
  exact ⟨_, rfl, Hres.out, Hbel.out⟩

theorem len_of_le {LA LB : List Int} (hA : Dig B64 LA) (hB : Dig B64 LB) (nB : Nrm LB) (h : val B64 LB ≤ val B64 LA) : LB.length ≤ LA.length := by
  by_cases hl : LB.length ≤ LA.length
  · exact hl
  · exfalso
    have h1 := val_lt B64_pos hA
    have h2 := Nrm.low B64_pos hB nB (by omega)
    have h3 := pow_mono B64_pos (show LA.length ≤ LB.length - 1 by omega)
    omega

theorem subtract_any (va vb : Value) (a b : Int) (Ka Kb : Nat) (w : World) (hA : Nt w va a Ka) (hB : Nt w vb b Kb) (h1 : Ka ≤ 1073741824) (hba : b ≤ a) :
    Calls Try.prog 82 #[va, vb] w (RetN w (a - b) Ka) := by
  obtain ⟨ao, ca, LA, rfl, hA⟩ := hA
  obtain ⟨bo, cb, LB, rfl, hB⟩ := hB
  exact subtract_le ao bo ca cb LA LB a b Ka Kb w hA hB h1 (len_of_le hA.dig hB.dig hB.nrm (by rw [hA.eq, hB.eq]; exact hba)) hba

set_option maxRecDepth 100000 in
set_option maxHeartbeats 1000000 in
theorem clone_any (ao : Option Addr) (ca : Nat) (LA : List Int) (a : Int) (Ka : Nat) (w : World) (hA : NtL w ao ca LA a Ka) (hk : Ka ≤ 1073741824) :
    Calls Try.prog 84 #[.slice ao LA.length ca] w fun e w' => e = .returned (.slice (some ⟨w.heap.size, 0, none⟩) LA.length LA.length) ∧ Row .u64 105 w' w.heap.size LA ∧ Below w.heap.size w w' := by
  obtain ⟨n, hn⟩ : ∃ n, n = LA.length := ⟨_, rfl⟩
  have hn30 : n ≤ 1073741824 := by have := hA.le; omega
  rw [← hn]
  have HA := hid hA; have Hn := hid hn
  clear hA hn
  obtain ⟨i0, hi, hz0, hz1, hz2⟩ := info_parts Try.info105
  go_enter Try.func84, Try.ntmps84
  go_wp2_with (at_make; refine wpList_make_row w rfl _ _ 77 rfl 105 i0 .u64 Try.underlying77 hi hz0 hz1 .i64 .i64 _ _ n rfl rfl (by omega) (by omega) (by rw [hz2]; omega) (by unfold maxLen; omega) ?_)
  intro w1 hrow hg1
  have hg1b := grown_below hg1
  have HRA := hid ((HA.out.rd).below hg1b (Nat.le_refl _))
  go_wp2_with ((with_reducible refine wpList_copy_row rfl _ _ _ _ rfl 105 Try.underlying77 Try.size105 .u64 105 w.heap.size [] (List.replicate n 0) [] LA 0 n n n ao ca rfl rfl rfl (by simp) Hn.out (by simpa using hrow) HRA.out (by have := Hn.out; simp; omega) ?_))
  intro w2 hrow2 hg2
  have hrow2' : Row .u64 105 w2 w.heap.size LA := by
    have e : n - LA.length = 0 := by have := Hn.out; omega
    rw [e] at hrow2; simpa using hrow2
  have Hrow2 := hid hrow2'; have Hb := hid (hg1b.grown hg2 hg1b.size (fun k e => by cases e; exact Nat.le_refl _))
  clear hrow2 hrow2' hrow hg1 hg1b hg2
  go_wp2
  go_ret
  exact ⟨rfl, Hrow2.out, Hb.out⟩

end Go.Proofs.Ytbmdjimfncgomaa
