/- Naturals of the program: what a slice of limbs stands for. exact.fromWords, (exact.natural).words: two words are a limb. -/
import Derived.Test.YtbapeilpkhbbeaaGreatDoorYn02
/- Naturals of the program: what a slice of limbs stands for. -/
namespace Go.Proofs.YtbapeilpkhbbeaaGreatDoor
open Go.RowKit

/-- The value v reads in w as the natural number n, in normal form, with K limbs at most. -/
structure NtL (w : World) (ao : Option Addr) (c : Nat) (L : List Int) (n : Int) (K : Nat) : Prop where
  rd : Rd w .u64 ao c L
  dig : Dig B64 L
  nrm : Nrm L
  eq : val B64 L = n
  le : L.length ≤ K
def Nt (w : World) (v : Value) (n : Int) (K : Nat) : Prop := ∃ ao c L, v = .slice ao L.length c ∧ NtL w ao c L n K
/-- The call hands back such a value, and has turned nothing that was there. -/
def RetN (w : World) (n : Int) (K : Nat) (e : Ending) (w' : World) : Prop := ∃ v, e = .returned v ∧ Nt w' v n K ∧ Below w.heap.size w w'

theorem NtL.nonneg {w : World} {ao : Option Addr} {c : Nat} {L : List Int} {n : Int} {K : Nat} (h : NtL w ao c L n K) : 0 ≤ n := by rw [← h.eq]; exact val_nonneg B64_pos h.dig
theorem Nt.nonneg {w : World} {v : Value} {n : Int} {K : Nat} (h : Nt w v n K) : 0 ≤ n := by obtain ⟨_, _, _, _, h⟩ := h; exact h.nonneg
theorem Nt.below {w w' : World} {v : Value} {n : Int} {K B : Nat} (h : Nt w v n K) (hb : Below B w w') (hB : w.heap.size ≤ B) : Nt w' v n K := by
  obtain ⟨ao, c, L, rfl, h⟩ := h
  exact ⟨ao, c, L, rfl, h.rd.below hb hB, h.dig, h.nrm, h.eq, h.le⟩
theorem Nt.mono {w : World} {v : Value} {n : Int} {K K' : Nat} (h : Nt w v n K) (hk : K ≤ K') : Nt w v n K' := by
  obtain ⟨ao, c, L, rfl, h⟩ := h
  exact ⟨ao, c, L, rfl, h.rd, h.dig, h.nrm, h.eq, Nat.le_trans h.le hk⟩
theorem Nt.nil (w : World) : Nt w (.slice none 0 0) 0 0 := ⟨none, 0, [], rfl, Rd.nil _ _, Dig.nil _, rfl, rfl, Nat.le_refl _⟩

/-- A row, trimmed, is a natural. -/
theorem nt_row {w : World} {g : Nat} {L : List Int} {c : Nat} {n : Int} {K : Nat} (h : Row .u64 63 w g L) (hd : Dig B64 L) (hv : val B64 L = n) (hc : L.length ≤ c) (hc' : c ≤ 9223372036854775807) (hK : L.length ≤ K) :
    Nt w (.slice (some ⟨g, 0, none⟩) (trimL L).length c) n K := by
  have h' : Row .u64 63 w g ([] ++ L ++ []) := by simpa using h
  have hr := h'.rd hc hc'
  refine ⟨_, c, trimL L, rfl, ?_, hd.trim, Nrm.trim L, by rw [val_trim]; exact hv, Nat.le_trans (trimL_len L) hK⟩
  rw [trimL_take L]; exact hr.take _
theorem row_rd {w : World} {g : Nat} {L : List Int} {c : Nat} (h : Row .u64 63 w g L) (hc : L.length ≤ c) (hc' : c ≤ 9223372036854775807) : Rd w .u64 (some ⟨g, 0, none⟩) c L := by
  have h' : Row .u64 63 w g ([] ++ L ++ []) := by simpa using h
  exact h'.rd hc hc'

theorem val_replicate (B : Int) (n : Nat) : val B (List.replicate n 0) = 0 := by
  induction n with
  | zero => rfl
  | succ n ih => simp [List.replicate_succ, val, ih]
theorem Dig.replicate {B : Int} (hB : 0 < B) (n : Nat) : Dig B (List.replicate n 0) := fun x hx => by rw [(List.mem_replicate.1 hx).2]; exact ⟨Int.le_refl 0, hB⟩

theorem Tryz.info63 : (Tryz.prog.info? 63).map (fun i => (i.zero, i.size, i.bytes)) = some (some (.int .u64 0), 1, 8) := by kernel_rfl
theorem Tryz.size63 : (Tryz.prog.info? 63).map (·.size) = some 1 := by kernel_rfl

/-- A copy into a row of zeros, and a sum with it: no carry is left. -/
theorem add_done {w wr : World} {g : Nat} {LA LB A1 : List Int} {cc : Int} (hdA : Dig B64 LA) (hdB : Dig B64 LB) (hle : LB.length ≤ LA.length)
    (h : AddI w wr g [] (LA ++ [0]) [] (LA ++ [0]).length (val B64 LB) A1 cc) : Row .u64 63 wr g A1 ∧ Dig B64 A1 ∧ val B64 A1 = val B64 LA + val B64 LB ∧ A1.length = LA.length + 1 := by
  have hl : A1.length = LA.length + 1 := by rw [h.len]; simp
  have e := h.eq
  rw [val_snoc] at e
  have h1 := val_lt B64_pos hdA
  have h2 := val_lt B64_pos hdB
  have h3 : B64 ^ LB.length ≤ B64 ^ LA.length := pow_mono B64_pos hle
  have h4 := val_nonneg B64_pos h.dig
  have hp : 0 < B64 ^ LA.length := Int.pow_pos B64_pos
  have hcc : cc = 0 := by
    rcases (show cc = 0 ∨ cc = 1 by have := h.c0; have := h.c1; omega) with h | h
    · exact h
    · subst h
      have : B64 ^ (LA ++ [(0 : Int)]).length = B64 ^ LA.length * B64 := by rw [List.length_append, Int.pow_add]; simp [Int.pow_succ]
      rw [this] at e
      have : B64 ^ LA.length * 2 ≤ B64 ^ LA.length * B64 := Int.mul_le_mul_of_nonneg_left (by decide) (Int.le_of_lt hp)
      omega
  subst hcc
  refine ⟨by simpa using h.row, h.dig, by simpa using e, hl⟩

end Go.Proofs.YtbapeilpkhbbeaaGreatDoor

/- exact.fromWords, (exact.natural).words: two words are a limb. -/
namespace Go.Proofs.YtbapeilpkhbbeaaGreatDoor
open Go.RowKit

/-- 2^32, behind a name. -/
def B32 : Int := 4294967296
theorem B32_pos : 0 < B32 := by decide

/-- Two words are a limb. -/
def pack : List Int → List Int
  | [] => []
  | [x] => [x]
  | x :: y :: l => (x + B32 * y) :: pack l

theorem pack_val : ∀ l : List Int, val B64 (pack l) = val B32 l
  | [] => rfl
  | [x] => by simp [pack, val]
  | x :: y :: l => by
    have h := pack_val l
    simp only [pack, val, h]
    have e : B64 = B32 * B32 := by decide
    rw [e]; grind
theorem pack_len : ∀ l : List Int, (pack l).length = (l.length + 1) / 2
  | [] => rfl
  | [x] => by simp [pack]
  | x :: y :: l => by have h := pack_len l; simp only [pack, List.length_cons, h]; omega
theorem pack_dig : ∀ {l : List Int}, Dig B32 l → Dig B64 (pack l)
  | [], _ => Dig.nil _
  | [x], h => by
    have := h.head
    exact Dig.cons this.1 (Int.lt_trans this.2 (by decide)) (Dig.nil _)
  | x :: y :: l, h => by
    have h1 := h.head; have h2 := h.tail.head
    refine Dig.cons ?_ ?_ (pack_dig h.tail.tail)
    · unfold B32 at *; omega
    · unfold B32 B64 at *; omega
theorem pack_nrm : ∀ {l : List Int}, Dig B32 l → Nrm l → Nrm (pack l)
  | [], _, _ => rfl
  | [x], _, h => h
  | x :: y :: l, hd, h => by
    have ih := pack_nrm hd.tail.tail h.tail.tail
    unfold Nrm at ih ⊢
    simp only [pack, trimL, ih]
    split
    · next hc =>
      exfalso
      obtain ⟨h1, h2⟩ := hc
      have hl : l = [] := by
        have := pack_len l; rw [h1] at this; simp at this
        exact List.eq_nil_of_length_eq_zero (by omega)
      subst hl
      have hx := hd.head; have hy := hd.tail.head
      have : x = 0 ∧ y = 0 := by unfold B32 at *; constructor <;> omega
      obtain ⟨rfl, rfl⟩ := this
      simp [Nrm, trimL] at h
    · rfl
theorem pack_append : ∀ (j : Nat) (l m : List Int), l.length = 2 * j → pack (l ++ m) = pack l ++ pack m
  | 0, [], m, _ => rfl
  | 0, _ :: _, _, h => by simp at h
  | j + 1, [], _, h => by simp at h
  | j + 1, [x], _, h => by simp at h; omega
  | j + 1, x :: y :: l, m, h => by
    have := pack_append j l m (by simp at h; omega)
    simp [pack, this]

theorem or_high (lo h : Int) (h0 : 0 ≤ lo) (h1 : lo < B32) (k0 : 0 ≤ h) (k1 : h < B32) : bits .or .u64 lo (h * 4294967296) = lo + B32 * h := by
  obtain ⟨a, rfl⟩ := Int.eq_ofNat_of_zero_le h0
  obtain ⟨b, rfl⟩ := Int.eq_ofNat_of_zero_le k0
  unfold B32 at *
  have e : ((b : Int) * 4294967296) = ((b * 4294967296 : Nat) : Int) := by omega
  rw [e, bits_or_u64_nat a (b * 4294967296) (by omega) (by omega)]
  have := Nat.two_pow_add_eq_or_of_lt (i := 32) (show a < 2 ^ 32 by omega) b
  rw [show (2 : Nat) ^ 32 = 4294967296 from rfl] at this
  rw [Nat.or_comm, Nat.mul_comm b, ← this]; omega
theorem or_zero (x : Int) (h0 : 0 ≤ x) (h1 : x < B32) : bits .or .u64 0 x = x := by
  obtain ⟨a, rfl⟩ := Int.eq_ofNat_of_zero_le h0
  unfold B32 at *
  have := bits_or_u64_nat 0 a (by omega) (by omega)
  simpa using this

/-- After k words. -/
structure PackI (w wr : World) (g : Nat) (W : List Int) (N k : Nat) : Prop where
  row : Row .u64 63 wr g (pack (W.take k) ++ List.replicate (N - (k + 1) / 2) 0)
  gr : w.grownBy wr (some g)

theorem PackI.drew {w wr : World} {g : Nat} {W : List Int} {N k : Nat} (h : PackI w wr g W N k) : PackI w wr.drew g W N k := ⟨h.row, grown_drew h.gr⟩
theorem pack_take_len (W : List Int) (k : Nat) (h : k ≤ W.length) : (pack (W.take k)).length = (k + 1) / 2 := by rw [pack_len, List.length_take, Nat.min_eq_left h]

theorem PackI.even {w wr : World} {g : Nat} {W : List Int} {N j : Nat} (h : PackI w wr g W N (2 * j)) (hk : 2 * j < W.length) (hN : N = (W.length + 1) / 2) :
    wr.cell? ⟨g, j, none⟩ = some (.int .u64 0) ∧ PackI w (wr.setCell ⟨g, j, none⟩ (.int .u64 (W[2 * j]?.getD 0))) g W N (2 * j + 1) := by
  have hl := pack_take_len W (2 * j) (by omega)
  have hz : N - (2 * j + 1) / 2 = (N - (2 * j + 1 + 1) / 2) + 1 := by omega
  constructor
  · have := h.row.cell j (by simp [hl]; omega)
    rw [this, hz, List.replicate_succ, List.getElem?_append_right (by omega), show j - (pack (W.take (2 * j))).length = 0 by omega]
    rfl
  · refine ⟨?_, grown_trans h.gr (grown_set _ _ _ _)⟩
    have hr := h.row.set j (W[2 * j]?.getD 0)
    rw [hz, List.replicate_succ, List.set_append_right _ _ (by omega), show j - (pack (W.take (2 * j))).length = 0 by omega, List.set_cons_zero] at hr
    rw [take_succ_getD W (2 * j) hk, pack_append j _ _ (by simp; omega)]
    simpa [pack] using hr

theorem PackI.odd {w wr : World} {g : Nat} {W : List Int} {N j : Nat} (h : PackI w wr g W N (2 * j + 1)) (hk : 2 * j + 1 < W.length) :
    wr.cell? ⟨g, j, none⟩ = some (.int .u64 (W[2 * j]?.getD 0)) ∧ PackI w (wr.setCell ⟨g, j, none⟩ (.int .u64 (W[2 * j]?.getD 0 + B32 * W[2 * j + 1]?.getD 0))) g W N (2 * j + 2) := by
  have hl := pack_take_len W (2 * j) (by omega)
  have e1 : pack (W.take (2 * j + 1)) = pack (W.take (2 * j)) ++ [W[2 * j]?.getD 0] := by
    rw [take_succ_getD W (2 * j) (by omega), pack_append j _ _ (by simp; omega)]; rfl
  have e2 : pack (W.take (2 * j + 2)) = pack (W.take (2 * j)) ++ [W[2 * j]?.getD 0 + B32 * W[2 * j + 1]?.getD 0] := by
    rw [take_succ_getD W (2 * j + 1) hk, take_succ_getD W (2 * j) (by omega), List.append_assoc, pack_append j _ _ (by simp; omega)]; rfl
  have hz : (2 * j + 1 + 1) / 2 = (2 * j + 2 + 1) / 2 := by omega
  constructor
  · have := h.row.cell j (by simp [e1, hl]; omega)
    rw [this, e1, List.append_assoc, List.getElem?_append_right (by omega), show j - (pack (W.take (2 * j))).length = 0 by omega]
    rfl
  · refine ⟨?_, grown_trans h.gr (grown_set _ _ _ _)⟩
    have hr := h.row.set j (W[2 * j]?.getD 0 + B32 * W[2 * j + 1]?.getD 0)
    rw [e1, List.append_assoc, List.set_append_right _ _ (by omega), show j - (pack (W.take (2 * j))).length = 0 by omega] at hr
    rw [e2, List.append_assoc, ← hz]
    exact hr

set_option maxRecDepth 100000 in
set_option maxHeartbeats 1000000 in
theorem fromWords_any (ao : Option Addr) (ca : Nat) (W0 : List Int) (w : World) (hA : Rd w .u32 ao ca W0) (hd : Dig B32 W0) (hk : W0.length ≤ 1073741824) :
    Calls Tryz.prog 79 #[.slice ao W0.length ca] w (RetN w (val B32 W0) ((W0.length + 1) / 2)) := by
  obtain ⟨W, hW⟩ : ∃ W, W = trimL W0 := ⟨_, rfl⟩
  have htl := trimL_len W0
  rw [← hW] at htl
  have hAW : Rd w .u32 ao ca W := by rw [hW, trimL_take]; exact hA.take _
  have ht := trim32_any ao ca W0 w hA
  rw [← hW] at ht
  obtain ⟨n, hn⟩ : ∃ n, n = W.length := ⟨_, rfl⟩
  obtain ⟨n0, hn0⟩ : ∃ n0, n0 = W0.length := ⟨_, rfl⟩
  rw [← hn, ← hn0] at ht htl
  rw [← hn0] at hk ⊢
  have hdW : Dig B32 W := by rw [hW]; exact hd.trim
  have hv : val B64 (pack W) = val B32 W0 := by rw [pack_val, hW, val_trim]
  have hnr : Nrm (pack W) := pack_nrm hdW (by rw [hW]; exact Nrm.trim _)
  have HT := hid ht; have Hn := hid hn; have HA := hid hAW; have Hd := hid hdW; have Hv := hid hv; have Hnr := hid hnr
  clear ht hn hn0 hAW hdW hv hnr hA hd hW
  obtain ⟨i0, hi, hz0, hz1, hz2⟩ := info_parts Tryz.info63
  go_enter Tryz.func79, Tryz.ntmps79
  go_wp2_with (first | (go_at_call 122; refine HT.out.mono ?_; rintro e w1 ⟨rfl, rfl⟩) | (at_make; refine wpList_make_row w rfl _ _ 54 rfl 63 i0 .u64 Tryz.underlying54 hi hz0 hz1 .i64 .i64 _ _ ((n + 1) / 2) rfl rfl (by omega) (by omega) (by rw [hz2]; omega) (by unfold maxLen; omega) ?_))
  intro w1 hrow hg1
  have hg1b := grown_below hg1
  have H0 : PackI w w1 w.heap.size W ((n + 1) / 2) 0 := ⟨by simpa [pack] using hrow, grown_any hg1⟩
  have HR := hid (HA.out.below hg1b (Nat.le_refl _))
  have HG := hid (HA.out.ne (Nat.le_refl w.heap.size))
  clear hrow hg1 hg1b
  go_wp2
  go_loopw [15] (fun iv wr => ∃ k : Nat, k ≤ n ∧ iv = .int .i64 k ∧ PackI w wr w.heap.size W ((n + 1) / 2) k) (fun iv _ => n - (intOf iv).toNat)
  case atStart => exact ⟨0, Nat.zero_le _, rfl, H0⟩
  case round =>
    obtain ⟨k, hk, rfl, H⟩ := hrel
    by_cases hlt : k < n
    · obtain ⟨b, o, rfl⟩ := HA.out.adr (by have := Hn.out; omega)
      have hx : wr.cell? ⟨b, o + k, none⟩ = some (.int .u32 (W[k]?.getD 0)) := (HA.out.keptNew H.gr HG.out).cell b o rfl k (by have := Hn.out; omega)
      have hd := Hd.out.at B32_pos k
      rcases (show ∃ j, k = 2 * j ∨ k = 2 * j + 1 from ⟨k / 2, by omega⟩) with ⟨j, rfl | rfl⟩
      · obtain ⟨hc, HS⟩ := H.even (by have := Hn.out; omega) (by rw [Hn.out])
        have hf := H.row.frozen j
        obtain ⟨x, hxe⟩ : ∃ x, x = W[2 * j]?.getD 0 := ⟨_, rfl⟩
        rw [← hxe] at hx hd HS
        have e1 : (((2 * j : Nat) : Int)) / 2 = (j : Int) := by omega
        have e2 : (((2 * j : Nat) : Int)) % 2 = 0 := by omega
        have e3 := or_zero x hd.1 hd.2
        have d0 := hd.1; have d1 := hd.2; unfold B32 at d1
        have HS' := hid HS; have HX := hid hxe
        clear H HS hxe H0
        go_wp2
        go_region
        all_goals go_wp2
        go_roundw
        case rel => exact ⟨2 * j + 1, by omega, by go_num, HS'.out.drew⟩
        case measure => simp [intOf]; omega
      · obtain ⟨hc, HS⟩ := H.odd (by have := Hn.out; omega)
        have hf := H.row.frozen j
        obtain ⟨x, hxe⟩ : ∃ x, x = W[2 * j + 1]?.getD 0 := ⟨_, rfl⟩
        obtain ⟨y, hye⟩ : ∃ y, y = W[2 * j]?.getD 0 := ⟨_, rfl⟩
        have hy := Hd.out.at B32_pos (2 * j)
        rw [← hxe] at hx hd HS; rw [← hye] at hc HS hy
        have ej : (2 * j + 1) / 2 = j := by omega
        have hc' : wr.cell? ⟨w.heap.size, (2 * j + 1) / 2, none⟩ = some (.int .u64 y) := by rw [ej]; exact hc
        have hf' : wr.frozen? ⟨w.heap.size, (2 * j + 1) / 2, none⟩ = false := by rw [ej]; exact hf
        have HS2 : PackI w (wr.setCell ⟨w.heap.size, (2 * j + 1) / 2, none⟩ (.int .u64 (y + B32 * x))) w.heap.size W ((n + 1) / 2) (2 * j + 2) := by rw [ej]; exact HS
        have e2 : (2 * (j : Int) + 1) % 2 = 1 := by omega
        have e3 := or_high y x hy.1 hy.2 hd.1 hd.2
        have d0 := hd.1; have d1 := hd.2; unfold B32 at d1
        have HS' := hid HS2; have HX := hid hxe; have HY := hid hye
        clear H HS HS2 hxe hye H0 hc hf ej
        go_wp2
        go_region
        all_goals go_wp2
        go_roundw
        case rel => exact ⟨2 * j + 2, by omega, by go_num, HS'.out.drew⟩
        case measure => simp [intOf]; omega
    · obtain rfl : k = n := by omega
      clear H0
      go_wp2
      go_ret
      have hr := H.row
      rw [Hn.out, List.take_length, Nat.sub_self, List.replicate_zero, List.append_nil] at hr
      refine ⟨_, rfl, ?_, ⟨H.gr.os, H.gr.tape, H.gr.output, H.gr.size, fun i hi => H.gr.block i hi (fun e => by cases e; omega)⟩⟩
      have hN := nt_row (c := (k + 1) / 2) (K := (n0 + 1) / 2) hr (pack_dig Hd.out) Hv.out (by rw [pack_len, ← Hn.out]; omega) (by omega) (by rw [pack_len, ← Hn.out]; omega)
      rw [Hnr.out, pack_len, ← Hn.out] at hN
      exact hN

end Go.Proofs.YtbapeilpkhbbeaaGreatDoor
