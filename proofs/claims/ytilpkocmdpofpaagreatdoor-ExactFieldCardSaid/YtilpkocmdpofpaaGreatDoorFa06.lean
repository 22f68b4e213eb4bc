/- (exact.natural).words: the words of a natural, in new memory. The document's own integers: sum. -/
import Derived.Test.YtilpkocmdpofpaaGreatDoorFa05
/- (exact.natural).words: the words of a natural, in new memory. -/
namespace Go.Proofs.YtilpkocmdpofpaaGreatDoor
open Go.RowKit

def unpack : List Int → List Int
  | [] => []
  | x :: l => x % B32 :: x / B32 :: unpack l

theorem unpack_val : ∀ l : List Int, val B32 (unpack l) = val B64 l
  | [] => rfl
  | x :: l => by
    have h := unpack_val l
    have e : B64 = B32 * B32 := by decide
    have d := Int.emod_add_mul_ediv x B32
    simp only [unpack, val, h, e]; grind
theorem unpack_len : ∀ l : List Int, (unpack l).length = 2 * l.length
  | [] => rfl
  | x :: l => by simp only [unpack, List.length_cons, unpack_len l]; omega
theorem unpack_dig : ∀ {l : List Int}, Dig B64 l → Dig B32 (unpack l)
  | [], _ => Dig.nil _
  | x :: l, h => by
    have := h.head
    refine Dig.cons (Int.emod_nonneg _ (by decide)) (Int.emod_lt_of_pos _ B32_pos) (Dig.cons (Int.ediv_nonneg this.1 (by decide)) ?_ (unpack_dig h.tail))
    exact Int.ediv_lt_of_lt_mul B32_pos (by have := this.2; have e : B32 * B32 = B64 := by decide
                                            omega)
theorem unpack_snoc : ∀ (l : List Int) (x : Int), unpack (l ++ [x]) = unpack l ++ [x % B32, x / B32]
  | [], x => rfl
  | y :: l, x => by simp [unpack, unpack_snoc l x]

/-- A slice of words that the call has made, in normal form, whose number is n. -/
def FrW (w0 w : World) (v : Value) (n : Int) (K : Nat) : Prop := ∃ L : List Int, w.ownsRow w0.heap.size 53 1 v L.length (L.map (Value.int .u32)) ∧ Dig B32 L ∧ Nrm L ∧ val B32 L = n ∧ L.length ≤ K
def RetW (w : World) (n : Int) (K : Nat) (e : Ending) (w' : World) : Prop := ∃ v, e = .returned v ∧ FrW w w' v n K ∧ Below w.heap.size w w'

theorem owns_take {w : World} {base g n cap : Nat} {e : TypeId} {xs : List Value} (h : w.ownsRow base e 1 (.slice (some ⟨g, 0, none⟩) n cap) n xs) (m : Nat) (hm : m ≤ n) :
    w.ownsRow base e 1 (.slice (some ⟨g, 0, none⟩) m cap) m (xs.take m) := by
  rcases h.2 with ⟨h', _⟩ | ⟨g', cap', cur, h', hb, hg, hnc, hcm, hcs, ht⟩
  · simp at h'
  · simp only [Value.slice.injEq, Option.some.injEq, Addr.mk.injEq, and_true, true_and] at h'
    obtain ⟨rfl, rfl⟩ := h'
    refine ⟨by have := h.1; simp at this ⊢; omega, .inr ⟨g, cap, cur, rfl, hb, hg, by omega, hcm, hcs, ?_⟩⟩
    rw [← ht, List.take_take, Nat.min_eq_left (by omega)]; simp
theorem owns_rd {w : World} {base g cap : Nat} {e : TypeId} {k : IntKind} {L : List Int} (h : w.ownsRow base e 1 (.slice (some ⟨g, 0, none⟩) L.length cap) L.length (L.map (Value.int k))) (hc : cap ≤ 9223372036854775807) :
    Rd w k (some ⟨g, 0, none⟩) cap L := by
  have hcap : L.length ≤ cap := by
    rcases h.2 with ⟨h', _⟩ | ⟨g', cap', cur, h', hb, hg, hnc, _⟩
    · simp at h'
    · simp only [Value.slice.injEq, Option.some.injEq, Addr.mk.injEq, and_true, true_and] at h'
      obtain ⟨rfl, rfl⟩ := h'; exact hnc
  refine ⟨hcap, hc, fun _ => ⟨_, _, rfl⟩, fun b off e i hi => ?_⟩
  cases e
  rw [Nat.zero_add, h.cellAt i (by omega)]
  simp [hi]

theorem Tryz.info53 : (Tryz.prog.info? 53).map (fun i => (i.zero, i.size, i.bytes)) = some (some (.int .u32 0), 1, 4) := by kernel_rfl

set_option maxRecDepth 100000 in
set_option maxHeartbeats 1000000 in
theorem words_any (va : Value) (a : Int) (K : Nat) (w : World) (hA : Nt w va a K) (hk : K ≤ 1073741824) :
    Calls Tryz.prog 135 #[va] w (RetW w a (2 * K)) := by
  obtain ⟨ao, ca, L, rfl, hA⟩ := hA
  obtain ⟨n, hn⟩ : ∃ n, n = L.length := ⟨_, rfl⟩
  have hnK : n ≤ K := by have := hA.le; omega
  have hn30 : n ≤ 1073741824 := by omega
  rw [← hn]
  have HA := hid hA; have Hn := hid hn
  clear hA hn
  obtain ⟨i0, hi, hz0, hz1, hz2⟩ := info_parts Tryz.info53
  by_cases h0 : n = 0
  · subst h0
    go_enter Tryz.func135, Tryz.ntmps135
    go_wp2
    go_ret
    obtain rfl : L = [] := List.eq_nil_of_length_eq_zero Hn.out.symm
    exact ⟨_, rfl, ⟨[], World.ownsRow_nil _ _ _ _, Dig.nil _, rfl, HA.out.eq, Nat.zero_le _⟩, Below.refl _ _⟩
  · have hb0 : ((n : Int) == 0) = false := by rw [beq_eq_false_iff_ne]; omega
    obtain ⟨b, o, rfl⟩ := HA.out.rd.adr (by have := Hn.out; omega)
    go_enter Tryz.func135, Tryz.ntmps135
    go_wp2_with (at_make; refine wpList_make_own w rfl _ _ 22 rfl w.heap.size 53 i0 (.int .u32 0) 1 Tryz.underlying22 hi hz0 hz1 _ _ _ (2 * n) rfl rfl (by omega) (by rw [hz2]; omega) (by unfold maxLen; omega) (Nat.le_refl _) ?_)
    intro w1 hown1 hg1
    have hb1 := grown_below hg1
    go_wp2
    go_loopw [3, 15] (fun v iv wr => ∃ k : Nat, k ≤ n ∧ iv = .int .i64 k ∧ v = .slice (some ⟨w.heap.size, 0, none⟩) (2 * k) (2 * n) ∧ wr.ownsRow w.heap.size 53 1 (.slice (some ⟨w.heap.size, 0, none⟩) (2 * k) (2 * n)) (2 * k) ((unpack (L.take k)).map (Value.int .u32)) ∧ Below w.heap.size w wr) (fun _ iv _ => n - (intOf iv).toNat)
    case atStart => exact ⟨0, Nat.zero_le _, rfl, rfl, hown1, hb1⟩
    case round =>
      obtain ⟨k, hk, rfl, rfl, hown, hb⟩ := hrel
      by_cases hlt : k < n
      · have hx : wr.cell? ⟨b, o + k, none⟩ = some (.int .u64 (L[k]?.getD 0)) := (HA.out.rd.below hb (Nat.le_refl _)).cell b o rfl k (by have := Hn.out; omega)
        have hd := HA.out.dig.at B64_pos k
        have hts := take_succ_getD L k (by have := Hn.out; omega)
        have hus := unpack_snoc (L.take k) (L[k]?.getD 0)
        rw [← hts] at hus
        obtain ⟨x, hxe⟩ : ∃ x, x = L[k]?.getD 0 := ⟨_, rfl⟩
        rw [← hxe] at hx hd hus
        have HU := hid hus; have HX := hid hxe
        have d0 := hd.1; have d1 := hd.2; unfold B64 at d1
        clear hts hus hxe hown1 hg1 hb1
        go_wp2_with (at_builtin; refine wpList_append_fits _ rfl _ _ 22 rfl w.heap.size 53 i0 1 Tryz.underlying22 hi hz1 w.heap.size (2 * k) (2 * n) _ rfl (hown.alloc _) ⟨wr.heap.size, 0, none⟩ 2 2 [.int .u32 (x % 4294967296), .int .u32 (x / 4294967296)] rfl rfl ?c1 ?c2 ?c3 ?_)
        case c1 =>
          intro j u hj
          match j, hj with
          | 0, hj => simp at hj; subst hj; simp [Addr.add]
          | 1, hj => simp at hj; subst hj; simp [Addr.add]
        case c2 => intro u hu; simp at hu; rcases hu with rfl | rfl <;> rfl
        case c3 => omega
        intro w2 hown2 hg2
        have hb2 := (hb.alloc hb.size (.cells #[.int .u32 (x % 4294967296), .int .u32 (x / 4294967296)] 53)).grown hg2 (by simp; have := hb.size; omega) (fun k e => by cases e; exact Nat.le_refl _)
        have hown3 : w2.ownsRow w.heap.size 53 1 (.slice (some ⟨w.heap.size, 0, none⟩) (2 * (k + 1)) (2 * n)) (2 * (k + 1)) ((unpack (L.take (k + 1))).map (Value.int .u32)) := by
          rw [HU.out, List.map_append]; exact hown2
        clear hown2 hg2 hown hb
        have Hown := hid hown3; clear hown3
        go_wp2
        go_roundw
        case rel => exact ⟨k + 1, by omega, by go_num, rfl, Hown.out, hb2⟩
        case measure => simp [intOf]; omega
      · obtain rfl : k = n := by omega
        have hl : 2 * k = (unpack L).length := by rw [unpack_len, ← Hn.out]
        have hown4 : wr.ownsRow w.heap.size 53 1 (.slice (some ⟨w.heap.size, 0, none⟩) (unpack L).length (2 * k)) (unpack L).length ((unpack L).map (Value.int .u32)) := by
          have := hown; rw [Hn.out, List.take_length, ← Hn.out] at this; rw [← hl]; exact this
        have ht := trim32_any (some ⟨w.heap.size, 0, none⟩) (2 * k) (unpack L) wr (owns_rd hown4 (by omega))
        rw [← hl] at ht
        have HT := hid ht; have Hown := hid hown4; have Hb := hid hb
        clear ht hown4 hown hb hl hown1 hg1 hb1
        go_wp2_with (go_at_call 173; refine HT.out.mono ?_; rintro e w2 ⟨rfl, rfl⟩)
        go_ret
        refine ⟨_, rfl, ⟨trimL (unpack L), ?_, (unpack_dig HA.out.dig).trim, Nrm.trim _, by rw [val_trim, unpack_val]; exact HA.out.eq, ?_⟩, Hb.out⟩
        · have h := owns_take Hown.out (trimL (unpack L)).length (trimL_len _)
          rw [← List.map_take, ← trimL_take] at h
          exact h
        · have := trimL_len (unpack L); rw [unpack_len] at this; have := HA.out.le; omega

end Go.Proofs.YtilpkocmdpofpaaGreatDoor

/- The document's own integers: sum. -/
namespace Go.Proofs.YtilpkocmdpofpaaGreatDoor
open Go.RowKit

theorem owns_block {w : World} {base n s : Nat} {e : TypeId} {v : Value} {xs : List Value} (h : w.ownsRow base e s v n xs) : ∀ k, v.ownBlock = some k → base ≤ k := by
  intro k hk
  rcases h.2 with ⟨rfl, _⟩ | ⟨g, cap, cur, rfl, hb, _⟩
  · simp [Value.ownBlock] at hk
  · simp [Value.ownBlock] at hk; omega

/-- What holds of a sum of digits: k have been summed. -/
structure DsI (w wr : World) (A B : List Int) (k : Nat) (ov : Value) (Q : List Int) (c : Int) : Prop where
  own : wr.ownsRow w.heap.size 3 1 ov k (Q.map (Value.int .i64))
  len : Q.length = k
  dig : Dig R16 Q
  c0 : 0 ≤ c
  c1 : c ≤ 1
  eq : val R16 Q + R16 ^ k * c = val R16 (A.take k) + val R16 (B.take k)
  low : Below w.heap.size w wr

theorem DsI.next {w wr wx : World} {A B Q : List Int} {k : Nat} {ov ov' : Value} {c : Int} (H : DsI w wr A B k ov Q c) (x y : Int) (hx : x = A[k]?.getD 0) (hy : y = B[k]?.getD 0) (hA : Dig R16 A) (hB : Dig R16 B) (hka : k < A.length) (hkb : k < B.length)
    (hown : wx.ownsRow w.heap.size 3 1 ov' (k + 1) (Q.map (Value.int .i64) ++ [.int .i64 ((x + y + c) % 65536)])) (hlow : Below w.heap.size w wx) :
    DsI w wx A B (k + 1) ov' (Q ++ [(x + y + c) % 65536]) ((x + y + c) / 65536) := by
  have a := hA.at R16_pos k; have b := hB.at R16_pos k
  rw [← hx] at a; rw [← hy] at b
  have c0 := H.c0; have c1 := H.c1
  refine ⟨by rw [List.map_append]; exact hown, by simp [H.len], H.dig.append (Dig.cons (by omega) (by unfold R16; omega) (Dig.nil _)), by omega, by unfold R16 at a b; omega, ?_, hlow⟩
  rw [val_snoc, H.len, val_take_succ R16 A k hka, val_take_succ R16 B k hkb, ← hx, ← hy, Int.pow_succ]
  have e := H.eq
  have hd : (x + y + c) % 65536 + R16 * ((x + y + c) / 65536) = x + y + c := Int.emod_add_mul_ediv (x + y + c) 65536
  generalize (x + y + c) % 65536 = lo at *
  generalize (x + y + c) / 65536 = hi at *
  generalize R16 ^ k = p at *
  generalize R16 = r at *
  grind

def RetO (w : World) (n : Int) (K : Nat) (e : Ending) (w' : World) : Prop := ∃ v Q, e = .returned v ∧ w'.ownsRow w.heap.size 3 1 v K (Q.map (Value.int .i64)) ∧ Q.length = K ∧ Dig R16 Q ∧ val R16 Q = n ∧ Below w.heap.size w w'

set_option maxRecDepth 100000 in
set_option maxHeartbeats 4000000 in
theorem sum_any (ao bo : Option Addr) (ca cb N : Nat) (L M : List Int) (w : World) (hL : Rd w .i64 ao ca L) (hM : Rd w .i64 bo cb M) (dL : Dig R16 L) (dM : Dig R16 M) (hN : N = max L.length M.length) (hN30 : N ≤ 1073741824) :
    Calls Tryz.prog 156 #[.slice ao L.length ca, .slice bo M.length cb] w (RetO w (val R16 L + val R16 M) (N + 1)) := by
  obtain ⟨n, hn⟩ : ∃ n, n = L.length := ⟨_, rfl⟩
  obtain ⟨m, hm⟩ : ∃ m, m = M.length := ⟨_, rfl⟩
  have hnN : n ≤ N := by omega
  have hmN : m ≤ N := by omega
  have hdl := fun (w' : World) (hb : Below w.heap.size w w') (i : Nat) (hi : i ≤ 9223372036854775807) => digit_any ao ca i L w' (hL.below hb (Nat.le_refl _)) hi
  have hdm := fun (w' : World) (hb : Below w.heap.size w w') (i : Nat) (hi : i ≤ 9223372036854775807) => digit_any bo cb i M w' (hM.below hb (Nat.le_refl _)) hi
  have lP := pad_len (L := L) (N := N) (by omega)
  have lQ := pad_len (L := M) (N := N) (by omega)
  rw [← hn, ← hm] at hN
  rw [← hn] at hdl ⊢; rw [← hm] at hdm ⊢
  have HDl := hid hdl; have HDm := hid hdm; have HP := hid lP; have HQ := hid lQ; have DL := hid (pad_dig R16_pos dL N); have DM := hid (pad_dig R16_pos dM N)
  have hI0 : DsI w w (pad L N) (pad M N) 0 (.slice none 0 0) [] 0 := ⟨⟨by simp, .inl ⟨rfl, rfl⟩⟩, rfl, Dig.nil _, Int.le_refl 0, by decide, by simp [val], Below.refl _ _⟩
  have HI0 := hid hI0
  clear hdl hdm lP lQ hL hM dL dM hn hm hI0
  obtain ⟨i0, hi, hz0, hz1, hz2⟩ := info_parts Tryz.info3
  rcases Nat.lt_or_ge n m with hnm | hnm
  all_goals
    go_enter Tryz.func156, Tryz.ntmps156
    go_wp2
    go_loopw [5, 6, 7] (fun ov cv iv wr => ∃ k : Nat, ∃ Q c, k ≤ N ∧ iv = .int .i64 k ∧ cv = .int .i64 c ∧ DsI w wr (pad L N) (pad M N) k ov Q c) (fun _ _ iv _ => N - (intOf iv).toNat)
    case atStart => exact ⟨0, [], 0, Nat.zero_le _, rfl, rfl, HI0.out⟩
    case round =>
      obtain ⟨k, Q, c, hk, rfl, rfl, H⟩ := hrel
      by_cases hlt : k < N
      · have h1 := HDl.out _ H.low k (by omega)
        have h2 := HDm.out _ H.low k (by omega)
        have ha := DL.out.at R16_pos k; have hb := DM.out.at R16_pos k
        rw [pad_get] at ha hb
        obtain ⟨x, hx⟩ : ∃ x, x = L[k]?.getD 0 := ⟨_, rfl⟩
        obtain ⟨y, hy⟩ : ∃ y, y = M[k]?.getD 0 := ⟨_, rfl⟩
        rw [← hx] at h1 ha; rw [← hy] at h2 hb
        have HX := hid (show x = (pad L N)[k]?.getD 0 by rw [pad_get]; exact hx)
        have HY := hid (show y = (pad M N)[k]?.getD 0 by rw [pad_get]; exact hy)
        have c0 := H.c0; have c1 := H.c1
        have x0 := ha.1; have x1 : x < 65536 := ha.2; have y0 := hb.1; have y1 : y < 65536 := hb.2
        have H1 := hid h1; have H2 := hid h2; have HH := hid H
        clear h1 h2 ha hb hx hy H HI0
        go_wp2_with fail
        refine H1.out.mono ?_
        rintro e w1 ⟨rfl, rfl⟩
        go_wp2_with fail
        refine H2.out.mono ?_
        rintro e w2 ⟨rfl, rfl⟩
        go_wp2_with (at_builtin; refine wpList_append_own _ rfl _ _ 29 rfl w.heap.size 3 i0 (.int .i64 0) 1 8 Tryz.underlying29 hi hz0 hz1 hz2 rfl (by decide) _ k (Q.map (Value.int .i64)) rfl (HH.out.own.alloc _) ⟨w2.heap.size, 0, none⟩ 1 1 [.int .i64 ((x + y + c) % 65536)] rfl rfl ?c1 ?c2 ?c3 ?c4 ?c5 ?_)
        case c1 =>
          intro j u hj
          match j, hj with
          | 0, hj => simp at hj; subst hj; simp [Addr.add]
        case c2 => intro u hu; simp at hu; subst hu; rfl
        case c3 => unfold maxLen; omega
        case c4 => omega
        case c5 => have := HH.out.low.size; simp; omega
        intro ov' w3 hown hg _
        have hlow := (HH.out.low.alloc HH.out.low.size (.cells #[.int .i64 ((x + y + c) % 65536)] 3)).grown hg (by have := HH.out.low.size; simp; omega) (fun i e => owns_block HH.out.own i e)
        have HI := hid (HH.out.next x y HX.out HY.out DL.out DM.out (by have := HP.out; omega) (by have := HQ.out; omega) hown hlow)
        clear hown hg hlow
        go_wp2
        go_roundw
        case rel => exact ⟨k + 1, _, _, by omega, by go_num, rfl, HI.out⟩
        case measure => simp [intOf]; omega
      · obtain rfl : k = N := by omega
        have HH := hid H
        have c0 := H.c0; have c1 := H.c1
        clear H HI0
        go_wp2_with (at_builtin; refine wpList_append_own _ rfl _ _ 29 rfl w.heap.size 3 i0 (.int .i64 0) 1 8 Tryz.underlying29 hi hz0 hz1 hz2 rfl (by decide) _ k (Q.map (Value.int .i64)) rfl (HH.out.own.alloc _) ⟨wr.heap.size, 0, none⟩ 1 1 [.int .i64 c] rfl rfl ?c1 ?c2 ?c3 ?c4 ?c5 ?_)
        case c1 =>
          intro j u hj
          match j, hj with
          | 0, hj => simp at hj; subst hj; simp [Addr.add]
        case c2 => intro u hu; simp at hu; subst hu; rfl
        case c3 => unfold maxLen; omega
        case c4 => omega
        case c5 => have := HH.out.low.size; simp; omega
        intro ov' w3 hown hg _
        have hlow := (HH.out.low.alloc HH.out.low.size (.cells #[.int .i64 c] 3)).grown hg (by have := HH.out.low.size; simp; omega) (fun i e => owns_block HH.out.own i e)
        have hkk : max n m = k := hN.symm
        have hown' : w3.ownsRow w.heap.size 3 1 ov' (k + 1) (Q.map (Value.int .i64) ++ [.int .i64 c]) := by
          first
            | exact hown
            | (rw [hkk] at hown; exact hown)
            | (rw [show n = k by omega] at hown; exact hown)
        have hr : RetO w (val R16 L + val R16 M) (k + 1) (.returned ov') w3 := by
          refine ⟨ov', Q ++ [c], rfl, by rw [List.map_append]; exact hown', by simp [HH.out.len], HH.out.dig.append (Dig.cons c0 (by unfold R16; omega) (Dig.nil _)), ?_, hlow⟩
          have e := HH.out.eq
          rw [List.take_of_length_le (by rw [HP.out]; exact Nat.le_refl _), List.take_of_length_le (by rw [HQ.out]; exact Nat.le_refl _), pad_val, pad_val] at e
          rw [val_snoc, HH.out.len]; exact e
        have HR := hid hr
        clear hown hown' hkk hg hlow hr
        go_wp2
        go_ret
        exact HR.out

end Go.Proofs.YtilpkocmdpofpaaGreatDoor
