/- The document's own integers: sum. The document's own integers: made, Sign, Neg. The document's own integers: less, double, split. -/
import Derived.Test.YtbapeilpkhbbeaaGreatBn14
import Derived.Test.YtbapeilpkhbbeaaGreatBn03
/- The document's own integers: sum. -/
namespace Go.Proofs.YtbapeilpkhbbeaaGreat
open Go.RowKit

theorem owns_block {w : World} {base n s : Nat} {e : TypeId} {v : Value} {xs : List Value} (h : w.ownsRow base e s v n xs) : ∀ k, v.ownBlock = some k → base ≤ k := by
  intro k hk
  rcases h.2 with ⟨rfl, _⟩ | ⟨g, cap, cur, rfl, hb, _⟩
  · simp [Value.ownBlock] at hk
  · simp [Value.ownBlock] at hk; omega

/-- What holds of a sum of digits: k have been summed. -/
structure DsI (w wr : World) (A B : List Int) (k : Nat) (ov : Value) (Q : List Int) (c : Int) : Prop where
  own : wr.ownsRow w.heap.size 3 1 ov k (Q.map (Value.int .i64))
  len : Q.length = k
  dig : Dig R16 Q
  c0 : 0 ≤ c
  c1 : c ≤ 1
  eq : val R16 Q + R16 ^ k * c = val R16 (A.take k) + val R16 (B.take k)
  low : Below w.heap.size w wr

theorem DsI.next {w wr wx : World} {A B Q : List Int} {k : Nat} {ov ov' : Value} {c : Int} (H : DsI w wr A B k ov Q c) (x y : Int) (hx : x = A[k]?.getD 0) (hy : y = B[k]?.getD 0) (hA : Dig R16 A) (hB : Dig R16 B) (hka : k < A.length) (hkb : k < B.length)
    (hown : wx.ownsRow w.heap.size 3 1 ov' (k + 1) (Q.map (Value.int .i64) ++ [.int .i64 ((x + y + c) % 65536)])) (hlow : Below w.heap.size w wx) :
    DsI w wx A B (k + 1) ov' (Q ++ [(x + y + c) % 65536]) ((x + y + c) / 65536) := by
  have a := hA.at R16_pos k; have b := hB.at R16_pos k
  rw [← hx] at a; rw [← hy] at b
  have c0 := H.c0; have c1 := H.c1
  refine ⟨by rw [List.map_append]; exact hown, by simp [H.len], H.dig.append (Dig.cons (by omega) (by unfold R16; omega) (Dig.nil _)), by omega, by unfold R16 at a b; omega, ?_, hlow⟩
  rw [val_snoc, H.len, val_take_succ R16 A k hka, val_take_succ R16 B k hkb, ← hx, ← hy, Int.pow_succ]
  have e := H.eq
  have hd : (x + y + c) % 65536 + R16 * ((x + y + c) / 65536) = x + y + c := Int.emod_add_mul_ediv (x + y + c) 65536
  generalize (x + y + c) % 65536 = lo at *
  generalize (x + y + c) / 65536 = hi at *
  generalize R16 ^ k = p at *
  generalize R16 = r at *
  grind

def RetO (w : World) (n : Int) (K : Nat) (e : Ending) (w' : World) : Prop := ∃ v Q, e = .returned v ∧ w'.ownsRow w.heap.size 3 1 v K (Q.map (Value.int .i64)) ∧ Q.length = K ∧ Dig R16 Q ∧ val R16 Q = n ∧ Below w.heap.size w w'

set_option maxRecDepth 100000 in
set_option maxHeartbeats 4000000 in
theorem sum_any (ao bo : Option Addr) (ca cb N : Nat) (L M : List Int) (w : World) (hL : Rd w .i64 ao ca L) (hM : Rd w .i64 bo cb M) (dL : Dig R16 L) (dM : Dig R16 M) (hN : N = max L.length M.length) (hN30 : N ≤ 1073741824) :
    Calls Tryz.prog 102 #[.slice ao L.length ca, .slice bo M.length cb] w (RetO w (val R16 L + val R16 M) (N + 1)) := by
  obtain ⟨n, hn⟩ : ∃ n, n = L.length := ⟨_, rfl⟩
  obtain ⟨m, hm⟩ : ∃ m, m = M.length := ⟨_, rfl⟩
  have hnN : n ≤ N := by omega
  have hmN : m ≤ N := by omega
  have hdl := fun (w' : World) (hb : Below w.heap.size w w') (i : Nat) (hi : i ≤ 9223372036854775807) => digit_any ao ca i L w' (hL.below hb (Nat.le_refl _)) hi
  have hdm := fun (w' : World) (hb : Below w.heap.size w w') (i : Nat) (hi : i ≤ 9223372036854775807) => digit_any bo cb i M w' (hM.below hb (Nat.le_refl _)) hi
  have lP := pad_len (L := L) (N := N) (by omega)
  have lQ := pad_len (L := M) (N := N) (by omega)
  rw [← hn, ← hm] at hN
  rw [← hn] at hdl ⊢; rw [← hm] at hdm ⊢
  have HDl := hid hdl; have HDm := hid hdm; have HP := hid lP; have HQ := hid lQ; have DL := hid (pad_dig R16_pos dL N); have DM := hid (pad_dig R16_pos dM N)
  have hI0 : DsI w w (pad L N) (pad M N) 0 (.slice none 0 0) [] 0 := ⟨⟨by simp, .inl ⟨rfl, rfl⟩⟩, rfl, Dig.nil _, Int.le_refl 0, by decide, by simp [val], Below.refl _ _⟩
  have HI0 := hid hI0
  clear hdl hdm lP lQ hL hM dL dM hn hm hI0
  obtain ⟨i0, hi, hz0, hz1, hz2⟩ := info_parts Tryz.info3
  rcases Nat.lt_or_ge n m with hnm | hnm
  all_goals
    go_enter Tryz.func102, Tryz.ntmps102
    go_wp2
    go_loopw [5, 6, 7] (fun ov cv iv wr => ∃ k : Nat, ∃ Q c, k ≤ N ∧ iv = .int .i64 k ∧ cv = .int .i64 c ∧ DsI w wr (pad L N) (pad M N) k ov Q c) (fun _ _ iv _ => N - (intOf iv).toNat)
    case atStart => exact ⟨0, [], 0, Nat.zero_le _, rfl, rfl, HI0.out⟩
    case round =>
      obtain ⟨k, Q, c, hk, rfl, rfl, H⟩ := hrel
      by_cases hlt : k < N
      · have h1 := HDl.out _ H.low k (by omega)
        have h2 := HDm.out _ H.low k (by omega)
        have ha := DL.out.at R16_pos k; have hb := DM.out.at R16_pos k
        rw [pad_get] at ha hb
        obtain ⟨x, hx⟩ : ∃ x, x = L[k]?.getD 0 := ⟨_, rfl⟩
        obtain ⟨y, hy⟩ : ∃ y, y = M[k]?.getD 0 := ⟨_, rfl⟩
        rw [← hx] at h1 ha; rw [← hy] at h2 hb
        have HX := hid (show x = (pad L N)[k]?.getD 0 by rw [pad_get]; exact hx)
        have HY := hid (show y = (pad M N)[k]?.getD 0 by rw [pad_get]; exact hy)
        have c0 := H.c0; have c1 := H.c1
        have x0 := ha.1; have x1 : x < 65536 := ha.2; have y0 := hb.1; have y1 : y < 65536 := hb.2
        have H1 := hid h1; have H2 := hid h2; have HH := hid H
        clear h1 h2 ha hb hx hy H HI0
        go_wp2_with fail
        refine H1.out.mono ?_
        rintro e w1 ⟨rfl, rfl⟩
        go_wp2_with fail
        refine H2.out.mono ?_
        rintro e w2 ⟨rfl, rfl⟩
        go_wp2_with (at_builtin; refine wpList_append_own _ rfl _ _ 31 rfl w.heap.size 3 i0 (.int .i64 0) 1 8 Tryz.underlying31 hi hz0 hz1 hz2 rfl (by decide) _ k (Q.map (Value.int .i64)) rfl (HH.out.own.alloc _) ⟨w2.heap.size, 0, none⟩ 1 1 [.int .i64 ((x + y + c) % 65536)] rfl rfl ?c1 ?c2 ?c3 ?c4 ?c5 ?_)
        case c1 =>
          intro j u hj
          match j, hj with
          | 0, hj => simp at hj; subst hj; simp [Addr.add]
        case c2 => intro u hu; simp at hu; subst hu; rfl
        case c3 => unfold maxLen; omega
        case c4 => omega
        case c5 => have := HH.out.low.size; simp; omega
        intro ov' w3 hown hg _
        have hlow := (HH.out.low.alloc HH.out.low.size (.cells #[.int .i64 ((x + y + c) % 65536)] 3)).grown hg (by have := HH.out.low.size; simp; omega) (fun i e => owns_block HH.out.own i e)
        have HI := hid (HH.out.next x y HX.out HY.out DL.out DM.out (by have := HP.out; omega) (by have := HQ.out; omega) hown hlow)
        clear hown hg hlow
        go_wp2
        go_roundw
        case rel => exact ⟨k + 1, _, _, by omega, by go_num, rfl, HI.out⟩
        case measure => simp [intOf]; omega
      · obtain rfl : k = N := by omega
        have HH := hid H
        have c0 := H.c0; have c1 := H.c1
        clear H HI0
        go_wp2_with (at_builtin; refine wpList_append_own _ rfl _ _ 31 rfl w.heap.size 3 i0 (.int .i64 0) 1 8 Tryz.underlying31 hi hz0 hz1 hz2 rfl (by decide) _ k (Q.map (Value.int .i64)) rfl (HH.out.own.alloc _) ⟨wr.heap.size, 0, none⟩ 1 1 [.int .i64 c] rfl rfl ?c1 ?c2 ?c3 ?c4 ?c5 ?_)
        case c1 =>
          intro j u hj
          match j, hj with
          | 0, hj => simp at hj; subst hj; simp [Addr.add]
        case c2 => intro u hu; simp at hu; subst hu; rfl
        case c3 => unfold maxLen; omega
        case c4 => omega
        case c5 => have := HH.out.low.size; simp; omega
        intro ov' w3 hown hg _
        have hlow := (HH.out.low.alloc HH.out.low.size (.cells #[.int .i64 c] 3)).grown hg (by have := HH.out.low.size; simp; omega) (fun i e => owns_block HH.out.own i e)
        have hkk : max n m = k := hN.symm
        have hown' : w3.ownsRow w.heap.size 3 1 ov' (k + 1) (Q.map (Value.int .i64) ++ [.int .i64 c]) := by
          first
            | exact hown
            | (rw [hkk] at hown; exact hown)
            | (rw [show n = k by omega] at hown; exact hown)
        have hr : RetO w (val R16 L + val R16 M) (k + 1) (.returned ov') w3 := by
          refine ⟨ov', Q ++ [c], rfl, by rw [List.map_append]; exact hown', by simp [HH.out.len], HH.out.dig.append (Dig.cons c0 (by unfold R16; omega) (Dig.nil _)), ?_, hlow⟩
          have e := HH.out.eq
          rw [List.take_of_length_le (by rw [HP.out]; exact Nat.le_refl _), List.take_of_length_le (by rw [HQ.out]; exact Nat.le_refl _), pad_val, pad_val] at e
          rw [val_snoc, HH.out.len]; exact e
        have HR := hid hr
        clear hown hown' hkk hg hlow hr
        go_wp2
        go_ret
        exact HR.out

end Go.Proofs.YtbapeilpkhbbeaaGreat

/- The document's own integers: made, Sign, Neg. -/
namespace Go.Proofs.YtbapeilpkhbbeaaGreat
open Go.RowKit

/-- The value v reads in w as the document's integer z, of at most K digits. -/
def Zt (w : World) (v : Value) (z : Int) (K : Nat) : Prop := ∃ s, v = .agg #[.bool (decide (z < 0)), s] ∧ Md w s (z.natAbs : Int) K
def RetZ (w : World) (z : Int) (K : Nat) (e : Ending) (w' : World) : Prop := ∃ v, e = .returned v ∧ Zt w' v z K ∧ Below w.heap.size w w'
theorem Zt.below {w w' : World} {v : Value} {n : Int} {K B : Nat} (h : Zt w v n K) (hb : Below B w w') (hB : w.heap.size ≤ B) : Zt w' v n K := by
  obtain ⟨s, rfl, h⟩ := h; exact ⟨s, rfl, h.below hb hB⟩
theorem Zt.mono {w : World} {v : Value} {n : Int} {K K' : Nat} (h : Zt w v n K) (hk : K ≤ K') : Zt w v n K' := by
  obtain ⟨s, rfl, h⟩ := h; exact ⟨s, rfl, h.mono hk⟩
theorem Md.set {w : World} {s : Value} {n : Int} {K : Nat} (h : Md w s n K) {a : Addr} {u : Value} (hu : w.cell? a = some u) (hn : ∀ x, u ≠ .int .i64 x) (v : Value) : Md (w.setCell a v) s n K := by
  obtain ⟨ao, c, L, rfl, h⟩ := h; exact ⟨ao, c, L, rfl, h.rd.set hu hn v, h.dig, h.nrm, h.eq, h.le⟩
theorem Zt.set {w : World} {s : Value} {n : Int} {K : Nat} (h : Zt w s n K) {a : Addr} {u : Value} (hu : w.cell? a = some u) (hn : ∀ x, u ≠ .int .i64 x) (v : Value) : Zt (w.setCell a v) s n K := by
  obtain ⟨s, rfl, h⟩ := h; exact ⟨s, rfl, h.set hu hn v⟩
theorem MdL.zero_iff {w : World} {ao : Option Addr} {c : Nat} {L : List Int} {n : Int} {K : Nat} (h : MdL w ao c L n K) : L.length = 0 ↔ n = 0 := by
  constructor
  · intro hl; rw [← h.eq, List.eq_nil_of_length_eq_zero hl]; rfl
  · intro hn; rw [Nrm.eq_nil R16_pos h.dig h.nrm (by rw [h.eq, hn])]; rfl
theorem Zt.opened {w : World} {v : Value} {z : Int} {K : Nat} (h : Zt w v z K) : ∃ b ao m c, v = .agg #[.bool b, .slice ao m c] ∧ Hid (∀ w', Below w.heap.size w w' → Zt w' (.agg #[.bool b, .slice ao m c]) z K) ∧ Hid (∀ w', Below w.heap.size w w' → Md w' (.slice ao m c) (z.natAbs : Int) K) ∧ Hid (b = decide (z < 0)) := by
  obtain ⟨s, rfl, ao, c, L, rfl, h⟩ := h
  have hN : ∀ w', Below w.heap.size w w' → Md w' (.slice ao L.length c) (z.natAbs : Int) K := fun w' hb => ⟨ao, c, L, rfl, h.rd.below hb (Nat.le_refl _), h.dig, h.nrm, h.eq, h.le⟩
  exact ⟨_, ao, L.length, c, rfl, hid (fun w' hb => ⟨_, rfl, hN w' hb⟩), hid hN, hid rfl⟩
theorem Md.opened {w : World} {v : Value} {n : Int} {K : Nat} (h : Md w v n K) : ∃ ao m c, v = .slice ao m c ∧ Hid (∀ w', Below w.heap.size w w' → Md w' (.slice ao m c) n K) := by
  obtain ⟨ao, c, L, rfl, h⟩ := h
  exact ⟨ao, L.length, c, rfl, hid (fun w' hb => ⟨ao, c, L, rfl, h.rd.below hb (Nat.le_refl _), h.dig, h.nrm, h.eq, h.le⟩)⟩

/-- Digits, not cut: what reads as them. -/
def Dg (w : World) (v : Value) (n : Int) (K : Nat) : Prop := ∃ ao c L, v = .slice ao L.length c ∧ Rd w .i64 ao c L ∧ Dig R16 L ∧ val R16 L = n ∧ L.length ≤ K
theorem Md.dg {w : World} {v : Value} {n : Int} {K : Nat} (h : Md w v n K) : Dg w v n K := by
  obtain ⟨ao, c, L, rfl, h⟩ := h; exact ⟨ao, c, L, rfl, h.rd, h.dig, h.eq, h.le⟩
theorem Dg.below {w w' : World} {v : Value} {n : Int} {K B : Nat} (h : Dg w v n K) (hb : Below B w w') (hB : w.heap.size ≤ B) : Dg w' v n K := by
  obtain ⟨ao, c, L, rfl, hr, h⟩ := h; exact ⟨ao, c, L, rfl, hr.below hb hB, h⟩
theorem Dg.mono {w : World} {v : Value} {n : Int} {K K' : Nat} (h : Dg w v n K) (hk : K ≤ K') : Dg w v n K' := by
  obtain ⟨ao, c, L, rfl, hr, hd, hv, hl⟩ := h; exact ⟨ao, c, L, rfl, hr, hd, hv, Nat.le_trans hl hk⟩
theorem Dg.opened {w : World} {v : Value} {n : Int} {K : Nat} (h : Dg w v n K) : ∃ ao m c, v = .slice ao m c ∧ Hid (∀ w', Below w.heap.size w w' → Dg w' (.slice ao m c) n K) := by
  obtain ⟨ao, c, L, rfl, h⟩ := h
  exact ⟨ao, L.length, c, rfl, hid (fun w' hb => Dg.below ⟨ao, c, L, rfl, h⟩ hb (Nat.le_refl _))⟩

set_option maxRecDepth 100000 in
set_option maxHeartbeats 2000000 in
theorem made_any (below : Bool) (v : Value) (n : Int) (K : Nat) (w : World) (h : Dg w v n K) :
    Calls Tryz.prog 81 #[.bool below, v] w (RetZ w (sgn below n) K) := by
  obtain ⟨ao, c, L, rfl, hr, hd, hv, hl⟩ := h
  have h0 : 0 ≤ n := by rw [← hv]; exact val_nonneg R16_pos hd
  have hb0 : Below w.heap.size w (w.alloc (.cells #[.bool false, .slice none 0 0] 33)) := (Below.refl _ _).alloc (Nat.le_refl _) _
  have hc := cut_any ao c L _ (hr.below hb0 (Nat.le_refl _))
  have hfin : ∀ w', Below w.heap.size w w' → Zt w' (.agg #[.bool (below && decide ((0 : Int) < ((trimL L).length : Int))), .slice ao (trimL L).length c]) (sgn below n) K := fun w' hb => by
    have hM : MdL w' ao c (trimL L) n K := ⟨by rw [trimL_take L]; exact (hr.take _).below hb (Nat.le_refl _), hd.trim, Nrm.trim L, by rw [val_trim]; exact hv, Nat.le_trans (trimL_len L) hl⟩
    have hz := hM.zero_iff
    have e : decide ((0 : Int) < ((trimL L).length : Int)) = decide (0 < n) := by apply decide_eq_decide.2; constructor <;> intro hh <;> omega
    rw [e]
    exact ⟨_, by rw [sgn_lt below h0], by rw [sgn_abs below h0]; exact ⟨ao, c, trimL L, rfl, hM⟩⟩
  obtain ⟨m, hm⟩ : ∃ m, m = (trimL L).length := ⟨_, rfl⟩
  rw [← hm] at hc hfin
  have HC := hid hc; have HF := hid hfin
  clear hc hfin hm hr hd hv hl h0 hb0
  cases below with
  | false =>
    go_enter Tryz.func81, Tryz.ntmps81
    go_wp2_with (go_at_call 115; refine HC.out.mono ?_; rintro e w1 ⟨rfl, rfl⟩)
    refine bodyPost_ret (v := .agg #[.bool false, .slice ao m c]) (by simp [results, Tryz.results81, go_sem]) rfl ⟨_, rfl, ?_, (Below.refl _ _).alloc (Nat.le_refl _) _⟩
    exact HF.out _ ((Below.refl _ _).alloc (Nat.le_refl _) _)
  | true =>
    go_enter Tryz.func81, Tryz.ntmps81
    go_wp2_with (go_at_call 115; refine HC.out.mono ?_; rintro e w1 ⟨rfl, rfl⟩)
    refine bodyPost_ret (v := .agg #[.bool (decide ((0 : Int) < (m : Int))), .slice ao m c]) (by simp [results, Tryz.results81, go_sem]) rfl ⟨_, rfl, ?_, (Below.refl _ _).alloc (Nat.le_refl _) _⟩
    exact HF.out _ ((Below.refl _ _).alloc (Nat.le_refl _) _)

end Go.Proofs.YtbapeilpkhbbeaaGreat

/- The document's own integers: less, double, split. -/
namespace Go.Proofs.YtbapeilpkhbbeaaGreat
open Go.RowKit

/-- The one cell of a block that was just made. -/
theorem new_one {w : World} {n : Nat} {T : TypeId} {y : Value} (j : Nat) (u : Value) (hj : ([y] : List Value)[j]? = some u) : ((w.drewN n).alloc (.cells #[y] T (0, 0))).cell? ((⟨w.heap.size, 0, none⟩ : Addr).add j) = some u := by
  match j, hj with
  | 0, hj =>
    simp at hj; subst hj
    have h : ((w.drewN n).alloc (.cells #[y] T (0, 0))).heap[w.heap.size]? = some (.cells #[y] T (0, 0)) := by show ((w.drewN n).heap.push _)[(w.drewN n).heap.size]? = _; simp
    exact (cell_of_row _ w.heap.size 0 _ T (0, 0) h).trans rfl

/-- A row of digits that grows: k digits so far. -/
structure GrI (w wr : World) (k : Nat) (ov : Value) (Q : List Int) : Prop where
  own : wr.ownsRow w.heap.size 3 1 ov k (Q.map (Value.int .i64))
  len : Q.length = k
  dig : Dig R16 Q
  low : Below w.heap.size w wr
theorem GrI.start (w : World) : GrI w w 0 (.slice none 0 0) [] := ⟨⟨by simp, .inl ⟨rfl, rfl⟩⟩, rfl, Dig.nil _, Below.refl _ _⟩
theorem GrI.drewN {w wr : World} {k : Nat} {ov : Value} {Q : List Int} (H : GrI w wr k ov Q) (n : Nat) : GrI w (wr.drewN n) k ov Q := ⟨H.own, H.len, H.dig, below_drewN H.low n⟩
theorem GrI.next {w wr wx : World} {k : Nat} {ov ov' : Value} {Q : List Int} (H : GrI w wr k ov Q) (y : Int) (y0 : 0 ≤ y) (y1 : y < 65536) (o : Obj)
    (hown : wx.ownsRow w.heap.size 3 1 ov' (k + 1) (Q.map (Value.int .i64) ++ [.int .i64 y])) (hg : (wr.alloc o).grownBy wx ov.ownBlock) : GrI w wx (k + 1) ov' (Q ++ [y]) :=
  ⟨by rw [List.map_append]; exact hown, by simp [H.len], H.dig.append (Dig.cons y0 (by unfold R16; omega) (Dig.nil _)), (H.low.alloc H.low.size o).grown hg (by have := H.low.size; simp; omega) (fun i e => owns_block H.own i e)⟩
/-- What a grown row reads as. -/
theorem GrI.rd {w wr : World} {k : Nat} {ov : Value} {Q : List Int} (H : GrI w wr k ov Q) (hk : k ≤ 1073741824) : ∃ ao c, ov = .slice ao Q.length c ∧ Rd wr .i64 ao c Q := by
  rcases H.own.2 with ⟨rfl, rfl⟩ | ⟨g, cap, cur, rfl, hb, hh, hn, hcm, hs, ht⟩
  · have hl := H.len
    have : Q = [] := List.eq_nil_of_length_eq_zero hl
    subst this
    exact ⟨none, 0, rfl, Rd.nil _ _⟩
  · have hl := H.len
    refine ⟨_, cap, by rw [hl], ?_⟩
    have h := H.own
    rw [← hl] at h
    exact owns_rd h hcm
theorem GrI.md {w wr : World} {k : Nat} {ov : Value} {Q : List Int} (H : GrI w wr k ov Q) (hk : k ≤ 1073741824) {n : Int} {K : Nat} (hn : Nrm Q) (hv : val R16 Q = n) (hK : k ≤ K) : Md wr ov n K := by
  obtain ⟨ao, c, rfl, hr⟩ := H.rd hk
  exact ⟨ao, c, Q, rfl, hr, H.dig, hn, hv, by have := H.len; omega⟩
/-- The value's memory lies at B or above. -/
def Fr (B : Nat) (v : Value) : Prop := ∀ b off l c, v = .slice (some ⟨b, off, none⟩) l c → B ≤ b
def RetF (w : World) (n : Int) (K : Nat) (e : Ending) (w' : World) : Prop := ∃ v, e = .returned v ∧ (Md w' v n K ∧ Fr w.heap.size v) ∧ Below w.heap.size w w'
theorem RetF.retM {w : World} {n : Int} {K : Nat} {e : Ending} {w' : World} (h : RetF w n K e w') : RetM w n K e w' := by
  obtain ⟨v, e, h1, h2⟩ := h
  exact ⟨v, e, h1.1, h2⟩
theorem GrI.cut {w wr : World} {k : Nat} {ov : Value} {Q : List Int} (H : GrI w wr k ov Q) (hk : k ≤ 1073741824) {n : Int} {K : Nat} (hv : val R16 Q = n) (hK : (trimL Q).length ≤ K) :
    Calls Tryz.prog 115 #[ov] wr fun e w' => ∃ v, e = .returned v ∧ (Md w' v n K ∧ Fr w.heap.size v) ∧ w' = wr := by
  obtain ⟨ao, c, rfl, hr⟩ := H.rd hk
  refine (cut_any ao c Q wr hr).mono ?_
  rintro e w' ⟨rfl, rfl⟩
  refine ⟨_, rfl, ⟨⟨ao, c, trimL Q, rfl, ?_, H.dig.trim, Nrm.trim Q, by rw [val_trim]; exact hv, hK⟩, fun b off l c' e => ?_⟩, rfl⟩
  rotate_left
  · obtain ⟨rfl, _, _⟩ := Value.slice.inj e
    rcases H.own.2 with ⟨e2, _⟩ | ⟨g, cap, cur, e2, hb, _⟩
    · cases e2
    · obtain ⟨e3, _, _⟩ := Value.slice.inj e2
      cases e3
      exact hb
  rw [trimL_take Q]; exact hr.take _

theorem len_le_gen {B : Int} (hB : 0 < B) {L M : List Int} (hL : Dig B L) (hM : Dig B M) (nM : Nrm M) (h : val B M ≤ val B L) : M.length ≤ L.length := by
  by_cases hl : M.length ≤ L.length
  · exact hl
  · exfalso
    have h1 := val_lt hB hL
    have h2 := Nrm.low hB hM nM (by omega)
    have h3 := pow_mono hB (show L.length ≤ M.length - 1 by omega)
    omega

structure LsI (w wr : World) (A B : List Int) (k : Nat) (ov : Value) (Q : List Int) (c : Int) : Prop where
  g : GrI w wr k ov Q
  c0 : 0 ≤ c
  c1 : c ≤ 1
  eq : val R16 Q - R16 ^ k * c = val R16 (A.take k) - val R16 (B.take k)

theorem LsI.next {w wr wx : World} {A B Q : List Int} {k : Nat} {ov ov' : Value} {c : Int} (H : LsI w wr A B k ov Q c) (x y : Int) (hx : x = A[k]?.getD 0) (hy : y = B[k]?.getD 0) (hA : Dig R16 A) (hB : Dig R16 B) (hka : k < A.length) (hkb : k < B.length)
    (hg : GrI w wx (k + 1) ov' (Q ++ [(x - y - c + 65536) % 65536])) : LsI w wx A B (k + 1) ov' (Q ++ [(x - y - c + 65536) % 65536]) (1 - (x - y - c + 65536) / 65536) := by
  have a := hA.at R16_pos k; have b := hB.at R16_pos k
  rw [← hx] at a; rw [← hy] at b
  have c0 := H.c0; have c1 := H.c1
  unfold R16 at a b
  refine ⟨hg, by omega, by omega, ?_⟩
  rw [val_snoc, H.g.len, val_take_succ R16 A k hka, val_take_succ R16 B k hkb, ← hx, ← hy, Int.pow_succ]
  have e := H.eq
  have hd : (x - y - c + 65536) % 65536 + R16 * ((x - y - c + 65536) / 65536) = x - y - c + R16 := Int.emod_add_mul_ediv (x - y - c + 65536) 65536
  generalize (x - y - c + 65536) % 65536 = lo at *
  generalize (x - y - c + 65536) / 65536 = hi at *
  generalize R16 ^ k = p at *
  generalize R16 = r at *
  grind

set_option maxRecDepth 100000 in
set_option maxHeartbeats 4000000 in
theorem less_new (va vb : Value) (a b : Int) (K Kb : Nat) (w : World) (hA : Md w va a K) (hB : Md w vb b Kb) (hab : b ≤ a) (hK : K ≤ 1073741824) :
    Calls Tryz.prog 104 #[va, vb] w (RetF w (a - b) K) := by
  obtain ⟨ao, ca, L, rfl, hA⟩ := hA
  obtain ⟨bo, cb, M, rfl, hB⟩ := hB
  have hml := len_le_gen R16_pos hA.dig hB.dig hB.nrm (by rw [hA.eq, hB.eq]; exact hab)
  have hLK := hA.le
  obtain ⟨n, hn⟩ : ∃ n, n = L.length := ⟨_, rfl⟩
  obtain ⟨m, hm⟩ : ∃ m, m = M.length := ⟨_, rfl⟩
  have hdm := fun (w' : World) (hb : Below w.heap.size w w') (i : Nat) (hi : i ≤ 9223372036854775807) => digit_any bo cb i M w' (hB.rd.below hb (Nat.le_refl _)) hi
  have lQ := pad_len (L := M) (N := n) (by omega)
  rw [← hn] at hml hLK ⊢; rw [← hm] at hdm hml ⊢
  have hI0 : LsI w w L (pad M n) 0 (.slice none 0 0) [] 0 := ⟨GrI.start w, Int.le_refl 0, by decide, by simp [val]⟩
  have HDm := hid hdm; have HQ := hid lQ; have HA := hid hA; have HB := hid hB; have DM := hid (pad_dig R16_pos hB.dig n); have Hn := hid hn; have Hab := hid hab
  have HI0 := hid hI0
  clear hdm lQ hA hB hn hm hI0 hab
  obtain ⟨i0, hi, hz0, hz1, hz2⟩ := info_parts Tryz.info3
  go_enter Tryz.func104, Tryz.ntmps104
  go_wp2
  go_loopw [5, 6, 7] (fun ov cv iv wr => ∃ k : Nat, ∃ Q c, k ≤ n ∧ iv = .int .i64 k ∧ cv = .int .i64 c ∧ LsI w wr L (pad M n) k ov Q c) (fun _ _ iv _ => n - (intOf iv).toNat)
  case atStart => exact ⟨0, [], 0, Nat.zero_le _, rfl, rfl, HI0.out⟩
  case round =>
    obtain ⟨k, Q, c, hk, rfl, rfl, H⟩ := hrel
    by_cases hlt : k < n
    · obtain ⟨b1, o1, rfl⟩ := HA.out.rd.adr (by have := Hn.out; omega)
      have hc := (HA.out.rd.below H.g.low (Nat.le_refl _)).cell b1 o1 rfl k (by have := Hn.out; omega)
      have h2 := fun n => HDm.out _ (below_drewN H.g.low n) k (by omega)
      have ha := HA.out.dig.at R16_pos k; have hb := DM.out.at R16_pos k
      rw [pad_get] at hb
      obtain ⟨x, hx⟩ : ∃ x, x = L[k]?.getD 0 := ⟨_, rfl⟩
      obtain ⟨y, hy⟩ : ∃ y, y = M[k]?.getD 0 := ⟨_, rfl⟩
      rw [← hx] at hc ha; rw [← hy] at h2 hb
      have HX := hid hx
      have HY := hid (show y = (pad M n)[k]?.getD 0 by rw [pad_get]; exact hy)
      have c0 := H.c0; have c1 := H.c1
      have x0 := ha.1; have x1 : x < 65536 := ha.2; have y0 := hb.1; have y1 : y < 65536 := hb.2
      have u1 : IntKind.i64.wrap (x - y) = x - y := IntWalk.i64_in _ (by omega)
      have u2 : IntKind.i64.wrap (x - y - c) = x - y - c := IntWalk.i64_in _ (by omega)
      have hnx := fun wx ov' hg => H.next (wx := wx) (ov' := ov') x y HX.out HY.out HA.out.dig DM.out (by have := Hn.out; omega) (by have := HQ.out; omega) hg
      obtain ⟨t, ht⟩ : ∃ t, x - y - c + 65536 = t := ⟨_, rfl⟩
      rw [ht] at hnx
      have u3 : IntKind.i64.wrap (x - y - c + 65536) = t := by rw [IntWalk.i64_in _ (by omega)]; exact ht
      have u4 : IntKind.i64.wrap t = t := IntWalk.i64_in _ (by omega)
      have n0 : 0 ≤ t := by omega
      have n1 : t < 131072 := by omega
      have HNx := hid hnx
      clear hnx
      have H2 := hid h2; have HH := hid H
      have hk0 : (0 : Int) ≤ (k : Int) := by omega
      clear h2 ha hb hx hy H HI0
      go_wp2_with fail
      go_quiet ((go_at_call 101; exact Calls.quiet_of_same (H2.out _)))
      clear u1 u2 u3 u4 ht
      go_wp2_with (at_builtin; refine wpList_append_own _ rfl _ _ 31 rfl w.heap.size 3 i0 (.int .i64 0) 1 8 Tryz.underlying31 hi hz0 hz1 hz2 rfl (by decide) _ k (Q.map (Value.int .i64)) rfl ((HH.out.g.drewN _).own.alloc _) ⟨wr.heap.size, 0, none⟩ 1 1 [.int .i64 (t % 65536)] rfl rfl ?c1 ?c2 ?c3 ?c4 ?c5 ?_)
      case c1 => exact fun j u hj => new_one j u hj
      case c2 => intro u hu; simp at hu; subst hu; rfl
      case c3 => unfold maxLen; omega
      case c4 => omega
      case c5 => have := HH.out.g.low.size; simp; omega
      intro ov' w3 hown hg _
      have HI := hid (HNx.out _ _ ((HH.out.g.drewN _).next _ (Int.emod_nonneg _ (by decide)) (Int.emod_lt_of_pos _ (by decide)) _ hown hg))
      clear hown hg
      go_wp2
      go_roundw
      case rel => exact ⟨k + 1, _, _, by omega, by go_num, rfl, HI.out⟩
      case measure => simp [intOf]; omega
    · obtain rfl : k = n := by omega
      have e := H.eq
      rw [List.take_of_length_le (by have := Hn.out; omega), List.take_of_length_le (by rw [HQ.out]; exact Nat.le_refl _), pad_val, HA.out.eq, HB.out.eq] at e
      have hq := val_lt R16_pos H.g.dig
      rw [H.g.len] at hq
      have hq0 := val_nonneg R16_pos H.g.dig
      have hcz : c = 0 := by
        have h0 := H.c0; have h1 := H.c1; have := Hab.out
        by_cases hc : c = 0
        · exact hc
        · have hc1 : c = 1 := by omega
          rw [hc1] at e; omega
      rw [hcz] at e
      have hct := H.g.cut (K := K) (by omega) (show val R16 Q = a - b by omega) (by have := trimL_len Q; have := H.g.len; omega)
      have HC := hid hct; have HL := hid H.g.low
      clear hct H HI0 e hq hq0 hcz
      go_wp2_with fail
      refine HC.out.mono ?_
      rintro e w2 ⟨v, rfl, hv, rfl⟩
      have HV := hid hv
      clear hv
      go_wp2
      go_ret
      exact ⟨_, rfl, HV.out, HL.out⟩

theorem less_any (va vb : Value) (a b : Int) (K Kb : Nat) (w : World) (hA : Md w va a K) (hB : Md w vb b Kb) (hab : b ≤ a) (hK : K ≤ 1073741824) :
    Calls Tryz.prog 104 #[va, vb] w (RetM w (a - b) K) := (less_new va vb a b K Kb w hA hB hab hK).mono fun _ _ h => h.retM

end Go.Proofs.YtbapeilpkhbbeaaGreat
