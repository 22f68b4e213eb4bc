/- The document's own integers: less, double, split. The document's own integers: double, split, byFew. -/
import Derived.Test.YtbapeilpkhbbeaaGreatDoorYn21
/- The document's own integers: less, double, split. -/
namespace Go.Proofs.YtbapeilpkhbbeaaGreatDoor
open Go.RowKit

/-- The one cell of a block that was just made. -/
theorem new_one {w : World} {n : Nat} {T : TypeId} {y : Value} (j : Nat) (u : Value) (hj : ([y] : List Value)[j]? = some u) : ((w.drewN n).alloc (.cells #[y] T (0, 0))).cell? ((⟨w.heap.size, 0, none⟩ : Addr).add j) = some u := by
  match j, hj with
  | 0, hj =>
    simp at hj; subst hj
    have h : ((w.drewN n).alloc (.cells #[y] T (0, 0))).heap[w.heap.size]? = some (.cells #[y] T (0, 0)) := by show ((w.drewN n).heap.push _)[(w.drewN n).heap.size]? = _; simp
    exact (cell_of_row _ w.heap.size 0 _ T (0, 0) h).trans rfl

/-- A row of digits that grows: k digits so far. -/
structure GrI (w wr : World) (k : Nat) (ov : Value) (Q : List Int) : Prop where
  own : wr.ownsRow w.heap.size 3 1 ov k (Q.map (Value.int .i64))
  len : Q.length = k
  dig : Dig R16 Q
  low : Below w.heap.size w wr
theorem GrI.start (w : World) : GrI w w 0 (.slice none 0 0) [] := ⟨⟨by simp, .inl ⟨rfl, rfl⟩⟩, rfl, Dig.nil _, Below.refl _ _⟩
theorem GrI.drewN {w wr : World} {k : Nat} {ov : Value} {Q : List Int} (H : GrI w wr k ov Q) (n : Nat) : GrI w (wr.drewN n) k ov Q := ⟨H.own, H.len, H.dig, below_drewN H.low n⟩
theorem GrI.next {w wr wx : World} {k : Nat} {ov ov' : Value} {Q : List Int} (H : GrI w wr k ov Q) (y : Int) (y0 : 0 ≤ y) (y1 : y < 65536) (o : Obj)
    (hown : wx.ownsRow w.heap.size 3 1 ov' (k + 1) (Q.map (Value.int .i64) ++ [.int .i64 y])) (hg : (wr.alloc o).grownBy wx ov.ownBlock) : GrI w wx (k + 1) ov' (Q ++ [y]) :=
  ⟨by rw [List.map_append]; exact hown, by simp [H.len], H.dig.append (Dig.cons y0 (by unfold R16; omega) (Dig.nil _)), (H.low.alloc H.low.size o).grown hg (by have := H.low.size; simp; omega) (fun i e => owns_block H.own i e)⟩
/-- What a grown row reads as. -/
theorem GrI.rd {w wr : World} {k : Nat} {ov : Value} {Q : List Int} (H : GrI w wr k ov Q) (hk : k ≤ 1073741824) : ∃ ao c, ov = .slice ao Q.length c ∧ Rd wr .i64 ao c Q := by
  rcases H.own.2 with ⟨rfl, rfl⟩ | ⟨g, cap, cur, rfl, hb, hh, hn, hcm, hs, ht⟩
  · have hl := H.len
    have : Q = [] := List.eq_nil_of_length_eq_zero hl
    subst this
    exact ⟨none, 0, rfl, Rd.nil _ _⟩
  · have hl := H.len
    refine ⟨_, cap, by rw [hl], ?_⟩
    have h := H.own
    rw [← hl] at h
    exact owns_rd h hcm
theorem GrI.md {w wr : World} {k : Nat} {ov : Value} {Q : List Int} (H : GrI w wr k ov Q) (hk : k ≤ 1073741824) {n : Int} {K : Nat} (hn : Nrm Q) (hv : val R16 Q = n) (hK : k ≤ K) : Md wr ov n K := by
  obtain ⟨ao, c, rfl, hr⟩ := H.rd hk
  exact ⟨ao, c, Q, rfl, hr, H.dig, hn, hv, by have := H.len; omega⟩
/-- The value's memory lies at B or above. -/
def Fr (B : Nat) (v : Value) : Prop := ∀ b off l c, v = .slice (some ⟨b, off, none⟩) l c → B ≤ b
def RetF (w : World) (n : Int) (K : Nat) (e : Ending) (w' : World) : Prop := ∃ v, e = .returned v ∧ (Md w' v n K ∧ Fr w.heap.size v) ∧ Below w.heap.size w w'
theorem RetF.retM {w : World} {n : Int} {K : Nat} {e : Ending} {w' : World} (h : RetF w n K e w') : RetM w n K e w' := by
  obtain ⟨v, e, h1, h2⟩ := h
  exact ⟨v, e, h1.1, h2⟩
theorem GrI.cut {w wr : World} {k : Nat} {ov : Value} {Q : List Int} (H : GrI w wr k ov Q) (hk : k ≤ 1073741824) {n : Int} {K : Nat} (hv : val R16 Q = n) (hK : (trimL Q).length ≤ K) :
    Calls Tryz.prog 84 #[ov] wr fun e w' => ∃ v, e = .returned v ∧ (Md w' v n K ∧ Fr w.heap.size v) ∧ w' = wr := by
  obtain ⟨ao, c, rfl, hr⟩ := H.rd hk
  refine (cut_any ao c Q wr hr).mono ?_
  rintro e w' ⟨rfl, rfl⟩
  refine ⟨_, rfl, ⟨⟨ao, c, trimL Q, rfl, ?_, H.dig.trim, Nrm.trim Q, by rw [val_trim]; exact hv, hK⟩, fun b off l c' e => ?_⟩, rfl⟩
  rotate_left
  · obtain ⟨rfl, _, _⟩ := Value.slice.inj e
    rcases H.own.2 with ⟨e2, _⟩ | ⟨g, cap, cur, e2, hb, _⟩
    · cases e2
    · obtain ⟨e3, _, _⟩ := Value.slice.inj e2
      cases e3
      exact hb
  rw [trimL_take Q]; exact hr.take _

theorem len_le_gen {B : Int} (hB : 0 < B) {L M : List Int} (hL : Dig B L) (hM : Dig B M) (nM : Nrm M) (h : val B M ≤ val B L) : M.length ≤ L.length := by
  by_cases hl : M.length ≤ L.length
  · exact hl
  · exfalso
    have h1 := val_lt hB hL
    have h2 := Nrm.low hB hM nM (by omega)
    have h3 := pow_mono hB (show L.length ≤ M.length - 1 by omega)
    omega

structure LsI (w wr : World) (A B : List Int) (k : Nat) (ov : Value) (Q : List Int) (c : Int) : Prop where
  g : GrI w wr k ov Q
  c0 : 0 ≤ c
  c1 : c ≤ 1
  eq : val R16 Q - R16 ^ k * c = val R16 (A.take k) - val R16 (B.take k)

theorem LsI.next {w wr wx : World} {A B Q : List Int} {k : Nat} {ov ov' : Value} {c : Int} (H : LsI w wr A B k ov Q c) (x y : Int) (hx : x = A[k]?.getD 0) (hy : y = B[k]?.getD 0) (hA : Dig R16 A) (hB : Dig R16 B) (hka : k < A.length) (hkb : k < B.length)
    (hg : GrI w wx (k + 1) ov' (Q ++ [(x - y - c + 65536) % 65536])) : LsI w wx A B (k + 1) ov' (Q ++ [(x - y - c + 65536) % 65536]) (1 - (x - y - c + 65536) / 65536) := by
  have a := hA.at R16_pos k; have b := hB.at R16_pos k
  rw [← hx] at a; rw [← hy] at b
  have c0 := H.c0; have c1 := H.c1
  unfold R16 at a b
  refine ⟨hg, by omega, by omega, ?_⟩
  rw [val_snoc, H.g.len, val_take_succ R16 A k hka, val_take_succ R16 B k hkb, ← hx, ← hy, Int.pow_succ]
  have e := H.eq
  have hd : (x - y - c + 65536) % 65536 + R16 * ((x - y - c + 65536) / 65536) = x - y - c + R16 := Int.emod_add_mul_ediv (x - y - c + 65536) 65536
  generalize (x - y - c + 65536) % 65536 = lo at *
  generalize (x - y - c + 65536) / 65536 = hi at *
  generalize R16 ^ k = p at *
  generalize R16 = r at *
  grind

set_option maxRecDepth 100000 in
set_option maxHeartbeats 4000000 in
theorem less_new (va vb : Value) (a b : Int) (K Kb : Nat) (w : World) (hA : Md w va a K) (hB : Md w vb b Kb) (hab : b ≤ a) (hK : K ≤ 1073741824) :
    Calls Tryz.prog 90 #[va, vb] w (RetF w (a - b) K) := by
  obtain ⟨ao, ca, L, rfl, hA⟩ := hA
  obtain ⟨bo, cb, M, rfl, hB⟩ := hB
  have hml := len_le_gen R16_pos hA.dig hB.dig hB.nrm (by rw [hA.eq, hB.eq]; exact hab)
  have hLK := hA.le
  obtain ⟨n, hn⟩ : ∃ n, n = L.length := ⟨_, rfl⟩
  obtain ⟨m, hm⟩ : ∃ m, m = M.length := ⟨_, rfl⟩
  have hdm := fun (w' : World) (hb : Below w.heap.size w w') (i : Nat) (hi : i ≤ 9223372036854775807) => digit_any bo cb i M w' (hB.rd.below hb (Nat.le_refl _)) hi
  have lQ := pad_len (L := M) (N := n) (by omega)
  rw [← hn] at hml hLK ⊢; rw [← hm] at hdm hml ⊢
  have hI0 : LsI w w L (pad M n) 0 (.slice none 0 0) [] 0 := ⟨GrI.start w, Int.le_refl 0, by decide, by simp [val]⟩
  have HDm := hid hdm; have HQ := hid lQ; have HA := hid hA; have HB := hid hB; have DM := hid (pad_dig R16_pos hB.dig n); have Hn := hid hn; have Hab := hid hab
  have HI0 := hid hI0
  clear hdm lQ hA hB hn hm hI0 hab
  obtain ⟨i0, hi, hz0, hz1, hz2⟩ := info_parts Tryz.info3
  go_enter Tryz.func90, Tryz.ntmps90
  go_wp2
  go_loopw [5, 6, 7] (fun ov cv iv wr => ∃ k : Nat, ∃ Q c, k ≤ n ∧ iv = .int .i64 k ∧ cv = .int .i64 c ∧ LsI w wr L (pad M n) k ov Q c) (fun _ _ iv _ => n - (intOf iv).toNat)
  case atStart => exact ⟨0, [], 0, Nat.zero_le _, rfl, rfl, HI0.out⟩
  case round =>
    obtain ⟨k, Q, c, hk, rfl, rfl, H⟩ := hrel
    by_cases hlt : k < n
    · obtain ⟨b1, o1, rfl⟩ := HA.out.rd.adr (by have := Hn.out; omega)
      have hc := (HA.out.rd.below H.g.low (Nat.le_refl _)).cell b1 o1 rfl k (by have := Hn.out; omega)
      have h2 := fun n => HDm.out _ (below_drewN H.g.low n) k (by omega)
      have ha := HA.out.dig.at R16_pos k; have hb := DM.out.at R16_pos k
      rw [pad_get] at hb
      obtain ⟨x, hx⟩ : ∃ x, x = L[k]?.getD 0 := ⟨_, rfl⟩
      obtain ⟨y, hy⟩ : ∃ y, y = M[k]?.getD 0 := ⟨_, rfl⟩
      rw [← hx] at hc ha; rw [← hy] at h2 hb
      have HX := hid hx
      have HY := hid (show y = (pad M n)[k]?.getD 0 by rw [pad_get]; exact hy)
      have c0 := H.c0; have c1 := H.c1
      have x0 := ha.1; have x1 : x < 65536 := ha.2; have y0 := hb.1; have y1 : y < 65536 := hb.2
      have u1 : IntKind.i64.wrap (x - y) = x - y := IntWalk.i64_in _ (by omega)
      have u2 : IntKind.i64.wrap (x - y - c) = x - y - c := IntWalk.i64_in _ (by omega)
      have hnx := fun wx ov' hg => H.next (wx := wx) (ov' := ov') x y HX.out HY.out HA.out.dig DM.out (by have := Hn.out; omega) (by have := HQ.out; omega) hg
      obtain ⟨t, ht⟩ : ∃ t, x - y - c + 65536 = t := ⟨_, rfl⟩
      rw [ht] at hnx
      have u3 : IntKind.i64.wrap (x - y - c + 65536) = t := by rw [IntWalk.i64_in _ (by omega)]; exact ht
      have u4 : IntKind.i64.wrap t = t := IntWalk.i64_in _ (by omega)
      have n0 : 0 ≤ t := by omega
      have n1 : t < 131072 := by omega
      have HNx := hid hnx
      clear hnx
      have H2 := hid h2; have HH := hid H
      have hk0 : (0 : Int) ≤ (k : Int) := by omega
      clear h2 ha hb hx hy H HI0
      go_wp2_with fail
      go_quiet ((go_at_call 110; exact Calls.quiet_of_same (H2.out _)))
      clear u1 u2 u3 u4 ht
      go_wp2_with (at_builtin; refine wpList_append_own _ rfl _ _ 29 rfl w.heap.size 3 i0 (.int .i64 0) 1 8 Tryz.underlying29 hi hz0 hz1 hz2 rfl (by decide) _ k (Q.map (Value.int .i64)) rfl ((HH.out.g.drewN _).own.alloc _) ⟨wr.heap.size, 0, none⟩ 1 1 [.int .i64 (t % 65536)] rfl rfl ?c1 ?c2 ?c3 ?c4 ?c5 ?_)
      case c1 => exact fun j u hj => new_one j u hj
      case c2 => intro u hu; simp at hu; subst hu; rfl
      case c3 => unfold maxLen; omega
      case c4 => omega
      case c5 => have := HH.out.g.low.size; simp; omega
      intro ov' w3 hown hg _
      have HI := hid (HNx.out _ _ ((HH.out.g.drewN _).next _ (Int.emod_nonneg _ (by decide)) (Int.emod_lt_of_pos _ (by decide)) _ hown hg))
      clear hown hg
      go_wp2
      go_roundw
      case rel => exact ⟨k + 1, _, _, by omega, by go_num, rfl, HI.out⟩
      case measure => simp [intOf]; omega
    · obtain rfl : k = n := by omega
      have e := H.eq
      rw [List.take_of_length_le (by have := Hn.out; omega), List.take_of_length_le (by rw [HQ.out]; exact Nat.le_refl _), pad_val, HA.out.eq, HB.out.eq] at e
      have hq := val_lt R16_pos H.g.dig
      rw [H.g.len] at hq
      have hq0 := val_nonneg R16_pos H.g.dig
      have hcz : c = 0 := by
        have h0 := H.c0; have h1 := H.c1; have := Hab.out
        by_cases hc : c = 0
        · exact hc
        · have hc1 : c = 1 := by omega
          rw [hc1] at e; omega
      rw [hcz] at e
      have hct := H.g.cut (K := K) (by omega) (show val R16 Q = a - b by omega) (by have := trimL_len Q; have := H.g.len; omega)
      have HC := hid hct; have HL := hid H.g.low
      clear hct H HI0 e hq hq0 hcz
      go_wp2_with fail
      refine HC.out.mono ?_
      rintro e w2 ⟨v, rfl, hv, rfl⟩
      have HV := hid hv
      clear hv
      go_wp2
      go_ret
      exact ⟨_, rfl, HV.out, HL.out⟩

theorem less_any (va vb : Value) (a b : Int) (K Kb : Nat) (w : World) (hA : Md w va a K) (hB : Md w vb b Kb) (hab : b ≤ a) (hK : K ≤ 1073741824) :
    Calls Tryz.prog 90 #[va, vb] w (RetM w (a - b) K) := (less_new va vb a b K Kb w hA hB hab hK).mono fun _ _ h => h.retM

end Go.Proofs.YtbapeilpkhbbeaaGreatDoor

/- The document's own integers: double, split, byFew. -/
namespace Go.Proofs.YtbapeilpkhbbeaaGreatDoor
open Go.RowKit

theorem new_one0 {w : World} {T : TypeId} {y : Value} (j : Nat) (u : Value) (hj : ([y] : List Value)[j]? = some u) : (w.alloc (.cells #[y] T (0, 0))).cell? ((⟨w.heap.size, 0, none⟩ : Addr).add j) = some u := by
  match j, hj with
  | 0, hj =>
    simp at hj; subst hj
    have h : (w.alloc (.cells #[y] T (0, 0))).heap[w.heap.size]? = some (.cells #[y] T (0, 0)) := by show (w.heap.push _)[w.heap.size]? = _; simp
    exact (cell_of_row _ w.heap.size 0 _ T (0, 0) h).trans rfl
theorem R16_4 : R16 ^ 4 = 18446744073709551616 := by decide
theorem R16_3 : R16 ^ 3 = 281474976710656 := by decide
theorem R16_one : 1 < R16 := by decide
theorem pow_lt_gen {B : Int} (hB : 1 < B) {m n : Nat} (h : B ^ m < B ^ n) : m < n := by
  by_cases hmn : m < n
  · exact hmn
  · have := pow_mono (show 0 < B by omega) (show n ≤ m by omega); omega
theorem Md.lt {w : World} {v : Value} {n : Int} {K : Nat} (h : Md w v n K) : n < R16 ^ K := by
  obtain ⟨ao, c, L, rfl, h⟩ := h
  rw [← h.eq]
  exact Int.lt_of_lt_of_le (val_lt R16_pos h.dig) (pow_mono R16_pos h.le)
theorem Md.tight {w : World} {v : Value} {n : Int} {K K' : Nat} (h : Md w v n K) (hn : n < R16 ^ K') : Md w v n K' := by
  obtain ⟨ao, c, L, rfl, h⟩ := h
  refine ⟨ao, c, L, rfl, h.rd, h.dig, h.nrm, h.eq, ?_⟩
  rcases Nat.eq_zero_or_pos L.length with k | k
  · omega
  · have := h.nrm.low R16_pos h.dig k
    rw [h.eq] at this
    have := pow_lt_gen R16_one (Int.lt_of_le_of_lt this hn)
    omega
theorem val_top_gen {B : Int} {L : List Int} {k : Nat} (hl : L.length = k + 1) : val B L = val B (L.take k) + B ^ k * L[k]?.getD 0 := by
  have e := take_succ_getD L k (by omega)
  rw [List.take_of_length_le (by omega)] at e
  have h := congrArg (val B) e
  rw [h, val_snoc, List.length_take, Nat.min_eq_left (by omega)]
theorem nrm_of_low {B : Int} (hB : 0 < B) {L : List Int} {k : Nat} (hd : Dig B L) (hl : L.length = k + 1) (h : B ^ k ≤ val B L) : Nrm L := by
  have e := val_top_gen (B := B) hl
  have h1 := val_lt hB (hd.take k)
  rw [List.length_take, Nat.min_eq_left (by omega)] at h1
  have hne : L[k]?.getD 0 ≠ 0 := by intro h0; rw [h0, Int.mul_zero] at e; omega
  have e2 := take_succ_getD L k (by omega)
  rw [List.take_of_length_le (by omega)] at e2
  unfold Nrm
  rw [e2, trimL_snoc, if_neg hne]

structure DgL (w : World) (ao : Option Addr) (c : Nat) (L : List Int) (n : Int) (K : Nat) : Prop where
  rd : Rd w .i64 ao c L
  dig : Dig R16 L
  eq : val R16 L = n
  le : L.length ≤ K

structure DbI (w wr : World) (A : List Int) (bit : Int) (k : Nat) (ov : Value) (Q : List Int) (c : Int) : Prop where
  g : GrI w wr k ov Q
  c0 : 0 ≤ c
  c1 : c ≤ 1
  eq : val R16 Q + R16 ^ k * c = 2 * val R16 (A.take k) + bit
theorem DbI.next {w wr wx : World} {A Q : List Int} {bit : Int} {k : Nat} {ov ov' : Value} {c : Int} (H : DbI w wr A bit k ov Q c) (x : Int) (hx : x = A[k]?.getD 0) (hA : Dig R16 A) (hka : k < A.length)
    (hg : GrI w wx (k + 1) ov' (Q ++ [(2 * x + c) % 65536])) : DbI w wx A bit (k + 1) ov' (Q ++ [(2 * x + c) % 65536]) ((2 * x + c) / 65536) := by
  have a := hA.at R16_pos k
  rw [← hx] at a
  have c0 := H.c0; have c1 := H.c1
  unfold R16 at a
  refine ⟨hg, by omega, by omega, ?_⟩
  rw [val_snoc, H.g.len, val_take_succ R16 A k hka, ← hx, Int.pow_succ]
  have e := H.eq
  have hd : (2 * x + c) % 65536 + R16 * ((2 * x + c) / 65536) = 2 * x + c := Int.emod_add_mul_ediv (2 * x + c) 65536
  generalize (2 * x + c) % 65536 = lo at *
  generalize (2 * x + c) / 65536 = hi at *
  generalize R16 ^ k = p at *
  generalize R16 = r at *
  grind

set_option maxRecDepth 100000 in
set_option maxHeartbeats 4000000 in
theorem double_new (va : Value) (a bit : Int) (K : Nat) (w : World) (hA : Dg w va a K) (b0 : 0 ≤ bit) (b1 : bit ≤ 1) (hK : K ≤ 1073741823) :
    Calls Tryz.prog 92 #[va, .int .i64 bit] w (RetF w (2 * a + bit) (K + 1)) := by
  obtain ⟨ao, ca, L, rfl, hrd, hdig, heq, hle⟩ := hA
  have hA : DgL w ao ca L a K := ⟨hrd, hdig, heq, hle⟩
  clear hrd hdig heq hle
  have hLK := hA.le
  obtain ⟨n, hn⟩ : ∃ n, n = L.length := ⟨_, rfl⟩
  rw [← hn] at hLK ⊢
  have hI0 : DbI w w L bit 0 (.slice none 0 0) [] bit := ⟨GrI.start w, b0, b1, by simp [val]⟩
  have HA := hid hA; have Hn := hid hn; have HI0 := hid hI0
  clear hA hn hI0
  obtain ⟨i0, hi, hz0, hz1, hz2⟩ := info_parts Tryz.info3
  go_enter Tryz.func92, Tryz.ntmps92
  go_wp2
  go_loopw [5, 6, 7] (fun ov cv iv wr => ∃ k : Nat, ∃ Q c, k ≤ n ∧ iv = .int .i64 k ∧ cv = .int .i64 c ∧ DbI w wr L bit k ov Q c) (fun _ _ iv _ => n - (intOf iv).toNat)
  case atStart => exact ⟨0, [], bit, Nat.zero_le _, rfl, rfl, HI0.out⟩
  case round =>
    obtain ⟨k, Q, c, hk, rfl, rfl, H⟩ := hrel
    have c0 := H.c0; have c1 := H.c1
    by_cases hlt : k < n
    · obtain ⟨b1, o1, rfl⟩ := HA.out.rd.adr (by have := Hn.out; omega)
      have hc := (HA.out.rd.below H.g.low (Nat.le_refl _)).cell b1 o1 rfl k (by have := Hn.out; omega)
      have ha := HA.out.dig.at R16_pos k
      obtain ⟨x, hx⟩ : ∃ x, x = L[k]?.getD 0 := ⟨_, rfl⟩
      rw [← hx] at hc ha
      have HX := hid hx
      have x0 := ha.1; have x1 : x < 65536 := ha.2
      have HNx := hid (fun wx ov' hg => H.next (wx := wx) (ov' := ov') x HX.out HA.out.dig (by have := Hn.out; omega) hg)
      have HH := hid H
      have hk0 : (0 : Int) ≤ (k : Int) := by omega
      clear ha hx H HI0
      go_wp2_with (at_builtin; refine wpList_append_own _ rfl _ _ 29 rfl w.heap.size 3 i0 (.int .i64 0) 1 8 Tryz.underlying29 hi hz0 hz1 hz2 rfl (by decide) _ k (Q.map (Value.int .i64)) rfl (HH.out.g.own.alloc _) ⟨wr.heap.size, 0, none⟩ 1 1 [.int .i64 ((2 * x + c) % 65536)] rfl rfl ?c1 ?c2 ?c3 ?c4 ?c5 ?_)
      case c1 => exact fun j u hj => new_one0 j u hj
      case c2 => intro u hu; simp at hu; subst hu; rfl
      case c3 => unfold maxLen; omega
      case c4 => omega
      case c5 => have := HH.out.g.low.size; simp; omega
      intro ov' w3 hown hg _
      have HI := hid (HNx.out _ _ (HH.out.g.next _ (Int.emod_nonneg _ (by decide)) (Int.emod_lt_of_pos _ (by decide)) _ hown hg))
      clear hown hg
      go_wp2
      go_roundw
      case rel => exact ⟨k + 1, _, _, by omega, by go_num, rfl, HI.out⟩
      case measure => simp [intOf]; omega
    · obtain rfl : k = n := by omega
      have HH := hid H
      clear H HI0
      go_wp2_with (at_builtin; refine wpList_append_own _ rfl _ _ 29 rfl w.heap.size 3 i0 (.int .i64 0) 1 8 Tryz.underlying29 hi hz0 hz1 hz2 rfl (by decide) _ k (Q.map (Value.int .i64)) rfl (HH.out.g.own.alloc _) ⟨wr.heap.size, 0, none⟩ 1 1 [.int .i64 c] rfl rfl ?c1 ?c2 ?c3 ?c4 ?c5 ?_)
      case c1 => exact fun j u hj => new_one0 j u hj
      case c2 => intro u hu; simp at hu; subst hu; rfl
      case c3 => unfold maxLen; omega
      case c4 => omega
      case c5 => have := HH.out.g.low.size; simp; omega
      intro ov' w3 hown hg _
      have hG := HH.out.g.next c c0 (by omega) _ hown hg
      have e := HH.out.eq
      rw [List.take_of_length_le (by have := Hn.out; omega), HA.out.eq] at e
      have hct := hG.cut (n := 2 * a + bit) (K := K + 1) (by omega) (by rw [val_snoc, HH.out.g.len]; exact e) (by have := trimL_len (Q ++ [c]); have := hG.len; omega)
      have HC := hid hct; have HL := hid hG.low
      clear hct hG hown hg e
      go_wp2_with (go_at_call 84; refine HC.out.mono ?_; rintro e w2 ⟨v, rfl, hv, rfl⟩)
      go_ret
      exact ⟨_, rfl, hv, HL.out⟩

theorem double_dg (va : Value) (a bit : Int) (K : Nat) (w : World) (hA : Dg w va a K) (b0 : 0 ≤ bit) (b1 : bit ≤ 1) (hK : K ≤ 1073741823) :
    Calls Tryz.prog 92 #[va, .int .i64 bit] w (RetM w (2 * a + bit) (K + 1)) := (double_new va a bit K w hA b0 b1 hK).mono fun _ _ h => h.retM

structure SpI (w wr : World) (n : Int) (k : Nat) (ov : Value) (Q : List Int) (m : Int) : Prop where
  g : GrI w wr k ov Q
  m0 : 0 ≤ m
  m1 : m ≤ n
  eq : val R16 Q + R16 ^ k * m = n
  lo : k = 0 ∨ R16 ^ (k - 1) ≤ n
theorem SpI.next {w wr wx : World} {n m : Int} {k : Nat} {ov ov' : Value} {Q : List Int} (H : SpI w wr n k ov Q m) (hm : 0 < m) (hg : GrI w wx (k + 1) ov' (Q ++ [m % 65536])) : SpI w wx n (k + 1) ov' (Q ++ [m % 65536]) (m / 65536) := by
  have m1 := H.m1
  have e := H.eq
  have hp : (0 : Int) < R16 ^ k := Int.pow_pos R16_pos
  have hq := val_nonneg R16_pos H.g.dig
  refine ⟨hg, by omega, by omega, ?_, .inr ?_⟩
  · rw [val_snoc, H.g.len, Int.pow_succ]
    have hd : m % 65536 + R16 * (m / 65536) = m := Int.emod_add_mul_ediv m 65536
    generalize m % 65536 = lo at *
    generalize m / 65536 = hi at *
    generalize R16 ^ k = p at *
    generalize R16 = r at *
    grind
  · have : R16 ^ k * 1 ≤ R16 ^ k * m := Int.mul_le_mul_of_nonneg_left (by omega) (Int.le_of_lt hp)
    rw [Nat.add_sub_cancel]; omega
theorem SpI.few {w wr : World} {n m : Int} {k : Nat} {ov : Value} {Q : List Int} (H : SpI w wr n k ov Q m) (hn : n < 18446744073709551616) : k ≤ 4 := by
  rcases H.lo with h | h
  · omega
  · have h4 : R16 ^ (k - 1) < R16 ^ 4 := Int.lt_of_le_of_lt h (by rw [R16_4]; exact hn)
    have := pow_lt_gen R16_one h4; omega
theorem SpI.done {w wr : World} {n : Int} {k : Nat} {ov : Value} {Q : List Int} (H : SpI w wr n k ov Q 0) (hn : n < 18446744073709551616) : Md wr ov n 4 := by
  have hk := H.few hn
  have e := H.eq
  rw [Int.mul_zero, Int.add_zero] at e
  refine H.g.md (by omega) ?_ e hk
  have hl := H.g.len
  rcases H.lo with h | h
  · rw [h] at hl; rw [List.eq_nil_of_length_eq_zero hl]; rfl
  · rcases k with _ | k
    · rw [List.eq_nil_of_length_eq_zero hl]; rfl
    · exact nrm_of_low R16_pos H.g.dig hl (by rw [e]; exact h)

set_option maxRecDepth 100000 in
set_option maxHeartbeats 4000000 in
theorem split_any (n : Int) (w : World) (n0 : 0 ≤ n) (n1 : n < 18446744073709551616) : Calls Tryz.prog 125 #[.int .u64 n] w (RetM w n 4) := by
  have HI0 := hid (show SpI w w n 0 (.slice none 0 0) [] n from ⟨GrI.start w, n0, Int.le_refl _, by simp [val], .inl rfl⟩)
  have HN := hid n1
  obtain ⟨i0, hi, hz0, hz1, hz2⟩ := info_parts Tryz.info3
  clear n0 n1
  go_enter Tryz.func125, Tryz.ntmps125
  go_wp2
  go_loopw [0, 3] (fun mv ov wr => ∃ k : Nat, ∃ Q m, mv = .int .u64 m ∧ SpI w wr n k ov Q m) (fun mv _ _ => (intOf mv).toNat)
  case atStart => exact ⟨0, [], n, rfl, HI0.out⟩
  case round =>
    obtain ⟨k, Q, m, rfl, H⟩ := hrel
    have m0 := H.m0
    have hk := H.few HN.out
    have m1 : m < 18446744073709551616 := Int.lt_of_le_of_lt H.m1 HN.out
    by_cases hm : 0 < m
    · have HH := hid H
      have HNx := hid (fun wx ov' hg => H.next (wx := wx) (ov' := ov') hm hg)
      have htm : m.tmod 65536 = m % 65536 := Int.tmod_eq_emod_of_nonneg m0
      clear H HI0
      go_wp2_with (at_builtin; refine wpList_append_own _ rfl _ _ 29 rfl w.heap.size 3 i0 (.int .i64 0) 1 8 Tryz.underlying29 hi hz0 hz1 hz2 rfl (by decide) _ k (Q.map (Value.int .i64)) rfl (HH.out.g.own.alloc _) ⟨wr.heap.size, 0, none⟩ 1 1 [.int .i64 (m % 65536)] rfl rfl ?c1 ?c2 ?c3 ?c4 ?c5 ?_)
      case c1 => exact fun j u hj => new_one0 j u hj
      case c2 => intro u hu; simp at hu; subst hu; rfl
      case c3 => unfold maxLen; omega
      case c4 => omega
      case c5 => have := HH.out.g.low.size; simp; omega
      intro ov' w3 hown hg _
      have HI := hid (HNx.out _ _ (HH.out.g.next _ (Int.emod_nonneg _ (by decide)) (Int.emod_lt_of_pos _ (by decide)) _ hown hg))
      clear hown hg
      go_wp2
      go_roundw
      case rel => exact ⟨k + 1, _, _, rfl, HI.out⟩
      case measure => simp [intOf]; omega
    · obtain rfl : m = 0 := by omega
      have hd := H.done HN.out
      have HD := hid hd; have HL := hid H.g.low
      clear hd H HI0 hm
      go_wp2
      go_ret
      exact ⟨_, rfl, HD.out, HL.out⟩

def RetMM (w : World) (q r : Int) (Kq Kr : Nat) (e : Ending) (w' : World) : Prop := ∃ v1 v2, e = .returned (.tuple #[v1, v2]) ∧ Md w' v1 q Kq ∧ Md w' v2 r Kr ∧ Below w.heap.size w w'

set_option maxRecDepth 100000 in
set_option maxHeartbeats 4000000 in
theorem byFew_any (va vb : Value) (a b : Int) (K : Nat) (w : World) (hA : Md w va a K) (hB : Md w vb b 3) (hb : 0 < b) (hK : K ≤ 1073741823) :
    Calls Tryz.prog 86 #[va, vb] w (RetMM w (a / b) (a % b) K 3) := by
  have hbl := hB.lt
  rw [R16_3] at hbl
  obtain ⟨ao, ca, LA, rfl, hA⟩ := hA
  obtain ⟨bo, cb, LB, rfl, hB⟩ := hB
  obtain ⟨n, hn⟩ : ∃ n, n = LA.length := ⟨_, rfl⟩
  obtain ⟨m, hm⟩ : ∃ m, m = LB.length := ⟨_, rfl⟩
  have hn30 : n ≤ 1073741823 := by have := hA.le; omega
  have hvb := fun (w' : World) (hb : Below w.heap.size w w') => rvalue_any bo cb LB w' (hB.rd.below hb (Nat.le_refl _)) hB.dig hB.le
  rw [hB.eq, ← hm] at hvb
  rw [← hn, ← hm]
  have HA := hid hA; have Hn := hid hn; have HV := hid hvb
  clear hA hn hB hm hvb
  obtain ⟨i0, hi, hz0, hz1, hz2⟩ := info_parts Tryz.info3
  go_enter Tryz.func86, Tryz.ntmps86
  go_wp2_with (at_make; refine wpList_make_row w rfl _ _ 29 rfl 3 i0 .i64 Tryz.underlying29 hi hz0 hz1 .i64 .i64 _ _ n rfl rfl rfl rfl (by rw [hz2]; omega) (by unfold maxLen; omega) ?_)
  intro w1 hrow hg1
  have hb1 := grown_below hg1
  have H0 : DivR w w1 w.heap.size LA b n [] 0 := ⟨by simpa using hrow, grown_any hg1, by simpa using Hn.out, Dig.nil _, Int.le_refl 0, hb, by rw [List.drop_of_length_le (by have := Hn.out; omega)]; simp [val]⟩
  have HG1 := hid (HA.out.rd.ne (Nat.le_refl w.heap.size))
  have HV1 := hid (HV.out w1 hb1)
  clear hrow hg1 HV
  go_wp2_with fail
  refine HV1.out.mono ?_
  rintro e w1 ⟨rfl, rfl⟩
  go_wp2
  go_loopw [8, 9] (fun rv iv wr => ∃ j : Nat, ∃ QT r, j ≤ n ∧ iv = .int .i64 ((j : Int) - 1) ∧ rv = .int .u64 r ∧ DivR w wr w.heap.size LA b j QT r ∧ Below w.heap.size w wr) (fun _ iv _ => (intOf iv + 1).toNat)
  case atStart => exact ⟨n, [], 0, Nat.le_refl _, rfl, rfl, H0, hb1⟩
  case round =>
    obtain ⟨j, QT, r, hj, rfl, rfl, H, hbl2⟩ := hrel
    cases j with
    | zero =>
      have hr : Row .i64 3 wr w.heap.size QT := by have := H.row; simpa using this
      have hl : QT.length = n := by have := H.len; have := Hn.out; omega
      have he := H.eq
      rw [List.drop_zero, HA.out.eq] at he
      have hq : a / b = val R16 QT ∧ a % b = r := (Int.ediv_emod_unique hb).2 ⟨by rw [Int.mul_comm b]; omega, H.r0, H.r1⟩
      have ht := cut_any (some ⟨w.heap.size, 0, none⟩) n QT wr (rowi_rd hr (by omega) (by omega))
      have hres := md_row (c := n) (K := K) hr H.dig hq.1.symm (by omega) (by omega) (by have := HA.out.le; have := Hn.out; omega)
      rw [hl] at ht
      have r0 := H.r0; have r1 := H.r1
      have hsp := split_any r wr r0 (by omega)
      have HT := hid ht; have Hres := hid hres; have HSp := hid hsp; have Hr := hid hq.2; have HR1 := hid (show r < R16 ^ 3 by rw [R16_3]; omega)
      clear ht hres hr hl he hq H H0 hb1 hsp r1
      go_wp2_with (first
        | (go_at_call 84; refine HT.out.mono ?_; rintro e w2 ⟨rfl, rfl⟩)
        | (go_at_call 125; refine HSp.out.mono ?_; rintro e w2 ⟨v2, rfl, hv2, hb2⟩))
      go_ret2
      exact ⟨_, _, rfl, Hres.out.below hb2 (Nat.le_refl _), by rw [Hr.out]; exact hv2.tight HR1.out, hbl2.trans (hb2.mono hbl2.size)⟩
    | succ j =>
      have hjn : j < n := by omega
      obtain ⟨bb, o, rfl⟩ := HA.out.rd.adr (by have := Hn.out; omega)
      have hc := (HA.out.rd.keptNew H.gr HG1.out).cell bb o rfl j (by have := Hn.out; omega)
      have hd := HA.out.dig.at R16_pos j
      obtain ⟨y, hy⟩ : ∃ y, y = LA[j]?.getD 0 := ⟨_, rfl⟩
      rw [← hy] at hc hd
      obtain ⟨hS, hn0, hq1⟩ := H.step hb y hy hd.1 hd.2
      have hq := H.row.cell j (by have := H.len; simp; omega)
      have hf := H.row.frozen j
      obtain ⟨u, hu⟩ : ∃ u, u = ((List.replicate (j + 1) 0 ++ QT)[j]?.getD 0 : Int) := ⟨_, rfl⟩
      rw [← hu] at hq
      have hr0 := H.r0; have hr1 := H.r1
      have hy0 := hd.1; have hy1 : y < 65536 := hd.2
      have hk0 : (0 : Int) ≤ (j : Int) := by omega
      have hnz : b ≠ 0 := by omega
      have hb0 : 0 ≤ b := by omega
      have hn1 : r * 65536 + y < 18446744073709551616 := by omega
      have hr2 : r * 65536 < 18446744073709551616 := by omega
      obtain ⟨t, ht⟩ : ∃ t, r * 65536 + y = t := ⟨_, rfl⟩
      rw [ht] at hS hn0 hq1 hn1
      have q0 : 0 ≤ t / b := Int.ediv_nonneg hn0 hb0
      have HS := hid hS
      clear hS H H0 hb1 hd hy hu
      go_wp2
      go_roundw
      case rel => exact ⟨j, _, _, by omega, by go_num, rfl, HS.out, hbl2.setCell (Nat.le_refl _) _⟩
      case measure => simp [intOf]


end Go.Proofs.YtbapeilpkhbbeaaGreatDoor
