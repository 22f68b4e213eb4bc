/- The document's own integers: double, split, byFew. The document's own integers: Sign, Neg, Add, Sub, Cmp. Written by gen_ref8.py. -/
import Derived.Test.YtbmdjimfncgomaaDa10
/- The document's own integers: double, split, byFew. -/
namespace Go.Proofs.Ytbmdjimfncgomaa
open Go.RowKit

theorem new_one0 {w : World} {T : TypeId} {y : Value} (j : Nat) (u : Value) (hj : ([y] : List Value)[j]? = some u) : (w.alloc (.cells #[y] T (0, 0))).cell? ((⟨w.heap.size, 0, none⟩ : Addr).add j) = some u := by
  match j, hj with
  | 0, hj =>
    simp at hj; subst hj
    have h : (w.alloc (.cells #[y] T (0, 0))).heap[w.heap.size]? = some (.cells #[y] T (0, 0)) := by show (w.heap.push _)[w.heap.size]? = _; simp
    exact (cell_of_row _ w.heap.size 0 _ T (0, 0) h).trans rfl
theorem R16_4 : R16 ^ 4 = 18446744073709551616 := by decide
theorem R16_3 : R16 ^ 3 = 281474976710656 := by decide
theorem R16_one : 1 < R16 := by decide
theorem pow_lt_gen {B : Int} (hB : 1 < B) {m n : Nat} (h : B ^ m < B ^ n) : m < n := by
  by_cases hmn : m < n
  · exact hmn
  · have := pow_mono (show 0 < B by omega) (show n ≤ m by omega); omega
theorem Md.lt {w : World} {v : Value} {n : Int} {K : Nat} (h : Md w v n K) : n < R16 ^ K := by
  obtain ⟨ao, c, L, rfl, h⟩ := h
  rw [← h.eq]
  exact Int.lt_of_lt_of_le (val_lt R16_pos h.dig) (pow_mono R16_pos h.le)
theorem Md.tight {w : World} {v : Value} {n : Int} {K K' : Nat} (h : Md w v n K) (hn : n < R16 ^ K') : Md w v n K' := by
  obtain ⟨ao, c, L, rfl, h⟩ := h
  refine ⟨ao, c, L, rfl, h.rd, h.dig, h.nrm, h.eq, ?_⟩
  rcases Nat.eq_zero_or_pos L.length with k | k
  · omega
  · have := h.nrm.low R16_pos h.dig k
    rw [h.eq] at this
    have := pow_lt_gen R16_one (Int.lt_of_le_of_lt this hn)
    omega
theorem val_top_gen {B : Int} {L : List Int} {k : Nat} (hl : L.length = k + 1) : val B L = val B (L.take k) + B ^ k * L[k]?.getD 0 := by
  have e := take_succ_getD L k (by omega)
  rw [List.take_of_length_le (by omega)] at e
  have h := congrArg (val B) e
  rw [h, val_snoc, List.length_take, Nat.min_eq_left (by omega)]
theorem nrm_of_low {B : Int} (hB : 0 < B) {L : List Int} {k : Nat} (hd : Dig B L) (hl : L.length = k + 1) (h : B ^ k ≤ val B L) : Nrm L := by
  have e := val_top_gen (B := B) hl
  have h1 := val_lt hB (hd.take k)
  rw [List.length_take, Nat.min_eq_left (by omega)] at h1
  have hne : L[k]?.getD 0 ≠ 0 := by intro h0; rw [h0, Int.mul_zero] at e; omega
  have e2 := take_succ_getD L k (by omega)
  rw [List.take_of_length_le (by omega)] at e2
  unfold Nrm
  rw [e2, trimL_snoc, if_neg hne]

structure DgL (w : World) (ao : Option Addr) (c : Nat) (L : List Int) (n : Int) (K : Nat) : Prop where
  rd : Rd w .i64 ao c L
  dig : Dig R16 L
  eq : val R16 L = n
  le : L.length ≤ K

structure DbI (w wr : World) (A : List Int) (bit : Int) (k : Nat) (ov : Value) (Q : List Int) (c : Int) : Prop where
  g : GrI w wr k ov Q
  c0 : 0 ≤ c
  c1 : c ≤ 1
  eq : val R16 Q + R16 ^ k * c = 2 * val R16 (A.take k) + bit
theorem DbI.next {w wr wx : World} {A Q : List Int} {bit : Int} {k : Nat} {ov ov' : Value} {c : Int} (H : DbI w wr A bit k ov Q c) (x : Int) (hx : x = A[k]?.getD 0) (hA : Dig R16 A) (hka : k < A.length)
    (hg : GrI w wx (k + 1) ov' (Q ++ [(2 * x + c) % 65536])) : DbI w wx A bit (k + 1) ov' (Q ++ [(2 * x + c) % 65536]) ((2 * x + c) / 65536) := by
  have a := hA.at R16_pos k
  rw [← hx] at a
  have c0 := H.c0; have c1 := H.c1
  unfold R16 at a
  refine ⟨hg, by omega, by omega, ?_⟩
  rw [val_snoc, H.g.len, val_take_succ R16 A k hka, ← hx, Int.pow_succ]
  have e := H.eq
  have hd : (2 * x + c) % 65536 + R16 * ((2 * x + c) / 65536) = 2 * x + c := Int.emod_add_mul_ediv (2 * x + c) 65536
  generalize (2 * x + c) % 65536 = lo at *
  generalize (2 * x + c) / 65536 = hi at *
  generalize R16 ^ k = p at *
  generalize R16 = r at *
  grind

set_option maxRecDepth 100000 in
set_option maxHeartbeats 4000000 in
theorem double_new (va : Value) (a bit : Int) (K : Nat) (w : World) (hA : Dg w va a K) (b0 : 0 ≤ bit) (b1 : bit ≤ 1) (hK : K ≤ 1073741823) :
    Calls Try.prog 60 #[va, .int .i64 bit] w (RetF w (2 * a + bit) (K + 1)) := by
  obtain ⟨ao, ca, L, rfl, hrd, hdig, heq, hle⟩ := hA
  have hA : DgL w ao ca L a K := ⟨hrd, hdig, heq, hle⟩
  clear hrd hdig heq hle
  have hLK := hA.le
  obtain ⟨n, hn⟩ : ∃ n, n = L.length := ⟨_, rfl⟩
  rw [← hn] at hLK ⊢
  have hI0 : DbI w w L bit 0 (.slice none 0 0) [] bit := ⟨GrI.start w, b0, b1, by simp [val]⟩
  have HA := hid hA; have Hn := hid hn; have HI0 := hid hI0
  clear hA hn hI0
  obtain ⟨i0, hi, hz0, hz1, hz2⟩ := info_parts Try.info3
  go_enter Try.func60, Try.ntmps60
  go_wp2
  go_loopw [5, 6, 7] (fun ov cv iv wr => ∃ k : Nat, ∃ Q c, k ≤ n ∧ iv = .int .i64 k ∧ cv = .int .i64 c ∧ DbI w wr L bit k ov Q c) (fun _ _ iv _ => n - (intOf iv).toNat)
  case atStart => exact ⟨0, [], bit, Nat.zero_le _, rfl, rfl, HI0.out⟩
  case round =>
    obtain ⟨k, Q, c, hk, rfl, rfl, H⟩ := hrel
    have c0 := H.c0; have c1 := H.c1
    by_cases hlt : k < n
    · obtain ⟨b1, o1, rfl⟩ := HA.out.rd.adr (by have := Hn.out; omega)
      have hc := (HA.out.rd.below H.g.low (Nat.le_refl _)).cell b1 o1 rfl k (by have := Hn.out; omega)
      have ha := HA.out.dig.at R16_pos k
      obtain ⟨x, hx⟩ : ∃ x, x = L[k]?.getD 0 := ⟨_, rfl⟩
      rw [← hx] at hc ha
      have HX := hid hx
      have x0 := ha.1; have x1 : x < 65536 := ha.2
      have HNx := hid (fun wx ov' hg => H.next (wx := wx) (ov' := ov') x HX.out HA.out.dig (by have := Hn.out; omega) hg)
      have HH := hid H
      have hk0 : (0 : Int) ≤ (k : Int) := by omega
      clear ha hx H HI0
      go_wp2_with (at_builtin; refine wpList_append_own _ rfl _ _ 26 rfl w.heap.size 3 i0 (.int .i64 0) 1 8 Try.underlying26 hi hz0 hz1 hz2 rfl (by decide) _ k (Q.map (Value.int .i64)) rfl (HH.out.g.own.alloc _) ⟨wr.heap.size, 0, none⟩ 1 1 [.int .i64 ((2 * x + c) % 65536)] rfl rfl ?c1 ?c2 ?c3 ?c4 ?c5 ?_)
      case c1 => exact fun j u hj => new_one0 j u hj
      case c2 => intro u hu; simp at hu; subst hu; rfl
      case c3 => unfold maxLen; omega
      case c4 => omega
      case c5 => have := HH.out.g.low.size; simp; omega
      intro ov' w3 hown hg _
      have HI := hid (HNx.out _ _ (HH.out.g.next _ (Int.emod_nonneg _ (by decide)) (Int.emod_lt_of_pos _ (by decide)) _ hown hg))
      clear hown hg
      go_wp2
      go_roundw
      case rel => exact ⟨k + 1, _, _, by omega, by go_num, rfl, HI.out⟩
      case measure => simp [intOf]; omega
    · obtain rfl : k = n := by omega
      have HH := hid H
      clear H HI0
      go_wp2_with (at_builtin; refine wpList_append_own _ rfl _ _ 26 rfl w.heap.size 3 i0 (.int .i64 0) 1 8 Try.underlying26 hi hz0 hz1 hz2 rfl (by decide) _ k (Q.map (Value.int .i64)) rfl (HH.out.g.own.alloc _) ⟨wr.heap.size, 0, none⟩ 1 1 [.int .i64 c] rfl rfl ?c1 ?c2 ?c3 ?c4 ?c5 ?_)
      case c1 => exact fun j u hj => new_one0 j u hj
      case c2 => intro u hu; simp at hu; subst hu; rfl
      case c3 => unfold maxLen; omega
      case c4 => omega
      case c5 => have := HH.out.g.low.size; simp; omega
      intro ov' w3 hown hg _
      have hG := HH.out.g.next c c0 (by omega) _ hown hg
      have e := HH.out.eq
      rw [List.take_of_length_le (by have := Hn.out; omega), HA.out.eq] at e
      have hct := hG.cut (n := 2 * a + bit) (K := K + 1) (by omega) (by rw [val_snoc, HH.out.g.len]; exact e) (by have := trimL_len (Q ++ [c]); have := hG.len; omega)
      have HC := hid hct; have HL := hid hG.low
      clear hct hG hown hg e
      go_wp2_with (go_at_call 78; refine HC.out.mono ?_; rintro e w2 ⟨v, rfl, hv, rfl⟩)
      go_ret
      exact ⟨_, rfl, hv, HL.out⟩

theorem double_dg (va : Value) (a bit : Int) (K : Nat) (w : World) (hA : Dg w va a K) (b0 : 0 ≤ bit) (b1 : bit ≤ 1) (hK : K ≤ 1073741823) :
    Calls Try.prog 60 #[va, .int .i64 bit] w (RetM w (2 * a + bit) (K + 1)) := (double_new va a bit K w hA b0 b1 hK).mono fun _ _ h => h.retM

theorem double_any (va : Value) (a bit : Int) (K : Nat) (w : World) (hA : Md w va a K) (b0 : 0 ≤ bit) (b1 : bit ≤ 1) (hK : K ≤ 1073741823) :
    Calls Try.prog 60 #[va, .int .i64 bit] w (RetM w (2 * a + bit) (K + 1)) := double_dg va a bit K w hA.dg b0 b1 hK

structure SpI (w wr : World) (n : Int) (k : Nat) (ov : Value) (Q : List Int) (m : Int) : Prop where
  g : GrI w wr k ov Q
  m0 : 0 ≤ m
  m1 : m ≤ n
  eq : val R16 Q + R16 ^ k * m = n
  lo : k = 0 ∨ R16 ^ (k - 1) ≤ n
theorem SpI.next {w wr wx : World} {n m : Int} {k : Nat} {ov ov' : Value} {Q : List Int} (H : SpI w wr n k ov Q m) (hm : 0 < m) (hg : GrI w wx (k + 1) ov' (Q ++ [m % 65536])) : SpI w wx n (k + 1) ov' (Q ++ [m % 65536]) (m / 65536) := by
  have m1 := H.m1
  have e := H.eq
  have hp : (0 : Int) < R16 ^ k := Int.pow_pos R16_pos
  have hq := val_nonneg R16_pos H.g.dig
  refine ⟨hg, by omega, by omega, ?_, .inr ?_⟩
  · rw [val_snoc, H.g.len, Int.pow_succ]
    have hd : m % 65536 + R16 * (m / 65536) = m := Int.emod_add_mul_ediv m 65536
    generalize m % 65536 = lo at *
    generalize m / 65536 = hi at *
    generalize R16 ^ k = p at *
    generalize R16 = r at *
    grind
  · have : R16 ^ k * 1 ≤ R16 ^ k * m := Int.mul_le_mul_of_nonneg_left (by omega) (Int.le_of_lt hp)
    rw [Nat.add_sub_cancel]; omega
theorem SpI.few {w wr : World} {n m : Int} {k : Nat} {ov : Value} {Q : List Int} (H : SpI w wr n k ov Q m) (hn : n < 18446744073709551616) : k ≤ 4 := by
  rcases H.lo with h | h
  · omega
  · have h4 : R16 ^ (k - 1) < R16 ^ 4 := Int.lt_of_le_of_lt h (by rw [R16_4]; exact hn)
    have := pow_lt_gen R16_one h4; omega
theorem SpI.done {w wr : World} {n : Int} {k : Nat} {ov : Value} {Q : List Int} (H : SpI w wr n k ov Q 0) (hn : n < 18446744073709551616) : Md wr ov n 4 := by
  have hk := H.few hn
  have e := H.eq
  rw [Int.mul_zero, Int.add_zero] at e
  refine H.g.md (by omega) ?_ e hk
  have hl := H.g.len
  rcases H.lo with h | h
  · rw [h] at hl; rw [List.eq_nil_of_length_eq_zero hl]; rfl
  · rcases k with _ | k
    · rw [List.eq_nil_of_length_eq_zero hl]; rfl
    · exact nrm_of_low R16_pos H.g.dig hl (by rw [e]; exact h)

set_option maxRecDepth 100000 in
set_option maxHeartbeats 4000000 in
theorem split_any (n : Int) (w : World) (n0 : 0 ≤ n) (n1 : n < 18446744073709551616) : Calls Try.prog 91 #[.int .u64 n] w (RetM w n 4) := by
  have HI0 := hid (show SpI w w n 0 (.slice none 0 0) [] n from ⟨GrI.start w, n0, Int.le_refl _, by simp [val], .inl rfl⟩)
  have HN := hid n1
  obtain ⟨i0, hi, hz0, hz1, hz2⟩ := info_parts Try.info3
  clear n0 n1
  go_enter Try.func91, Try.ntmps91
  go_wp2
  go_loopw [0, 3] (fun mv ov wr => ∃ k : Nat, ∃ Q m, mv = .int .u64 m ∧ SpI w wr n k ov Q m) (fun mv _ _ => (intOf mv).toNat)
  case atStart => exact ⟨0, [], n, rfl, HI0.out⟩
  case round =>
    obtain ⟨k, Q, m, rfl, H⟩ := hrel
    have m0 := H.m0
    have hk := H.few HN.out
    have m1 : m < 18446744073709551616 := Int.lt_of_le_of_lt H.m1 HN.out
    by_cases hm : 0 < m
    · have HH := hid H
      have HNx := hid (fun wx ov' hg => H.next (wx := wx) (ov' := ov') hm hg)
      have htm : m.tmod 65536 = m % 65536 := Int.tmod_eq_emod_of_nonneg m0
      clear H HI0
      go_wp2_with (at_builtin; refine wpList_append_own _ rfl _ _ 26 rfl w.heap.size 3 i0 (.int .i64 0) 1 8 Try.underlying26 hi hz0 hz1 hz2 rfl (by decide) _ k (Q.map (Value.int .i64)) rfl (HH.out.g.own.alloc _) ⟨wr.heap.size, 0, none⟩ 1 1 [.int .i64 (m % 65536)] rfl rfl ?c1 ?c2 ?c3 ?c4 ?c5 ?_)
      case c1 => exact fun j u hj => new_one0 j u hj
      case c2 => intro u hu; simp at hu; subst hu; rfl
      case c3 => unfold maxLen; omega
      case c4 => omega
      case c5 => have := HH.out.g.low.size; simp; omega
      intro ov' w3 hown hg _
      have HI := hid (HNx.out _ _ (HH.out.g.next _ (Int.emod_nonneg _ (by decide)) (Int.emod_lt_of_pos _ (by decide)) _ hown hg))
      clear hown hg
      go_wp2
      go_roundw
      case rel => exact ⟨k + 1, _, _, rfl, HI.out⟩
      case measure => simp [intOf]; omega
    · obtain rfl : m = 0 := by omega
      have hd := H.done HN.out
      have HD := hid hd; have HL := hid H.g.low
      clear hd H HI0 hm
      go_wp2
      go_ret
      exact ⟨_, rfl, HD.out, HL.out⟩

def RetMM (w : World) (q r : Int) (Kq Kr : Nat) (e : Ending) (w' : World) : Prop := ∃ v1 v2, e = .returned (.tuple #[v1, v2]) ∧ Md w' v1 q Kq ∧ Md w' v2 r Kr ∧ Below w.heap.size w w'

set_option maxRecDepth 100000 in
set_option maxHeartbeats 4000000 in
theorem byFew_any (va vb : Value) (a b : Int) (K : Nat) (w : World) (hA : Md w va a K) (hB : Md w vb b 3) (hb : 0 < b) (hK : K ≤ 1073741823) :
    Calls Try.prog 57 #[va, vb] w (RetMM w (a / b) (a % b) K 3) := by
  have hbl := hB.lt
  rw [R16_3] at hbl
  obtain ⟨ao, ca, LA, rfl, hA⟩ := hA
  obtain ⟨bo, cb, LB, rfl, hB⟩ := hB
  obtain ⟨n, hn⟩ : ∃ n, n = LA.length := ⟨_, rfl⟩
  obtain ⟨m, hm⟩ : ∃ m, m = LB.length := ⟨_, rfl⟩
  have hn30 : n ≤ 1073741823 := by have := hA.le; omega
  have hvb := fun (w' : World) (hb : Below w.heap.size w w') => rvalue_any bo cb LB w' (hB.rd.below hb (Nat.le_refl _)) hB.dig hB.le
  rw [hB.eq, ← hm] at hvb
  rw [← hn, ← hm]
  have HA := hid hA; have Hn := hid hn; have HV := hid hvb
  clear hA hn hB hm hvb
  obtain ⟨i0, hi, hz0, hz1, hz2⟩ := info_parts Try.info3
  go_enter Try.func57, Try.ntmps57
  go_wp2_with (at_make; refine wpList_make_row w rfl _ _ 26 rfl 3 i0 .i64 Try.underlying26 hi hz0 hz1 .i64 .i64 _ _ n rfl rfl rfl rfl (by rw [hz2]; omega) (by unfold maxLen; omega) ?_)
  intro w1 hrow hg1
  have hb1 := grown_below hg1
  have H0 : DivR w w1 w.heap.size LA b n [] 0 := ⟨by simpa using hrow, grown_any hg1, by simpa using Hn.out, Dig.nil _, Int.le_refl 0, hb, by rw [List.drop_of_length_le (by have := Hn.out; omega)]; simp [val]⟩
  have HG1 := hid (HA.out.rd.ne (Nat.le_refl w.heap.size))
  have HV1 := hid (HV.out w1 hb1)
  clear hrow hg1 HV
  go_wp2_with fail
  refine HV1.out.mono ?_
  rintro e w1 ⟨rfl, rfl⟩
  go_wp2
  go_loopw [8, 9] (fun rv iv wr => ∃ j : Nat, ∃ QT r, j ≤ n ∧ iv = .int .i64 ((j : Int) - 1) ∧ rv = .int .u64 r ∧ DivR w wr w.heap.size LA b j QT r ∧ Below w.heap.size w wr) (fun _ iv _ => (intOf iv + 1).toNat)
  case atStart => exact ⟨n, [], 0, Nat.le_refl _, rfl, rfl, H0, hb1⟩
  case round =>
    obtain ⟨j, QT, r, hj, rfl, rfl, H, hbl2⟩ := hrel
    cases j with
    | zero =>
      have hr : Row .i64 3 wr w.heap.size QT := by have := H.row; simpa using this
      have hl : QT.length = n := by have := H.len; have := Hn.out; omega
      have he := H.eq
      rw [List.drop_zero, HA.out.eq] at he
      have hq : a / b = val R16 QT ∧ a % b = r := (Int.ediv_emod_unique hb).2 ⟨by rw [Int.mul_comm b]; omega, H.r0, H.r1⟩
      have ht := cut_any (some ⟨w.heap.size, 0, none⟩) n QT wr (rowi_rd hr (by omega) (by omega))
      have hres := md_row (c := n) (K := K) hr H.dig hq.1.symm (by omega) (by omega) (by have := HA.out.le; have := Hn.out; omega)
      rw [hl] at ht
      have r0 := H.r0; have r1 := H.r1
      have hsp := split_any r wr r0 (by omega)
      have HT := hid ht; have Hres := hid hres; have HSp := hid hsp; have Hr := hid hq.2; have HR1 := hid (show r < R16 ^ 3 by rw [R16_3]; omega)
      clear ht hres hr hl he hq H H0 hb1 hsp r1
      go_wp2_with (first
        | (go_at_call 78; refine HT.out.mono ?_; rintro e w2 ⟨rfl, rfl⟩)
        | (go_at_call 91; refine HSp.out.mono ?_; rintro e w2 ⟨v2, rfl, hv2, hb2⟩))
      go_ret2
      exact ⟨_, _, rfl, Hres.out.below hb2 (Nat.le_refl _), by rw [Hr.out]; exact hv2.tight HR1.out, hbl2.trans (hb2.mono hbl2.size)⟩
    | succ j =>
      have hjn : j < n := by omega
      obtain ⟨bb, o, rfl⟩ := HA.out.rd.adr (by have := Hn.out; omega)
      have hc := (HA.out.rd.keptNew H.gr HG1.out).cell bb o rfl j (by have := Hn.out; omega)
      have hd := HA.out.dig.at R16_pos j
      obtain ⟨y, hy⟩ : ∃ y, y = LA[j]?.getD 0 := ⟨_, rfl⟩
      rw [← hy] at hc hd
      obtain ⟨hS, hn0, hq1⟩ := H.step hb y hy hd.1 hd.2
      have hq := H.row.cell j (by have := H.len; simp; omega)
      have hf := H.row.frozen j
      obtain ⟨u, hu⟩ : ∃ u, u = ((List.replicate (j + 1) 0 ++ QT)[j]?.getD 0 : Int) := ⟨_, rfl⟩
      rw [← hu] at hq
      have hr0 := H.r0; have hr1 := H.r1
      have hy0 := hd.1; have hy1 : y < 65536 := hd.2
      have hk0 : (0 : Int) ≤ (j : Int) := by omega
      have hnz : b ≠ 0 := by omega
      have hb0 : 0 ≤ b := by omega
      have hn1 : r * 65536 + y < 18446744073709551616 := by omega
      have hr2 : r * 65536 < 18446744073709551616 := by omega
      obtain ⟨t, ht⟩ : ∃ t, r * 65536 + y = t := ⟨_, rfl⟩
      rw [ht] at hS hn0 hq1 hn1
      have q0 : 0 ≤ t / b := Int.ediv_nonneg hn0 hb0
      have HS := hid hS
      clear hS H H0 hb1 hd hy hu
      go_wp2
      go_roundw
      case rel => exact ⟨j, _, _, by omega, by go_num, rfl, HS.out, hbl2.setCell (Nat.le_refl _) _⟩
      case measure => simp [intOf]


end Go.Proofs.Ytbmdjimfncgomaa

/- The document's own integers: Sign, Neg, Add, Sub, Cmp. Written by gen_ref8.py. -/
namespace Go.Proofs.Ytbmdjimfncgomaa
open Go.RowKit

theorem RetO.dg {w : World} {n : Int} {K K' : Nat} {e : Ending} {w' : World} (h : RetO w n K e w') (hK : K ≤ K') : ∃ v, e = .returned v ∧ Dg w' v n K' ∧ Below w.heap.size w w' := by
  obtain ⟨v, Q, rfl, ho, hl, hd, hv, hb⟩ := h
  refine ⟨v, rfl, ?_, hb⟩
  rcases ho.2 with ⟨rfl, h0⟩ | ⟨g, cap, cur, rfl, hg, hh, hn, hcm, hs, ht⟩
  · subst h0
    obtain rfl : Q = [] := List.eq_nil_of_length_eq_zero hl
    exact ⟨none, 0, [], rfl, Rd.nil _ _, hd, hv, by simp⟩
  · subst hl
    exact ⟨_, cap, Q, rfl, owns_rd ho hcm, hd, hv, hK⟩
theorem le_of_either {a b : Int} (h : a ≤ b ∨ a < b) : a ≤ b := by omega
theorem sum_md (va vb : Value) (a b : Int) (K : Nat) (w : World) (hA : Md w va a K) (hB : Md w vb b K) (hK : K ≤ 1073741824) :
    Calls Try.prog 52 #[va, vb] w fun e w' => ∃ v, e = .returned v ∧ Dg w' v (a + b) (K + 1) ∧ Below w.heap.size w w' := by
  obtain ⟨ao, ca, L, rfl, hA⟩ := hA
  obtain ⟨bo, cb, M, rfl, hB⟩ := hB
  have h1 := hA.le; have h2 := hB.le
  refine (sum_any ao bo ca cb (max L.length M.length) L M w hA.rd hB.rd hA.dig hB.dig rfl (by omega)).mono ?_
  intro e w' h
  rw [hA.eq, hB.eq] at h
  exact h.dg (by omega)
theorem order_md (va vb : Value) (a b : Int) (Ka Kb : Nat) (w : World) (hA : Md w va a Ka) (hB : Md w vb b Kb) :
    Calls Try.prog 53 #[va, vb] w fun e w' => e = .returned (.int .i64 (cmpI a b)) ∧ w' = w := by
  obtain ⟨ao, ca, L, rfl, hA⟩ := hA
  obtain ⟨bo, cb, M, rfl, hB⟩ := hB
  have h := order_any ao bo ca cb L M w hA.rd hB.rd hA.dig hB.dig
  rw [hA.eq, hB.eq] at h
  exact h

set_option maxRecDepth 100000 in
set_option maxHeartbeats 2000000 in
theorem rsign_any (v : Value) (z : Int) (K : Nat) (w : World) (h : Zt w v z K) :
    Calls Try.prog 22 #[v] w fun e w' => e = .returned (.int .i64 (cmpI z 0)) ∧ Below w.heap.size w w' := by
  obtain ⟨s, rfl, ao, c, L, rfl, h⟩ := h
  have hz := h.zero_iff
  have hb0 : Below w.heap.size w (w.alloc (.cells #[.bool (decide (z < 0)), .slice ao L.length c] 28)) := (Below.refl _ _).alloc (Nat.le_refl _) _
  obtain ⟨m, hm⟩ : ∃ m, m = L.length := ⟨_, rfl⟩
  rw [← hm] at hz hb0 ⊢
  have HB := hid hb0
  clear h hb0 hm
  rcases Int.lt_trichotomy z 0 with hlt | heq | hgt
  · rw [cmpI_lt hlt]
    rw [decide_eq_true hlt] at HB ⊢
    clear hz hlt
    go_enter Try.func22, Try.ntmps22
    go_wp2
    go_ret
    exact ⟨rfl, HB.out⟩
  · subst heq
    obtain rfl : m = 0 := hz.2 (by simp)
    rw [cmpI_self]
    rw [decide_eq_false (by omega)] at HB ⊢
    clear hz
    go_enter Try.func22, Try.ntmps22
    go_wp2
    go_ret
    exact ⟨rfl, HB.out⟩
  · have hm1 : 0 < m := by
      rcases Nat.eq_zero_or_pos m with h | h
      · have := hz.1 h; omega
      · exact h
    rw [cmpI_gt hgt]
    rw [decide_eq_false (by omega)] at HB ⊢
    clear hz hgt
    by_cases h1 : m = 1
    · subst h1
      go_enter Try.func22, Try.ntmps22
      go_wp2
      go_ret
      exact ⟨rfl, HB.out⟩
    · have h2 : (1 : Int) < (m : Int) := by omega
      have h3 : min (m : Int) 1 = 1 := by omega
      go_enter Try.func22, Try.ntmps22
      go_wp2
      all_goals (go_ret; exact ⟨by first | rfl | (congr 1; omega), HB.out⟩)

set_option maxRecDepth 100000 in
set_option maxHeartbeats 4000000 in
theorem rneg_any (u : Value) (x : Int) (K : Nat) (w : World) (hu : Zt w u x K) :
    Calls Try.prog 14 #[u] w (RetZ w (-x) K) := by
  obtain ⟨xb, xo, xm, xc, rfl, Hx, Hxs, Hxb⟩ := Zt.opened hu
  go_enter Try.func14, Try.ntmps14
  go_wp2_with fail
  obtain ⟨W0, hW0⟩ : ∃ W0, W0 = ((w.alloc (.cells #[.bool xb, .slice xo xm xc] 28)).alloc (.cells #[.bool false, .slice none 0 0] 28)) := ⟨_, rfl⟩
  have hB0 : Below w.heap.size w W0 := by rw [hW0]; exact ((Below.refl _ _).alloc (by simp <;> omega) _).alloc (by simp <;> omega) _
  have hz0 : W0.heap.size = w.heap.size + 2 := by rw [hW0]; simp
  have _HS : Hid (∀ w', Below (w.heap.size + 1) W0 w' → w'.cell? ⟨w.heap.size, 0, none⟩ = some (.bool xb) ∧ w'.cell? ⟨w.heap.size, 1, none⟩ = some (.slice xo xm xc)) := hid (fun w' hb => by
    refine ⟨?_, ?_⟩ <;> (first | (rw [hb.cell (by simp <;> omega), hW0]; simp [go_sem]; done) | (rw [hb.frozen (by simp <;> omega), hW0]; simp [go_sem]; done)))
  have HT : Hid (∀ w', Below (w.heap.size + 2) W0 w' → w'.cell? ⟨w.heap.size + 1, 0, none⟩ = some (.bool false) ∧ w'.cell? ⟨w.heap.size + 1, 1, none⟩ = some (.slice none 0 0) ∧ w'.frozen? ⟨w.heap.size + 1, 0, none⟩ = false ∧ w'.frozen? ⟨w.heap.size + 1, 1, none⟩ = false) := hid (fun w' hb => by
    refine ⟨?_, ?_, ?_, ?_⟩ <;> (first | (rw [hb.cell (by simp <;> omega), hW0]; simp [go_sem]; done) | (rw [hb.frozen (by simp <;> omega), hW0]; simp [go_sem]; done)))
  rw [← hW0]
  clear hW0
  refine (made_any (!xb) _ _ K _ (Hxs.out _ hB0).dg).mono ?_
  rintro e w1 ⟨_, rfl, hv1, hb1⟩
  obtain ⟨b1, o1, m1, c1, rfl, H1, H1s, H1b⟩ := Zt.opened hv1
  have hB1 : Below (w.heap.size + 2) W0 w1 := hb1.mono (by omega)
  obtain ⟨hr0, hr1, hr2, hr3⟩ := HT.out _ hB1
  go_wp2
  have hbel : Below w.heap.size w w1 := hB0.trans (hB1.mono (by omega))
  refine bodyPost_ret (v := .agg #[.bool b1, .slice o1 m1 c1]) (by simp [results, Try.results14, go_sem, hr0, hr1]) rfl ⟨_, rfl, ?_, (hbel.setCell (by simp <;> omega) _).setCell (by simp <;> omega) _⟩
  have e : sgn (!xb) (x.natAbs : Int) = -x := by rw [Hxb.out]; unfold sgn; by_cases hz : x < 0 <;> simp [hz] <;> omega
  rw [← e]
  exact ((H1.out _ (Below.refl _ _)).set hr0 (fun x h => (by cases h)) _).set (u := .slice none 0 0) (by simp [go_sem, hr1]) (fun x h => (by cases h)) _

set_option maxRecDepth 100000 in
set_option maxHeartbeats 4000000 in
theorem radd_same (u v : Value) (x y : Int) (K : Nat) (w : World) (hu : Zt w u x K) (hv : Zt w v y K) (hK : K ≤ 1073741823) (hs : decide (x < 0) = decide (y < 0)) :
    Calls Try.prog 15 #[u, v] w (RetZ w (x + y) (K + 1)) := by
  obtain ⟨xb, xo, xm, xc, rfl, Hx, Hxs, Hxb⟩ := Zt.opened hu
  obtain ⟨yb, yo, ym, yc, rfl, Hy, Hys, Hyb⟩ := Zt.opened hv
  have hb : yb = xb := by rw [Hxb.out, Hyb.out, hs]
  subst hb
  have Hs := hid hs
  clear hs hu hv
  go_enter Try.func15, Try.ntmps15
  go_wp2
  obtain ⟨W0, hW0⟩ : ∃ W0, W0 = (((w.alloc (.cells #[.bool yb, .slice xo xm xc] 28)).alloc (.cells #[.bool yb, .slice yo ym yc] 28)).alloc (.cells #[.bool false, .slice none 0 0] 28)) := ⟨_, rfl⟩
  have hB0 : Below w.heap.size w W0 := by rw [hW0]; exact (((Below.refl _ _).alloc (by simp <;> omega) _).alloc (by simp <;> omega) _).alloc (by simp <;> omega) _
  have hz0 : W0.heap.size = w.heap.size + 3 := by rw [hW0]; simp
  have HS : Hid (∀ w', Below (w.heap.size + 2) W0 w' → w'.cell? ⟨w.heap.size, 0, none⟩ = some (.bool yb) ∧ w'.cell? ⟨w.heap.size, 1, none⟩ = some (.slice xo xm xc) ∧ w'.cell? ⟨w.heap.size + 1, 0, none⟩ = some (.bool yb) ∧ w'.cell? ⟨w.heap.size + 1, 1, none⟩ = some (.slice yo ym yc)) := hid (fun w' hb => by
    refine ⟨?_, ?_, ?_, ?_⟩ <;> (first | (rw [hb.cell (by simp <;> omega), hW0]; simp [go_sem]; done) | (rw [hb.frozen (by simp <;> omega), hW0]; simp [go_sem]; done)))
  have HT : Hid (∀ w', Below (w.heap.size + 3) W0 w' → w'.cell? ⟨w.heap.size + 2, 0, none⟩ = some (.bool false) ∧ w'.cell? ⟨w.heap.size + 2, 1, none⟩ = some (.slice none 0 0) ∧ w'.frozen? ⟨w.heap.size + 2, 0, none⟩ = false ∧ w'.frozen? ⟨w.heap.size + 2, 1, none⟩ = false) := hid (fun w' hb => by
    refine ⟨?_, ?_, ?_, ?_⟩ <;> (first | (rw [hb.cell (by simp <;> omega), hW0]; simp [go_sem]; done) | (rw [hb.frozen (by simp <;> omega), hW0]; simp [go_sem]; done)))
  rw [← hW0]
  clear hW0
  go_region_held3 (fun w' => w'.cell? ⟨w.heap.size, 0, none⟩ = some (.bool yb) ∧ w'.cell? ⟨w.heap.size, 1, none⟩ = some (.slice xo xm xc) ∧ w'.cell? ⟨w.heap.size + 1, 0, none⟩ = some (.bool yb) ∧ w'.cell? ⟨w.heap.size + 1, 1, none⟩ = some (.slice yo ym yc)) ((refine HS.out _ ?_; first | assumption | exact Below.refl _ _ | exact (Below.refl _ _).drew | exact ((hB2.mono (Nat.le_succ _)).setCell (Nat.le_refl _) _).setCell (Nat.le_refl _) _)) (first
    | (go_at_call 52; refine (sum_md _ _ _ _ K _ (Hxs.out _ hB0.drew) (Hys.out _ hB0.drew) (by omega)).mono ?_; rintro e w1 ⟨_, rfl, hv1, hb1⟩; obtain ⟨o1, m1, c1, rfl, H1⟩ := Dg.opened hv1; have hB1 : Below (w.heap.size + 3) W0 w1 := ((Below.refl _ _).drew).trans (hb1.mono (by simp; omega)); have hB1s := hB1.mono (Nat.le_succ _))
    | (go_at_call 44; refine (made_any yb _ _ _ _ (H1.out _ (Below.refl _ _))).mono ?_; rintro e w2 ⟨_, rfl, hv2, hb2⟩; obtain ⟨b2, o2, m2, c2, rfl, H2, H2s, H2b⟩ := Zt.opened hv2; have hB2 : Below (w.heap.size + 3) W0 w2 := hB1.trans (hb2.mono (by have := hB1.size; omega)); have hB2s := hB2.mono (Nat.le_succ _); obtain ⟨hr0, hr1, hr2, hr3⟩ := HT.out _ hB2))
  go_wp2
  have hbel : Below w.heap.size w w2 := hB0.trans (hB2.mono (by omega))
  refine bodyPost_ret (v := .agg #[.bool b2, .slice o2 m2 c2]) (by simp [results, Try.results15, go_sem, hr0, hr1]) rfl ⟨_, rfl, ?_, (hbel.setCell (by simp <;> omega) _).setCell (by simp <;> omega) _⟩
  have e : sgn yb ((x.natAbs : Int) + (y.natAbs : Int)) = x + y := by rw [Hyb.out]; have := Hs.out; unfold sgn; by_cases h : y < 0 <;> simp [h] at this ⊢ <;> omega
  rw [← e]
  exact ((H2.out _ (Below.refl _ _)).set hr0 (fun x h => (by cases h)) _).set (u := .slice none 0 0) (by simp [go_sem, hr1]) (fun x h => (by cases h)) _

set_option maxRecDepth 100000 in
set_option maxHeartbeats 4000000 in
theorem radd_ge (u v : Value) (x y : Int) (K : Nat) (w : World) (hu : Zt w u x K) (hv : Zt w v y K) (hK : K ≤ 1073741823) (hs : decide (x < 0) ≠ decide (y < 0)) (hab : (y.natAbs : Int) ≤ (x.natAbs : Int)) :
    Calls Try.prog 15 #[u, v] w (RetZ w (x + y) (K + 1)) := by
  obtain ⟨xb, xo, xm, xc, rfl, Hx, Hxs, Hxb⟩ := Zt.opened hu
  obtain ⟨yb, yo, ym, yc, rfl, Hy, Hys, Hyb⟩ := Zt.opened hv
  have hb : (xb == yb) = false := by rw [beq_eq_false_iff_ne, Hxb.out, Hyb.out]; exact hs
  have hb' : ¬ xb = yb := by simpa using hb
  have Hs := hid hs; have Hab := hid (show (y.natAbs : Int) ≤ (x.natAbs : Int) ∨ (y.natAbs : Int) < (x.natAbs : Int) from by first | exact Or.inl hab | exact Or.inr hab)
  have hcv : 0 ≤ cmpI (x.natAbs : Int) (y.natAbs : Int) := by unfold cmpI; (repeat split) <;> omega
  obtain ⟨cv, hcve⟩ : ∃ cv, cmpI (x.natAbs : Int) (y.natAbs : Int) = cv := ⟨_, rfl⟩
  rw [hcve] at hcv
  have Hcv := hid hcve
  clear hs hab hu hv hcve
  go_enter Try.func15, Try.ntmps15
  go_wp2_with fail
  obtain ⟨W0, hW0⟩ : ∃ W0, W0 = (((w.alloc (.cells #[.bool xb, .slice xo xm xc] 28)).alloc (.cells #[.bool yb, .slice yo ym yc] 28)).alloc (.cells #[.bool false, .slice none 0 0] 28)) := ⟨_, rfl⟩
  have hB0 : Below w.heap.size w W0 := by rw [hW0]; exact (((Below.refl _ _).alloc (by simp <;> omega) _).alloc (by simp <;> omega) _).alloc (by simp <;> omega) _
  have hz0 : W0.heap.size = w.heap.size + 3 := by rw [hW0]; simp
  have HS : Hid (∀ w', Below (w.heap.size + 2) W0 w' → w'.cell? ⟨w.heap.size, 0, none⟩ = some (.bool xb) ∧ w'.cell? ⟨w.heap.size, 1, none⟩ = some (.slice xo xm xc) ∧ w'.cell? ⟨w.heap.size + 1, 0, none⟩ = some (.bool yb) ∧ w'.cell? ⟨w.heap.size + 1, 1, none⟩ = some (.slice yo ym yc)) := hid (fun w' hb => by
    refine ⟨?_, ?_, ?_, ?_⟩ <;> (first | (rw [hb.cell (by simp <;> omega), hW0]; simp [go_sem]; done) | (rw [hb.frozen (by simp <;> omega), hW0]; simp [go_sem]; done)))
  have HT : Hid (∀ w', Below (w.heap.size + 3) W0 w' → w'.cell? ⟨w.heap.size + 2, 0, none⟩ = some (.bool false) ∧ w'.cell? ⟨w.heap.size + 2, 1, none⟩ = some (.slice none 0 0) ∧ w'.frozen? ⟨w.heap.size + 2, 0, none⟩ = false ∧ w'.frozen? ⟨w.heap.size + 2, 1, none⟩ = false) := hid (fun w' hb => by
    refine ⟨?_, ?_, ?_, ?_⟩ <;> (first | (rw [hb.cell (by simp <;> omega), hW0]; simp [go_sem]; done) | (rw [hb.frozen (by simp <;> omega), hW0]; simp [go_sem]; done)))
  rw [← hW0]
  clear hW0
  refine (order_md _ _ _ _ K K _ (Hxs.out _ hB0) (Hys.out _ hB0)).mono ?_
  rintro e w0 ⟨rfl, hw0⟩
  obtain rfl : W0 = w0 := hw0.symm
  rw [Hcv.out]
  have hB0w := hB0
  go_wp2
  go_region_held3 (fun w' => w'.cell? ⟨w.heap.size, 0, none⟩ = some (.bool xb) ∧ w'.cell? ⟨w.heap.size, 1, none⟩ = some (.slice xo xm xc) ∧ w'.cell? ⟨w.heap.size + 1, 0, none⟩ = some (.bool yb) ∧ w'.cell? ⟨w.heap.size + 1, 1, none⟩ = some (.slice yo ym yc)) ((refine HS.out _ ?_; first | assumption | exact Below.refl _ _ | exact (Below.refl _ _).drew | exact ((hB2.mono (Nat.le_succ _)).setCell (Nat.le_refl _) _).setCell (Nat.le_refl _) _)) (first
    | (go_at_call 54; refine (less_any _ _ _ _ K K _ (Hxs.out _ hB0.drew) (Hys.out _ hB0.drew) (le_of_either Hab.out) (Nat.le_succ_of_le hK)).mono ?_; rintro e w1 ⟨_, rfl, hv1, hb1⟩; obtain ⟨o1, m1, c1, rfl, H1⟩ := Md.opened hv1; have hB1 : Below (w.heap.size + 3) W0 w1 := ((Below.refl _ _).drew).trans (hb1.mono (by simp; omega)); have hB1s := hB1.mono (Nat.le_succ _))
    | (go_at_call 44; refine (made_any xb _ _ _ _ (H1.out _ (Below.refl _ _)).dg).mono ?_; rintro e w2 ⟨_, rfl, hv2, hb2⟩; obtain ⟨b2, o2, m2, c2, rfl, H2, H2s, H2b⟩ := Zt.opened hv2; have hB2 : Below (w.heap.size + 3) W0 w2 := hB1.trans (hb2.mono (by have := hB1.size; omega)); have hB2s := hB2.mono (Nat.le_succ _); obtain ⟨hr0, hr1, hr2, hr3⟩ := HT.out _ hB2))
  go_wp2
  have hbel : Below w.heap.size w w2 := hB0.trans (hB2.mono (by omega))
  refine bodyPost_ret (v := .agg #[.bool b2, .slice o2 m2 c2]) (by simp [results, Try.results15, go_sem, hr0, hr1]) rfl ⟨_, rfl, ?_, (hbel.setCell (by simp <;> omega) _).setCell (by simp <;> omega) _⟩
  have e : sgn xb ((x.natAbs : Int) - (y.natAbs : Int)) = x + y := by rw [Hxb.out]; have := Hs.out; unfold sgn; by_cases h : x < 0 <;> by_cases h2 : y < 0 <;> simp [h, h2] at this ⊢ <;> omega
  rw [← e]
  exact Zt.mono (((H2.out _ (Below.refl _ _)).set hr0 (fun x h => (by cases h)) _).set (u := .slice none 0 0) (by simp [go_sem, hr1]) (fun x h => (by cases h)) _) (Nat.le_succ _)

set_option maxRecDepth 100000 in
set_option maxHeartbeats 4000000 in
theorem radd_lt (u v : Value) (x y : Int) (K : Nat) (w : World) (hu : Zt w u x K) (hv : Zt w v y K) (hK : K ≤ 1073741823) (hs : decide (x < 0) ≠ decide (y < 0)) (hab : (x.natAbs : Int) < (y.natAbs : Int)) :
    Calls Try.prog 15 #[u, v] w (RetZ w (x + y) (K + 1)) := by
  obtain ⟨xb, xo, xm, xc, rfl, Hx, Hxs, Hxb⟩ := Zt.opened hu
  obtain ⟨yb, yo, ym, yc, rfl, Hy, Hys, Hyb⟩ := Zt.opened hv
  have hb : (xb == yb) = false := by rw [beq_eq_false_iff_ne, Hxb.out, Hyb.out]; exact hs
  have hb' : ¬ xb = yb := by simpa using hb
  have Hs := hid hs; have Hab := hid (show (x.natAbs : Int) ≤ (y.natAbs : Int) ∨ (x.natAbs : Int) < (y.natAbs : Int) from by first | exact Or.inl hab | exact Or.inr hab)
  have hcv : ¬ 0 ≤ cmpI (x.natAbs : Int) (y.natAbs : Int) := by unfold cmpI; (repeat split) <;> omega
  obtain ⟨cv, hcve⟩ : ∃ cv, cmpI (x.natAbs : Int) (y.natAbs : Int) = cv := ⟨_, rfl⟩
  rw [hcve] at hcv
  have Hcv := hid hcve
  clear hs hab hu hv hcve
  go_enter Try.func15, Try.ntmps15
  go_wp2_with fail
  obtain ⟨W0, hW0⟩ : ∃ W0, W0 = (((w.alloc (.cells #[.bool xb, .slice xo xm xc] 28)).alloc (.cells #[.bool yb, .slice yo ym yc] 28)).alloc (.cells #[.bool false, .slice none 0 0] 28)) := ⟨_, rfl⟩
  have hB0 : Below w.heap.size w W0 := by rw [hW0]; exact (((Below.refl _ _).alloc (by simp <;> omega) _).alloc (by simp <;> omega) _).alloc (by simp <;> omega) _
  have hz0 : W0.heap.size = w.heap.size + 3 := by rw [hW0]; simp
  have HS : Hid (∀ w', Below (w.heap.size + 2) W0 w' → w'.cell? ⟨w.heap.size, 0, none⟩ = some (.bool xb) ∧ w'.cell? ⟨w.heap.size, 1, none⟩ = some (.slice xo xm xc) ∧ w'.cell? ⟨w.heap.size + 1, 0, none⟩ = some (.bool yb) ∧ w'.cell? ⟨w.heap.size + 1, 1, none⟩ = some (.slice yo ym yc)) := hid (fun w' hb => by
    refine ⟨?_, ?_, ?_, ?_⟩ <;> (first | (rw [hb.cell (by simp <;> omega), hW0]; simp [go_sem]; done) | (rw [hb.frozen (by simp <;> omega), hW0]; simp [go_sem]; done)))
  have HT : Hid (∀ w', Below (w.heap.size + 3) W0 w' → w'.cell? ⟨w.heap.size + 2, 0, none⟩ = some (.bool false) ∧ w'.cell? ⟨w.heap.size + 2, 1, none⟩ = some (.slice none 0 0) ∧ w'.frozen? ⟨w.heap.size + 2, 0, none⟩ = false ∧ w'.frozen? ⟨w.heap.size + 2, 1, none⟩ = false) := hid (fun w' hb => by
    refine ⟨?_, ?_, ?_, ?_⟩ <;> (first | (rw [hb.cell (by simp <;> omega), hW0]; simp [go_sem]; done) | (rw [hb.frozen (by simp <;> omega), hW0]; simp [go_sem]; done)))
  rw [← hW0]
  clear hW0
  refine (order_md _ _ _ _ K K _ (Hxs.out _ hB0) (Hys.out _ hB0)).mono ?_
  rintro e w0 ⟨rfl, hw0⟩
  obtain rfl : W0 = w0 := hw0.symm
  rw [Hcv.out]
  have hB0w := hB0
  go_wp2
  go_region_held3 (fun w' => w'.cell? ⟨w.heap.size, 0, none⟩ = some (.bool xb) ∧ w'.cell? ⟨w.heap.size, 1, none⟩ = some (.slice xo xm xc) ∧ w'.cell? ⟨w.heap.size + 1, 0, none⟩ = some (.bool yb) ∧ w'.cell? ⟨w.heap.size + 1, 1, none⟩ = some (.slice yo ym yc)) ((refine HS.out _ ?_; first | assumption | exact Below.refl _ _ | exact (Below.refl _ _).drew | exact ((hB2.mono (Nat.le_succ _)).setCell (Nat.le_refl _) _).setCell (Nat.le_refl _) _)) (first
    | (go_at_call 54; refine (less_any _ _ _ _ K K _ (Hys.out _ hB0.drew) (Hxs.out _ hB0.drew) (le_of_either Hab.out) (Nat.le_succ_of_le hK)).mono ?_; rintro e w1 ⟨_, rfl, hv1, hb1⟩; obtain ⟨o1, m1, c1, rfl, H1⟩ := Md.opened hv1; have hB1 : Below (w.heap.size + 3) W0 w1 := ((Below.refl _ _).drew).trans (hb1.mono (by simp; omega)); have hB1s := hB1.mono (Nat.le_succ _))
    | (go_at_call 44; refine (made_any yb _ _ _ _ (H1.out _ (Below.refl _ _)).dg).mono ?_; rintro e w2 ⟨_, rfl, hv2, hb2⟩; obtain ⟨b2, o2, m2, c2, rfl, H2, H2s, H2b⟩ := Zt.opened hv2; have hB2 : Below (w.heap.size + 3) W0 w2 := hB1.trans (hb2.mono (by have := hB1.size; omega)); have hB2s := hB2.mono (Nat.le_succ _); obtain ⟨hr0, hr1, hr2, hr3⟩ := HT.out _ hB2))
  go_wp2
  have hbel : Below w.heap.size w w2 := hB0.trans (hB2.mono (by omega))
  refine bodyPost_ret (v := .agg #[.bool b2, .slice o2 m2 c2]) (by simp [results, Try.results15, go_sem, hr0, hr1]) rfl ⟨_, rfl, ?_, (hbel.setCell (by simp <;> omega) _).setCell (by simp <;> omega) _⟩
  have e : sgn yb ((y.natAbs : Int) - (x.natAbs : Int)) = x + y := by rw [Hyb.out]; have := Hs.out; unfold sgn; by_cases h : y < 0 <;> by_cases h2 : x < 0 <;> simp [h, h2] at this ⊢ <;> omega
  rw [← e]
  exact Zt.mono (((H2.out _ (Below.refl _ _)).set hr0 (fun x h => (by cases h)) _).set (u := .slice none 0 0) (by simp [go_sem, hr1]) (fun x h => (by cases h)) _) (Nat.le_succ _)

theorem radd_any (u v : Value) (x y : Int) (K : Nat) (w : World) (hu : Zt w u x K) (hv : Zt w v y K) (hK : K ≤ 1073741823) :
    Calls Try.prog 15 #[u, v] w (RetZ w (x + y) (K + 1)) := by
  by_cases hs : decide (x < 0) = decide (y < 0)
  · exact radd_same u v x y K w hu hv hK hs
  · by_cases hab : (y.natAbs : Int) ≤ (x.natAbs : Int)
    · exact radd_ge u v x y K w hu hv hK hs hab
    · exact radd_lt u v x y K w hu hv hK hs (by omega)

set_option maxRecDepth 100000 in
set_option maxHeartbeats 4000000 in
theorem rsub_any (u v : Value) (x y : Int) (K : Nat) (w : World) (hu : Zt w u x K) (hv : Zt w v y K) (hK : K ≤ 1073741823) :
    Calls Try.prog 16 #[u, v] w (RetZ w (x - y) (K + 1)) := by
  obtain ⟨xb, xo, xm, xc, rfl, Hx, Hxs, Hxb⟩ := Zt.opened hu
  obtain ⟨yb, yo, ym, yc, rfl, Hy, Hys, Hyb⟩ := Zt.opened hv
  go_enter Try.func16, Try.ntmps16
  go_wp2
  obtain ⟨W0, hW0⟩ : ∃ W0, W0 = (((w.alloc (.cells #[.bool xb, .slice xo xm xc] 28)).alloc (.cells #[.bool yb, .slice yo ym yc] 28)).alloc (.cells #[.bool false, .slice none 0 0] 28)) := ⟨_, rfl⟩
  have hB0 : Below w.heap.size w W0 := by rw [hW0]; exact (((Below.refl _ _).alloc (by simp <;> omega) _).alloc (by simp <;> omega) _).alloc (by simp <;> omega) _
  have hz0 : W0.heap.size = w.heap.size + 3 := by rw [hW0]; simp
  have HS : Hid (∀ w', Below (w.heap.size + 2) W0 w' → w'.cell? ⟨w.heap.size, 0, none⟩ = some (.bool xb) ∧ w'.cell? ⟨w.heap.size, 1, none⟩ = some (.slice xo xm xc) ∧ w'.cell? ⟨w.heap.size + 1, 0, none⟩ = some (.bool yb) ∧ w'.cell? ⟨w.heap.size + 1, 1, none⟩ = some (.slice yo ym yc)) := hid (fun w' hb => by
    refine ⟨?_, ?_, ?_, ?_⟩ <;> (first | (rw [hb.cell (by simp <;> omega), hW0]; simp [go_sem]; done) | (rw [hb.frozen (by simp <;> omega), hW0]; simp [go_sem]; done)))
  have HT : Hid (∀ w', Below (w.heap.size + 3) W0 w' → w'.cell? ⟨w.heap.size + 2, 0, none⟩ = some (.bool false) ∧ w'.cell? ⟨w.heap.size + 2, 1, none⟩ = some (.slice none 0 0) ∧ w'.frozen? ⟨w.heap.size + 2, 0, none⟩ = false ∧ w'.frozen? ⟨w.heap.size + 2, 1, none⟩ = false) := hid (fun w' hb => by
    refine ⟨?_, ?_, ?_, ?_⟩ <;> (first | (rw [hb.cell (by simp <;> omega), hW0]; simp [go_sem]; done) | (rw [hb.frozen (by simp <;> omega), hW0]; simp [go_sem]; done)))
  rw [← hW0]
  clear hW0
  go_region_held3 (fun w' => w'.cell? ⟨w.heap.size, 0, none⟩ = some (.bool xb) ∧ w'.cell? ⟨w.heap.size, 1, none⟩ = some (.slice xo xm xc) ∧ w'.cell? ⟨w.heap.size + 1, 0, none⟩ = some (.bool yb) ∧ w'.cell? ⟨w.heap.size + 1, 1, none⟩ = some (.slice yo ym yc)) ((refine HS.out _ ?_; first | assumption | exact Below.refl _ _ | exact (Below.refl _ _).drew | exact ((hB2.mono (Nat.le_succ _)).setCell (Nat.le_refl _) _).setCell (Nat.le_refl _) _)) (first
    | (go_at_call 14; refine (rneg_any _ y K _ (Hy.out _ hB0.drew)).mono ?_; rintro e w1 ⟨_, rfl, hv1, hb1⟩; obtain ⟨b1, o1, m1, c1, rfl, H1, H1s, H1b⟩ := Zt.opened hv1; have hB1 : Below (w.heap.size + 3) W0 w1 := ((Below.refl _ _).drew).trans (hb1.mono (by simp; omega)); have hB1s := hB1.mono (Nat.le_succ _))
    | (go_at_call 15; refine (radd_any _ _ x (-y) K _ (Hx.out _ (hB0.trans (hB1.mono (by omega)))) (H1.out _ (Below.refl _ _)) hK).mono ?_; rintro e w2 ⟨_, rfl, hv2, hb2⟩; obtain ⟨b2, o2, m2, c2, rfl, H2, H2s, H2b⟩ := Zt.opened hv2; have hB2 : Below (w.heap.size + 3) W0 w2 := hB1.trans (hb2.mono (by have := hB1.size; omega)); have hB2s := hB2.mono (Nat.le_succ _); obtain ⟨hr0, hr1, hr2, hr3⟩ := HT.out _ hB2))
  go_wp2
  have hbel : Below w.heap.size w w2 := hB0.trans (hB2.mono (by omega))
  refine bodyPost_ret (v := .agg #[.bool b2, .slice o2 m2 c2]) (by simp [results, Try.results16, go_sem, hr0, hr1]) rfl ⟨_, rfl, ?_, (hbel.setCell (by simp <;> omega) _).setCell (by simp <;> omega) _⟩
  rw [Int.sub_eq_add_neg]
  exact ((H2.out _ (Below.refl _ _)).set hr0 (fun x h => (by cases h)) _).set (u := .slice none 0 0) (by simp [go_sem, hr1]) (fun x h => (by cases h)) _

set_option maxRecDepth 100000 in
set_option maxHeartbeats 4000000 in
theorem rcmp_any (u v : Value) (x y : Int) (K : Nat) (w : World) (hu : Zt w u x K) (hv : Zt w v y K) (hK : K ≤ 1073741823) :
    Calls Try.prog 24 #[u, v] w fun e w' => e = .returned (.int .i64 (cmpI x y)) ∧ Below w.heap.size w w' := by
  obtain ⟨xb, xo, xm, xc, rfl, Hx, Hxs, Hxb⟩ := Zt.opened hu
  obtain ⟨yb, yo, ym, yc, rfl, Hy, Hys, Hyb⟩ := Zt.opened hv
  have e : cmpI (x - y) 0 = cmpI x y := by unfold cmpI; (repeat split) <;> omega
  have hb : Below w.heap.size w ((w.alloc (.cells #[.bool xb, .slice xo xm xc] 28)).alloc (.cells #[.bool yb, .slice yo ym yc] 28)) := ((Below.refl _ _).alloc (Nat.le_refl _) _).alloc (by simp) _
  have HS := hid (rsub_any _ _ x y K _ (Hx.out _ hb) (Hy.out _ hb) hK)
  have HB := hid hb; have HE := hid e
  clear hb e
  go_enter Try.func24, Try.ntmps24
  go_wp2_with fail
  refine HS.out.mono ?_
  rintro e w1 ⟨_, rfl, hv1, hb1⟩
  obtain ⟨b1, o1, m1, c1, rfl, H1, H1s, H1b⟩ := Zt.opened hv1
  have Hb1 := hid hb1
  clear hb1 hv1
  go_wp2_with fail
  refine (rsign_any _ (x - y) _ _ (H1.out _ ((Below.refl _ _).alloc (Nat.le_refl _) _))).mono ?_
  rintro e w2 ⟨rfl, hb2⟩
  rw [HE.out]
  have h1 := HB.out.trans (Hb1.out.mono HB.out.size)
  have h2 := h1.alloc h1.size (.cells #[.bool b1, .slice o1 m1 c1] 28)
  have HF := hid (h2.trans (hb2.mono h2.size))
  clear h1 h2 hb2
  go_wp2
  go_ret
  exact ⟨rfl, HF.out⟩

end Go.Proofs.Ytbmdjimfncgomaa
