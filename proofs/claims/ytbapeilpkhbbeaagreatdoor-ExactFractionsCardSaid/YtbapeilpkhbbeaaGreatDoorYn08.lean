/- exact.divide: its walk. exact.isOne, bitLength, gcdLimb. -/
import Derived.Test.YtbapeilpkhbbeaaGreatDoorYn07
/- exact.divide: its walk. -/
namespace Go.Proofs.YtbapeilpkhbbeaaGreatDoor
open Go.RowKit

/-- The call hands back a quotient and a rest, and has turned nothing that was there. -/
def RetQR (w : World) (q r : Int) (Kq Kr : Nat) (e : Ending) (w' : World) : Prop := ∃ v1 v2, e = .returned (.tuple #[v1, v2]) ∧ Nt w' v1 q Kq ∧ Nt w' v2 r Kr ∧ Below w.heap.size w w'

set_option maxRecDepth 100000 in
set_option maxHeartbeats 4000000 in
theorem divide_limb (va : Value) (bo : Option Addr) (bc : Nat) (y : Int) (a : Int) (K Kb : Nat) (w : World) (hA : Nt w va a K) (hB : NtL w bo bc [y] y Kb) (hK : K ≤ 1073741824) (hy : 0 < y) :
    Calls Tryz.prog 115 #[va, .slice bo 1 bc] w (RetQR w (a / y) (a % y) K 1) := by
  obtain ⟨b, o, rfl⟩ := hB.rd.adr (by simp)
  have hc := hB.rd.cell b o rfl 0 (by simp)
  have y1 := (hB.dig.at B64_pos 0).2
  simp at hc y1
  obtain ⟨r, hr⟩ : ∃ r, r = a % y := ⟨_, rfl⟩
  have r0 : 0 ≤ r := by rw [hr]; exact Int.emod_nonneg _ (by omega)
  have r1 : r < B64 := by rw [hr]; exact Int.lt_trans (Int.emod_lt_of_pos _ hy) y1
  have hd := divideLimb_any va a y K w hA hK hy y1
  rw [← hr] at hd ⊢
  have HD := hid hd; have R1 := hid r1; have Y1 := hid y1
  clear hd hr hA hB r1 y1
  go_enter Tryz.func115, Tryz.ntmps115
  go_wp2_with (first
    | (go_at_call 107; refine HD.out.mono ?_; rintro e w1 ⟨v1, rfl, hv1, hb1⟩)
    | (go_at_call 119; refine (fromLimb_any r _ r0 R1.out).mono ?_; rintro e w2 ⟨v2, rfl, hv2, hb2⟩))
  go_ret2
  exact ⟨_, _, rfl, hv1.below hb2 (Nat.le_refl _), hv2, hb1.trans (hb2.mono hb1.size)⟩

set_option maxRecDepth 100000 in
set_option maxHeartbeats 4000000 in
theorem divide_less (va : Value) (bo : Option Addr) (bc : Nat) (LB : List Int) (a b : Int) (K Kb : Nat) (w : World) (hA : Nt w va a K) (hB : NtL w bo bc LB b Kb) (hl : LB.length ≠ 1) (hab : a < b) :
    Calls Tryz.prog 115 #[va, .slice bo LB.length bc] w (RetQR w 0 a 0 K) := by
  have hc := compare_any va (.slice bo LB.length bc) a b K Kb w hA ⟨bo, bc, LB, rfl, hB⟩
  rw [cmpI_lt hab] at hc
  obtain ⟨n, hn⟩ : ∃ n, n = LB.length := ⟨_, rfl⟩
  rw [← hn] at hl hc ⊢
  have hl' : ¬ (n : Int) = 1 := by omega
  have HC := hid hc; have HA := hid hA
  clear hc hA hB hn
  go_enter Tryz.func115, Tryz.ntmps115
  go_wp2_with (go_at_call 99; refine HC.out.mono ?_; rintro e w1 ⟨nq, rfl, rfl⟩)
  go_ret2
  have hb : Below w.heap.size w (w.drewN nq) := below_drewN (Below.refl _ _) nq
  exact ⟨_, _, rfl, Nt.nil _, HA.out.below hb (Nat.le_refl _), hb⟩

/-- The same, the rest in new memory. -/
def RetQO (w : World) (q r : Int) (Kq Kr : Nat) (e : Ending) (w' : World) : Prop := ∃ v1 v2, e = .returned (.tuple #[v1, v2]) ∧ Nt w' v1 q Kq ∧ OwnV w' w.heap.size v2 r Kr ∧ Below w.heap.size w w'
theorem OwnV.tight {w : World} {B : Nat} {v : Value} {n : Int} {K K' : Nat} (h : OwnV w B v n K) (hn : n < B64 ^ K') : OwnV w B v n K' := by
  rcases h with ⟨g, c, L, S, rfl, h, hK⟩ | h
  · refine .inl ⟨g, c, L, S, rfl, h, ?_⟩
    obtain ⟨_, _, _, e, h'⟩ := (h.nt hK).tight hn
    obtain ⟨_, e2, _⟩ := Value.slice.inj e
    rw [e2]; exact h'.le
  · exact .inr h

theorem Nt.open_top {w : World} {v : Value} {n : Int} {K k : Nat} (h : Nt w v n K) (h0 : B64 ^ k ≤ n) (h1 : n < B64 ^ (k + 1)) : ∃ b o c L, v = .slice (some ⟨b, o, none⟩) (k + 1) c ∧ NtL w (some ⟨b, o, none⟩) c L n K ∧ L.length = k + 1 := by
  obtain ⟨ao, c, L, rfl, h⟩ := h
  have hl := len_of h.dig h.nrm (k := k) (by rw [h.eq]; exact h0) (by rw [h.eq]; exact h1)
  obtain ⟨b, o, rfl⟩ := h.rd.adr (by omega)
  exact ⟨b, o, c, L, by rw [hl], h, hl⟩

theorem DvN.start {a b p : Int} {t m ls : Nat} {LS : List Int} (hd : Dig B64 LS) (hv : val B64 LS = a * p) (hle : LS.length ≤ t + m + 2) (hp : 0 < p) (hlt : a < B64 ^ t * b) (hls : ls = LS.length := by rfl) :
    DvN (a * p) (b * p) t [] (LS ++ List.replicate (t + m + 2 - ls) (0 : Int)) ∧ (LS ++ List.replicate (t + m + 2 - ls) (0 : Int)).length = t + m + 1 + 1 := by
  subst hls
  have hvR : val B64 (LS ++ List.replicate (t + m + 2 - LS.length) (0 : Int)) = a * p := by rw [val_append, val_replicate, hv]; simp
  refine ⟨⟨Dig.nil _, hd.append (Dig.replicate B64_pos _), by rw [hvR]; simp [val], ?_⟩, by simp; omega⟩
  rw [hvR, ← Int.mul_assoc]
  exact Int.mul_lt_mul_of_pos_right hlt hp

/-- What holds when j limbs of the quotient are still to come. -/
structure DvI (w wr : World) (gw gq b2 o2 dc : Nat) (LD : List Int) (V D : Int) (n T j : Nat) (QT R : List Int) : Prop where
  num : DvN V D j QT R
  lenQ : j + QT.length = T
  lenR : R.length = n + 1
  work : Row .u64 63 wr gw R
  quo : Row .u64 63 wr gq (List.replicate j 0 ++ QT)
  div : Rd wr .u64 (some ⟨b2, o2, none⟩) dc LD
  low : Below w.heap.size w wr

theorem split4 (R : List Int) (j m : Nat) (h : j + (m + 3) ≤ R.length) : ∃ P A h S, R = P ++ (A ++ [h]) ++ S ∧ P.length = j ∧ A.length = m + 2 := by
  refine ⟨R.take j, (R.drop j).take (m + 2), (R.drop j)[m + 2]?.getD 0, (R.drop j).drop (m + 3), ?_, by rw [List.length_take]; omega, by rw [List.length_take, List.length_drop]; omega⟩
  rw [← take_succ_getD (R.drop j) (m + 2) (by rw [List.length_drop]; omega), List.append_assoc, List.take_append_drop, List.take_append_drop]

theorem DvI.step {w wr w' : World} {gw gq b2 o2 dc : Nat} {LD : List Int} {V D : Int} {n T j m : Nat} {QT P A S A1 : List Int} {h h1 : Int} (H : DvI w wr gw gq b2 o2 dc LD V D n T (j + 1) QT (P ++ (A ++ [h]) ++ S)) (hD : D < B64 ^ (m + 2)) (hD0 : 0 < D) (hP : P.length = j) (hA : A.length = m + 2)
    (hI : StepI wr w' gw P S (val B64 (A ++ [h])) D (m + 2) (val B64 (A ++ [h]) / D) A1 h1 false) (hv : val B64 (A1 ++ [h1]) = val B64 (A ++ [h]) % D) (n1 : gq ≠ gw) (n2 : b2 ≠ gw) (n3 : b2 ≠ gq) (s1 : w.heap.size ≤ gw) (s2 : w.heap.size ≤ gq) :
    DvI w (w'.setCell ⟨gq, j, none⟩ (.int .u64 (val B64 (A ++ [h]) / D))) gw gq b2 o2 dc LD V D n T j (val B64 (A ++ [h]) / D :: QT) (P ++ (A1 ++ [h1]) ++ S) := by
  have hl1 : (A1 ++ [h1]).length = m + 3 := by simp [hI.num.len]
  have hN := H.num.step hD hD0 hP (show (A ++ [h]).length = m + 3 by simp [hA]) hl1 (hI.num.dig.append (Dig.cons hI.num.h0 hI.num.h1 (Dig.nil _))) hv
  have hq := (H.quo.kept hI.gr (by simp [n1])).set j (val B64 (A ++ [h]) / D)
  rw [List.replicate_succ', List.append_assoc, List.set_append_right _ _ (by simp), List.length_replicate, Nat.sub_self] at hq
  refine ⟨hN, by have := H.lenQ; simp; omega, ?_, ?_, hq, ?_, (H.low.grown hI.gr H.low.size (fun i e => by cases e; exact s1)).setCell s2 _⟩
  · have := H.lenR; have := hI.num.len; simp at *; omega
  · have hr : Row .u64 63 w' gw (P ++ (A1 ++ [h1]) ++ S) := by have := hI.row; simpa using this
    exact hr.kept (grown_set _ _ _ _) (by simp; exact fun e => n1 e.symm)
  · exact (H.div.kept hI.gr (fun _ b o e => by cases e; simpa using n2)).kept (grown_set _ _ _ _) (fun _ b o e => by cases e; simpa using n3)

set_option maxRecDepth 100000 in
set_option maxHeartbeats 8000000 in
theorem divide_long (ao bo : Option Addr) (ca bc m : Nat) (LA LB : List Int) (a b : Int) (K Kb : Nat) (w : World) (hA : NtL w ao ca LA a K) (hB : NtL w bo bc LB b Kb) (hl : LB.length = m + 2) (hab : b ≤ a) (hK : K ≤ 1073741823) :
    Calls Tryz.prog 115 #[.slice ao LA.length ca, .slice bo LB.length bc] w (RetQO w (a / b) (a % b) K Kb) := by
  have lo := hB.nrm.low B64_pos hB.dig (by omega)
  rw [hl, hB.eq] at lo
  have hi := val_lt B64_pos hA.dig
  rw [hA.eq] at hi
  have hmn : m + 1 < LA.length := pow_lt_inv B64_one (Int.lt_of_le_of_lt lo (Int.lt_of_le_of_lt hab hi))
  obtain ⟨t, ht⟩ : ∃ t, LA.length = t + m + 1 := ⟨LA.length - m - 1, by omega⟩
  have ht1 : 1 ≤ t := by omega
  have hb0 : 0 < b := Int.lt_of_lt_of_le (Int.pow_pos B64_pos) lo
  have hlt : a < B64 ^ t * b := by
    have := Int.mul_le_mul_of_nonneg_left lo (Int.le_of_lt (Int.pow_pos (m := t) B64_pos))
    rw [← Int.pow_add] at this
    rw [ht] at hi
    exact Int.lt_of_lt_of_le hi (by rw [show t + m + 1 = t + (m + 2 - 1) by omega]; exact this)
  have hcap := hA.le
  have hcp := compare_any (.slice ao LA.length ca) (.slice bo LB.length bc) a b K Kb w ⟨ao, ca, LA, rfl, hA⟩ ⟨bo, bc, LB, rfl, hB⟩
  obtain ⟨cv, hcv⟩ : ∃ cv, cv = cmpI a b := ⟨_, rfl⟩
  have hcv0 : ¬ cv < 0 := by rw [hcv]; unfold cmpI; rw [if_neg (by omega)]; split <;> omega
  rw [← hcv] at hcp
  obtain ⟨b1, o1, rfl⟩ := hB.rd.adr (by omega)
  have htopc := hB.rd.cell b1 o1 rfl (m + 1) (by omega)
  have htop := hB.dig.at B64_pos (m + 1)
  have htop0 := hB.nrm.top hl
  have hshift := fun (s : Nat) (hs : s ≤ 63) (h : LB[m + 1]?.getD 0 * 2 ^ s < B64) => top_shift hB.dig hB.nrm hl hs h
  rw [hB.eq] at hshift
  obtain ⟨y, hy⟩ : ∃ y, y = LB[m + 1]?.getD 0 := ⟨_, rfl⟩
  rw [← hy] at htopc htop htop0 hshift
  have hlz := fun w => lz64 y (by omega) htop.2 w
  have hNa : Nt w (.slice ao LA.length ca) a LA.length := ⟨ao, ca, LA, rfl, hA.rd, hA.dig, hA.nrm, hA.eq, Nat.le_refl _⟩
  have hNb : Nt w (.slice (some ⟨b1, o1, none⟩) (m + 2) bc) b (m + 2) := ⟨_, bc, LB, by rw [hl], hB.rd, hB.dig, hB.nrm, hB.eq, by omega⟩
  have hbK : b < B64 ^ Kb := Nt.lt ⟨_, bc, LB, rfl, hB⟩
  have hcapB := hB.rd.cap
  rw [hl] at hcp hcapB ⊢
  rw [ht] at hcp hNa hcap ⊢
  have Hcp := hid hcp; have Hlz := hid hlz; have HNa := hid hNa; have HNb := hid hNb; have Hsh := hid hshift; have HbK := hid hbK; have Hlt := hid hlt; have Hb0 := hid hb0
  clear hcp hlz hNa hNb hshift hbK hlt hb0 hA hB lo hi htop0 hy htop ht hcv hmn hl hab
  obtain ⟨i0, hi, hz0, hz1, hz2⟩ := info_parts Tryz.info63
  go_enter Tryz.func115, Tryz.ntmps115
  go_wp2_with (go_at_call 99; refine Hcp.out.mono ?_; rintro e w1 ⟨nq, rfl, rfl⟩)
  refine (Hlz.out _).mono ?_
  rintro e wz ⟨s, rfl, hs63, _, hs2, rfl⟩
  have hbe := below_drewN (Below.refl w.heap.size w) nq
  have hsh := Hsh.out s hs63 hs2
  have hpow : (0 : Int) < 2 ^ s := Int.pow_pos (by decide)
  have hD1 := hid (shiftLeft_any _ b s (m + 2) (w.drewN nq) (HNb.out.below hbe (Nat.le_refl _)) (by omega) (by omega))
  have Hs2 := hid hsh
  have Hpow := hid hpow
  clear hs2 hsh hpow
  go_wp2_with fail
  refine hD1.out.mono ?_
  rintro e w1 ⟨vd, rfl, hvd, hb1⟩
  obtain ⟨b2, o2, dc, LD, rfl, HLD, hlD⟩ := hvd.open_top Hs2.out.1 Hs2.out.2
  have hbe1 := hbe.trans (hb1.mono hbe.size)
  have hb2lt := HLD.rd.ne (Nat.le_refl w1.heap.size)
  have HLD' := hid HLD; have HlD := hid hlD; have Hbe1 := hid hbe1; have Hb2 := hid hb2lt
  clear HLD hlD hvd hbe1 hb1 hbe hb2lt
  go_wp2_with (at_make; refine wpList_make_row w1 rfl _ _ 54 rfl 63 i0 .u64 Tryz.underlying54 hi hz0 hz1 .i64 .i64 _ _ (t + m + 2) rfl rfl (by omega) (by omega) (by rw [hz2]; omega) (by unfold maxLen; omega) ?_)
  intro w2 hrow2 hg2
  have hb2 := grown_below hg2
  have hbe2 := Hbe1.out.trans (hb2.mono Hbe1.out.size)
  have hD2 := hid (shiftLeft_any _ a s (t + m + 1) w2 (HNa.out.below hbe2 (Nat.le_refl _)) (by omega) (by omega))
  have Hbe2 := hid hbe2; have Hrow2 := hid hrow2; have Hb12 := hid hb2
  clear hrow2 hg2 hb2 hbe2
  go_wp2_with fail
  refine hD2.out.mono ?_
  rintro e w3 ⟨_, rfl, ⟨so, sc, LS, rfl, HLS⟩, hb3⟩
  have hst := DvN.start (t := t) HLS.dig HLS.eq (show LS.length ≤ t + m + 2 by have := HLS.le; omega) Hpow.out Hlt.out
  have hrow3 := Hrow2.out.kept (below_grown hb3) (by simp)
  have hbe3 := Hbe2.out.trans (hb3.mono Hbe2.out.size)
  have hsz3 : w1.heap.size < w3.heap.size := hrow3.lt
  have hrd3 := (HLD'.out.rd.below Hb12.out (Nat.le_refl _)).below hb3 (Nat.le_refl _)
  obtain ⟨ls, hls⟩ : ∃ ls, ls = LS.length := ⟨_, rfl⟩
  have hls2 : ls ≤ t + m + 2 := by have := HLS.le; omega
  rw [← hls] at hst ⊢
  have Hst := hid hst; have Hrow3 := hid hrow3; have Hbe3 := hid hbe3; have Hrd3 := hid hrd3; have HLSr := hid HLS.rd; have Hls := hid hls; have Hsz3 := hid hsz3
  clear hst hrow3 hbe3 hrd3 HLS hls hb3 hsz3
  go_wp2_with ((with_reducible refine wpList_copy_row rfl _ _ _ _ rfl 63 Tryz.underlying54 Tryz.size63 .u64 63 w1.heap.size [] (List.replicate (t + m + 2) 0) [] LS 0 (t + m + 2) ls (t + m + 2) so sc rfl rfl rfl (by simp) Hls.out (by simpa using Hrow3.out) HLSr.out (by have := Hls.out; simp; omega) ?_))
  intro w4 hrow4 hg4
  have hbe4 := Hbe3.out.grown hg4 Hbe3.out.size (fun i e => by cases e; exact Hbe1.out.size)
  have hrd4 := Hrd3.out.kept hg4 (fun h b o e => by have := Hb2.out h b o e; simp [this])
  have hsz4 : w1.heap.size < w4.heap.size := hrow4.lt
  obtain ⟨R0, hR0⟩ : ∃ R0, R0 = LS ++ List.replicate (t + m + 2 - ls) (0 : Int) := ⟨_, rfl⟩
  rw [← Hls.out, ← hR0] at hrow4
  have hst := Hst.out
  rw [← hR0] at hst
  have Hst' := hid hst; have Hrow4 := hid hrow4; have Hbe4 := hid hbe4; have Hrd4 := hid hrd4; have Hsz4 := hid hsz4
  clear hst hrow4 hbe4 hrd4 hg4 hR0 hsz4
  go_wp2_with (at_make; refine wpList_make_row w4 rfl _ _ 54 rfl 63 i0 .u64 Tryz.underlying54 hi hz0 hz1 .i64 .i64 _ _ t rfl rfl (by omega) (by omega) (by rw [hz2]; omega) (by unfold maxLen; omega) ?_)
  intro w5 hrow5 hg5
  have hbe5 := Hbe4.out.trans ((grown_below hg5).mono Hbe4.out.size)
  have n3 : b2 ≠ w4.heap.size := Rd.ne Hrd4.out (Nat.le_refl _) (by have := HlD.out; omega) _ _ rfl
  have n2 : b2 ≠ w1.heap.size := Hb2.out (by have := HlD.out; omega) _ _ rfl
  have n1 : w4.heap.size ≠ w1.heap.size := by have := Hsz4.out; omega
  have HI0 : DvI w w5 w1.heap.size w4.heap.size b2 o2 dc LD (a * 2 ^ s) (b * 2 ^ s) (t + m + 1) t t [] R0 :=
    ⟨Hst'.out.1, by simp, Hst'.out.2, Hrow4.out.kept hg5 (by simp), by simpa using hrow5, Hrd4.out.kept hg5 (by simp), hbe5⟩
  have s1 : w.heap.size ≤ w1.heap.size := Hbe1.out.size
  have s2 : w.heap.size ≤ w4.heap.size := Hbe4.out.size
  obtain ⟨V, hV⟩ : ∃ V, V = a * 2 ^ s := ⟨_, rfl⟩
  obtain ⟨D, hD⟩ : ∃ D, D = b * 2 ^ s := ⟨_, rfl⟩
  have hD2 := Hs2.out
  rw [← hV, ← hD] at HI0; rw [← hD] at hD2
  have hvD := HLD'.out.eq
  rw [← hD] at hvD
  have hD0 : 0 < D := by rw [hD]; exact Int.mul_pos Hb0.out Hpow.out
  have HI := hid HI0; have HV := hid hV; have HDD := hid hD; have HvD := hid hvD; have HD0 := hid hD0; have HD2' := hid hD2
  obtain ⟨gw, hgw⟩ : ∃ gw, gw = w1.heap.size := ⟨_, rfl⟩
  obtain ⟨gq, hgq⟩ : ∃ gq, gq = w4.heap.size := ⟨_, rfl⟩
  rw [← hgw, ← hgq] at HI
  rw [← hgw] at n2 s1
  rw [← hgq] at n3 s2
  rw [← hgw, ← hgq] at n1
  have N1 := hid n1; have N2 := hid n2; have N3 := hid n3; have S1 := hid s1; have S2 := hid s2
  rw [← hgw, ← hgq]
  clear hgw hgq n1 n2 n3 s1 s2 HI0 hV hD hD2 hvD hD0 hrow5 hg5 hbe5
  go_wp2
  go_loopw [11] (fun iv wr => ∃ j : Nat, ∃ QT R, j ≤ t ∧ iv = .int .i64 ((j : Int) - 1) ∧ DvI w wr gw gq b2 o2 dc LD V D (t + m + 1) t j QT R) (fun iv _ => (intOf iv + 1).toNat)
  case atStart => exact ⟨t, [], R0, Nat.le_refl _, rfl, HI.out⟩
  case round =>
    obtain ⟨j, QT, R, hj, rfl, H⟩ := hrel
    cases j with
    | zero =>
      have hd := H.num.done HD0.out
      rw [HV.out, HDD.out] at hd
      obtain ⟨e1, e2⟩ := shift_div (a := a) (s := s) Hb0.out
      rw [e1] at hd
      have hlQ : QT.length = t := by have := H.lenQ; omega
      have hq : Row .u64 63 wr gq QT := by have := H.quo; simpa using this
      have ht1 := trim64_any (some ⟨gq, 0, none⟩) t QT wr (row_rd hq (by omega) (by omega))
      have ht2 := trim64_any (some ⟨gw, 0, none⟩) (t + m + 2) R wr (row_rd H.work (by have := H.lenR; omega) (by omega))
      have hn1 := nt_row (c := t) (K := K) hq H.num.digQ hd.1 (by omega) (by omega) (by omega)
      have hn2 := nt_row (c := t + m + 2) (K := t + m + 2) H.work H.num.digR hd.2 (by have := H.lenR; omega) (by omega) (by have := H.lenR; omega)
      have hsr := shiftRight_own _ _ s (t + m + 2) wr hn2 (by omega) (by omega)
      rw [e2] at hsr
      rw [hlQ] at ht1
      rw [H.lenR] at ht2
      have hlow := hid H.low
      have hrest : a % b < B64 ^ Kb := Int.lt_trans (Int.emod_lt_of_pos _ Hb0.out) HbK.out
      have HT1 := hid ht1; have HT2 := hid ht2; have HN1 := hid hn1; have HSR := hid hsr; have HRe := hid hrest
      clear hd e1 e2 hlQ hq ht1 ht2 hn1 hn2 hsr hrest H
      go_wp2_with fail
      refine HT1.out.mono ?_
      rintro e w2 ⟨rfl, rfl⟩
      go_wp2_with fail
      refine HT2.out.mono ?_
      rintro e w2 ⟨rfl, rfl⟩
      go_wp2_with fail
      refine HSR.out.mono ?_
      rintro e w2 ⟨v2, rfl, hv2, hb2⟩
      go_wp2
      go_ret2
      exact ⟨_, _, rfl, HN1.out.below hb2 (Nat.le_refl _), (hv2.base_le hlow.out.size).tight HRe.out, hlow.out.trans (hb2.mono hlow.out.size)⟩
    | succ j =>
      obtain ⟨P, A, h, S, rfl, hP, hA⟩ := split4 R j m (by have := H.lenR; omega)
      have hparts := H.num.parts (m := m) HD2'.out.2 hP (by simp [hA])
      have hc := divideStep_any gw P A S LD h (t + m + 2 - j) dc b2 o2 m wr (by have := H.work; simpa using this) (fun x hx => H.num.digR x (by simp at hx ⊢; rcases hx with h | h <;> simp [h])) HLD'.out.dig hA HlD.out (by omega) (by omega) H.div
        (by have a := HLD'.out.nrm.top HlD.out; have b := (HLD'.out.dig.at B64_pos (m + 1)).1; omega) (by rw [HvD.out]; exact hparts.1) N2.out
      rw [HvD.out, hP, show m + 3 = j + (m + 1 + 1) + 1 - j by omega] at hc
      have hst := fun (w' : World) (A1 : List Int) (h1 : Int) hI hv => H.step (w' := w') (A1 := A1) (h1 := h1) HD2'.out.2 HD0.out hP hA hI hv N1.out N2.out N3.out S1.out S2.out
      obtain ⟨qv, hqv⟩ : ∃ qv, qv = val B64 (A ++ [h]) / D := ⟨_, rfl⟩
      rw [← hqv] at hc hst
      have hcell : ∀ w' : World, wr.grownBy w' (some gw) → ∃ u, w'.cell? ⟨gq, j, none⟩ = some (.int .u64 u) ∧ w'.frozen? ⟨gq, j, none⟩ = false := fun w' hg =>
        ⟨_, (H.quo.kept hg (by simp [N1.out])).cell j (by simp; omega), (H.quo.kept hg (by simp [N1.out])).frozen j⟩
      have HC := hid hc; have HSt := hid hst; have HCe := hid hcell
      clear hc hst hcell hparts H hP hA hqv
      have hj0 : (0 : Int) ≤ (j : Int) := by omega
      go_wp2_with fail
      refine HC.out.mono ?_
      rintro e w' ⟨A1, h1, rfl, hI, hv⟩
      obtain ⟨u, hu, hf⟩ := HCe.out _ hI.gr
      have HS2 := hid (HSt.out _ _ _ hI hv)
      clear hI hv
      go_wp2
      go_roundw
      case rel => exact ⟨j, _, _, by omega, by go_num, HS2.out⟩
      case measure => simp [intOf]

/-- exact.divide: quotient and rest. -/
theorem divide_any (va vb : Value) (a b : Int) (K Kb : Nat) (w : World) (hA : Nt w va a K) (hB : Nt w vb b Kb) (hb : 0 < b) (hK : K ≤ 1073741823) :
    Calls Tryz.prog 115 #[va, vb] w (RetQR w (a / b) (a % b) K Kb) := by
  obtain ⟨bo, bc, LB, rfl, hB⟩ := hB
  have a0 := hA.nonneg
  have hbK : b < B64 ^ Kb := Nt.lt ⟨bo, bc, LB, rfl, hB⟩
  have hr : a % b < B64 ^ Kb := Int.lt_trans (Int.emod_lt_of_pos _ hb) hbK
  by_cases h1 : LB.length = 1
  · obtain ⟨y, rfl⟩ : ∃ y, LB = [y] := List.length_eq_one_iff.1 h1
    have hy : y = b := by have := hB.eq; simpa [val] using this
    subst hy
    refine (divide_limb va bo bc y a K Kb w hA hB (by omega) hb).mono ?_
    rintro e w' ⟨v1, v2, rfl, h1, h2, h3⟩
    exact ⟨v1, v2, rfl, h1, h2.tight hr, h3⟩
  · by_cases hab : a < b
    · have e1 : a / b = 0 := Int.ediv_eq_zero_of_lt a0 hab
      have e2 : a % b = a := Int.emod_eq_of_lt a0 hab
      refine (divide_less va bo bc LB a b K Kb w hA hB h1 hab).mono ?_
      rintro e w' ⟨v1, v2, rfl, h1, h2, h3⟩
      rw [e2] at hr
      rw [e1, e2]
      exact ⟨v1, v2, rfl, h1.mono (Nat.zero_le _), h2.tight hr, h3⟩
    · have hl0 : LB.length ≠ 0 := by
        intro h
        have : LB = [] := List.eq_nil_of_length_eq_zero h
        have e := hB.eq
        rw [this] at e
        simp [val] at e; omega
      obtain ⟨m, hm⟩ : ∃ m, LB.length = m + 2 := ⟨LB.length - 2, by omega⟩
      obtain ⟨ao, ca, LA, rfl, hA⟩ := hA
      refine (divide_long ao bo ca bc m LA LB a b K Kb w hA hB hm (by omega) hK).mono ?_
      rintro e w' ⟨v1, v2, rfl, h1, h2, h3⟩
      exact ⟨v1, v2, rfl, h1, h2.nt, h3⟩

end Go.Proofs.YtbapeilpkhbbeaaGreatDoor

/- exact.isOne, bitLength, gcdLimb. -/
namespace Go.Proofs.YtbapeilpkhbbeaaGreatDoor
open Go.RowKit

theorem gcd_step {a b : Int} (ha : 0 ≤ a) (hb : 0 < b) : Int.gcd b (a % b) = Int.gcd a b := by
  obtain ⟨x, rfl⟩ := Int.eq_ofNat_of_zero_le ha
  obtain ⟨y, rfl⟩ := Int.eq_ofNat_of_zero_le (Int.le_of_lt hb)
  rw [← Int.natCast_emod]
  simp only [Int.gcd, Int.natAbs_natCast]
  rw [Nat.gcd_comm x y, Nat.gcd_rec y x, Nat.gcd_comm]

set_option maxRecDepth 100000 in
set_option maxHeartbeats 1000000 in
theorem gcdLimb_any (a b : Int) (w : World) (ha : 0 ≤ a ∧ a < B64) (hb : 0 ≤ b ∧ b < B64) :
    Calls Tryz.prog 120 #[.int .u64 a, .int .u64 b] w fun e w' => e = .returned (.int .u64 (Int.gcd a b : Int)) ∧ ∃ nq, w' = w.drewN nq := by
  obtain ⟨G, hG⟩ : ∃ G, G = Int.gcd a b := ⟨_, rfl⟩
  rw [← hG]
  have HG := hid hG; have HA := hid ha; have HB := hid hb
  clear hG ha hb
  go_enter Tryz.func120, Tryz.ntmps120
  go_wp2
  go_loopw [0, 1] (fun av bv wr => ∃ x y : Int, ∃ nq, av = .int .u64 x ∧ bv = .int .u64 y ∧ Hid (wr = w.drewN nq) ∧ Hid (G = Int.gcd x y) ∧ Hid (0 ≤ x ∧ x < B64) ∧ Hid (0 ≤ y ∧ y < B64)) (fun _ bv _ => (intOf bv).toNat)
  case atStart => exact ⟨a, b, 0, rfl, rfl, hid rfl, HG, HA, HB⟩
  case round =>
    obtain ⟨x, y, nq, rfl, rfl, HW, HG', HX, HY⟩ := hrel
    by_cases hy : y = 0
    · subst hy
      have hr := HG'.out
      have hx := HX.out.1
      have hr' : (G : Int) = x := by
        rw [hr]
        obtain ⟨x, rfl⟩ := Int.eq_ofNat_of_zero_le hx
        simp [Int.gcd]
      have HR := hid hr'
      clear hr hr' hx
      go_wp2
      go_ret
      exact ⟨by rw [HR.out]; rfl, nq, HW.out⟩
    · have hy0 : 0 < y := by have := HY.out.1; omega
      have hx0 := HX.out.1
      have hm0 := Int.emod_nonneg x hy
      have hm1 := Int.emod_lt_of_pos x hy0
      have hg := gcd_step hx0 hy0
      have htm : x.tmod y = x % y := Int.tmod_eq_emod_of_nonneg hx0
      obtain ⟨r, hr⟩ : ∃ r, r = x % y := ⟨_, rfl⟩
      rw [← hr] at hm0 hm1 hg htm
      have hr2 := hr.symm
      have HM := hid hm1; have HGs := hid hg; have HY0 := hid hy0
      have hb : ((y : Int) != 0) = true := by rw [bne_iff_ne]; exact hy
      clear hr hg hm1 hy0
      go_wp2
      go_quiet (fail)
      go_wp2
      go_roundw
      case rel => exact ⟨y, r, _, rfl, by go_num, hid (by rw [HW.out, World.drewN_drewN]), hid (by rw [HGs.out]; exact HG'.out), HY, hid ⟨hm0, by have := HM.out; have := HY.out.2; omega⟩⟩
      case measure => simp [intOf]; have := HM.out; omega

set_option maxRecDepth 100000 in
set_option maxHeartbeats 1000000 in
theorem isOne_any (va : Value) (a : Int) (K : Nat) (w : World) (hA : Nt w va a K) :
    Calls Tryz.prog 40 #[va] w fun e w' => e = .returned (.bool (decide (a = 1))) ∧ w' = w := by
  obtain ⟨ao, c, LA, rfl, hA⟩ := hA
  by_cases h1 : LA.length = 1
  · obtain ⟨y, rfl⟩ : ∃ y, LA = [y] := List.length_eq_one_iff.1 h1
    obtain ⟨b, o, rfl⟩ := hA.rd.adr (by simp)
    have hc := hA.rd.cell b o rfl 0 (by simp)
    have hy : y = a := by have := hA.eq; simpa [val] using this
    subst hy
    simp at hc ⊢
    clear hA h1
    by_cases hy1 : y = 1
    · subst hy1
      go_enter Tryz.func40, Tryz.ntmps40
      go_wp2
      go_ret
      exact ⟨by simp, rfl⟩
    · go_enter Tryz.func40, Tryz.ntmps40
      go_wp2
      go_ret
      exact ⟨by simp [hy1], rfl⟩
  · have ha : ¬ a = 1 := by
      intro h
      apply h1
      have e := val_inj B64_pos hA.dig (Dig.cons (by decide) (by decide) (Dig.nil _)) hA.nrm (show Nrm [1] by unfold Nrm; simp [trimL]) (by rw [hA.eq, h]; simp [val])
      rw [e]; rfl
    have HAa := hid ha
    obtain ⟨n, hn⟩ : ∃ n, n = LA.length := ⟨_, rfl⟩
    rw [← hn] at h1 ⊢
    have hn1 : ¬ (n : Int) = 1 := by omega
    clear hA hn ha
    go_enter Tryz.func40, Tryz.ntmps40
    go_wp2
    go_ret
    exact ⟨by rw [decide_eq_false HAa.out]; rfl, rfl⟩

end Go.Proofs.YtbapeilpkhbbeaaGreatDoor
