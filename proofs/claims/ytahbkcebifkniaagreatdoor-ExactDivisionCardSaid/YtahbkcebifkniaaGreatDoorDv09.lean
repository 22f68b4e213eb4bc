/- exact.divide: its walk. exact.foresee: steps that the highest bits tell. (*exact.difference).limb: a limb of the difference of two products. -/
import Derived.Test.YtahbkcebifkniaaGreatDoorDv08
import Derived.Test.YtahbkcebifkniaaGreatDoorDv03
import Derived.Deep.DeepCutAuto
import Derived.Deep.CutBlock
import Derived.IntWalk
import Derived.Test.YtahbkcebifkniaaGreatDoorDv06
/- exact.divide: its walk. -/
namespace Go.Proofs.YtahbkcebifkniaaGreatDoor
open Go.RowKit

/-- The call hands back a quotient and a rest, and has turned nothing that was there. -/
def RetQR (w : World) (q r : Int) (Kq Kr : Nat) (e : Ending) (w' : World) : Prop := ∃ v1 v2, e = .returned (.tuple #[v1, v2]) ∧ Nt w' v1 q Kq ∧ Nt w' v2 r Kr ∧ Below w.heap.size w w'

set_option maxRecDepth 100000 in
set_option maxHeartbeats 4000000 in
theorem divide_limb (va : Value) (bo : Option Addr) (bc : Nat) (y : Int) (a : Int) (K Kb : Nat) (w : World) (hA : Nt w va a K) (hB : NtL w bo bc [y] y Kb) (hK : K ≤ 1073741824) (hy : 0 < y) :
    Calls Tryz.prog 58 #[va, .slice bo 1 bc] w (RetQR w (a / y) (a % y) K 1) := by
  obtain ⟨b, o, rfl⟩ := hB.rd.adr (by simp)
  have hc := hB.rd.cell b o rfl 0 (by simp)
  have y1 := (hB.dig.at B64_pos 0).2
  simp at hc y1
  obtain ⟨r, hr⟩ : ∃ r, r = a % y := ⟨_, rfl⟩
  have r0 : 0 ≤ r := by rw [hr]; exact Int.emod_nonneg _ (by omega)
  have r1 : r < B64 := by rw [hr]; exact Int.lt_trans (Int.emod_lt_of_pos _ hy) y1
  have hd := divideLimb_any va a y K w hA hK hy y1
  rw [← hr] at hd ⊢
  have HD := hid hd; have R1 := hid r1; have Y1 := hid y1
  clear hd hr hA hB r1 y1
  go_enter Tryz.func58, Tryz.ntmps58
  go_wp2_with (first
    | (go_at_call 63; refine HD.out.mono ?_; rintro e w1 ⟨v1, rfl, hv1, hb1⟩)
    | (go_at_call 39; refine (fromLimb_any r _ r0 R1.out).mono ?_; rintro e w2 ⟨v2, rfl, hv2, hb2⟩))
  go_ret2
  exact ⟨_, _, rfl, hv1.below hb2 (Nat.le_refl _), hv2, hb1.trans (hb2.mono hb1.size)⟩

set_option maxRecDepth 100000 in
set_option maxHeartbeats 4000000 in
theorem divide_less (va : Value) (bo : Option Addr) (bc : Nat) (LB : List Int) (a b : Int) (K Kb : Nat) (w : World) (hA : Nt w va a K) (hB : NtL w bo bc LB b Kb) (hl : LB.length ≠ 1) (hab : a < b) :
    Calls Tryz.prog 58 #[va, .slice bo LB.length bc] w (RetQR w 0 a 0 K) := by
  have hc := compare_any va (.slice bo LB.length bc) a b K Kb w hA ⟨bo, bc, LB, rfl, hB⟩
  rw [cmpI_lt hab] at hc
  obtain ⟨n, hn⟩ : ∃ n, n = LB.length := ⟨_, rfl⟩
  rw [← hn] at hl hc ⊢
  have hl' : ¬ (n : Int) = 1 := by omega
  have HC := hid hc; have HA := hid hA
  clear hc hA hB hn
  go_enter Tryz.func58, Tryz.ntmps58
  go_wp2_with (go_at_call 36; refine HC.out.mono ?_; rintro e w1 ⟨nq, rfl, rfl⟩)
  go_ret2
  have hb : Below w.heap.size w (w.drewN nq) := below_drewN (Below.refl _ _) nq
  exact ⟨_, _, rfl, Nt.nil _, HA.out.below hb (Nat.le_refl _), hb⟩

/-- The same, the rest in new memory. -/
def RetQO (w : World) (q r : Int) (Kq Kr : Nat) (e : Ending) (w' : World) : Prop := ∃ v1 v2, e = .returned (.tuple #[v1, v2]) ∧ Nt w' v1 q Kq ∧ OwnV w' w.heap.size v2 r Kr ∧ Below w.heap.size w w'
theorem OwnV.tight {w : World} {B : Nat} {v : Value} {n : Int} {K K' : Nat} (h : OwnV w B v n K) (hn : n < B64 ^ K') : OwnV w B v n K' := by
  rcases h with ⟨g, c, L, S, rfl, h, hK⟩ | h
  · refine .inl ⟨g, c, L, S, rfl, h, ?_⟩
    obtain ⟨_, _, _, e, h'⟩ := (h.nt hK).tight hn
    obtain ⟨_, e2, _⟩ := Value.slice.inj e
    rw [e2]; exact h'.le
  · exact .inr h

theorem Nt.open_top {w : World} {v : Value} {n : Int} {K k : Nat} (h : Nt w v n K) (h0 : B64 ^ k ≤ n) (h1 : n < B64 ^ (k + 1)) : ∃ b o c L, v = .slice (some ⟨b, o, none⟩) (k + 1) c ∧ NtL w (some ⟨b, o, none⟩) c L n K ∧ L.length = k + 1 := by
  obtain ⟨ao, c, L, rfl, h⟩ := h
  have hl := len_of h.dig h.nrm (k := k) (by rw [h.eq]; exact h0) (by rw [h.eq]; exact h1)
  obtain ⟨b, o, rfl⟩ := h.rd.adr (by omega)
  exact ⟨b, o, c, L, by rw [hl], h, hl⟩

theorem DvN.start {a b p : Int} {t m ls : Nat} {LS : List Int} (hd : Dig B64 LS) (hv : val B64 LS = a * p) (hle : LS.length ≤ t + m + 2) (hp : 0 < p) (hlt : a < B64 ^ t * b) (hls : ls = LS.length := by rfl) :
    DvN (a * p) (b * p) t [] (LS ++ List.replicate (t + m + 2 - ls) (0 : Int)) ∧ (LS ++ List.replicate (t + m + 2 - ls) (0 : Int)).length = t + m + 1 + 1 := by
  subst hls
  have hvR : val B64 (LS ++ List.replicate (t + m + 2 - LS.length) (0 : Int)) = a * p := by rw [val_append, val_replicate, hv]; simp
  refine ⟨⟨Dig.nil _, hd.append (Dig.replicate B64_pos _), by rw [hvR]; simp [val], ?_⟩, by simp; omega⟩
  rw [hvR, ← Int.mul_assoc]
  exact Int.mul_lt_mul_of_pos_right hlt hp

/-- What holds when j limbs of the quotient are still to come. -/
structure DvI (w wr : World) (gw gq b2 o2 dc : Nat) (LD : List Int) (V D : Int) (n T j : Nat) (QT R : List Int) : Prop where
  num : DvN V D j QT R
  lenQ : j + QT.length = T
  lenR : R.length = n + 1
  work : Row .u64 61 wr gw R
  quo : Row .u64 61 wr gq (List.replicate j 0 ++ QT)
  div : Rd wr .u64 (some ⟨b2, o2, none⟩) dc LD
  low : Below w.heap.size w wr

theorem split4 (R : List Int) (j m : Nat) (h : j + (m + 3) ≤ R.length) : ∃ P A h S, R = P ++ (A ++ [h]) ++ S ∧ P.length = j ∧ A.length = m + 2 := by
  refine ⟨R.take j, (R.drop j).take (m + 2), (R.drop j)[m + 2]?.getD 0, (R.drop j).drop (m + 3), ?_, by rw [List.length_take]; omega, by rw [List.length_take, List.length_drop]; omega⟩
  rw [← take_succ_getD (R.drop j) (m + 2) (by rw [List.length_drop]; omega), List.append_assoc, List.take_append_drop, List.take_append_drop]

theorem DvI.step {w wr w' : World} {gw gq b2 o2 dc : Nat} {LD : List Int} {V D : Int} {n T j m : Nat} {QT P A S A1 : List Int} {h h1 : Int} (H : DvI w wr gw gq b2 o2 dc LD V D n T (j + 1) QT (P ++ (A ++ [h]) ++ S)) (hD : D < B64 ^ (m + 2)) (hD0 : 0 < D) (hP : P.length = j) (hA : A.length = m + 2)
    (hI : StepI wr w' gw P S (val B64 (A ++ [h])) D (m + 2) (val B64 (A ++ [h]) / D) A1 h1 false) (hv : val B64 (A1 ++ [h1]) = val B64 (A ++ [h]) % D) (n1 : gq ≠ gw) (n2 : b2 ≠ gw) (n3 : b2 ≠ gq) (s1 : w.heap.size ≤ gw) (s2 : w.heap.size ≤ gq) :
    DvI w (w'.setCell ⟨gq, j, none⟩ (.int .u64 (val B64 (A ++ [h]) / D))) gw gq b2 o2 dc LD V D n T j (val B64 (A ++ [h]) / D :: QT) (P ++ (A1 ++ [h1]) ++ S) := by
  have hl1 : (A1 ++ [h1]).length = m + 3 := by simp [hI.num.len]
  have hN := H.num.step hD hD0 hP (show (A ++ [h]).length = m + 3 by simp [hA]) hl1 (hI.num.dig.append (Dig.cons hI.num.h0 hI.num.h1 (Dig.nil _))) hv
  have hq := (H.quo.kept hI.gr (by simp [n1])).set j (val B64 (A ++ [h]) / D)
  rw [List.replicate_succ', List.append_assoc, List.set_append_right _ _ (by simp), List.length_replicate, Nat.sub_self] at hq
  refine ⟨hN, by have := H.lenQ; simp; omega, ?_, ?_, hq, ?_, (H.low.grown hI.gr H.low.size (fun i e => by cases e; exact s1)).setCell s2 _⟩
  · have := H.lenR; have := hI.num.len; simp at *; omega
  · have hr : Row .u64 61 w' gw (P ++ (A1 ++ [h1]) ++ S) := by have := hI.row; simpa using this
    exact hr.kept (grown_set _ _ _ _) (by simp; exact fun e => n1 e.symm)
  · exact (H.div.kept hI.gr (fun _ b o e => by cases e; simpa using n2)).kept (grown_set _ _ _ _) (fun _ b o e => by cases e; simpa using n3)

set_option maxRecDepth 100000 in
set_option maxHeartbeats 8000000 in
theorem divide_long (ao bo : Option Addr) (ca bc m : Nat) (LA LB : List Int) (a b : Int) (K Kb : Nat) (w : World) (hA : NtL w ao ca LA a K) (hB : NtL w bo bc LB b Kb) (hl : LB.length = m + 2) (hab : b ≤ a) (hK : K ≤ 1073741823) :
    Calls Tryz.prog 58 #[.slice ao LA.length ca, .slice bo LB.length bc] w (RetQO w (a / b) (a % b) K Kb) := by
  have lo := hB.nrm.low B64_pos hB.dig (by omega)
  rw [hl, hB.eq] at lo
  have hi := val_lt B64_pos hA.dig
  rw [hA.eq] at hi
  have hmn : m + 1 < LA.length := pow_lt_inv B64_one (Int.lt_of_le_of_lt lo (Int.lt_of_le_of_lt hab hi))
  obtain ⟨t, ht⟩ : ∃ t, LA.length = t + m + 1 := ⟨LA.length - m - 1, by omega⟩
  have ht1 : 1 ≤ t := by omega
  have hb0 : 0 < b := Int.lt_of_lt_of_le (Int.pow_pos B64_pos) lo
  have hlt : a < B64 ^ t * b := by
    have := Int.mul_le_mul_of_nonneg_left lo (Int.le_of_lt (Int.pow_pos (m := t) B64_pos))
    rw [← Int.pow_add] at this
    rw [ht] at hi
    exact Int.lt_of_lt_of_le hi (by rw [show t + m + 1 = t + (m + 2 - 1) by omega]; exact this)
  have hcap := hA.le
  have hcp := compare_any (.slice ao LA.length ca) (.slice bo LB.length bc) a b K Kb w ⟨ao, ca, LA, rfl, hA⟩ ⟨bo, bc, LB, rfl, hB⟩
  obtain ⟨cv, hcv⟩ : ∃ cv, cv = cmpI a b := ⟨_, rfl⟩
  have hcv0 : ¬ cv < 0 := by rw [hcv]; unfold cmpI; rw [if_neg (by omega)]; split <;> omega
  rw [← hcv] at hcp
  obtain ⟨b1, o1, rfl⟩ := hB.rd.adr (by omega)
  have htopc := hB.rd.cell b1 o1 rfl (m + 1) (by omega)
  have htop := hB.dig.at B64_pos (m + 1)
  have htop0 := hB.nrm.top hl
  have hshift := fun (s : Nat) (hs : s ≤ 63) (h : LB[m + 1]?.getD 0 * 2 ^ s < B64) => top_shift hB.dig hB.nrm hl hs h
  rw [hB.eq] at hshift
  obtain ⟨y, hy⟩ : ∃ y, y = LB[m + 1]?.getD 0 := ⟨_, rfl⟩
  rw [← hy] at htopc htop htop0 hshift
  have hlz := fun w => lz64 y (by omega) htop.2 w
  have hNa : Nt w (.slice ao LA.length ca) a LA.length := ⟨ao, ca, LA, rfl, hA.rd, hA.dig, hA.nrm, hA.eq, Nat.le_refl _⟩
  have hNb : Nt w (.slice (some ⟨b1, o1, none⟩) (m + 2) bc) b (m + 2) := ⟨_, bc, LB, by rw [hl], hB.rd, hB.dig, hB.nrm, hB.eq, by omega⟩
  have hbK : b < B64 ^ Kb := Nt.lt ⟨_, bc, LB, rfl, hB⟩
  have hcapB := hB.rd.cap
  rw [hl] at hcp hcapB ⊢
  rw [ht] at hcp hNa hcap ⊢
  have Hcp := hid hcp; have Hlz := hid hlz; have HNa := hid hNa; have HNb := hid hNb; have Hsh := hid hshift; have HbK := hid hbK; have Hlt := hid hlt; have Hb0 := hid hb0
  clear hcp hlz hNa hNb hshift hbK hlt hb0 hA hB lo hi htop0 hy htop ht hcv hmn hl hab
  obtain ⟨i0, hi, hz0, hz1, hz2⟩ := info_parts Tryz.info61
  go_enter Tryz.func58, Tryz.ntmps58
  go_wp2_with (go_at_call 36; refine Hcp.out.mono ?_; rintro e w1 ⟨nq, rfl, rfl⟩)
  refine (Hlz.out _).mono ?_
  rintro e wz ⟨s, rfl, hs63, _, hs2, rfl⟩
  have hbe := below_drewN (Below.refl w.heap.size w) nq
  have hsh := Hsh.out s hs63 hs2
  have hpow : (0 : Int) < 2 ^ s := Int.pow_pos (by decide)
  have hD1 := hid (shiftLeft_any _ b s (m + 2) (w.drewN nq) (HNb.out.below hbe (Nat.le_refl _)) (by omega) (by omega))
  have Hs2 := hid hsh
  have Hpow := hid hpow
  clear hs2 hsh hpow
  go_wp2_with fail
  refine hD1.out.mono ?_
  rintro e w1 ⟨vd, rfl, hvd, hb1⟩
  obtain ⟨b2, o2, dc, LD, rfl, HLD, hlD⟩ := hvd.open_top Hs2.out.1 Hs2.out.2
  have hbe1 := hbe.trans (hb1.mono hbe.size)
  have hb2lt := HLD.rd.ne (Nat.le_refl w1.heap.size)
  have HLD' := hid HLD; have HlD := hid hlD; have Hbe1 := hid hbe1; have Hb2 := hid hb2lt
  clear HLD hlD hvd hbe1 hb1 hbe hb2lt
  go_wp2_with (at_make; refine wpList_make_row w1 rfl _ _ 49 rfl 61 i0 .u64 Tryz.underlying49 hi hz0 hz1 .i64 .i64 _ _ (t + m + 2) rfl rfl (by omega) (by omega) (by rw [hz2]; omega) (by unfold maxLen; omega) ?_)
  intro w2 hrow2 hg2
  have hb2 := grown_below hg2
  have hbe2 := Hbe1.out.trans (hb2.mono Hbe1.out.size)
  have hD2 := hid (shiftLeft_any _ a s (t + m + 1) w2 (HNa.out.below hbe2 (Nat.le_refl _)) (by omega) (by omega))
  have Hbe2 := hid hbe2; have Hrow2 := hid hrow2; have Hb12 := hid hb2
  clear hrow2 hg2 hb2 hbe2
  go_wp2_with fail
  refine hD2.out.mono ?_
  rintro e w3 ⟨_, rfl, ⟨so, sc, LS, rfl, HLS⟩, hb3⟩
  have hst := DvN.start (t := t) HLS.dig HLS.eq (show LS.length ≤ t + m + 2 by have := HLS.le; omega) Hpow.out Hlt.out
  have hrow3 := Hrow2.out.kept (below_grown hb3) (by simp)
  have hbe3 := Hbe2.out.trans (hb3.mono Hbe2.out.size)
  have hsz3 : w1.heap.size < w3.heap.size := hrow3.lt
  have hrd3 := (HLD'.out.rd.below Hb12.out (Nat.le_refl _)).below hb3 (Nat.le_refl _)
  obtain ⟨ls, hls⟩ : ∃ ls, ls = LS.length := ⟨_, rfl⟩
  have hls2 : ls ≤ t + m + 2 := by have := HLS.le; omega
  rw [← hls] at hst ⊢
  have Hst := hid hst; have Hrow3 := hid hrow3; have Hbe3 := hid hbe3; have Hrd3 := hid hrd3; have HLSr := hid HLS.rd; have Hls := hid hls; have Hsz3 := hid hsz3
  clear hst hrow3 hbe3 hrd3 HLS hls hb3 hsz3
  go_wp2_with ((with_reducible refine wpList_copy_row rfl _ _ _ _ rfl 61 Tryz.underlying49 Tryz.size61 .u64 61 w1.heap.size [] (List.replicate (t + m + 2) 0) [] LS 0 (t + m + 2) ls (t + m + 2) so sc rfl rfl rfl (by simp) Hls.out (by simpa using Hrow3.out) HLSr.out (by have := Hls.out; simp; omega) ?_))
  intro w4 hrow4 hg4
  have hbe4 := Hbe3.out.grown hg4 Hbe3.out.size (fun i e => by cases e; exact Hbe1.out.size)
  have hrd4 := Hrd3.out.kept hg4 (fun h b o e => by have := Hb2.out h b o e; simp [this])
  have hsz4 : w1.heap.size < w4.heap.size := hrow4.lt
  obtain ⟨R0, hR0⟩ : ∃ R0, R0 = LS ++ List.replicate (t + m + 2 - ls) (0 : Int) := ⟨_, rfl⟩
  rw [← Hls.out, ← hR0] at hrow4
  have hst := Hst.out
  rw [← hR0] at hst
  have Hst' := hid hst; have Hrow4 := hid hrow4; have Hbe4 := hid hbe4; have Hrd4 := hid hrd4; have Hsz4 := hid hsz4
  clear hst hrow4 hbe4 hrd4 hg4 hR0 hsz4
  go_wp2_with (at_make; refine wpList_make_row w4 rfl _ _ 49 rfl 61 i0 .u64 Tryz.underlying49 hi hz0 hz1 .i64 .i64 _ _ t rfl rfl (by omega) (by omega) (by rw [hz2]; omega) (by unfold maxLen; omega) ?_)
  intro w5 hrow5 hg5
  have hbe5 := Hbe4.out.trans ((grown_below hg5).mono Hbe4.out.size)
  have n3 : b2 ≠ w4.heap.size := Rd.ne Hrd4.out (Nat.le_refl _) (by have := HlD.out; omega) _ _ rfl
  have n2 : b2 ≠ w1.heap.size := Hb2.out (by have := HlD.out; omega) _ _ rfl
  have n1 : w4.heap.size ≠ w1.heap.size := by have := Hsz4.out; omega
  have HI0 : DvI w w5 w1.heap.size w4.heap.size b2 o2 dc LD (a * 2 ^ s) (b * 2 ^ s) (t + m + 1) t t [] R0 :=
    ⟨Hst'.out.1, by simp, Hst'.out.2, Hrow4.out.kept hg5 (by simp), by simpa using hrow5, Hrd4.out.kept hg5 (by simp), hbe5⟩
  have s1 : w.heap.size ≤ w1.heap.size := Hbe1.out.size
  have s2 : w.heap.size ≤ w4.heap.size := Hbe4.out.size
  obtain ⟨V, hV⟩ : ∃ V, V = a * 2 ^ s := ⟨_, rfl⟩
  obtain ⟨D, hD⟩ : ∃ D, D = b * 2 ^ s := ⟨_, rfl⟩
  have hD2 := Hs2.out
  rw [← hV, ← hD] at HI0; rw [← hD] at hD2
  have hvD := HLD'.out.eq
  rw [← hD] at hvD
  have hD0 : 0 < D := by rw [hD]; exact Int.mul_pos Hb0.out Hpow.out
  have HI := hid HI0; have HV := hid hV; have HDD := hid hD; have HvD := hid hvD; have HD0 := hid hD0; have HD2' := hid hD2
  obtain ⟨gw, hgw⟩ : ∃ gw, gw = w1.heap.size := ⟨_, rfl⟩
  obtain ⟨gq, hgq⟩ : ∃ gq, gq = w4.heap.size := ⟨_, rfl⟩
  rw [← hgw, ← hgq] at HI
  rw [← hgw] at n2 s1
  rw [← hgq] at n3 s2
  rw [← hgw, ← hgq] at n1
  have N1 := hid n1; have N2 := hid n2; have N3 := hid n3; have S1 := hid s1; have S2 := hid s2
  rw [← hgw, ← hgq]
  clear hgw hgq n1 n2 n3 s1 s2 HI0 hV hD hD2 hvD hD0 hrow5 hg5 hbe5
  go_wp2
  go_loopw [11] (fun iv wr => ∃ j : Nat, ∃ QT R, j ≤ t ∧ iv = .int .i64 ((j : Int) - 1) ∧ DvI w wr gw gq b2 o2 dc LD V D (t + m + 1) t j QT R) (fun iv _ => (intOf iv + 1).toNat)
  case atStart => exact ⟨t, [], R0, Nat.le_refl _, rfl, HI.out⟩
  case round =>
    obtain ⟨j, QT, R, hj, rfl, H⟩ := hrel
    cases j with
    | zero =>
      have hd := H.num.done HD0.out
      rw [HV.out, HDD.out] at hd
      obtain ⟨e1, e2⟩ := shift_div (a := a) (s := s) Hb0.out
      rw [e1] at hd
      have hlQ : QT.length = t := by have := H.lenQ; omega
      have hq : Row .u64 61 wr gq QT := by have := H.quo; simpa using this
      have ht1 := trim64_any (some ⟨gq, 0, none⟩) t QT wr (row_rd hq (by omega) (by omega))
      have ht2 := trim64_any (some ⟨gw, 0, none⟩) (t + m + 2) R wr (row_rd H.work (by have := H.lenR; omega) (by omega))
      have hn1 := nt_row (c := t) (K := K) hq H.num.digQ hd.1 (by omega) (by omega) (by omega)
      have hn2 := nt_row (c := t + m + 2) (K := t + m + 2) H.work H.num.digR hd.2 (by have := H.lenR; omega) (by omega) (by have := H.lenR; omega)
      have hsr := shiftRight_own _ _ s (t + m + 2) wr hn2 (by omega) (by omega)
      rw [e2] at hsr
      rw [hlQ] at ht1
      rw [H.lenR] at ht2
      have hlow := hid H.low
      have hrest : a % b < B64 ^ Kb := Int.lt_trans (Int.emod_lt_of_pos _ Hb0.out) HbK.out
      have HT1 := hid ht1; have HT2 := hid ht2; have HN1 := hid hn1; have HSR := hid hsr; have HRe := hid hrest
      clear hd e1 e2 hlQ hq ht1 ht2 hn1 hn2 hsr hrest H
      go_wp2_with fail
      refine HT1.out.mono ?_
      rintro e w2 ⟨rfl, rfl⟩
      go_wp2_with fail
      refine HT2.out.mono ?_
      rintro e w2 ⟨rfl, rfl⟩
      go_wp2_with fail
      refine HSR.out.mono ?_
      rintro e w2 ⟨v2, rfl, hv2, hb2⟩
      go_wp2
      go_ret2
      exact ⟨_, _, rfl, HN1.out.below hb2 (Nat.le_refl _), (hv2.base_le hlow.out.size).tight HRe.out, hlow.out.trans (hb2.mono hlow.out.size)⟩
    | succ j =>
      obtain ⟨P, A, h, S, rfl, hP, hA⟩ := split4 R j m (by have := H.lenR; omega)
      have hparts := H.num.parts (m := m) HD2'.out.2 hP (by simp [hA])
      have hc := divideStep_any gw P A S LD h (t + m + 2 - j) dc b2 o2 m wr (by have := H.work; simpa using this) (fun x hx => H.num.digR x (by simp at hx ⊢; rcases hx with h | h <;> simp [h])) HLD'.out.dig hA HlD.out (by omega) (by omega) H.div
        (by have a := HLD'.out.nrm.top HlD.out; have b := (HLD'.out.dig.at B64_pos (m + 1)).1; omega) (by rw [HvD.out]; exact hparts.1) N2.out
      rw [HvD.out, hP, show m + 3 = j + (m + 1 + 1) + 1 - j by omega] at hc
      have hst := fun (w' : World) (A1 : List Int) (h1 : Int) hI hv => H.step (w' := w') (A1 := A1) (h1 := h1) HD2'.out.2 HD0.out hP hA hI hv N1.out N2.out N3.out S1.out S2.out
      obtain ⟨qv, hqv⟩ : ∃ qv, qv = val B64 (A ++ [h]) / D := ⟨_, rfl⟩
      rw [← hqv] at hc hst
      have hcell : ∀ w' : World, wr.grownBy w' (some gw) → ∃ u, w'.cell? ⟨gq, j, none⟩ = some (.int .u64 u) ∧ w'.frozen? ⟨gq, j, none⟩ = false := fun w' hg =>
        ⟨_, (H.quo.kept hg (by simp [N1.out])).cell j (by simp; omega), (H.quo.kept hg (by simp [N1.out])).frozen j⟩
      have HC := hid hc; have HSt := hid hst; have HCe := hid hcell
      clear hc hst hcell hparts H hP hA hqv
      have hj0 : (0 : Int) ≤ (j : Int) := by omega
      go_wp2_with fail
      refine HC.out.mono ?_
      rintro e w' ⟨A1, h1, rfl, hI, hv⟩
      obtain ⟨u, hu, hf⟩ := HCe.out _ hI.gr
      have HS2 := hid (HSt.out _ _ _ hI hv)
      clear hI hv
      go_wp2
      go_roundw
      case rel => exact ⟨j, _, _, by omega, by go_num, HS2.out⟩
      case measure => simp [intOf]

/-- exact.divide: quotient and rest. -/
theorem divide_any (va vb : Value) (a b : Int) (K Kb : Nat) (w : World) (hA : Nt w va a K) (hB : Nt w vb b Kb) (hb : 0 < b) (hK : K ≤ 1073741823) :
    Calls Tryz.prog 58 #[va, vb] w (RetQR w (a / b) (a % b) K Kb) := by
  obtain ⟨bo, bc, LB, rfl, hB⟩ := hB
  have a0 := hA.nonneg
  have hbK : b < B64 ^ Kb := Nt.lt ⟨bo, bc, LB, rfl, hB⟩
  have hr : a % b < B64 ^ Kb := Int.lt_trans (Int.emod_lt_of_pos _ hb) hbK
  by_cases h1 : LB.length = 1
  · obtain ⟨y, rfl⟩ : ∃ y, LB = [y] := List.length_eq_one_iff.1 h1
    have hy : y = b := by have := hB.eq; simpa [val] using this
    subst hy
    refine (divide_limb va bo bc y a K Kb w hA hB (by omega) hb).mono ?_
    rintro e w' ⟨v1, v2, rfl, h1, h2, h3⟩
    exact ⟨v1, v2, rfl, h1, h2.tight hr, h3⟩
  · by_cases hab : a < b
    · have e1 : a / b = 0 := Int.ediv_eq_zero_of_lt a0 hab
      have e2 : a % b = a := Int.emod_eq_of_lt a0 hab
      refine (divide_less va bo bc LB a b K Kb w hA hB h1 hab).mono ?_
      rintro e w' ⟨v1, v2, rfl, h1, h2, h3⟩
      rw [e2] at hr
      rw [e1, e2]
      exact ⟨v1, v2, rfl, h1.mono (Nat.zero_le _), h2.tight hr, h3⟩
    · have hl0 : LB.length ≠ 0 := by
        intro h
        have : LB = [] := List.eq_nil_of_length_eq_zero h
        have e := hB.eq
        rw [this] at e
        simp [val] at e; omega
      obtain ⟨m, hm⟩ : ∃ m, LB.length = m + 2 := ⟨LB.length - 2, by omega⟩
      obtain ⟨ao, ca, LA, rfl, hA⟩ := hA
      refine (divide_long ao bo ca bc m LA LB a b K Kb w hA hB hm (by omega) hK).mono ?_
      rintro e w' ⟨v1, v2, rfl, h1, h2, h3⟩
      exact ⟨v1, v2, rfl, h1, h2.nt, h3⟩

end Go.Proofs.YtahbkcebifkniaaGreatDoor

/- exact.foresee: steps that the highest bits tell. -/
namespace Go.Proofs.YtahbkcebifkniaaGreatDoor
open Go.RowKit

/-- Block g is a struct with the fields vs. -/
def Obs (T : TypeId) (w : World) (g : Nat) (vs : List Value) : Prop := w.heap[g]? = some (.cells vs.toArray T (0, 0))
theorem Obs.lt {T : TypeId} {w : World} {g : Nat} {vs : List Value} (h : Obs T w g vs) : g < w.heap.size := (Array.getElem?_eq_some_iff.1 h).1
theorem Obs.cell {T : TypeId} {w : World} {g : Nat} {vs : List Value} (h : Obs T w g vs) (i : Nat) (v : Value) (hi : vs[i]? = some v) : w.cell? ⟨g, i, none⟩ = some v := by
  rw [cell_of_row w g i _ T (0, 0) h]; simpa using hi
theorem Obs.frozen {T : TypeId} {w : World} {g : Nat} {vs : List Value} (h : Obs T w g vs) (i : Nat) : w.frozen? ⟨g, i, none⟩ = false := frozen_of_row w g i _ T h
theorem Obs.set {T : TypeId} {w : World} {g : Nat} {vs : List Value} (h : Obs T w g vs) (i : Nat) (v : Value) : Obs T (w.setCell ⟨g, i, none⟩ v) g (vs.set i v) := by
  unfold Obs
  rw [heap_setCell_same w g i _ T _ h]; simp
theorem Obs.kept {T : TypeId} {w w' : World} {g : Nat} {vs : List Value} {r : Option Nat} (h : Obs T w g vs) (hg : w.grownBy w' r) (hne : some g ≠ r) : Obs T w' g vs := by
  unfold Obs; rw [hg.block g h.lt hne]; exact h
theorem Obs.alloc {T : TypeId} {w : World} {g : Nat} {vs : List Value} (h : Obs T w g vs) (o : Obj) : Obs T (w.alloc o) g vs := h.kept (World.grownBy_alloc w o none) (by simp)
theorem Obs.other {T : TypeId} {w : World} {g : Nat} {vs : List Value} (h : Obs T w g vs) {g' : Nat} (hne : g' ≠ g) (i : Nat) (v : Value) : Obs T (w.setCell ⟨g', i, none⟩ v) g vs :=
  h.kept (grown_set w g' i v) (by simp; exact fun e => hne e.symm)
theorem Obs.drewN {T : TypeId} {w : World} {g : Nat} {vs : List Value} (h : Obs T w g vs) (n : Nat) : Obs T (w.drewN n) g vs := h
theorem Obs.new (T : TypeId) (w : World) (vs : List Value) : Obs T (w.alloc (.cells vs.toArray T (0, 0))) w.heap.size vs := by
  unfold Obs; show (w.heap.push _)[w.heap.size]? = _; simp

/-- The fields of steps. -/
def stepL (c a0 b0 a1 b1 : Int) : List Value := [.int .i64 c, .int .u64 a0, .int .u64 b0, .int .u64 a1, .int .u64 b1]

structure ForeI (w wr : World) (c a0 b0 a1 b1 : Int) : Prop where
  o4 : Obs 82 wr w.heap.size (stepL 0 0 0 0 0)
  o5 : Obs 82 wr (w.heap.size + 1) (stepL c a0 b0 a1 b1)
  low : Below w.heap.size w wr

theorem ForeI.cells {w wr : World} {c a0 b0 a1 b1 : Int} (H : ForeI w wr c a0 b0 a1 b1) :
    wr.cell? ⟨w.heap.size + 1, 0, none⟩ = some (.int .i64 c) ∧ wr.cell? ⟨w.heap.size + 1, 1, none⟩ = some (.int .u64 a0) ∧ wr.cell? ⟨w.heap.size + 1, 2, none⟩ = some (.int .u64 b0) ∧ wr.cell? ⟨w.heap.size + 1, 3, none⟩ = some (.int .u64 a1) ∧ wr.cell? ⟨w.heap.size + 1, 4, none⟩ = some (.int .u64 b1) :=
  ⟨H.o5.cell 0 _ rfl, H.o5.cell 1 _ rfl, H.o5.cell 2 _ rfl, H.o5.cell 3 _ rfl, H.o5.cell 4 _ rfl⟩
theorem ForeI.frozen {w wr : World} {c a0 b0 a1 b1 : Int} (H : ForeI w wr c a0 b0 a1 b1) :
    wr.frozen? ⟨w.heap.size + 1, 0, none⟩ = false ∧ wr.frozen? ⟨w.heap.size + 1, 1, none⟩ = false ∧ wr.frozen? ⟨w.heap.size + 1, 2, none⟩ = false ∧ wr.frozen? ⟨w.heap.size + 1, 3, none⟩ = false ∧ wr.frozen? ⟨w.heap.size + 1, 4, none⟩ = false :=
  ⟨H.o5.frozen 0, H.o5.frozen 1, H.o5.frozen 2, H.o5.frozen 3, H.o5.frozen 4⟩

theorem ForeI.olds {w wr : World} {c a0 b0 a1 b1 : Int} (H : ForeI w wr c a0 b0 a1 b1) :
    wr.cell? ⟨w.heap.size, 0, none⟩ = some (.int .i64 0) ∧ wr.cell? ⟨w.heap.size, 1, none⟩ = some (.int .u64 0) ∧ wr.cell? ⟨w.heap.size, 2, none⟩ = some (.int .u64 0) ∧ wr.cell? ⟨w.heap.size, 3, none⟩ = some (.int .u64 0) ∧ wr.cell? ⟨w.heap.size, 4, none⟩ = some (.int .u64 0) ∧
    wr.frozen? ⟨w.heap.size, 0, none⟩ = false ∧ wr.frozen? ⟨w.heap.size, 1, none⟩ = false ∧ wr.frozen? ⟨w.heap.size, 2, none⟩ = false ∧ wr.frozen? ⟨w.heap.size, 3, none⟩ = false ∧ wr.frozen? ⟨w.heap.size, 4, none⟩ = false :=
  ⟨H.o4.cell 0 _ rfl, H.o4.cell 1 _ rfl, H.o4.cell 2 _ rfl, H.o4.cell 3 _ rfl, H.o4.cell 4 _ rfl, H.o4.frozen 0, H.o4.frozen 1, H.o4.frozen 2, H.o4.frozen 3, H.o4.frozen 4⟩
theorem ForeI.drewN {w wr : World} {c a0 b0 a1 b1 : Int} (H : ForeI w wr c a0 b0 a1 b1) (n : Nat) : ForeI w (wr.drewN n) c a0 b0 a1 b1 := ⟨H.o4, H.o5, below_drewN H.low n⟩
theorem ForeI.sets {w wr : World} {c a0 b0 a1 b1 c' a0' b0' a1' b1' : Int} (H : ForeI w wr c a0 b0 a1 b1) : ForeI w (((((wr.setCell ⟨w.heap.size + 1, 0, none⟩ (.int .i64 c')).setCell ⟨w.heap.size + 1, 1, none⟩ (.int .u64 a0')).setCell ⟨w.heap.size + 1, 2, none⟩ (.int .u64 b0')).setCell ⟨w.heap.size + 1, 3, none⟩ (.int .u64 a1')).setCell ⟨w.heap.size + 1, 4, none⟩ (.int .u64 b1')) c' a0' b0' a1' b1' :=
  ⟨((((H.o4.other (by omega) 0 _).other (by omega) 1 _).other (by omega) 2 _).other (by omega) 3 _).other (by omega) 4 _, ((((H.o5.set 0 _).set 1 _).set 2 _).set 3 _).set 4 _, ((((H.low.setCell (by simp) _).setCell (by simp) _).setCell (by simp) _).setCell (by simp) _).setCell (by simp) _⟩

set_option maxRecDepth 100000 in
set_option maxHeartbeats 4000000 in
theorem foresee_any (ao bo : Option Addr) (ca cb : Nat) (LA LB : List Int) (a b : Int) (Ka Kb : Nat) (w : World) (hA : NtL w ao ca LA a Ka) (hB : NtL w bo cb LB b Kb) (hab : b ≤ a) (hl : 2 ≤ LB.length) (hK : Ka ≤ 1073741824) :
    Calls Tryz.prog 61 #[.slice ao LA.length ca, .slice bo LB.length cb] w fun e w' => ∃ cnt a0 b0 a1 b1, e = .returned (.agg #[.int .i64 cnt, .int .u64 a0, .int .u64 b0, .int .u64 a1, .int .u64 b1]) ∧ StepsN a b cnt a0 b0 a1 b1 ∧ Below w.heap.size w w' := by
  have hle := len_of_le hA.dig hB.dig hB.nrm (by rw [hA.eq, hB.eq]; exact hab)
  obtain ⟨m, hm⟩ : ∃ m, LA.length = m + 2 := ⟨LA.length - 2, by omega⟩
  obtain ⟨n, hn⟩ : ∃ n, n = LB.length := ⟨_, rfl⟩
  obtain ⟨ba, oa, rfl⟩ := hA.rd.adr (by omega)
  obtain ⟨bb, ob, rfl⟩ := hB.rd.adr (by omega)
  have hm30 : m + 2 ≤ 1073741824 := by have := hA.le; omega
  have cA1 : w.cell? ⟨ba, oa + (m + 2 - 1), none⟩ = _ := hA.rd.cell ba oa rfl (m + 1) (by omega)
  have cA0 : w.cell? ⟨ba, oa + (m + 2 - 2), none⟩ = _ := hA.rd.cell ba oa rfl m (by omega)
  have hba : ba < w.heap.size := World.block_lt_of_cell? w _ cA1
  have hba1 : ba < w.heap.size + 1 := by omega
  have hy := hA.dig.at B64_pos (m + 1)
  have hz := hA.dig.at B64_pos m
  have hy0 := hA.nrm.top hm
  obtain ⟨y, hye⟩ : ∃ y, y = LA[m + 1]?.getD 0 := ⟨_, rfl⟩
  obtain ⟨z, hze⟩ : ∃ z, z = LA[m]?.getD 0 := ⟨_, rfl⟩
  rw [← hye] at cA1 hy hy0; rw [← hze] at cA0 hz
  have hlz := fun w => lz64 y (by omega) hy.2 w
  have hz0 := hz.1
  have hyn := hy.1
  have Hlz := hid hlz; have HA := hid hA; have HB := hid hB; have Hy := hid hye; have Hz := hid hze; have Hn := hid hn; have Hm := hid hm; have Hab := hid hab; have HY := hid hy
  rw [hm, ← hn]
  rw [hm, ← hn] at hle
  rw [← hn] at hl
  clear hlz hA hB hye hze hn hm hab hy hy0 hz
  go_enter Tryz.func61, Tryz.ntmps61
  go_upto_region 3 with (fail)
  obtain ⟨W0, hW0⟩ : ∃ W0, W0 = ((w.alloc (.cells #[.int .i64 0, .int .u64 0, .int .u64 0, .int .u64 0, .int .u64 0] 82)).alloc (.cells #[.int .i64 0, .int .u64 1, .int .u64 0, .int .u64 0, .int .u64 1] 82)) := ⟨_, rfl⟩
  have hI0 : ForeI w W0 0 1 0 0 1 := by
    rw [hW0]
    exact ⟨(Obs.new _ w _).alloc _, by have := Obs.new 82 (w.alloc (.cells #[.int .i64 0, .int .u64 0, .int .u64 0, .int .u64 0, .int .u64 0] 82)) (stepL 0 1 0 0 1); simpa [stepL] using this, ((Below.refl _ _).alloc (Nat.le_refl _) _).alloc (by simp) _⟩
  have HI0 := hid hI0
  clear hI0
  rw [← hW0]
  clear hW0
  have cA1' := (HA.out.rd.below HI0.out.low (Nat.le_refl _)).cell ba oa rfl (m + 1) (by have := Hm.out; omega)
  have cA0' := (HA.out.rd.below HI0.out.low (Nat.le_refl _)).cell ba oa rfl m (by have := Hm.out; omega)
  rw [← Hy.out] at cA1'; rw [← Hz.out] at cA0'
  clear cA1 cA0 hba hba1
  go_wp2_with fail
  refine (Hlz.out _).mono ?_
  rintro e wz ⟨s, rfl, hs63, _, hs2, rfl⟩
  have hwr : IntKind.u64.wrap (y * 2 ^ s) = y * 2 ^ s := by
    rw [IntKind.wrap_u64]
    exact Int.emod_eq_of_lt (Int.mul_nonneg hyn (Int.le_of_lt (Int.pow_pos (by decide)))) hs2
  have hA8 : bits .or .u64 (IntKind.u64.wrap (y * 2 ^ s)) (z / 2 ^ (64 - s)) = a / topS m s := by
    rw [hwr, Hy.out, Hz.out, top_two HA.out.dig Hm.out hs63 (by rw [← Hy.out]; exact hs2), HA.out.eq]
  have Hs2 := hid hs2; have HA8 := hid hA8
  clear hs2 hwr hA8
  go_wp2
  go_quiet (fail)
  go_upto_block 0 with (fail)
  rw [HA8.out]
  have hSp := topS_pos (m := m) hs63
  have hA0 : 0 ≤ a / topS m s := Int.ediv_nonneg HA.out.nonneg (Int.le_of_lt hSp)
  have hBp : 0 ≤ b / topS m s := Int.ediv_nonneg HB.out.nonneg (Int.le_of_lt hSp)
  have hBA : b / topS m s ≤ a / topS m s := Int.ediv_le_ediv hSp Hab.out
  have hA64 : a / topS m s < 18446744073709551616 := by
    have := top_lt HA.out.dig HA.out.nrm Hm.out hs63 (by rw [← Hy.out]; exact Hs2.out)
    rw [HA.out.eq] at this; exact this
  have hAe := Int.emod_add_mul_ediv a (topS m s)
  have hBe := Int.emod_add_mul_ediv b (topS m s)
  have hAm := And.intro (Int.emod_nonneg a (show topS m s ≠ 0 by omega)) (Int.emod_lt_of_pos a hSp)
  have hBm := And.intro (Int.emod_nonneg b (show topS m s ≠ 0 by omega)) (Int.emod_lt_of_pos b hSp)
  obtain ⟨A, hAA⟩ : ∃ A, A = a / topS m s := ⟨_, rfl⟩
  obtain ⟨B, hBB⟩ : ∃ B, B = b / topS m s := ⟨_, rfl⟩
  rw [← hAA] at hA0 hBA hA64 hAe ⊢
  rw [← hBB] at hBp hBA hBe
  have HBB := hid hBB; have HBA := hid hBA; have HAe := hid hAe; have HBe := hid hBe; have HAm := hid hAm; have HBm := hid hBm; have HBp := hid hBp
  clear hAA hBB hBA hAe hBe hAm hBm hSp
  go_cut [9] (fun lv wx => lv = .int .u64 B ∧ ∃ nq', wx = W0.drewN nq')
  case first =>
    by_cases h1 : n = m + 2
    · subst h1
      have cB1 := (HB.out.rd.below HI0.out.low (Nat.le_refl _)).cell bb ob rfl (m + 1) (by have := Hn.out; omega)
      have cB0 := (HB.out.rd.below HI0.out.low (Nat.le_refl _)).cell bb ob rfl m (by have := Hn.out; omega)
      have e1 := hid (top_le HA.out.dig HB.out.dig (k := m + 1) Hm.out Hn.out.symm (by rw [HA.out.eq, HB.out.eq]; exact Hab.out))
      have t1 := HB.out.dig.at B64_pos (m + 1)
      have t0 := (HB.out.dig.at B64_pos m).1
      have e2 : LB[m + 1]?.getD 0 * 2 ^ s < B64 := by
        have := Int.mul_le_mul_of_nonneg_right e1.out (Int.le_of_lt (Int.pow_pos (m := s) (show (0 : Int) < 2 by decide)))
        rw [← Hy.out] at this; have := Hs2.out; omega
      have e3 : IntKind.u64.wrap (LB[m + 1]?.getD 0 * 2 ^ s) = LB[m + 1]?.getD 0 * 2 ^ s := by
        rw [IntKind.wrap_u64]
        exact Int.emod_eq_of_lt (Int.mul_nonneg t1.1 (Int.le_of_lt (Int.pow_pos (by decide)))) e2
      have e4 : bits .or .u64 (IntKind.u64.wrap (LB[m + 1]?.getD 0 * 2 ^ s)) (LB[m]?.getD 0 / 2 ^ (64 - s)) = B := by
        rw [e3, top_two HB.out.dig Hn.out.symm hs63 e2, HB.out.eq, ← HBB.out]
      obtain ⟨y2, hy2⟩ : ∃ y2, y2 = LB[m + 1]?.getD 0 := ⟨_, rfl⟩
      obtain ⟨z2, hz2⟩ : ∃ z2, z2 = LB[m]?.getD 0 := ⟨_, rfl⟩
      rw [← hy2] at cB1 e4 t1
      rw [← hz2] at cB0 e4 t0
      have y20 := t1.1
      have HE4 := hid e4
      have hb : ((m : Int) + 2 == (m : Int) + 2) = true := by simp
      clear e1 e2 e3 e4 hy2 hz2 t1
      go_wp2
      go_quiet (fail)
      go_wp2
      go_meet
      exact ⟨by rw [HE4.out], _, World.drewN_drewN _ _ _⟩
    · have hb1 : ((n : Int) == (m : Int) + 2) = false := by rw [beq_eq_false_iff_ne]; omega
      by_cases h2 : n = m + 1
      · subst h2
        have cB0 := (HB.out.rd.below HI0.out.low (Nat.le_refl _)).cell bb ob rfl m (by have := Hn.out; omega)
        have t0 := (HB.out.dig.at B64_pos m).1
        have e4 := top_one (s := s) HB.out.dig Hn.out.symm
        rw [HB.out.eq, ← HBB.out] at e4
        obtain ⟨z2, hz2⟩ : ∃ z2, z2 = LB[m]?.getD 0 := ⟨_, rfl⟩
        rw [← hz2] at cB0 e4 t0
        have HE4 := hid e4
        clear e4 hz2 h1
        go_wp2
        go_meet
        exact ⟨by rw [HE4.out], _, rfl⟩
      · have hb2 : ((n : Int) == (m : Int) + 2 - 1) = false := by rw [beq_eq_false_iff_ne]; omega
        have hb3 : ((n : Int) == (m : Int) + 1) = false := by rw [beq_eq_false_iff_ne]; omega
        have e4 := top_none HB.out.dig (show LB.length ≤ m by have := Hn.out; omega) hs63
        rw [HB.out.eq, ← HBB.out] at e4
        have HE4 := hid e4
        clear e4 h1 h2
        go_wp2
        go_meet
        exact ⟨by rw [HE4.out], _, rfl⟩
  case rest =>
    obtain ⟨rfl, nq', rfl⟩ := hcut
    have HL0 := hid (LehN.start (a := a) HB.out.nonneg HBp.out HBA.out)
    go_wp2
    go_loopw [8, 9] (fun hv lv wr => ∃ cnt a0 b0 a1 b1 hi lo, hv = .int .u64 hi ∧ lv = .int .u64 lo ∧ LehN a b A B cnt a0 b0 a1 b1 hi lo ∧ ForeI w wr cnt a0 b0 a1 b1) (fun _ lv _ => (intOf lv).toNat)
    case atStart => exact ⟨0, 1, 0, 0, 1, A, B, rfl, rfl, HL0.out, HI0.out.drewN _⟩
    case round =>
      obtain ⟨cnt, a0, b0, a1, b1, hi, lo, rfl, rfl, HL, HF⟩ := hrel
      obtain ⟨x0, x1, x2, x3, x4⟩ := HF.cells
      obtain ⟨f0, f1, f2, f3, f4⟩ := HF.frozen
      obtain ⟨r0, r1, r2, r3, r4, g0, g1, g2, g3, g4⟩ := HF.olds
      have HSt := hid HL.steps
      have hfin : ∀ wx v0 v1 v2 v3 v4, Below w.heap.size w wx → Below w.heap.size w (((((wx.setCell ⟨w.heap.size, 0, none⟩ v0).setCell ⟨w.heap.size, 1, none⟩ v1).setCell ⟨w.heap.size, 2, none⟩ v2).setCell ⟨w.heap.size, 3, none⟩ v3).setCell ⟨w.heap.size, 4, none⟩ v4) := fun _ _ _ _ _ _ h =>
        ((((h.setCell (Nat.le_refl _) _).setCell (Nat.le_refl _) _).setCell (Nat.le_refl _) _).setCell (Nat.le_refl _) _).setCell (Nat.le_refl _) _
      have HFin := hid hfin
      clear hfin
      by_cases hlo : 0 < lo
      · have hB := HL.bounds hlo
        have hF := hB.fits HL.eA HL.eB HL.b11 HL.a10
        obtain ⟨q, hq⟩ : ∃ q, hi / lo = q := ⟨_, rfl⟩
        rw [hq] at hB hF
        obtain ⟨rs, hrs⟩ : ∃ rs, hi - q * lo = rs := ⟨_, rfl⟩
        obtain ⟨a2, ha2⟩ : ∃ a2, a0 + q * a1 = a2 := ⟨_, rfl⟩
        obtain ⟨b2, hb2⟩ : ∃ b2, b0 + q * b1 = b2 := ⟨_, rfl⟩
        rw [hrs, ha2, hb2] at hB hF
        have hhi : hi ≤ A := by
          have h1 := HL.eA; have h2 := HL.b11; have h3 := HL.b00; have h4 := HL.le
          have h5 : 1 * hi ≤ b1 * hi := Int.mul_le_mul_of_nonneg_right h2 (by omega)
          have h6 := Int.mul_nonneg h3 (Int.le_of_lt hlo)
          omega
        have h0hi : 0 ≤ hi := by have := HL.le; omega
        have hlohi : lo ≤ hi := HL.le
        have q0 : 0 ≤ q := by have := hB.q1; omega
        have p1 : 0 ≤ q * lo := Int.mul_nonneg q0 (Int.le_of_lt hlo)
        have p2 := hB.qh; have p3 := hB.r0; have p4 := hB.r1
        have p5 := hB.qa0; have p6 := hB.qa; have p7 := hB.qb0; have p8 := hB.qb; have p9 := hB.a20; have p10 := hB.ab2; have p11 := hB.b21
        have s1 := HL.a00; have s2 := HL.b00; have s3 := HL.a10; have s4 := HL.b11
        have u1 : IntKind.u64.wrap (q * lo) = q * lo := by rw [IntKind.wrap_u64]; omega
        have u2 : IntKind.u64.wrap (hi - q * lo) = rs := by rw [IntKind.wrap_u64]; omega
        have u3 : IntKind.u64.wrap (q * a1) = q * a1 := by rw [IntKind.wrap_u64]; omega
        have u4 : IntKind.u64.wrap (a0 + q * a1) = a2 := by rw [IntKind.wrap_u64]; omega
        have u5 : IntKind.u64.wrap (q * b1) = q * b1 := by rw [IntKind.wrap_u64]; omega
        have u6 : IntKind.u64.wrap (b0 + q * b1) = b2 := by rw [IntKind.wrap_u64]; omega
        have u7 : IntKind.u64.wrap rs = rs := by rw [IntKind.wrap_u64]; omega
        have u8 : IntKind.u64.wrap a2 = a2 := by rw [IntKind.wrap_u64]; omega
        have u9 : IntKind.u64.wrap b2 = b2 := by rw [IntKind.wrap_u64]; omega
        have HNext := hid (fun k1 k2 => HL.next hB hrs.symm ha2.symm hb2.symm (show a = A * topS m s + a % topS m s by rw [Int.mul_comm A]; have := HAe.out; omega) (show b = B * topS m s + b % topS m s by rw [Int.mul_comm B]; have := HBe.out; omega) HAm.out.1 HAm.out.2 HBm.out.1 HBm.out.2 hA64 k1 k2)
        have hcnt := HL.steps.c
        have hc0 := hcnt.1; have hc1 := hcnt.2
        have HHF := hid HF
        clear HL hB hcnt p1 p2 p5 p6 p7 p8 p10 s1 s2
        by_cases k1 : rs < b2
        · clear hF
          go_wp2
          go_quiet (fail)
          go_wp2
          refine bodyPost_ret (v := .agg #[.int .i64 cnt, .int .u64 a0, .int .u64 b0, .int .u64 a1, .int .u64 b1]) (by simp [results, Tryz.results61, go_sem, r0, r1, r2, r3, r4]) rfl ⟨_, _, _, _, _, rfl, HSt.out, HFin.out _ _ _ _ _ _ (below_drewN HHF.out.low _)⟩
        · obtain ⟨hF3, _⟩ := hF.2.2 (by omega)
          clear hF
          have w1 : IntKind.u64.wrap (lo - rs) = lo - rs := by rw [IntKind.wrap_u64]; omega
          have w2 : IntKind.u64.wrap (b1 + b2) = b1 + b2 := by rw [IntKind.wrap_u64]; omega
          by_cases k2 : lo - rs < b1 + b2
          · go_wp2
            go_quiet (fail)
            go_wp2
            refine bodyPost_ret (v := .agg #[.int .i64 cnt, .int .u64 a0, .int .u64 b0, .int .u64 a1, .int .u64 b1]) (by simp [results, Tryz.results61, go_sem, r0, r1, r2, r3, r4]) rfl ⟨_, _, _, _, _, rfl, HSt.out, HFin.out _ _ _ _ _ _ (below_drewN HHF.out.low _)⟩
          · have k1' : b2 ≤ rs := by omega
            have k2' : b1 + b2 ≤ lo - rs := by omega
            have HN := hid (HNext.out k1' k2')
            have hp4 := hid p4
            go_wp2
            go_quiet (fail)
            go_wp2
            go_roundw
            case rel => exact ⟨cnt + 1, a1, b1, a2, b2, lo, rs, rfl, rfl, HN.out, (HHF.out.drewN _).sets⟩
            case measure => simp [intOf]; have := hp4.out; omega
      · have HHF := hid HF; have HHL := hid HL
        clear HF HL
        go_wp2
        refine bodyPost_ret (v := .agg #[.int .i64 cnt, .int .u64 a0, .int .u64 b0, .int .u64 a1, .int .u64 b1]) (by simp [results, Tryz.results61, go_sem, r0, r1, r2, r3, r4]) rfl ⟨_, _, _, _, _, rfl, HSt.out, HFin.out _ _ _ _ _ _ HHF.out.low⟩

end Go.Proofs.YtahbkcebifkniaaGreatDoor

/- (*exact.difference).limb: a limb of the difference of two products. -/
namespace Go.Proofs.YtahbkcebifkniaaGreatDoor
open Go.RowKit

theorem limb_step {x u cc hi lo l1 c1 : Int} (hx : 0 ≤ x ∧ x < B64) (hu : 0 ≤ u ∧ u < B64) (hc : 0 ≤ cc ∧ cc < B64) (h1 : lo + B64 * hi = x * u) (h2 : l1 + B64 * c1 = lo + cc) (hl : 0 ≤ l1) :
    hi + c1 ≤ 18446744073709551615 ∧ l1 + B64 * (hi + c1) = x * u + cc := by
  have h := (mul_le x u hx.1 hx.2 hu.1 hu.2).2
  generalize x * u = p at *
  unfold B64 at *
  constructor <;> omega

/-- Behind a limb: what it is, and what is carried on. -/
structure LimbN (x u y v P M Bo r P' M' Bo' : Int) : Prop where
  hr : 0 ≤ r ∧ r < B64
  hp : 0 ≤ P' ∧ P' < B64
  hm : 0 ≤ M' ∧ M' < B64
  hb : 0 ≤ Bo' ∧ Bo' ≤ 1
  eq : r + B64 * (P' - M' - Bo') = x * u - y * v + (P - M - Bo)

set_option maxRecDepth 100000 in
set_option maxHeartbeats 4000000 in
theorem limb_any (d : Nat) (x u y v P M Bo : Int) (w : World) (hx : 0 ≤ x ∧ x < B64) (hu : 0 ≤ u ∧ u < B64) (hy : 0 ≤ y ∧ y < B64) (hv : 0 ≤ v ∧ v < B64) (hP : 0 ≤ P ∧ P < B64) (hM : 0 ≤ M ∧ M < B64) (hB : 0 ≤ Bo ∧ Bo ≤ 1)
    (c0 : w.cell? ⟨d, 0, none⟩ = some (.int .u64 P)) (c1 : w.cell? ⟨d, 1, none⟩ = some (.int .u64 M)) (c2 : w.cell? ⟨d, 2, none⟩ = some (.int .u64 Bo)) (f0 : w.frozen? ⟨d, 0, none⟩ = false) (f1 : w.frozen? ⟨d, 1, none⟩ = false) (f2 : w.frozen? ⟨d, 2, none⟩ = false) :
    Calls Tryz.prog 83 #[.pointer (some ⟨d, 0, none⟩), .int .u64 x, .int .u64 u, .int .u64 y, .int .u64 v] w fun e w' => ∃ r P' M' Bo', e = .returned (.int .u64 r) ∧ LimbN x u y v P M Bo r P' M' Bo' ∧
      w' = ((w.setCell ⟨d, 0, none⟩ (.int .u64 P')).setCell ⟨d, 1, none⟩ (.int .u64 M')).setCell ⟨d, 2, none⟩ (.int .u64 Bo') := by
  have Hx := hid hx; have Hu := hid hu; have Hy := hid hy; have Hv := hid hv; have HP := hid hP; have HM := hid hM; have HB := hid hB
  clear hx hu hy hv hP hM hB
  go_enter Tryz.func83, Tryz.ntmps83
  go_wp2_with fail
  refine (mul64_ex x u Hx.out.1 Hx.out.2 Hu.out.1 Hu.out.2 _).mono ?_
  rintro e w' ⟨hi, lo, rfl, ⟨hi0, lo0, lo1, hi1, HPr⟩, rfl⟩
  obtain ⟨l1, k1, ha1, ⟨l10, l11, k10, k11⟩, hl1⟩ := add64_ex lo P 0 lo0 lo1 HP.out.1 HP.out.2 (Int.le_refl 0) (by decide)
  have hms := limb_step Hx.out Hu.out HP.out HPr.out (by simpa using hl1) l10
  have hle := hms.1
  have Hms := hid hms; have Hl1 := hid (show 0 ≤ l1 ∧ l1 < B64 from ⟨l10, l11⟩)
  clear hms hl1 lo1 l11
  go_wp2_with fail
  refine (mul64_ex y v Hy.out.1 Hy.out.2 Hv.out.1 Hv.out.2 _).mono ?_
  rintro e w' ⟨gi, go, rfl, ⟨gi0, go0, go1, gi1, GPr⟩, rfl⟩
  obtain ⟨m1, j1, hb1, ⟨m10, m11, j10, j11⟩, hm1⟩ := add64_ex go M 0 go0 go1 HM.out.1 HM.out.2 (Int.le_refl 0) (by decide)
  have hmt := limb_step Hy.out Hv.out HM.out GPr.out (by simpa using hm1) m10
  have hle2 := hmt.1
  obtain ⟨r, b2, hs2, ⟨r0, r1, b20, b21⟩, hr, _⟩ := sub64_ex l1 m1 Bo Hl1.out.1 Hl1.out.2 m10 m11 HB.out.1 HB.out.2
  have HN := hid (show LimbN x u y v P M Bo r (hi + k1) (gi + j1) b2 from ⟨⟨r0, r1⟩, ⟨by omega, by unfold B64; omega⟩, ⟨by omega, by unfold B64; omega⟩, ⟨b20, b21⟩, by
    have e1 := Hms.out.2; have e2 := hmt.2
    simp only [Int.mul_sub]
    omega⟩)
  clear hmt hm1 go1 m11 hr r1
  go_wp2
  go_ret
  exact ⟨r, _, _, _, rfl, HN.out, rfl⟩

end Go.Proofs.YtahbkcebifkniaaGreatDoor
