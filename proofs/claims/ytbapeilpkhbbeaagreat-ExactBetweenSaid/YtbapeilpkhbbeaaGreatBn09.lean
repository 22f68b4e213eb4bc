/- exact.shiftRight. exact.divide. Lehmer's steps: the highest 64 bits; what the steps are. -/
import Derived.Test.YtbapeilpkhbbeaaGreatBn08
import Derived.Test.YtbapeilpkhbbeaaGreatBn04
import Derived.Test.YtbapeilpkhbbeaaGreatBn05
/- exact.shiftRight. -/
namespace Go.Proofs.YtbapeilpkhbbeaaGreat
open Go.RowKit

/-- A limb, shifted down, with what comes from the next one. -/
theorem shr_step {x y : Int} {s : Nat} (hs : s ≤ 63) (x0 : 0 ≤ x) (x1 : x < B64) :
    let lo := bits .or .u64 (x / 2 ^ s) (IntKind.u64.wrap (y * 2 ^ (64 - s)))
    0 ≤ lo ∧ lo < B64 ∧ lo * 2 ^ s + x % 2 ^ s = x + B64 * (y % 2 ^ s) := by
  obtain ⟨p1, p2, p3⟩ := pow_split hs
  have hw : IntKind.u64.wrap (y * 2 ^ (64 - s)) = (y % 2 ^ s) * 2 ^ (64 - s) := by
    rw [IntKind.wrap_u64, show (18446744073709551616 : Int) = 2 ^ (64 - s) * 2 ^ s from p3.symm, Int.mul_comm y, Int.mul_emod_mul_of_pos _ _ p2, Int.mul_comm]
  have m0 := Int.emod_nonneg y (show (2 : Int) ^ s ≠ 0 by omega)
  have m1 := Int.emod_lt_of_pos y p1
  have xe := Int.emod_add_mul_ediv x (2 ^ s)
  have q0 : 0 ≤ x / 2 ^ s := Int.ediv_nonneg x0 (Int.le_of_lt p1)
  have q1 : x / 2 ^ s < 2 ^ (64 - s) := Int.ediv_lt_of_lt_mul p1 (by rw [p3]; exact x1)
  have hm : (y % 2 ^ s + 1) * 2 ^ (64 - s) ≤ B64 := by rw [← p3, Int.mul_comm (2 ^ (64 - s))]; exact Int.mul_le_mul_of_nonneg_right (by omega) (Int.le_of_lt p2)
  rw [Int.add_mul] at hm
  have mp := Int.mul_nonneg m0 (Int.le_of_lt p2)
  have hq : x / 2 ^ s < 18446744073709551616 := by have := Int.ediv_le_self (2 ^ s) x0; unfold B64 at x1; omega
  have ho := or_low (y % 2 ^ s) (x / 2 ^ s) (64 - s) m0 (by unfold B64 at hm; omega) q0 q1 hq
  simp only [hw, ho]
  refine ⟨by omega, by omega, ?_⟩
  rw [← p3, Int.add_mul]
  have e1 : x / 2 ^ s * 2 ^ s = 2 ^ s * (x / 2 ^ s) := Int.mul_comm _ _
  have e2 : y % 2 ^ s * 2 ^ (64 - s) * 2 ^ s = 2 ^ (64 - s) * 2 ^ s * (y % 2 ^ s) := by rw [Int.mul_assoc, Int.mul_comm]
  omega

structure ShrI (w wr : World) (g : Nat) (D : List Int) (pt k : Nat) (Q : List Int) : Prop where
  row : Row .u64 106 wr g (Q ++ D.drop k)
  gr : w.grownBy wr (some g)
  len : Q.length = k
  dig : Dig B64 Q
  eq : val B64 Q * 2 ^ pt + D[0]?.getD 0 % 2 ^ pt = val B64 (D.take k) + B64 ^ k * (D[k]?.getD 0 % 2 ^ pt)

theorem drop_cons (D : List Int) (k : Nat) (hk : k < D.length) : D.drop k = D[k]?.getD 0 :: D.drop (k + 1) := by
  rw [List.drop_eq_getElem_cons hk]; simp [hk]

theorem ShrI.cell {w wr : World} {g : Nat} {D Q : List Int} {pt k : Nat} (H : ShrI w wr g D pt k Q) {i : Nat} (hi : k ≤ i) (hk : i < D.length) : wr.cell? ⟨g, i, none⟩ = some (.int .u64 (D[i]?.getD 0)) := by
  have hl := H.len
  rw [H.row.cell i (by simp; omega), List.getElem?_append_right (by omega), List.getElem?_drop, hl, show k + (i - k) = i by omega]

theorem ShrI.next {w wr wx : World} {g : Nat} {D Q : List Int} {pt k : Nat} {lo : Int} (H : ShrI w wr g D pt k Q) (hk : k < D.length) (h0 : 0 ≤ lo) (h1 : lo < B64) (he : lo * 2 ^ pt + D[k]?.getD 0 % 2 ^ pt = D[k]?.getD 0 + B64 * (D[k + 1]?.getD 0 % 2 ^ pt))
    (hr : Row .u64 106 wx g (Q ++ (lo :: D.drop (k + 1)))) (hg : w.grownBy wx (some g)) : ShrI w wx g D pt (k + 1) (Q ++ [lo]) := by
  refine ⟨by simpa using hr, hg, by simp [H.len], H.dig.append (Dig.cons h0 h1 (Dig.nil _)), ?_⟩
  rw [val_snoc, H.len, val_take_succ B64 D k hk, Int.pow_succ]
  have e := H.eq
  grind

theorem ShrI.row1 {w wr : World} {g : Nat} {D Q : List Int} {pt k : Nat} (H : ShrI w wr g D pt k Q) (hk : k < D.length) (y : Int) : Row .u64 106 (wr.setCell ⟨g, k, none⟩ (.int .u64 y)) g (Q ++ (y :: D.drop (k + 1))) := by
  have h1 := H.row.set k y
  rw [drop_cons D k hk, List.set_append_right _ _ (by rw [H.len]; exact Nat.le_refl _), H.len, Nat.sub_self, List.set_cons_zero] at h1
  exact h1
theorem row2 {wr : World} {g : Nat} {S Q : List Int} {k : Nat} {y z : Int} (h : Row .u64 106 wr g (Q ++ (y :: S))) (hl : Q.length = k) : Row .u64 106 (wr.setCell ⟨g, k, none⟩ (.int .u64 z)) g (Q ++ (z :: S)) := by
  have h1 := h.set k z
  rw [List.set_append_right _ _ (by omega), hl, Nat.sub_self, List.set_cons_zero] at h1
  exact h1

set_option maxRecDepth 100000 in
set_option maxHeartbeats 4000000 in
theorem shiftRight_own (va : Value) (a : Int) (s K : Nat) (w : World) (hA : Nt w va a K) (hK : K ≤ 1073741824) (hs : s ≤ 1073741824) :
    Calls Tryz.prog 118 #[va, .int .i64 (s : Int)] w (RetOwn w (a / 2 ^ s) K) := by
  obtain ⟨ao, ca, LA, rfl, hA⟩ := hA
  obtain ⟨n, hn⟩ : ∃ n, n = LA.length := ⟨_, rfl⟩
  have hn30 : n ≤ 1073741824 := by have := hA.le; omega
  obtain ⟨wh, hwh⟩ : ∃ wh, wh = s / 64 := ⟨_, rfl⟩
  obtain ⟨pt, hpt⟩ : ∃ pt, pt = s % 64 := ⟨_, rfl⟩
  have e1 : (s : Int) / 64 = (wh : Int) := by omega
  have e2 : (s : Int) % 64 = (pt : Int) := by omega
  have hp63 : pt ≤ 63 := by omega
  have hw30 : wh ≤ 1073741824 := by omega
  rw [← hn]
  have hpow : (2 : Int) ^ s = B64 ^ wh * 2 ^ pt := by
    have : s = 64 * wh + pt := by omega
    rw [this, Int.pow_add, Int.pow_mul]; rfl
  have hdiv : a / 2 ^ s = a / B64 ^ wh / 2 ^ pt := by rw [hpow]; exact (Int.ediv_ediv_of_nonneg (Int.le_of_lt (Int.pow_pos B64_pos))).symm
  have HA := hid hA; have Hn := hid hn; have HD := hid hdiv
  clear hA hn hwh hpt hpow hdiv
  by_cases hle : n ≤ wh
  · have h0 : a / 2 ^ s = 0 := by
      rw [HD.out, Int.ediv_eq_zero_of_lt (a := a) (b := B64 ^ wh)]
      · simp
      · exact HA.out.nonneg
      · have h1 := val_lt B64_pos HA.out.dig
        rw [HA.out.eq, ← Hn.out] at h1
        exact Int.lt_of_lt_of_le h1 (pow_mono B64_pos hle)
    rw [h0]
    clear h0
    go_enter Tryz.func118, Tryz.ntmps118
    go_wp2
    go_ret
    exact ⟨_, rfl, .inr ⟨rfl, rfl⟩, Below.refl _ _⟩
  · have hD : val B64 (LA.drop wh) = a / B64 ^ wh := by
      have h := val_take_drop B64 LA wh (by have := Hn.out; omega)
      rw [HA.out.eq] at h
      have hl := val_lt B64_pos (HA.out.dig.take wh)
      rw [List.length_take, Nat.min_eq_left (by have := Hn.out; omega)] at hl
      have h0 := val_nonneg B64_pos (HA.out.dig.take wh)
      exact (((Int.ediv_emod_unique (Int.pow_pos B64_pos)).2 ⟨h.symm, h0, hl⟩).1).symm
    obtain ⟨m, hm⟩ : ∃ m, n = wh + m := ⟨n - wh, by omega⟩
    have hm0 : 0 < m := by omega
    have hlD : (LA.drop wh).length = m := by rw [List.length_drop, ← Hn.out]; omega
    obtain ⟨b, o, rfl⟩ := HA.out.rd.adr (by have := Hn.out; omega)
    have hcap := HA.out.rd.cap
    rw [← Hn.out] at hcap
    have hRD : Rd w .u64 (some ⟨b, o + wh, none⟩) (ca - wh) (LA.drop wh) := by
      refine ⟨by rw [hlD]; omega, by have := HA.out.rd.most; omega, fun _ => ⟨_, _, rfl⟩, fun b' o' e i hi => ?_⟩
      cases e
      rw [Nat.add_assoc, HA.out.rd.cell b o rfl (wh + i) (by rw [hlD] at hi; have := Hn.out; omega), List.getElem?_drop]
    obtain ⟨D, hDD⟩ : ∃ D, D = LA.drop wh := ⟨_, rfl⟩
    rw [← hDD] at hD hlD hRD
    have hdg : Dig B64 D := by rw [hDD]; exact HA.out.dig.drop wh
    have HlD := hid hlD; have HRD := hid hRD; have HVD := hid hD; have Hdg := hid hdg
    clear hlD hRD hD hDD hdg
    obtain ⟨i0, hi, hz0, hz1, hz2⟩ := info_parts Tryz.info106
    subst hm
    have hmn : (wh : Int) < ((wh + m : Nat) : Int) := by omega
    go_enter Tryz.func118, Tryz.ntmps118
    go_wp2_with (at_make; refine wpList_make_row w rfl _ _ 76 rfl 106 i0 .u64 Tryz.underlying76 hi hz0 hz1 .i64 .i64 _ _ m rfl rfl (by omega) (by omega) (by rw [hz2]; omega) (by unfold maxLen; omega) ?_)
    intro w1 hrow hg1
    have hb1 := grown_below hg1
    have HR1 := hid (HRD.out.below hb1 (Nat.le_refl _))
    go_wp2_with ((with_reducible refine wpList_copy_row rfl _ _ _ _ rfl 106 Tryz.underlying76 Tryz.size106 .u64 106 w.heap.size [] (List.replicate m 0) [] D 0 m m m (some ⟨b, o + wh, none⟩) (ca - wh) rfl rfl rfl (by simp) HlD.out.symm (by simpa using hrow) HR1.out (by have := HlD.out; simp; omega) ?_))
    intro w2 hrow2 hg2
    have H0 : ShrI w w2 w.heap.size D pt 0 [] := by
      refine ⟨?_, grown_trans (grown_any hg1) hg2, rfl, Dig.nil _, by simp [val]⟩
      have e : m - D.length = 0 := by have := HlD.out; omega
      rw [e] at hrow2; simpa using hrow2
    have hb2 := hb1.grown hg2 hb1.size (fun i e => by cases e; exact Nat.le_refl _)
    clear hrow hg1 hrow2 hg2 hb1
    go_wp2
    go_loopw [29] (fun iv wr => ∃ k : Nat, ∃ Q, k ≤ m ∧ iv = .int .i64 k ∧ ShrI w wr w.heap.size D pt k Q ∧ Below w.heap.size w wr) (fun iv _ => m - (intOf iv).toNat)
    case atStart => exact ⟨0, [], Nat.zero_le _, rfl, H0, hb2⟩
    case round =>
      obtain ⟨k, Q, hk, rfl, H, hb⟩ := hrel
      by_cases hlt : k < m
      · have hkD : k < D.length := by have := HlD.out; omega
        have c0 := H.cell (Nat.le_refl k) hkD
        have hd := Hdg.out.at B64_pos k
        have f0 := H.row.frozen k
        by_cases hlast : k + 1 < m
        · have c1 := H.cell (Nat.le_succ k) (show k + 1 < D.length by have := HlD.out; omega)
          have hd1 := Hdg.out.at B64_pos (k + 1)
          obtain ⟨l0, l1, l2⟩ := shr_step (y := D[k + 1]?.getD 0) hp63 hd.1 hd.2
          obtain ⟨x, hx⟩ : ∃ x, x = D[k]?.getD 0 := ⟨_, rfl⟩
          obtain ⟨y, hy⟩ : ∃ y, y = D[k + 1]?.getD 0 := ⟨_, rfl⟩
          have HS := hid (fun wx => H.next (wx := wx) hkD l0 l1 l2)
          have HR := hid (H.row1 hkD (x / 2 ^ pt))
          have hg := H.gr
          have HL := hid H.len
          rw [← hx] at c0 hd HS; rw [← hy] at c1 HS
          have hx0 := hd.1
          have HG := hid hg
          clear H H0 hb2 hd hd1 l0 l1 l2 hx hy hg hkD
          go_wp2
          go_region
          all_goals go_wp2
          go_roundw
          case rel => exact ⟨k + 1, _, by omega, by go_num, HS.out _ (row2 HR.out HL.out) (grown_drew (grown_trans (grown_trans HG.out (grown_set _ _ _ _)) (grown_set _ _ _ _))), (((hb.setCell (Nat.le_refl _) _).setCell (Nat.le_refl _) _).drew)⟩
          case measure => simp [intOf]; omega
        · have hy0 : D[k + 1]?.getD 0 = 0 := by
            have : D.length ≤ k + 1 := by have := HlD.out; omega
            simp [this]
          obtain ⟨p1, p2, p3⟩ := pow_split hp63
          have q0 : 0 ≤ D[k]?.getD 0 / 2 ^ pt := Int.ediv_nonneg hd.1 (Int.le_of_lt p1)
          have q1 : D[k]?.getD 0 / 2 ^ pt < B64 := Int.lt_of_le_of_lt (Int.ediv_le_self _ hd.1) hd.2
          have qe := Int.emod_add_mul_ediv (D[k]?.getD 0) (2 ^ pt)
          have qe2 := Int.mul_comm (2 ^ pt) (D[k]?.getD 0 / 2 ^ pt)
          have HS := hid (fun wx => H.next (wx := wx) hkD q0 q1 (by rw [hy0]; simp; omega))
          have HR := hid (H.row1 hkD (D[k]?.getD 0 / 2 ^ pt))
          obtain ⟨x, hx⟩ : ∃ x, x = D[k]?.getD 0 := ⟨_, rfl⟩
          rw [← hx] at c0 hd HS HR
          have hx0 := hd.1
          have HG := hid H.gr
          clear H H0 hb2 hd hx hkD hy0 p1 p2 p3 q0 q1 qe qe2
          go_wp2
          go_roundw
          case rel => exact ⟨k + 1, _, by omega, by go_num, HS.out _ HR.out (grown_trans HG.out (grown_set _ _ _ _)), hb.setCell (Nat.le_refl _) _⟩
          case measure => simp [intOf]; omega
      · obtain rfl : k = m := by omega
        have hr : Row .u64 106 wr w.heap.size Q := by have := H.row; rw [List.drop_of_length_le (by have := HlD.out; omega)] at this; simpa using this
        have he := H.eq
        have hDk : D[k]?.getD 0 = 0 := by
          have : D.length ≤ k := by have := HlD.out; omega
          simp [this]
        rw [List.take_of_length_le (by have := HlD.out; omega), hDk, HVD.out] at he
        have p1 := (pow_split hp63).1
        have hv : val B64 Q = a / 2 ^ s := by
          rw [HD.out]
          have m0 := Int.emod_nonneg (D[0]?.getD 0) (show (2 : Int) ^ pt ≠ 0 by omega)
          have m1 := Int.emod_lt_of_pos (D[0]?.getD 0) p1
          exact (((Int.ediv_emod_unique p1).2 ⟨by rw [Int.mul_comm (2 ^ pt) (val B64 Q)]; simp at he; omega, m0, m1⟩).1).symm
        have ht := trim64_any (some ⟨w.heap.size, 0, none⟩) k Q wr (row_rd hr (by have := H.len; omega) (by omega))
        rw [H.len] at ht
        have hres := own_row (B := w.heap.size) (c := k) (K := K) hr H.dig hv (by have := H.len; omega) (by omega) (by have := H.len; have := HA.out.le; have := Hn.out; omega) (Nat.le_refl _)
        have HT := hid ht; have Hres := hid hres
        clear ht hres hr hv he hDk p1 H H0 hb2
        go_wp2_with (go_at_call 109; refine HT.out.mono ?_; rintro e w2 ⟨rfl, rfl⟩)
        go_ret
        exact ⟨_, rfl, Hres.out, hb⟩

end Go.Proofs.YtbapeilpkhbbeaaGreat

/- exact.divide. -/
namespace Go.Proofs.YtbapeilpkhbbeaaGreat
open Go.RowKit

theorem pow_lt_inv {B : Int} (hB : 1 < B) {m n : Nat} (h : B ^ m < B ^ n) : m < n := by
  rcases Nat.lt_or_ge m n with k | k
  · exact k
  · have := pow_mono (show 0 < B by omega) k; omega
theorem B64_one : 1 < B64 := by decide

theorem Nt.tight {w : World} {v : Value} {n : Int} {K K' : Nat} (h : Nt w v n K) (hn : n < B64 ^ K') : Nt w v n K' := by
  obtain ⟨ao, c, L, rfl, h⟩ := h
  refine ⟨ao, c, L, rfl, h.rd, h.dig, h.nrm, h.eq, ?_⟩
  rcases Nat.eq_zero_or_pos L.length with k | k
  · omega
  · have := h.nrm.low B64_pos h.dig k
    rw [h.eq] at this
    have := pow_lt_inv B64_one (Int.lt_of_le_of_lt this hn)
    omega
theorem Nt.lt {w : World} {v : Value} {n : Int} {K : Nat} (h : Nt w v n K) : n < B64 ^ K := by
  obtain ⟨ao, c, L, rfl, h⟩ := h
  rw [← h.eq]
  exact Int.lt_of_lt_of_le (val_lt B64_pos h.dig) (pow_mono B64_pos h.le)

/-- A number's limbs are as many as its size asks. -/
theorem len_of {L : List Int} {k : Nat} (hd : Dig B64 L) (hn : Nrm L) (h0 : B64 ^ k ≤ val B64 L) (h1 : val B64 L < B64 ^ (k + 1)) : L.length = k + 1 := by
  have a := pow_lt_inv B64_one (Int.lt_of_le_of_lt h0 (val_lt B64_pos hd))
  have b := pow_lt_inv B64_one (Int.lt_of_le_of_lt (hn.low B64_pos hd (by omega)) h1)
  omega
theorem Nrm.top {L : List Int} {k : Nat} (hn : Nrm L) (hl : L.length = k + 1) : L[k]?.getD 0 ≠ 0 := by
  intro h
  have e := take_succ_getD L k (by omega)
  rw [List.take_of_length_le (by omega), h] at e
  unfold Nrm at hn
  rw [e, trimL_snoc, if_pos rfl] at hn
  have := congrArg List.length hn
  have h2 := trimL_len (L.take k)
  simp at this h2
  omega

/-- The divisor, shifted to the top: as many limbs as before. -/
theorem top_shift {L : List Int} {k s : Nat} (hd : Dig B64 L) (hn : Nrm L) (hl : L.length = k + 1) (hs : s ≤ 63) (hlt : L[k]?.getD 0 * 2 ^ s < B64) : B64 ^ k ≤ val B64 L * 2 ^ s ∧ val B64 L * 2 ^ s < B64 ^ (k + 1) := by
  have lo := hn.low B64_pos hd (by omega)
  rw [hl, Nat.add_sub_cancel] at lo
  have p1 := (pow_split hs).1
  refine ⟨?_, ?_⟩
  · have := Int.mul_le_mul_of_nonneg_left (show (1 : Int) ≤ 2 ^ s by omega) (val_nonneg B64_pos hd); omega
  · have e := take_succ_getD L k (by omega)
    rw [List.take_of_length_le (by omega)] at e
    have hlen : (L.take k).length = k := by rw [List.length_take]; omega
    have ev : val B64 L = val B64 (L.take k) + B64 ^ k * L[k]?.getD 0 := by conv => lhs; rw [e, val_snoc, hlen]
    have hv := val_lt B64_pos (hd.take k)
    rw [hlen] at hv
    have hB : B64 = 2 ^ s * 2 ^ (64 - s) := by rw [← Int.pow_add, show s + (64 - s) = 64 by omega]; rfl
    have h2 : L[k]?.getD 0 + 1 ≤ 2 ^ (64 - s) := by
      have : 2 ^ s * L[k]?.getD 0 < 2 ^ s * 2 ^ (64 - s) := by rw [← hB, Int.mul_comm]; exact hlt
      exact Int.lt_of_mul_lt_mul_left this (Int.le_of_lt p1)
    have hp : 0 < B64 ^ k := Int.pow_pos B64_pos
    have h3 : val B64 L < B64 ^ k * 2 ^ (64 - s) := by
      have := Int.mul_le_mul_of_nonneg_left h2 (Int.le_of_lt hp)
      rw [Int.mul_add, Int.mul_one] at this
      omega
    have h4 := Int.mul_lt_mul_of_pos_right h3 p1
    rw [Int.mul_assoc, Int.mul_comm (2 ^ (64 - s)), ← hB] at h4
    rw [Int.pow_succ]; exact h4

/-- What the numbers are when j limbs of the quotient are still to come. -/
structure DvN (V D : Int) (j : Nat) (QT R : List Int) : Prop where
  digQ : Dig B64 QT
  digR : Dig B64 R
  eq : V = val B64 QT * B64 ^ j * D + val B64 R
  lt : val B64 R < B64 ^ j * D

/-- The limbs that the step takes hold less than the divisor times the base; what lies above them is 0. -/
theorem DvN.parts {V D : Int} {j m : Nat} {QT P M S : List Int} (H : DvN V D (j + 1) QT (P ++ M ++ S)) (hD : D < B64 ^ (m + 2)) (hP : P.length = j) (hM : M.length = m + 3) : val B64 M < B64 * D ∧ val B64 S = 0 := by
  have hl := H.lt
  have d1 := val_nonneg B64_pos (show Dig B64 P from fun x hx => H.digR x (by simp [hx]))
  have d2 := val_nonneg B64_pos (show Dig B64 M from fun x hx => H.digR x (by simp [hx]))
  have d3 := val_nonneg B64_pos (show Dig B64 S from fun x hx => H.digR x (by simp [hx]))
  have hp : 0 < B64 ^ j := Int.pow_pos B64_pos
  have hp2 : 0 < B64 ^ (m + 3) := Int.pow_pos B64_pos
  rw [List.append_assoc, val_append, val_append, hP, hM, show B64 ^ (j + 1) = B64 ^ j * B64 from Int.pow_succ _ _, Int.mul_assoc] at hl
  have e1 := Int.mul_nonneg (Int.le_of_lt hp2) d3
  have hlt : val B64 M + B64 ^ (m + 3) * val B64 S < B64 * D := Int.lt_of_mul_lt_mul_left (a := B64 ^ j) (by omega) (Int.le_of_lt hp)
  refine ⟨by omega, ?_⟩
  have e2 : B64 * D < B64 ^ (m + 3) := by
    have := Int.mul_lt_mul_of_pos_left hD B64_pos
    rw [show m + 3 = (m + 2) + 1 by omega, Int.pow_succ, Int.mul_comm (B64 ^ (m + 2))]; exact this
  have e3 : B64 ^ (m + 3) * val B64 S < B64 ^ (m + 3) * 1 := by omega
  have := Int.lt_of_mul_lt_mul_left e3 (Int.le_of_lt hp2)
  omega

theorem DvN.step {V D : Int} {j m : Nat} {QT P M M' S : List Int} (H : DvN V D (j + 1) QT (P ++ M ++ S)) (hD : D < B64 ^ (m + 2)) (hD0 : 0 < D) (hP : P.length = j) (hM : M.length = m + 3) (hl' : M'.length = m + 3) (hd' : Dig B64 M') (hv : val B64 M' = val B64 M % D) :
    DvN V D j (val B64 M / D :: QT) (P ++ M' ++ S) := by
  have hp := H.parts hD hP hM
  have dP : Dig B64 P := fun x hx => H.digR x (by simp [hx])
  have dS : Dig B64 S := fun x hx => H.digR x (by simp [hx])
  have d2 := val_nonneg B64_pos (show Dig B64 M from fun x hx => H.digR x (by simp [hx]))
  have q0 : 0 ≤ val B64 M / D := Int.ediv_nonneg d2 (Int.le_of_lt hD0)
  have q1 : val B64 M / D < B64 := Int.ediv_lt_of_lt_mul hD0 hp.1
  have e := Int.emod_add_mul_ediv (val B64 M) D
  have r1 := Int.emod_lt_of_pos (val B64 M) hD0
  have hPl := val_lt B64_pos dP
  rw [hP] at hPl
  refine ⟨Dig.cons q0 q1 H.digQ, (dP.append hd').append dS, ?_, ?_⟩
  · have e2 := H.eq
    rw [List.append_assoc, val_append, val_append, hP, hM, hp.2, Int.pow_succ] at e2
    rw [List.append_assoc, val_append, val_append, hP, hl', hp.2, hv]
    simp only [val]
    generalize val B64 M / D = q at *
    generalize val B64 M % D = r at *
    generalize B64 ^ j = p at *
    grind
  · rw [List.append_assoc, val_append, val_append, hP, hl', hp.2, hv, Int.mul_zero, Int.add_zero]
    have := Int.mul_le_mul_of_nonneg_left (show val B64 M % D + 1 ≤ D from r1) (Int.le_of_lt (Int.pow_pos (m := j) B64_pos))
    rw [Int.mul_add, Int.mul_one] at this
    omega

theorem DvN.done {V D : Int} {QT R : List Int} (H : DvN V D 0 QT R) (hD0 : 0 < D) : val B64 QT = V / D ∧ val B64 R = V % D := by
  have e := H.eq; have l := H.lt
  simp only [Int.pow_zero, Int.mul_one, Int.one_mul] at e l
  have u := (Int.ediv_emod_unique hD0 (a := V) (r := val B64 R) (q := val B64 QT)).2 ⟨by rw [Int.mul_comm]; omega, val_nonneg B64_pos H.digR, l⟩
  exact ⟨u.1.symm, u.2.symm⟩

theorem shift_div {a b : Int} {s : Nat} (hb : 0 < b) : a * 2 ^ s / (b * 2 ^ s) = a / b ∧ a * 2 ^ s % (b * 2 ^ s) / 2 ^ s = a % b := by
  have p : (0 : Int) < 2 ^ s := Int.pow_pos (by decide)
  have e1 : a * 2 ^ s / (b * 2 ^ s) = a / b := Int.mul_ediv_mul_of_pos_left a b p
  refine ⟨e1, ?_⟩
  have _ := hb
  have e2 : a * 2 ^ s % (b * 2 ^ s) = a % b * 2 ^ s := by rw [Int.emod_def, e1, Int.emod_def]; grind
  rw [e2]; exact Int.mul_ediv_cancel _ (by omega)

theorem fromLimb_any (x : Int) (w : World) (x0 : 0 ≤ x) (x1 : x < B64) : Calls Tryz.prog 132 #[.int .u64 x] w (RetN w x 1) := by
  have hrow : Row .u64 106 (w.alloc (Obj.cells #[Value.int IntKind.u64 x] 106)) w.heap.size [x] := by unfold Row World.alloc; simp
  have hg : w.grownBy (w.alloc (Obj.cells #[Value.int IntKind.u64 x] 106)) none := World.grownBy_alloc w _ none
  have hb := grown_below hg
  have ht := trim64_any (some ⟨w.heap.size, 0, none⟩) 1 [x] _ (row_rd hrow (by simp) (by decide))
  have hres := nt_row (c := 1) (K := 1) hrow (Dig.cons x0 x1 (Dig.nil _)) (n := x) (by simp [val]) (by simp) (by decide) (by simp)
  have HT := hid ht; have Hres := hid hres; have HB := hid hb
  clear ht hres hrow hg hb
  go_enter Tryz.func132, Tryz.ntmps132
  go_wp2_with (go_at_call 109; refine HT.out.mono ?_; rintro e w2 ⟨rfl, rfl⟩)
  go_ret
  exact ⟨_, rfl, Hres.out, HB.out⟩

end Go.Proofs.YtbapeilpkhbbeaaGreat

/- Lehmer's steps: the highest 64 bits; what the steps are. -/
namespace Go.Proofs.YtbapeilpkhbbeaaGreat
open Go.RowKit

theorem or_up (h l : Int) (s : Nat) (h0 : 0 ≤ h) (h1 : h * 2 ^ s < 18446744073709551616) (l0 : 0 ≤ l) (l1 : l < 2 ^ s) (l2 : l < 18446744073709551616) : bits .or .u64 (h * 2 ^ s) l = l + h * 2 ^ s := by
  rw [← or_low h l s h0 h1 l0 l1 l2]
  obtain ⟨a, rfl⟩ := Int.eq_ofNat_of_zero_le h0
  obtain ⟨b, rfl⟩ := Int.eq_ofNat_of_zero_le l0
  have e : ((a : Int) * 2 ^ s) = ((a * 2 ^ s : Nat) : Int) := by simp
  rw [e] at h1 ⊢
  rw [bits_or_u64_nat _ _ (by omega) (by omega), bits_or_u64_nat _ _ (by omega) (by omega), Nat.or_comm]

/-- The number of which the highest limb is y. -/
theorem val_top {L : List Int} {k : Nat} (hl : L.length = k + 1) : val B64 L = val B64 (L.take k) + B64 ^ k * L[k]?.getD 0 := by
  have e := take_succ_getD L k (by omega)
  rw [List.take_of_length_le (by omega)] at e
  have h := congrArg (val B64) e
  rw [h, val_snoc, List.length_take, Nat.min_eq_left (by omega)]
theorem top_eq {L : List Int} {k : Nat} (hd : Dig B64 L) (hl : L.length = k + 1) : val B64 L / B64 ^ k = L[k]?.getD 0 := by
  have h1 := val_lt B64_pos (hd.take k)
  rw [List.length_take, Nat.min_eq_left (by omega)] at h1
  have h0 := val_nonneg B64_pos (hd.take k)
  exact ((Int.ediv_emod_unique (Int.pow_pos B64_pos)).2 ⟨(val_top hl).symm, h0, h1⟩).1

/-- The unit of the highest 64 bits. -/
def topS (m s : Nat) : Int := B64 ^ m * 2 ^ (64 - s)
theorem topS_pos {m s : Nat} (hs : s ≤ 63) : 0 < topS m s := Int.mul_pos (Int.pow_pos B64_pos) (pow_split hs).2.1

theorem top_one {L : List Int} {m s : Nat} (hd : Dig B64 L) (hl : L.length = m + 1) : L[m]?.getD 0 / 2 ^ (64 - s) = val B64 L / topS m s := by
  unfold topS
  rw [← Int.ediv_ediv_of_nonneg (Int.le_of_lt (Int.pow_pos B64_pos)), top_eq hd hl]
theorem top_none {L : List Int} {m s : Nat} (hd : Dig B64 L) (hl : L.length ≤ m) (hs : s ≤ 63) : val B64 L / topS m s = 0 := by
  refine Int.ediv_eq_zero_of_lt (val_nonneg B64_pos hd) (Int.lt_of_lt_of_le (val_lt B64_pos hd) (Int.le_trans (pow_mono B64_pos hl) ?_))
  unfold topS
  have p := (pow_split hs).2.1
  have q : (0 : Int) < B64 ^ m := Int.pow_pos B64_pos
  have := Int.mul_le_mul_of_nonneg_left (show (1 : Int) ≤ 2 ^ (64 - s) by omega) (Int.le_of_lt q)
  omega
theorem top_two {L : List Int} {m s : Nat} (hd : Dig B64 L) (hl : L.length = m + 2) (hs : s ≤ 63) (hy : L[m + 1]?.getD 0 * 2 ^ s < B64) :
    bits .or .u64 (L[m + 1]?.getD 0 * 2 ^ s) (L[m]?.getD 0 / 2 ^ (64 - s)) = val B64 L / topS m s := by
  obtain ⟨p1, p2, p3⟩ := pow_split hs
  have y0 := (hd.at B64_pos (m + 1)).1
  have z := hd.at B64_pos m
  have q0 : 0 ≤ L[m]?.getD 0 / 2 ^ (64 - s) := Int.ediv_nonneg z.1 (Int.le_of_lt p2)
  have q1 : L[m]?.getD 0 / 2 ^ (64 - s) < 2 ^ s := Int.ediv_lt_of_lt_mul p2 (by rw [Int.mul_comm, p3]; exact z.2)
  have q2 : L[m]?.getD 0 / 2 ^ (64 - s) < 18446744073709551616 := Int.lt_of_le_of_lt (Int.ediv_le_self _ z.1) z.2
  rw [or_up _ _ s y0 hy q0 q1 q2]
  have hv : val B64 L / B64 ^ m = L[m]?.getD 0 + B64 * L[m + 1]?.getD 0 := by
    have e1 := val_top (L := L) (k := m + 1) (by omega)
    have e2 := val_top (L := L.take (m + 1)) (k := m) (by rw [List.length_take]; omega)
    have e3 : (L.take (m + 1)).take m = L.take m := by rw [List.take_take, Nat.min_eq_left (by omega)]
    have e4 : (L.take (m + 1))[m]?.getD 0 = L[m]?.getD 0 := by simp
    rw [e3, e4] at e2
    rw [e2] at e1
    have h1 := val_lt B64_pos (hd.take m)
    rw [List.length_take, Nat.min_eq_left (by omega)] at h1
    have h0 := val_nonneg B64_pos (hd.take m)
    refine ((Int.ediv_emod_unique (Int.pow_pos B64_pos)).2 ⟨?_, h0, h1⟩).1
    rw [e1, Int.pow_succ]; grind
  unfold topS
  rw [← Int.ediv_ediv_of_nonneg (Int.le_of_lt (Int.pow_pos B64_pos)), hv, ← p3]
  rw [show L[m]?.getD 0 + 2 ^ (64 - s) * 2 ^ s * L[m + 1]?.getD 0 = L[m]?.getD 0 + 2 ^ (64 - s) * (L[m + 1]?.getD 0 * 2 ^ s) by grind]
  rw [Int.add_mul_ediv_left _ _ (by omega)]

theorem top_lt {L : List Int} {m s : Nat} (hd : Dig B64 L) (hn : Nrm L) (hl : L.length = m + 2) (hs : s ≤ 63) (hy : L[m + 1]?.getD 0 * 2 ^ s < B64) : val B64 L / topS m s < B64 := by
  obtain ⟨p1, p2, p3⟩ := pow_split hs
  have h := (top_shift hd hn hl hs hy).2
  refine Int.ediv_lt_of_lt_mul (topS_pos hs) ?_
  have e : B64 ^ (m + 1 + 1) = B64 * topS m s * 2 ^ s := by
    unfold topS; rw [Int.pow_succ, Int.pow_succ]
    rw [show B64 * (B64 ^ m * 2 ^ (64 - s)) * 2 ^ s = B64 * B64 ^ m * (2 ^ (64 - s) * 2 ^ s) by grind, p3]; grind
  rw [e] at h
  exact Int.lt_of_mul_lt_mul_right h (Int.le_of_lt p1)

/-- A number that is not greater has no greater limb at the top. -/
theorem top_le {L M : List Int} {k : Nat} (hd : Dig B64 L) (hm : Dig B64 M) (hl : L.length = k + 1) (hk : M.length = k + 1) (h : val B64 M ≤ val B64 L) : M[k]?.getD 0 ≤ L[k]?.getD 0 := by
  rw [← top_eq hd hl, ← top_eq hm hk]
  exact Int.ediv_le_ediv (Int.pow_pos B64_pos) h

/-- What foresee tells of a and b. -/
structure StepsN (a b cnt a0 b0 a1 b1 : Int) : Prop where
  c : 0 ≤ cnt ∧ cnt ≤ 8589934592
  a0s : 0 ≤ a0 ∧ a0 < B64
  b0s : 0 ≤ b0 ∧ b0 < B64
  a1s : 0 ≤ a1 ∧ a1 < B64
  b1s : 0 ≤ b1 ∧ b1 < B64
  did : 0 < cnt → ∃ R0 R1 : Int, (cnt % 2 = 0 ∧ R0 = a0 * a - b0 * b ∧ R1 = b1 * b - a1 * a ∨ cnt % 2 = 1 ∧ R0 = b0 * b - a0 * a ∧ R1 = a1 * a - b1 * b) ∧ 0 ≤ R1 ∧ R1 < R0 ∧ R0 ≤ b ∧ Int.gcd R0 R1 = Int.gcd a b

theorem LehN.steps {a b A B cnt a0 b0 a1 b1 hi lo : Int} (H : LehN a b A B cnt a0 b0 a1 b1 hi lo) : StepsN a b cnt a0 b0 a1 b1 := by
  have h1 := H.c0; have h2 := H.cb; have h3 := H.b0s; have h4 := H.b1s; have h5 := H.a00; have h6 := H.a10; have h7 := H.abs; have h8 := H.b00; have h9 := H.b11
  refine ⟨⟨h1, by omega⟩, ⟨h5, by unfold B64; omega⟩, ⟨h8, by unfold B64; omega⟩, ⟨h6, by unfold B64; omega⟩, ⟨by omega, by unfold B64; omega⟩, fun hp => ?_⟩
  obtain ⟨g, R0, R1, hg, e0, e1, _, _, hp1, hc, hgcd⟩ := H.sg
  refine ⟨R0, R1, ?_, hp1, by omega, by omega, hgcd⟩
  rcases hg with ⟨rfl, h⟩ | ⟨rfl, h⟩
  · left; exact ⟨h, by omega, by omega⟩
  · right; exact ⟨h, by omega, by omega⟩

/-- A sum modulo a power is the result, if that is below the power. -/
theorem low_eq {u v a b R P c l : Int} (hR : R = u * a - v * b) (hR0 : 0 ≤ R) (hR1 : R < P) (hl0 : 0 ≤ l) (hl1 : l < P) (he : l + P * c = u * (a % P) - v * b) : l = R := by
  have hP : 0 < P := by omega
  have e := Int.emod_add_mul_ediv a P
  have h : R = l + P * (c + u * (a / P)) := by
    rw [hR]
    generalize a % P = x at *
    generalize a / P = y at *
    rw [← e]; grind
  have h2 : R % P = l := by rw [h, Int.add_mul_emod_self_left]; exact Int.emod_eq_of_lt hl0 hl1
  rw [← h2]; exact Int.emod_eq_of_lt hR0 hR1

end Go.Proofs.YtbapeilpkhbbeaaGreat
