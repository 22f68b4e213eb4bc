/- exact.compare. The document's own integers: cut, digit, order. Digits to the base 65536, the lowest first. The document's own integers: few, even, value. -/
import Derived.Test.YtilpkocmdpofpaaGreatDoorFa03
import Derived.Test.YtilpkocmdpofpaaGreatDoorFa01
/- exact.compare. -/
namespace Go.Proofs.YtilpkocmdpofpaaGreatDoor
open Go.RowKit

theorem val_take_drop (B : Int) (l : List Int) (k : Nat) (hk : k ≤ l.length) : val B l = val B (l.take k) + B ^ k * val B (l.drop k) := by
  have h := val_append B (l.take k) (l.drop k)
  rw [List.take_append_drop, List.length_take, Nat.min_eq_left hk] at h
  exact h

/-- The highest digit that differs decides. -/
theorem cmp_top {B : Int} (hB : 0 < B) {l m : List Int} {k : Nat} (hl : Dig B l) (hm : Dig B m) (hkl : k < l.length) (hkm : k < m.length) (he : l.drop (k + 1) = m.drop (k + 1)) (hne : l[k]?.getD 0 ≠ m[k]?.getD 0) :
    cmpI (val B l) (val B m) = cmpI (l[k]?.getD 0) (m[k]?.getD 0) := by
  rw [val_take_drop B l (k + 1) hkl, val_take_drop B m (k + 1) hkm, he, take_succ_getD l k hkl, take_succ_getD m k hkm, val_snoc, val_snoc, List.length_take, List.length_take, Nat.min_eq_left (Nat.le_of_lt hkl), Nat.min_eq_left (Nat.le_of_lt hkm)]
  have h1 := val_lt hB (hl.take k); have h2 := val_lt hB (hm.take k)
  have h3 := val_nonneg hB (hl.take k); have h4 := val_nonneg hB (hm.take k)
  rw [List.length_take, Nat.min_eq_left (Nat.le_of_lt hkl)] at h1
  rw [List.length_take, Nat.min_eq_left (Nat.le_of_lt hkm)] at h2
  have hp : 0 < B ^ k := Int.pow_pos hB
  generalize l[k]?.getD 0 = x at *
  generalize m[k]?.getD 0 = y at *
  generalize B ^ k = p at *
  rcases Int.lt_trichotomy x y with h | h | h
  · have := Int.mul_le_mul_of_nonneg_left (show x + 1 ≤ y by omega) (Int.le_of_lt hp)
    rw [Int.mul_add] at this
    rw [cmpI_lt h, cmpI_lt (by omega)]
  · exact absurd h hne
  · have := Int.mul_le_mul_of_nonneg_left (show y + 1 ≤ x by omega) (Int.le_of_lt hp)
    rw [Int.mul_add] at this
    rw [cmpI_gt h, cmpI_gt (by omega)]

theorem cmp_len {B : Int} (hB : 0 < B) {l m : List Int} (hl : Dig B l) (hm : Dig B m) (nl : Nrm l) (nm : Nrm m) (hne : l.length ≠ m.length) : cmpI (val B l) (val B m) = cmpI l.length m.length := by
  rcases Nat.lt_or_gt_of_ne hne with h | h
  · have h1 := val_lt hB hl
    have h2 := Nrm.low hB hm nm (by omega)
    have h3 := pow_mono hB (show l.length ≤ m.length - 1 by omega)
    rw [cmpI_lt (by omega), cmpI_lt (by omega)]
  · have h1 := val_lt hB hm
    have h2 := Nrm.low hB hl nl (by omega)
    have h3 := pow_mono hB (show m.length ≤ l.length - 1 by omega)
    rw [cmpI_gt (by omega), cmpI_gt (by omega)]

theorem drop_step (l m : List Int) (k : Nat) (hl : k < l.length) (hm : k < m.length) (he : l.drop (k + 1) = m.drop (k + 1)) (h : l[k]?.getD 0 = m[k]?.getD 0) : l.drop k = m.drop k := by
  rw [List.drop_eq_getElem_cons hl, List.drop_eq_getElem_cons hm, he]
  have e1 : l[k]?.getD 0 = l[k] := by simp [hl]
  have e2 : m[k]?.getD 0 = m[k] := by simp [hm]
  rw [← e1, ← e2, h]

set_option maxRecDepth 100000 in
set_option maxHeartbeats 1000000 in
theorem compare_any (va vb : Value) (a b : Int) (Ka Kb : Nat) (w : World) (hA : Nt w va a Ka) (hB : Nt w vb b Kb) :
    Calls Tryz.prog 96 #[va, vb] w fun e w' => ∃ nq, e = .returned (.int .i64 (cmpI a b)) ∧ w' = w.drewN nq := by
  obtain ⟨ao, ca, LA, rfl, hA⟩ := hA
  obtain ⟨bo, cb, LB, rfl, hB⟩ := hB
  obtain ⟨n, hn⟩ : ∃ n, n = LA.length := ⟨_, rfl⟩
  obtain ⟨m, hm⟩ : ∃ m, m = LB.length := ⟨_, rfl⟩
  have hn63 : n ≤ 9223372036854775807 := by have := hA.rd.cap; have := hA.rd.most; omega
  have hm63 : m ≤ 9223372036854775807 := by have := hB.rd.cap; have := hB.rd.most; omega
  have hcmp : n ≠ m → cmpI a b = cmpI n m := fun h => by rw [← hA.eq, ← hB.eq, hn, hm]; exact cmp_len B64_pos hA.dig hB.dig hA.nrm hB.nrm (by omega)
  rw [← hn, ← hm]
  have HA := hid hA; have HB := hid hB; have Hn := hid hn; have Hm := hid hm; have Hcmp := hid hcmp
  clear hA hB hn hm hcmp
  by_cases hne : n = m
  · subst hne
    go_enter Tryz.func96, Tryz.ntmps96
    go_wp2
    go_loopw [5] (fun iv wr => ∃ k : Nat, ∃ nq, k ≤ n ∧ iv = .int .i64 ((k : Int) - 1) ∧ Hid (LA.drop k = LB.drop k) ∧ Hid (wr = w.drewN nq)) (fun iv _ => (intOf iv + 1).toNat)
    case atStart => exact ⟨n, 0, Nat.le_refl _, rfl, hid (by rw [List.drop_of_length_le (by have := Hn.out; omega), List.drop_of_length_le (by have := Hm.out; omega)]), hid rfl⟩
    case round =>
      obtain ⟨k, nq, hk, rfl, HD, HW⟩ := hrel
      cases k with
      | zero =>
        have hab : a = b := by
          have h := HD.out
          simp only [List.drop_zero] at h
          rw [← HA.out.eq, ← HB.out.eq, h]
        have he : cmpI a b = 0 := by rw [hab]; exact cmpI_self b
        have HE := hid he; clear he hab
        go_wp2
        go_ret
        exact ⟨nq, by rw [HE.out]; rfl, HW.out⟩
      | succ k =>
        have hkn : k < n := by omega
        obtain ⟨b1, o1, rfl⟩ := HA.out.rd.adr (by have := Hn.out; omega)
        obtain ⟨b2, o2, rfl⟩ := HB.out.rd.adr (by have := Hm.out; omega)
        have h1 : wr.cell? ⟨b1, o1 + k, none⟩ = some (.int .u64 (LA[k]?.getD 0)) := by rw [HW.out, cell_drewN]; exact HA.out.rd.cell b1 o1 rfl k (by have := Hn.out; omega)
        have h2 : wr.cell? ⟨b2, o2 + k, none⟩ = some (.int .u64 (LB[k]?.getD 0)) := by rw [HW.out, cell_drewN]; exact HB.out.rd.cell b2 o2 rfl k (by have := Hm.out; omega)
        have d1 := HA.out.dig.at B64_pos k
        have d2 := HB.out.dig.at B64_pos k
        obtain ⟨x, hx⟩ : ∃ x, x = LA[k]?.getD 0 := ⟨_, rfl⟩
        obtain ⟨y, hy⟩ : ∃ y, y = LB[k]?.getD 0 := ⟨_, rfl⟩
        rw [← hx] at h1 d1; rw [← hy] at h2 d2
        have hk0 : (0 : Int) ≤ (k : Int) := by omega
        have hk1 : (k : Int) < (n : Int) := by omega
        by_cases hxy : x = y
        · have hd := drop_step LA LB k (by have := Hn.out; omega) (by have := Hm.out; omega) HD.out (by rw [← hx, ← hy, hxy])
          have HD' := hid hd
          subst hxy
          clear hd hx hy HD
          go_wp2
          go_quiet (fail)
          go_wp2
          go_roundw
          case rel => exact ⟨k, _, by omega, by go_num, HD', hid (by rw [HW.out, World.drewN_drewN])⟩
          case measure => simp [intOf]
        · have hc := cmp_top B64_pos HA.out.dig HB.out.dig (show k < LA.length by have := Hn.out; omega) (show k < LB.length by have := Hm.out; omega) HD.out (by rw [← hx, ← hy]; exact hxy)
          rw [HA.out.eq, HB.out.eq, ← hx, ← hy] at hc
          have HC := hid hc
          clear hc hx hy HD
          have hb : ((x : Int) != y) = true := by rw [bne_iff_ne]; exact hxy
          go_wp2
          go_quiet (fail)
          go_wp2
          go_quiet ((go_at_call 142; exact quietMore (cmpU64' _ _ _)))
          go_wp2
          go_ret
          exact ⟨_, by rw [HC.out]; rfl, by rw [HW.out, World.drewN_drewN, World.drewN_drewN]⟩
  · have HC := hid (Hcmp.out hne)
    have hb : ((n : Int) != (m : Int)) = true := by rw [bne_iff_ne]; omega
    go_enter Tryz.func96, Tryz.ntmps96
    go_wp2_with (go_at_call 141; refine (cmpInt _ _ _).mono ?_; rintro e w' ⟨rfl, rfl⟩)
    go_ret
    exact ⟨0, by rw [HC.out]; rfl, rfl⟩

end Go.Proofs.YtilpkocmdpofpaaGreatDoor

/- The document's own integers: cut, digit, order. Digits to the base 65536, the lowest first. -/
namespace Go.Proofs.YtilpkocmdpofpaaGreatDoor
open Go.RowKit

def R16 : Int := 65536
theorem R16_pos : 0 < R16 := by decide

set_option maxHeartbeats 400000 in
theorem cut_any (ao : Option Addr) (c : Nat) (L : List Int) (w : World) (h : Rd w .i64 ao c L) :
    Calls Tryz.prog 149 #[.slice ao L.length c] w fun e w' => e = .returned (.slice ao (trimL L).length c) ∧ w' = w := by
  obtain ⟨n, hn⟩ : ∃ n, n = L.length := ⟨_, rfl⟩
  have hc := h.cap; have hm := h.most
  rw [← hn] at hc ⊢
  have Hn := hid hn; clear hn
  go_enter Tryz.func149, Tryz.ntmps149
  go_wp2
  go_loop [3] (fun v => ∃ m : Nat, m ≤ n ∧ v = .int .i64 m ∧ Hid (trimL (L.take m) = trimL L)) (fun v => (intOf v).toNat)
  case atStart => exact ⟨n, Nat.le_refl _, rfl, hid (by rw [Hn.out, List.take_length])⟩
  case round =>
    obtain ⟨m, hmn, rfl, HT⟩ := hrel
    cases m with
    | zero =>
      go_wp2
      go_ret
      exact ⟨by rw [trimL_stop L HT.out]; rfl, rfl⟩
    | succ m =>
      obtain ⟨b, off, rfl⟩ := h.adr (by have := Hn.out; omega)
      have hcell := h.cell b off rfl m (by have := Hn.out; omega)
      by_cases hz : L[m]?.getD 0 = 0
      · have HZ := hid hz
        rw [hz] at hcell
        clear hz
        go_wp2
        go_round
        case rel => exact ⟨m, by omega, by go_num, hid (trimL_step0 L m (by have := Hn.out; omega) HT.out HZ.out)⟩
        case measure => simp [intOf]
      · have HZ := hid hz
        go_wp2
        go_ret
        exact ⟨by rw [trimL_step1 L m (by have := Hn.out; omega) HT.out HZ.out]; rfl, rfl⟩

theorem digit_any (ao : Option Addr) (c i : Nat) (L : List Int) (w : World) (h : Rd w .i64 ao c L) (hi : i ≤ 9223372036854775807) :
    Calls Tryz.prog 167 #[.slice ao L.length c, .int .i64 (i : Int)] w fun e w' => e = .returned (.int .i64 (L[i]?.getD 0)) ∧ w' = w := by
  obtain ⟨n, hn⟩ : ∃ n, n = L.length := ⟨_, rfl⟩
  have hc := h.cap; have hm := h.most
  rw [← hn] at hc ⊢
  by_cases hlt : i < n
  · obtain ⟨b, off, rfl⟩ := h.adr (by omega)
    have hcell := h.cell b off rfl i (by omega)
    clear h hn
    go_enter Tryz.func167, Tryz.ntmps167
    go_wp2
    go_ret
    exact ⟨rfl, rfl⟩
  · have e : L[i]?.getD 0 = 0 := by simp [show L.length ≤ i by omega]
    rw [e]
    have hge : ¬ (i : Int) < (n : Int) := by omega
    clear h hn e
    go_enter Tryz.func167, Tryz.ntmps167
    go_wp2
    go_ret
    exact ⟨rfl, rfl⟩

/-- A list with zeros behind it, up to a length. -/
def pad (L : List Int) (N : Nat) : List Int := L ++ List.replicate (N - L.length) 0
theorem pad_len {L : List Int} {N : Nat} (h : L.length ≤ N) : (pad L N).length = N := by unfold pad; simp; omega
theorem pad_get (L : List Int) (N i : Nat) : (pad L N)[i]?.getD 0 = L[i]?.getD 0 := by
  unfold pad
  by_cases h : i < L.length
  · rw [List.getElem?_append_left h]
  · rw [List.getElem?_append_right (by omega)]
    have e : L[i]?.getD 0 = 0 := by simp [Nat.le_of_not_lt h]
    rw [e]
    by_cases h2 : i - L.length < N - L.length
    · simp [h2]
    · simp [h2]
theorem val_rep0 (B : Int) (n : Nat) : val B (List.replicate n 0) = 0 := by
  induction n with
  | zero => rfl
  | succ n ih => simp [List.replicate_succ, val, ih]
theorem pad_val (B : Int) (L : List Int) (N : Nat) : val B (pad L N) = val B L := by unfold pad; rw [val_append, val_rep0]; simp
theorem pad_dig {B : Int} (hB : 0 < B) {L : List Int} (h : Dig B L) (N : Nat) : Dig B (pad L N) := h.append (fun x hx => by rw [(List.mem_replicate.1 hx).2]; exact ⟨Int.le_refl 0, hB⟩)

set_option maxRecDepth 100000 in
set_option maxHeartbeats 1000000 in
theorem order_any (ao bo : Option Addr) (ca cb : Nat) (L M : List Int) (w : World) (hL : Rd w .i64 ao ca L) (hM : Rd w .i64 bo cb M) (dL : Dig R16 L) (dM : Dig R16 M) :
    Calls Tryz.prog 154 #[.slice ao L.length ca, .slice bo M.length cb] w fun e w' => e = .returned (.int .i64 (cmpI (val R16 L) (val R16 M))) ∧ w' = w := by
  obtain ⟨n, hn⟩ : ∃ n, n = L.length := ⟨_, rfl⟩
  obtain ⟨m, hm⟩ : ∃ m, m = M.length := ⟨_, rfl⟩
  obtain ⟨N, hN⟩ : ∃ N, N = max n m := ⟨_, rfl⟩
  have hnN : n ≤ N := by omega
  have hmN : m ≤ N := by omega
  have hN62 : N ≤ 9223372036854775807 := by have := hL.cap; have := hL.most; have := hM.cap; have := hM.most; omega
  have hNi : max (n : Int) (m : Int) = (N : Int) := by omega
  have hdl := fun (i : Nat) (hi : i ≤ 9223372036854775807) => digit_any ao ca i L w hL hi
  have hdm := fun (i : Nat) (hi : i ≤ 9223372036854775807) => digit_any bo cb i M w hM hi
  have lP := pad_len (L := L) (N := N) (by omega)
  have lQ := pad_len (L := M) (N := N) (by omega)
  rw [← hn] at hdl ⊢; rw [← hm] at hdm ⊢
  have HDl := hid hdl; have HDm := hid hdm; have HP := hid lP; have HQ := hid lQ; have DL := hid dL; have DM := hid dM
  clear hdl hdm lP lQ hL hM dL dM hn hm hNi
  go_enter Tryz.func154, Tryz.ntmps154
  go_wp2
  all_goals
    go_loop [5] (fun iv => ∃ k : Nat, k ≤ N ∧ iv = .int .i64 ((k : Int) - 1) ∧ Hid ((pad L N).drop k = (pad M N).drop k)) (fun iv => (intOf iv + 1).toNat)
    case atStart => exact ⟨N, Nat.le_refl _, by congr 1; omega, hid (by rw [List.drop_of_length_le (by rw [HP.out]; exact Nat.le_refl _), List.drop_of_length_le (by rw [HQ.out]; exact Nat.le_refl _)])⟩
    case round =>
      obtain ⟨k, hk, rfl, HD⟩ := hrel
      cases k with
      | zero =>
        have he : cmpI (val R16 L) (val R16 M) = 0 := by
          have h := HD.out
          simp only [List.drop_zero] at h
          rw [← pad_val R16 L N, ← pad_val R16 M N, h]; exact cmpI_self _
        have HE := hid he; clear he
        go_wp2
        go_ret
        exact ⟨by rw [HE.out]; rfl, rfl⟩
      | succ k =>
        have hk0 : (0 : Int) ≤ (k : Int) := by omega
        have h1 := HDl.out k (by omega); have h2 := HDm.out k (by omega)
        have hst := fun h => drop_step (pad L N) (pad M N) k (by have := HP.out; omega) (by have := HQ.out; omega) HD.out h
        have htp := fun h => cmp_top R16_pos (pad_dig R16_pos DL.out N) (pad_dig R16_pos DM.out N) (show k < (pad L N).length by have := HP.out; omega) (show k < (pad M N).length by have := HQ.out; omega) HD.out h
        simp only [pad_get, pad_val] at hst htp
        obtain ⟨x, hx⟩ : ∃ x, x = L[k]?.getD 0 := ⟨_, rfl⟩
        obtain ⟨y, hy⟩ : ∃ y, y = M[k]?.getD 0 := ⟨_, rfl⟩
        rw [← hx] at h1 hst htp; rw [← hy] at h2 hst htp
        have H1 := hid h1; have H2 := hid h2; have HSt := hid hst; have HTp := hid htp
        clear h1 h2 hst htp hx hy HD
        go_wp2_with fail
        refine H1.out.mono ?_
        rintro e w1 ⟨rfl, rfl⟩
        go_wp2_with fail
        refine H2.out.mono ?_
        rintro e w2 ⟨rfl, rfl⟩
        rcases Int.lt_trichotomy x y with hxy | hxy | hxy
        · have HC := hid ((HTp.out (by omega)).trans (cmpI_lt hxy))
          go_wp2
          go_ret
          exact ⟨by rw [HC.out]; rfl, rfl⟩
        · subst hxy
          have HD' := hid (HSt.out rfl)
          go_wp2
          go_round
          case rel => exact ⟨k, by omega, by go_num, HD'⟩
          case measure => simp [intOf]
        · have HC := hid ((HTp.out (by omega)).trans (cmpI_gt hxy))
          have hnl : ¬ x < y := by omega
          go_wp2
          go_ret
          exact ⟨by rw [HC.out]; rfl, rfl⟩

end Go.Proofs.YtilpkocmdpofpaaGreatDoor

/- The document's own integers: few, even, value. -/
namespace Go.Proofs.YtilpkocmdpofpaaGreatDoor
open Go.RowKit

theorem few_any (ao : Option Addr) (c n : Nat) (w : World) : Calls Tryz.prog 150 #[.slice ao n c] w fun e w' => e = .returned (.bool (decide (n ≤ 3))) ∧ w' = w := by
  have e : decide ((n : Int) ≤ 3) = decide (n ≤ 3) := by by_cases h : n ≤ 3 <;> simp [h] <;> omega
  rw [← e]
  clear e
  go_enter Tryz.func150, Tryz.ntmps150
  go_wp2
  go_ret
  exact ⟨rfl, rfl⟩

theorem val_mod2 (L : List Int) : val R16 L % 2 = L[0]?.getD 0 % 2 := by
  cases L with
  | nil => rfl
  | cons x l => simp only [val, R16]; simp; omega

theorem even_any (ao : Option Addr) (c : Nat) (L : List Int) (w : World) (h : Rd w .i64 ao c L) (hd : Dig R16 L) :
    Calls Tryz.prog 152 #[.slice ao L.length c] w fun e w' => e = .returned (.bool (decide (val R16 L % 2 = 0))) ∧ w' = w := by
  have hdg := digit_any ao c 0 L w h (by decide)
  have h0 := (hd.at R16_pos 0).1
  rw [val_mod2]
  obtain ⟨x, hx⟩ : ∃ x, x = L[0]?.getD 0 := ⟨_, rfl⟩
  obtain ⟨n, hn⟩ : ∃ n, n = L.length := ⟨_, rfl⟩
  rw [← hx] at hdg h0 ⊢
  rw [← hn] at hdg ⊢
  have ht : x.tmod 2 = x % 2 := Int.tmod_eq_emod_of_nonneg h0
  have HD := hid hdg
  clear hdg h hd hx hn
  go_enter Tryz.func152, Tryz.ntmps152
  go_wp2_with (go_at_call 167; refine HD.out.mono ?_; rintro e w1 ⟨rfl, rfl⟩)
  go_ret
  refine ⟨?_, rfl⟩
  first | rfl | (by_cases hz : x % 2 = 0 <;> simp [hz, beq_iff_eq])

theorem value_small {L : List Int} (hd : Dig R16 L) (hl : L.length ≤ 3) : 0 ≤ val R16 L ∧ val R16 L < 281474976710656 := by
  have h := val_lt R16_pos hd
  have h2 := pow_mono R16_pos hl
  have e : R16 ^ 3 = 281474976710656 := by decide
  exact ⟨val_nonneg R16_pos hd, by omega⟩

theorem val_drop (B : Int) (L : List Int) (k : Nat) (hk : k < L.length) : val B (L.drop k) = L[k]?.getD 0 + B * val B (L.drop (k + 1)) := by
  rw [List.drop_eq_getElem_cons hk]; simp [val, hk]

set_option maxRecDepth 100000 in
set_option maxHeartbeats 1000000 in
theorem rvalue_any (ao : Option Addr) (c : Nat) (L : List Int) (w : World) (h : Rd w .i64 ao c L) (hd : Dig R16 L) (hl : L.length ≤ 3) :
    Calls Tryz.prog 186 #[.slice ao L.length c] w fun e w' => e = .returned (.int .u64 (val R16 L)) ∧ w' = w := by
  obtain ⟨n, hn⟩ : ∃ n, n = L.length := ⟨_, rfl⟩
  have hc := h.cap; have hm := h.most
  rw [← hn] at hc hl ⊢
  have Hn := hid hn; have HD := hid hd; have HL := hid h
  clear hn hd h
  go_enter Tryz.func186, Tryz.ntmps186
  go_wp2
  go_loop [3, 4] (fun vv iv => ∃ k : Nat, k ≤ n ∧ iv = .int .i64 ((k : Int) - 1) ∧ vv = .int .u64 (val R16 (L.drop k))) (fun _ iv => (intOf iv + 1).toNat)
  case atStart => exact ⟨n, Nat.le_refl _, rfl, by rw [List.drop_of_length_le (by have := Hn.out; omega)]; rfl⟩
  case round =>
    obtain ⟨k, hk, rfl, rfl⟩ := hrel
    cases k with
    | zero =>
      rw [List.drop_zero]
      go_wp2
      go_ret
      exact ⟨rfl, rfl⟩
    | succ k =>
      obtain ⟨b, off, rfl⟩ := HL.out.adr (by have := Hn.out; omega)
      have hcell := HL.out.cell b off rfl k (by have := Hn.out; omega)
      have hx := HD.out.at R16_pos k
      have hv := value_small (HD.out.drop (k + 1)) (by rw [List.length_drop]; have := Hn.out; omega)
      have hv2 := value_small (HD.out.drop k) (by rw [List.length_drop]; have := Hn.out; omega)
      have hvd := val_drop R16 L k (by have := Hn.out; omega)
      obtain ⟨x, hxe⟩ : ∃ x, x = L[k]?.getD 0 := ⟨_, rfl⟩
      obtain ⟨t, ht⟩ : ∃ t, t = val R16 (L.drop (k + 1)) := ⟨_, rfl⟩
      rw [← hxe] at hcell hx hvd
      rw [← ht] at hv hvd ⊢
      have hs : t * 65536 + x = val R16 (L.drop k) := by rw [hvd]; unfold R16; omega
      rw [← hs] at hv2
      have hx0 := hx.1; have hx1 : x < 65536 := hx.2
      have ht0 := hv.1; have ht1 := hv.2; have hv20 := hv2.1; have hv21 := hv2.2
      have Hs := hid hs
      have hk0 : (0 : Int) ≤ (k : Int) := by omega
      clear hx hxe ht hvd hs hv hv2
      go_wp2
      go_round
      case rel => exact ⟨k, by omega, by go_num, by rw [← Hs.out]⟩
      case measure => simp [intOf]

end Go.Proofs.YtilpkocmdpofpaaGreatDoor
