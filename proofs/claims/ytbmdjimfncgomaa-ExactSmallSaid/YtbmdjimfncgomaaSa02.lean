/- exact.compare. The document's own integers: cut, digit, order. Digits to the base 65536, the lowest first. The document's own integers: few, even, value. The document's own integers: naturals as digits; half. exact.fromWords, (exact.natural).words: two words are a limb. (exact.natural).words: the words of a natural, in new memory. The document's own integers: sum. -/
import Derived.Test.YtbmdjimfncgomaaSa01
/- exact.compare. -/
namespace Go.Proofs.Ytbmdjimfncgomaa
open Go.RowKit

theorem val_take_drop (B : Int) (l : List Int) (k : Nat) (hk : k ≤ l.length) : val B l = val B (l.take k) + B ^ k * val B (l.drop k) := by
  have h := val_append B (l.take k) (l.drop k)
  rw [List.take_append_drop, List.length_take, Nat.min_eq_left hk] at h
  exact h

/-- The highest digit that differs decides. -/
theorem cmp_top {B : Int} (hB : 0 < B) {l m : List Int} {k : Nat} (hl : Dig B l) (hm : Dig B m) (hkl : k < l.length) (hkm : k < m.length) (he : l.drop (k + 1) = m.drop (k + 1)) (hne : l[k]?.getD 0 ≠ m[k]?.getD 0) :
    cmpI (val B l) (val B m) = cmpI (l[k]?.getD 0) (m[k]?.getD 0) := by
  rw [val_take_drop B l (k + 1) hkl, val_take_drop B m (k + 1) hkm, he, take_succ_getD l k hkl, take_succ_getD m k hkm, val_snoc, val_snoc, List.length_take, List.length_take, Nat.min_eq_left (Nat.le_of_lt hkl), Nat.min_eq_left (Nat.le_of_lt hkm)]
  have h1 := val_lt hB (hl.take k); have h2 := val_lt hB (hm.take k)
  have h3 := val_nonneg hB (hl.take k); have h4 := val_nonneg hB (hm.take k)
  rw [List.length_take, Nat.min_eq_left (Nat.le_of_lt hkl)] at h1
  rw [List.length_take, Nat.min_eq_left (Nat.le_of_lt hkm)] at h2
  have hp : 0 < B ^ k := Int.pow_pos hB
  generalize l[k]?.getD 0 = x at *
  generalize m[k]?.getD 0 = y at *
  generalize B ^ k = p at *
  rcases Int.lt_trichotomy x y with h | h | h
  · have := Int.mul_le_mul_of_nonneg_left (show x + 1 ≤ y by omega) (Int.le_of_lt hp)
    rw [Int.mul_add] at this
    rw [cmpI_lt h, cmpI_lt (by omega)]
  · exact absurd h hne
  · have := Int.mul_le_mul_of_nonneg_left (show y + 1 ≤ x by omega) (Int.le_of_lt hp)
    rw [Int.mul_add] at this
    rw [cmpI_gt h, cmpI_gt (by omega)]

theorem cmp_len {B : Int} (hB : 0 < B) {l m : List Int} (hl : Dig B l) (hm : Dig B m) (nl : Nrm l) (nm : Nrm m) (hne : l.length ≠ m.length) : cmpI (val B l) (val B m) = cmpI l.length m.length := by
  rcases Nat.lt_or_gt_of_ne hne with h | h
  · have h1 := val_lt hB hl
    have h2 := Nrm.low hB hm nm (by omega)
    have h3 := pow_mono hB (show l.length ≤ m.length - 1 by omega)
    rw [cmpI_lt (by omega), cmpI_lt (by omega)]
  · have h1 := val_lt hB hm
    have h2 := Nrm.low hB hl nl (by omega)
    have h3 := pow_mono hB (show m.length ≤ l.length - 1 by omega)
    rw [cmpI_gt (by omega), cmpI_gt (by omega)]

theorem drop_step (l m : List Int) (k : Nat) (hl : k < l.length) (hm : k < m.length) (he : l.drop (k + 1) = m.drop (k + 1)) (h : l[k]?.getD 0 = m[k]?.getD 0) : l.drop k = m.drop k := by
  rw [List.drop_eq_getElem_cons hl, List.drop_eq_getElem_cons hm, he]
  have e1 : l[k]?.getD 0 = l[k] := by simp [hl]
  have e2 : m[k]?.getD 0 = m[k] := by simp [hm]
  rw [← e1, ← e2, h]

set_option maxRecDepth 100000 in
set_option maxHeartbeats 1000000 in
theorem compare_any (va vb : Value) (a b : Int) (Ka Kb : Nat) (w : World) (hA : Nt w va a Ka) (hB : Nt w vb b Kb) :
    Calls Try.prog 66 #[va, vb] w fun e w' => ∃ nq, e = .returned (.int .i64 (cmpI a b)) ∧ w' = w.drewN nq := by
  obtain ⟨ao, ca, LA, rfl, hA⟩ := hA
  obtain ⟨bo, cb, LB, rfl, hB⟩ := hB
  obtain ⟨n, hn⟩ : ∃ n, n = LA.length := ⟨_, rfl⟩
  obtain ⟨m, hm⟩ : ∃ m, m = LB.length := ⟨_, rfl⟩
  have hn63 : n ≤ 9223372036854775807 := by have := hA.rd.cap; have := hA.rd.most; omega
  have hm63 : m ≤ 9223372036854775807 := by have := hB.rd.cap; have := hB.rd.most; omega
  have hcmp : n ≠ m → cmpI a b = cmpI n m := fun h => by rw [← hA.eq, ← hB.eq, hn, hm]; exact cmp_len B64_pos hA.dig hB.dig hA.nrm hB.nrm (by omega)
  rw [← hn, ← hm]
  have HA := hid hA; have HB := hid hB; have Hn := hid hn; have Hm := hid hm; have Hcmp := hid hcmp
  clear hA hB hn hm hcmp
  by_cases hne : n = m
  · subst hne
    go_enter Try.func66, Try.ntmps66
    go_wp2
    go_loopw [5] (fun iv wr => ∃ k : Nat, ∃ nq, k ≤ n ∧ iv = .int .i64 ((k : Int) - 1) ∧ Hid (LA.drop k = LB.drop k) ∧ Hid (wr = w.drewN nq)) (fun iv _ => (intOf iv + 1).toNat)
    case atStart => exact ⟨n, 0, Nat.le_refl _, rfl, hid (by rw [List.drop_of_length_le (by have := Hn.out; omega), List.drop_of_length_le (by have := Hm.out; omega)]), hid rfl⟩
    case round =>
      obtain ⟨k, nq, hk, rfl, HD, HW⟩ := hrel
      cases k with
      | zero =>
        have hab : a = b := by
          have h := HD.out
          simp only [List.drop_zero] at h
          rw [← HA.out.eq, ← HB.out.eq, h]
        have he : cmpI a b = 0 := by rw [hab]; exact cmpI_self b
        have HE := hid he; clear he hab
        go_wp2
        go_ret
        exact ⟨nq, by rw [HE.out]; rfl, HW.out⟩
      | succ k =>
        have hkn : k < n := by omega
        obtain ⟨b1, o1, rfl⟩ := HA.out.rd.adr (by have := Hn.out; omega)
        obtain ⟨b2, o2, rfl⟩ := HB.out.rd.adr (by have := Hm.out; omega)
        have h1 : wr.cell? ⟨b1, o1 + k, none⟩ = some (.int .u64 (LA[k]?.getD 0)) := by rw [HW.out, cell_drewN]; exact HA.out.rd.cell b1 o1 rfl k (by have := Hn.out; omega)
        have h2 : wr.cell? ⟨b2, o2 + k, none⟩ = some (.int .u64 (LB[k]?.getD 0)) := by rw [HW.out, cell_drewN]; exact HB.out.rd.cell b2 o2 rfl k (by have := Hm.out; omega)
        have d1 := HA.out.dig.at B64_pos k
        have d2 := HB.out.dig.at B64_pos k
        obtain ⟨x, hx⟩ : ∃ x, x = LA[k]?.getD 0 := ⟨_, rfl⟩
        obtain ⟨y, hy⟩ : ∃ y, y = LB[k]?.getD 0 := ⟨_, rfl⟩
        rw [← hx] at h1 d1; rw [← hy] at h2 d2
        have hk0 : (0 : Int) ≤ (k : Int) := by omega
        have hk1 : (k : Int) < (n : Int) := by omega
        by_cases hxy : x = y
        · have hd := drop_step LA LB k (by have := Hn.out; omega) (by have := Hm.out; omega) HD.out (by rw [← hx, ← hy, hxy])
          have HD' := hid hd
          subst hxy
          clear hd hx hy HD
          go_wp2
          go_quiet (fail)
          go_wp2
          go_roundw
          case rel => exact ⟨k, _, by omega, by go_num, HD', hid (by rw [HW.out, World.drewN_drewN])⟩
          case measure => simp [intOf]
        · have hc := cmp_top B64_pos HA.out.dig HB.out.dig (show k < LA.length by have := Hn.out; omega) (show k < LB.length by have := Hm.out; omega) HD.out (by rw [← hx, ← hy]; exact hxy)
          rw [HA.out.eq, HB.out.eq, ← hx, ← hy] at hc
          have HC := hid hc
          clear hc hx hy HD
          have hb : ((x : Int) != y) = true := by rw [bne_iff_ne]; exact hxy
          go_wp2
          go_quiet (fail)
          go_wp2
          go_quiet ((go_at_call 93; exact quietMore (cmpU64' _ _ _)))
          go_wp2
          go_ret
          exact ⟨_, by rw [HC.out]; rfl, by rw [HW.out, World.drewN_drewN, World.drewN_drewN]⟩
  · have HC := hid (Hcmp.out hne)
    have hb : ((n : Int) != (m : Int)) = true := by rw [bne_iff_ne]; omega
    go_enter Try.func66, Try.ntmps66
    go_wp2_with (go_at_call 92; refine (cmpInt _ _ _).mono ?_; rintro e w' ⟨rfl, rfl⟩)
    go_ret
    exact ⟨0, by rw [HC.out]; rfl, rfl⟩

end Go.Proofs.Ytbmdjimfncgomaa

/- The document's own integers: cut, digit, order. Digits to the base 65536, the lowest first. -/
namespace Go.Proofs.Ytbmdjimfncgomaa
open Go.RowKit

def R16 : Int := 65536
theorem R16_pos : 0 < R16 := by decide

set_option maxHeartbeats 400000 in
theorem cut_any (ao : Option Addr) (c : Nat) (L : List Int) (w : World) (h : Rd w .i64 ao c L) :
    Calls Try.prog 78 #[.slice ao L.length c] w fun e w' => e = .returned (.slice ao (trimL L).length c) ∧ w' = w := by
  obtain ⟨n, hn⟩ : ∃ n, n = L.length := ⟨_, rfl⟩
  have hc := h.cap; have hm := h.most
  rw [← hn] at hc ⊢
  have Hn := hid hn; clear hn
  go_enter Try.func78, Try.ntmps78
  go_wp2
  go_loop [3] (fun v => ∃ m : Nat, m ≤ n ∧ v = .int .i64 m ∧ Hid (trimL (L.take m) = trimL L)) (fun v => (intOf v).toNat)
  case atStart => exact ⟨n, Nat.le_refl _, rfl, hid (by rw [Hn.out, List.take_length])⟩
  case round =>
    obtain ⟨m, hmn, rfl, HT⟩ := hrel
    cases m with
    | zero =>
      go_wp2
      go_ret
      exact ⟨by rw [trimL_stop L HT.out]; rfl, rfl⟩
    | succ m =>
      obtain ⟨b, off, rfl⟩ := h.adr (by have := Hn.out; omega)
      have hcell := h.cell b off rfl m (by have := Hn.out; omega)
      by_cases hz : L[m]?.getD 0 = 0
      · have HZ := hid hz
        rw [hz] at hcell
        clear hz
        go_wp2
        go_round
        case rel => exact ⟨m, by omega, by go_num, hid (trimL_step0 L m (by have := Hn.out; omega) HT.out HZ.out)⟩
        case measure => simp [intOf]
      · have HZ := hid hz
        go_wp2
        go_ret
        exact ⟨by rw [trimL_step1 L m (by have := Hn.out; omega) HT.out HZ.out]; rfl, rfl⟩

theorem digit_any (ao : Option Addr) (c i : Nat) (L : List Int) (w : World) (h : Rd w .i64 ao c L) (hi : i ≤ 9223372036854775807) :
    Calls Try.prog 55 #[.slice ao L.length c, .int .i64 (i : Int)] w fun e w' => e = .returned (.int .i64 (L[i]?.getD 0)) ∧ w' = w := by
  obtain ⟨n, hn⟩ : ∃ n, n = L.length := ⟨_, rfl⟩
  have hc := h.cap; have hm := h.most
  rw [← hn] at hc ⊢
  by_cases hlt : i < n
  · obtain ⟨b, off, rfl⟩ := h.adr (by omega)
    have hcell := h.cell b off rfl i (by omega)
    clear h hn
    go_enter Try.func55, Try.ntmps55
    go_wp2
    go_ret
    exact ⟨rfl, rfl⟩
  · have e : L[i]?.getD 0 = 0 := by simp [show L.length ≤ i by omega]
    rw [e]
    have hge : ¬ (i : Int) < (n : Int) := by omega
    clear h hn e
    go_enter Try.func55, Try.ntmps55
    go_wp2
    go_ret
    exact ⟨rfl, rfl⟩

/-- A list with zeros behind it, up to a length. -/
def pad (L : List Int) (N : Nat) : List Int := L ++ List.replicate (N - L.length) 0
theorem pad_len {L : List Int} {N : Nat} (h : L.length ≤ N) : (pad L N).length = N := by unfold pad; simp; omega
theorem pad_get (L : List Int) (N i : Nat) : (pad L N)[i]?.getD 0 = L[i]?.getD 0 := by
  unfold pad
  by_cases h : i < L.length
  · rw [List.getElem?_append_left h]
  · rw [List.getElem?_append_right (by omega)]
    have e : L[i]?.getD 0 = 0 := by simp [Nat.le_of_not_lt h]
    rw [e]
    by_cases h2 : i - L.length < N - L.length
    · simp [h2]
    · simp [h2]
theorem val_rep0 (B : Int) (n : Nat) : val B (List.replicate n 0) = 0 := by
  induction n with
  | zero => rfl
  | succ n ih => simp [List.replicate_succ, val, ih]
theorem pad_val (B : Int) (L : List Int) (N : Nat) : val B (pad L N) = val B L := by unfold pad; rw [val_append, val_rep0]; simp
theorem pad_dig {B : Int} (hB : 0 < B) {L : List Int} (h : Dig B L) (N : Nat) : Dig B (pad L N) := h.append (fun x hx => by rw [(List.mem_replicate.1 hx).2]; exact ⟨Int.le_refl 0, hB⟩)

set_option maxRecDepth 100000 in
set_option maxHeartbeats 1000000 in
theorem order_any (ao bo : Option Addr) (ca cb : Nat) (L M : List Int) (w : World) (hL : Rd w .i64 ao ca L) (hM : Rd w .i64 bo cb M) (dL : Dig R16 L) (dM : Dig R16 M) :
    Calls Try.prog 53 #[.slice ao L.length ca, .slice bo M.length cb] w fun e w' => e = .returned (.int .i64 (cmpI (val R16 L) (val R16 M))) ∧ w' = w := by
  obtain ⟨n, hn⟩ : ∃ n, n = L.length := ⟨_, rfl⟩
  obtain ⟨m, hm⟩ : ∃ m, m = M.length := ⟨_, rfl⟩
  obtain ⟨N, hN⟩ : ∃ N, N = max n m := ⟨_, rfl⟩
  have hnN : n ≤ N := by omega
  have hmN : m ≤ N := by omega
  have hN62 : N ≤ 9223372036854775807 := by have := hL.cap; have := hL.most; have := hM.cap; have := hM.most; omega
  have hNi : max (n : Int) (m : Int) = (N : Int) := by omega
  have hdl := fun (i : Nat) (hi : i ≤ 9223372036854775807) => digit_any ao ca i L w hL hi
  have hdm := fun (i : Nat) (hi : i ≤ 9223372036854775807) => digit_any bo cb i M w hM hi
  have lP := pad_len (L := L) (N := N) (by omega)
  have lQ := pad_len (L := M) (N := N) (by omega)
  rw [← hn] at hdl ⊢; rw [← hm] at hdm ⊢
  have HDl := hid hdl; have HDm := hid hdm; have HP := hid lP; have HQ := hid lQ; have DL := hid dL; have DM := hid dM
  clear hdl hdm lP lQ hL hM dL dM hn hm hNi
  go_enter Try.func53, Try.ntmps53
  go_wp2
  all_goals
    go_loop [5] (fun iv => ∃ k : Nat, k ≤ N ∧ iv = .int .i64 ((k : Int) - 1) ∧ Hid ((pad L N).drop k = (pad M N).drop k)) (fun iv => (intOf iv + 1).toNat)
    case atStart => exact ⟨N, Nat.le_refl _, by congr 1; omega, hid (by rw [List.drop_of_length_le (by rw [HP.out]; exact Nat.le_refl _), List.drop_of_length_le (by rw [HQ.out]; exact Nat.le_refl _)])⟩
    case round =>
      obtain ⟨k, hk, rfl, HD⟩ := hrel
      cases k with
      | zero =>
        have he : cmpI (val R16 L) (val R16 M) = 0 := by
          have h := HD.out
          simp only [List.drop_zero] at h
          rw [← pad_val R16 L N, ← pad_val R16 M N, h]; exact cmpI_self _
        have HE := hid he; clear he
        go_wp2
        go_ret
        exact ⟨by rw [HE.out]; rfl, rfl⟩
      | succ k =>
        have hk0 : (0 : Int) ≤ (k : Int) := by omega
        have h1 := HDl.out k (by omega); have h2 := HDm.out k (by omega)
        have hst := fun h => drop_step (pad L N) (pad M N) k (by have := HP.out; omega) (by have := HQ.out; omega) HD.out h
        have htp := fun h => cmp_top R16_pos (pad_dig R16_pos DL.out N) (pad_dig R16_pos DM.out N) (show k < (pad L N).length by have := HP.out; omega) (show k < (pad M N).length by have := HQ.out; omega) HD.out h
        simp only [pad_get, pad_val] at hst htp
        obtain ⟨x, hx⟩ : ∃ x, x = L[k]?.getD 0 := ⟨_, rfl⟩
        obtain ⟨y, hy⟩ : ∃ y, y = M[k]?.getD 0 := ⟨_, rfl⟩
        rw [← hx] at h1 hst htp; rw [← hy] at h2 hst htp
        have H1 := hid h1; have H2 := hid h2; have HSt := hid hst; have HTp := hid htp
        clear h1 h2 hst htp hx hy HD
        go_wp2_with fail
        refine H1.out.mono ?_
        rintro e w1 ⟨rfl, rfl⟩
        go_wp2_with fail
        refine H2.out.mono ?_
        rintro e w2 ⟨rfl, rfl⟩
        rcases Int.lt_trichotomy x y with hxy | hxy | hxy
        · have HC := hid ((HTp.out (by omega)).trans (cmpI_lt hxy))
          go_wp2
          go_ret
          exact ⟨by rw [HC.out]; rfl, rfl⟩
        · subst hxy
          have HD' := hid (HSt.out rfl)
          go_wp2
          go_round
          case rel => exact ⟨k, by omega, by go_num, HD'⟩
          case measure => simp [intOf]
        · have HC := hid ((HTp.out (by omega)).trans (cmpI_gt hxy))
          have hnl : ¬ x < y := by omega
          go_wp2
          go_ret
          exact ⟨by rw [HC.out]; rfl, rfl⟩

end Go.Proofs.Ytbmdjimfncgomaa

/- The document's own integers: few, even, value. -/
namespace Go.Proofs.Ytbmdjimfncgomaa
open Go.RowKit

theorem few_any (ao : Option Addr) (c n : Nat) (w : World) : Calls Try.prog 56 #[.slice ao n c] w fun e w' => e = .returned (.bool (decide (n ≤ 3))) ∧ w' = w := by
  have e : decide ((n : Int) ≤ 3) = decide (n ≤ 3) := by by_cases h : n ≤ 3 <;> simp [h] <;> omega
  rw [← e]
  clear e
  go_enter Try.func56, Try.ntmps56
  go_wp2
  go_ret
  exact ⟨rfl, rfl⟩

theorem val_mod2 (L : List Int) : val R16 L % 2 = L[0]?.getD 0 % 2 := by
  cases L with
  | nil => rfl
  | cons x l => simp only [val, R16]; simp; omega

theorem even_any (ao : Option Addr) (c : Nat) (L : List Int) (w : World) (h : Rd w .i64 ao c L) (hd : Dig R16 L) :
    Calls Try.prog 58 #[.slice ao L.length c] w fun e w' => e = .returned (.bool (decide (val R16 L % 2 = 0))) ∧ w' = w := by
  have hdg := digit_any ao c 0 L w h (by decide)
  have h0 := (hd.at R16_pos 0).1
  rw [val_mod2]
  obtain ⟨x, hx⟩ : ∃ x, x = L[0]?.getD 0 := ⟨_, rfl⟩
  obtain ⟨n, hn⟩ : ∃ n, n = L.length := ⟨_, rfl⟩
  rw [← hx] at hdg h0 ⊢
  rw [← hn] at hdg ⊢
  have ht : x.tmod 2 = x % 2 := Int.tmod_eq_emod_of_nonneg h0
  have HD := hid hdg
  clear hdg h hd hx hn
  go_enter Try.func58, Try.ntmps58
  go_wp2_with (go_at_call 55; refine HD.out.mono ?_; rintro e w1 ⟨rfl, rfl⟩)
  go_ret
  refine ⟨?_, rfl⟩
  first | rfl | (by_cases hz : x % 2 = 0 <;> simp [hz, beq_iff_eq])

theorem value_small {L : List Int} (hd : Dig R16 L) (hl : L.length ≤ 3) : 0 ≤ val R16 L ∧ val R16 L < 281474976710656 := by
  have h := val_lt R16_pos hd
  have h2 := pow_mono R16_pos hl
  have e : R16 ^ 3 = 281474976710656 := by decide
  exact ⟨val_nonneg R16_pos hd, by omega⟩

theorem val_drop (B : Int) (L : List Int) (k : Nat) (hk : k < L.length) : val B (L.drop k) = L[k]?.getD 0 + B * val B (L.drop (k + 1)) := by
  rw [List.drop_eq_getElem_cons hk]; simp [val, hk]

set_option maxRecDepth 100000 in
set_option maxHeartbeats 1000000 in
theorem rvalue_any (ao : Option Addr) (c : Nat) (L : List Int) (w : World) (h : Rd w .i64 ao c L) (hd : Dig R16 L) (hl : L.length ≤ 3) :
    Calls Try.prog 90 #[.slice ao L.length c] w fun e w' => e = .returned (.int .u64 (val R16 L)) ∧ w' = w := by
  obtain ⟨n, hn⟩ : ∃ n, n = L.length := ⟨_, rfl⟩
  have hc := h.cap; have hm := h.most
  rw [← hn] at hc hl ⊢
  have Hn := hid hn; have HD := hid hd; have HL := hid h
  clear hn hd h
  go_enter Try.func90, Try.ntmps90
  go_wp2
  go_loop [3, 4] (fun vv iv => ∃ k : Nat, k ≤ n ∧ iv = .int .i64 ((k : Int) - 1) ∧ vv = .int .u64 (val R16 (L.drop k))) (fun _ iv => (intOf iv + 1).toNat)
  case atStart => exact ⟨n, Nat.le_refl _, rfl, by rw [List.drop_of_length_le (by have := Hn.out; omega)]; rfl⟩
  case round =>
    obtain ⟨k, hk, rfl, rfl⟩ := hrel
    cases k with
    | zero =>
      rw [List.drop_zero]
      go_wp2
      go_ret
      exact ⟨rfl, rfl⟩
    | succ k =>
      obtain ⟨b, off, rfl⟩ := HL.out.adr (by have := Hn.out; omega)
      have hcell := HL.out.cell b off rfl k (by have := Hn.out; omega)
      have hx := HD.out.at R16_pos k
      have hv := value_small (HD.out.drop (k + 1)) (by rw [List.length_drop]; have := Hn.out; omega)
      have hv2 := value_small (HD.out.drop k) (by rw [List.length_drop]; have := Hn.out; omega)
      have hvd := val_drop R16 L k (by have := Hn.out; omega)
      obtain ⟨x, hxe⟩ : ∃ x, x = L[k]?.getD 0 := ⟨_, rfl⟩
      obtain ⟨t, ht⟩ : ∃ t, t = val R16 (L.drop (k + 1)) := ⟨_, rfl⟩
      rw [← hxe] at hcell hx hvd
      rw [← ht] at hv hvd ⊢
      have hs : t * 65536 + x = val R16 (L.drop k) := by rw [hvd]; unfold R16; omega
      rw [← hs] at hv2
      have hx0 := hx.1; have hx1 : x < 65536 := hx.2
      have ht0 := hv.1; have ht1 := hv.2; have hv20 := hv2.1; have hv21 := hv2.2
      have Hs := hid hs
      have hk0 : (0 : Int) ≤ (k : Int) := by omega
      clear hx hxe ht hvd hs hv hv2
      go_wp2
      go_round
      case rel => exact ⟨k, by omega, by go_num, by rw [← Hs.out]⟩
      case measure => simp [intOf]

end Go.Proofs.Ytbmdjimfncgomaa

/- The document's own integers: naturals as digits; half. -/
namespace Go.Proofs.Ytbmdjimfncgomaa
open Go.RowKit

/-- The value v reads in w as the natural number n: digits to the base 65536, in normal form, K at most. -/
structure MdL (w : World) (ao : Option Addr) (c : Nat) (L : List Int) (n : Int) (K : Nat) : Prop where
  rd : Rd w .i64 ao c L
  dig : Dig R16 L
  nrm : Nrm L
  eq : val R16 L = n
  le : L.length ≤ K
def Md (w : World) (v : Value) (n : Int) (K : Nat) : Prop := ∃ ao c L, v = .slice ao L.length c ∧ MdL w ao c L n K
def RetM (w : World) (n : Int) (K : Nat) (e : Ending) (w' : World) : Prop := ∃ v, e = .returned v ∧ Md w' v n K ∧ Below w.heap.size w w'

theorem Md.nonneg {w : World} {v : Value} {n : Int} {K : Nat} (h : Md w v n K) : 0 ≤ n := by obtain ⟨_, _, _, _, h⟩ := h; rw [← h.eq]; exact val_nonneg R16_pos h.dig
theorem Md.below {w w' : World} {v : Value} {n : Int} {K B : Nat} (h : Md w v n K) (hb : Below B w w') (hB : w.heap.size ≤ B) : Md w' v n K := by
  obtain ⟨ao, c, L, rfl, h⟩ := h
  exact ⟨ao, c, L, rfl, h.rd.below hb hB, h.dig, h.nrm, h.eq, h.le⟩
theorem Md.mono {w : World} {v : Value} {n : Int} {K K' : Nat} (h : Md w v n K) (hk : K ≤ K') : Md w v n K' := by
  obtain ⟨ao, c, L, rfl, h⟩ := h
  exact ⟨ao, c, L, rfl, h.rd, h.dig, h.nrm, h.eq, Nat.le_trans h.le hk⟩
theorem Md.nil (w : World) : Md w (.slice none 0 0) 0 0 := ⟨none, 0, [], rfl, Rd.nil _ _, Dig.nil _, rfl, rfl, Nat.le_refl _⟩

theorem rowi_rd {w : World} {g : Nat} {L : List Int} {c : Nat} (h : Row .i64 3 w g L) (hc : L.length ≤ c) (hc' : c ≤ 9223372036854775807) : Rd w .i64 (some ⟨g, 0, none⟩) c L := by
  have h' : Row .i64 3 w g ([] ++ L ++ []) := by simpa using h
  exact h'.rd hc hc'
theorem md_row {w : World} {g : Nat} {L : List Int} {c : Nat} {n : Int} {K : Nat} (h : Row .i64 3 w g L) (hd : Dig R16 L) (hv : val R16 L = n) (hc : L.length ≤ c) (hc' : c ≤ 9223372036854775807) (hK : L.length ≤ K) :
    Md w (.slice (some ⟨g, 0, none⟩) (trimL L).length c) n K := by
  refine ⟨_, c, trimL L, rfl, ?_, hd.trim, Nrm.trim L, by rw [val_trim]; exact hv, Nat.le_trans (trimL_len L) hK⟩
  rw [trimL_take L]; exact (rowi_rd h hc hc').take _

theorem Try.info3 : (Try.prog.info? 3).map (fun i => (i.zero, i.size, i.bytes)) = some (some (.int .i64 0), 1, 8) := by kernel_rfl

/-- Behind the digits from j on, divided by x. -/
structure DivR (w wr : World) (g : Nat) (LA : List Int) (x : Int) (j : Nat) (QT : List Int) (r : Int) : Prop where
  row : Row .i64 3 wr g (List.replicate j 0 ++ QT)
  gr : w.grownBy wr (some g)
  len : j + QT.length = LA.length
  dig : Dig R16 QT
  r0 : 0 ≤ r
  r1 : r < x
  eq : val R16 (LA.drop j) = val R16 QT * x + r

theorem DivR.step {w wr : World} {g : Nat} {LA QT : List Int} {x r : Int} {j : Nat} (h : DivR w wr g LA x (j + 1) QT r) (hx : 0 < x) (a : Int) (ha : a = LA[j]?.getD 0) (a0 : 0 ≤ a) (a1 : a < R16) :
    DivR w (wr.setCell ⟨g, j, none⟩ (.int .i64 ((r * 65536 + a) / x))) g LA x j ((r * 65536 + a) / x :: QT) ((r * 65536 + a) % x) ∧ 0 ≤ r * 65536 + a ∧ (r * 65536 + a) / x < 65536 := by
  have hj : j < LA.length := by have := h.len; omega
  have r0 := h.r0; have r1 := h.r1
  have hn0 : 0 ≤ r * 65536 + a := by omega
  have hn1 : r * 65536 + a < 65536 * x := by unfold R16 at a1; omega
  have q0 : 0 ≤ (r * 65536 + a) / x := Int.ediv_nonneg hn0 (Int.le_of_lt hx)
  have q1 : (r * 65536 + a) / x < 65536 := Int.ediv_lt_of_lt_mul hx hn1
  have hs := h.row.set j ((r * 65536 + a) / x)
  rw [List.replicate_succ', List.append_assoc, List.set_append_right _ _ (by simp), List.length_replicate, Nat.sub_self] at hs
  refine ⟨⟨hs, grown_trans h.gr (grown_set _ _ _ _), by have := h.len; simp; omega, Dig.cons q0 q1 h.dig, Int.emod_nonneg _ (by omega), Int.emod_lt_of_pos _ hx, ?_⟩, hn0, q1⟩
  have e := Int.emod_add_mul_ediv (r * 65536 + a) x
  rw [val_drop R16 LA j hj, ← ha, h.eq]
  simp only [val]
  generalize (r * 65536 + a) / x = q at *
  generalize (r * 65536 + a) % x = m at *
  generalize val R16 QT = t at *
  unfold R16
  grind

set_option maxRecDepth 100000 in
set_option maxHeartbeats 2000000 in
theorem half_any (va : Value) (a : Int) (K : Nat) (w : World) (hA : Md w va a K) (hK : K ≤ 1073741824) :
    Calls Try.prog 59 #[va] w (RetM w (a / 2) K) := by
  obtain ⟨ao, ca, LA, rfl, hA⟩ := hA
  obtain ⟨n, hn⟩ : ∃ n, n = LA.length := ⟨_, rfl⟩
  have hn30 : n ≤ 1073741824 := by have := hA.le; omega
  rw [← hn]
  have HA := hid hA; have Hn := hid hn
  clear hA hn
  obtain ⟨i0, hi, hz0, hz1, hz2⟩ := info_parts Try.info3
  go_enter Try.func59, Try.ntmps59
  go_wp2_with (at_make; refine wpList_make_row w rfl _ _ 26 rfl 3 i0 .i64 Try.underlying26 hi hz0 hz1 .i64 .i64 _ _ n rfl rfl rfl rfl (by rw [hz2]; omega) (by unfold maxLen; omega) ?_)
  intro w1 hrow hg1
  have hb1 := grown_below hg1
  have H0 : DivR w w1 w.heap.size LA 2 n [] 0 := ⟨by simpa using hrow, grown_any hg1, by simpa using Hn.out, Dig.nil _, Int.le_refl 0, by decide, by rw [List.drop_of_length_le (by have := Hn.out; omega)]; simp [val]⟩
  have HG1 := hid (HA.out.rd.ne (Nat.le_refl w.heap.size))
  clear hrow hg1
  go_wp2
  go_loopw [4, 5] (fun rv iv wr => ∃ j : Nat, ∃ QT r, j ≤ n ∧ iv = .int .i64 ((j : Int) - 1) ∧ rv = .int .i64 r ∧ DivR w wr w.heap.size LA 2 j QT r ∧ Below w.heap.size w wr) (fun _ iv _ => (intOf iv + 1).toNat)
  case atStart => exact ⟨n, [], 0, Nat.le_refl _, rfl, rfl, H0, hb1⟩
  case round =>
    obtain ⟨j, QT, r, hj, rfl, rfl, H, hb⟩ := hrel
    cases j with
    | zero =>
      have hr : Row .i64 3 wr w.heap.size QT := by have := H.row; simpa using this
      have hl : QT.length = n := by have := H.len; have := Hn.out; omega
      have he := H.eq
      rw [List.drop_zero, HA.out.eq] at he
      have hq : val R16 QT = a / 2 := by have := H.r0; have := H.r1; omega
      have ht := cut_any (some ⟨w.heap.size, 0, none⟩) n QT wr (rowi_rd hr (by omega) (by omega))
      have hres := md_row (c := n) (K := K) hr H.dig hq (by omega) (by omega) (by have := HA.out.le; have := Hn.out; omega)
      rw [hl] at ht
      have HT := hid ht; have Hres := hid hres
      clear ht hres hr hl he hq H H0 hb1
      go_wp2_with (go_at_call 78; refine HT.out.mono ?_; rintro e w2 ⟨rfl, rfl⟩)
      go_ret
      exact ⟨_, rfl, Hres.out, hb⟩
    | succ j =>
      have hjn : j < n := by omega
      obtain ⟨b, o, rfl⟩ := HA.out.rd.adr (by have := Hn.out; omega)
      have hc := (HA.out.rd.keptNew H.gr HG1.out).cell b o rfl j (by have := Hn.out; omega)
      have hd := HA.out.dig.at R16_pos j
      obtain ⟨y, hy⟩ : ∃ y, y = LA[j]?.getD 0 := ⟨_, rfl⟩
      rw [← hy] at hc hd
      obtain ⟨hS, hn0, hq1⟩ := H.step (by decide) y hy hd.1 hd.2
      have hq := H.row.cell j (by have := H.len; simp; omega)
      have hf := H.row.frozen j
      obtain ⟨u, hu⟩ : ∃ u, u = ((List.replicate (j + 1) 0 ++ QT)[j]?.getD 0 : Int) := ⟨_, rfl⟩
      rw [← hu] at hq
      have hr0 := H.r0; have hr1 := H.r1
      have hy0 := hd.1; have hy1 : y < 65536 := hd.2
      have hk0 : (0 : Int) ≤ (j : Int) := by omega
      have HS := hid hS
      clear hS H H0 hb1 hd hy hu
      go_wp2
      go_roundw
      case rel => exact ⟨j, _, _, by omega, by go_num, rfl, HS.out, hb.setCell (Nat.le_refl _) _⟩
      case measure => simp [intOf]

end Go.Proofs.Ytbmdjimfncgomaa

/- exact.fromWords, (exact.natural).words: two words are a limb. -/
namespace Go.Proofs.Ytbmdjimfncgomaa
open Go.RowKit

/-- 2^32, behind a name. -/
def B32 : Int := 4294967296
theorem B32_pos : 0 < B32 := by decide

/-- Two words are a limb. -/
def pack : List Int → List Int
  | [] => []
  | [x] => [x]
  | x :: y :: l => (x + B32 * y) :: pack l

theorem pack_val : ∀ l : List Int, val B64 (pack l) = val B32 l
  | [] => rfl
  | [x] => by simp [pack, val]
  | x :: y :: l => by
    have h := pack_val l
    simp only [pack, val, h]
    have e : B64 = B32 * B32 := by decide
    rw [e]; grind
theorem pack_len : ∀ l : List Int, (pack l).length = (l.length + 1) / 2
  | [] => rfl
  | [x] => by simp [pack]
  | x :: y :: l => by have h := pack_len l; simp only [pack, List.length_cons, h]; omega
theorem pack_dig : ∀ {l : List Int}, Dig B32 l → Dig B64 (pack l)
  | [], _ => Dig.nil _
  | [x], h => by
    have := h.head
    exact Dig.cons this.1 (Int.lt_trans this.2 (by decide)) (Dig.nil _)
  | x :: y :: l, h => by
    have h1 := h.head; have h2 := h.tail.head
    refine Dig.cons ?_ ?_ (pack_dig h.tail.tail)
    · unfold B32 at *; omega
    · unfold B32 B64 at *; omega
theorem pack_nrm : ∀ {l : List Int}, Dig B32 l → Nrm l → Nrm (pack l)
  | [], _, _ => rfl
  | [x], _, h => h
  | x :: y :: l, hd, h => by
    have ih := pack_nrm hd.tail.tail h.tail.tail
    unfold Nrm at ih ⊢
    simp only [pack, trimL, ih]
    split
    · next hc =>
      exfalso
      obtain ⟨h1, h2⟩ := hc
      have hl : l = [] := by
        have := pack_len l; rw [h1] at this; simp at this
        exact List.eq_nil_of_length_eq_zero (by omega)
      subst hl
      have hx := hd.head; have hy := hd.tail.head
      have : x = 0 ∧ y = 0 := by unfold B32 at *; constructor <;> omega
      obtain ⟨rfl, rfl⟩ := this
      simp [Nrm, trimL] at h
    · rfl
theorem pack_append : ∀ (j : Nat) (l m : List Int), l.length = 2 * j → pack (l ++ m) = pack l ++ pack m
  | 0, [], m, _ => rfl
  | 0, _ :: _, _, h => by simp at h
  | j + 1, [], _, h => by simp at h
  | j + 1, [x], _, h => by simp at h; omega
  | j + 1, x :: y :: l, m, h => by
    have := pack_append j l m (by simp at h; omega)
    simp [pack, this]

theorem or_high (lo h : Int) (h0 : 0 ≤ lo) (h1 : lo < B32) (k0 : 0 ≤ h) (k1 : h < B32) : bits .or .u64 lo (h * 4294967296) = lo + B32 * h := by
  obtain ⟨a, rfl⟩ := Int.eq_ofNat_of_zero_le h0
  obtain ⟨b, rfl⟩ := Int.eq_ofNat_of_zero_le k0
  unfold B32 at *
  have e : ((b : Int) * 4294967296) = ((b * 4294967296 : Nat) : Int) := by omega
  rw [e, bits_or_u64_nat a (b * 4294967296) (by omega) (by omega)]
  have := Nat.two_pow_add_eq_or_of_lt (i := 32) (show a < 2 ^ 32 by omega) b
  rw [show (2 : Nat) ^ 32 = 4294967296 from rfl] at this
  rw [Nat.or_comm, Nat.mul_comm b, ← this]; omega
theorem or_zero (x : Int) (h0 : 0 ≤ x) (h1 : x < B32) : bits .or .u64 0 x = x := by
  obtain ⟨a, rfl⟩ := Int.eq_ofNat_of_zero_le h0
  unfold B32 at *
  have := bits_or_u64_nat 0 a (by omega) (by omega)
  simpa using this

/-- After k words. -/
structure PackI (w wr : World) (g : Nat) (W : List Int) (N k : Nat) : Prop where
  row : Row .u64 105 wr g (pack (W.take k) ++ List.replicate (N - (k + 1) / 2) 0)
  gr : w.grownBy wr (some g)

theorem PackI.drew {w wr : World} {g : Nat} {W : List Int} {N k : Nat} (h : PackI w wr g W N k) : PackI w wr.drew g W N k := ⟨h.row, grown_drew h.gr⟩
theorem pack_take_len (W : List Int) (k : Nat) (h : k ≤ W.length) : (pack (W.take k)).length = (k + 1) / 2 := by rw [pack_len, List.length_take, Nat.min_eq_left h]

theorem PackI.even {w wr : World} {g : Nat} {W : List Int} {N j : Nat} (h : PackI w wr g W N (2 * j)) (hk : 2 * j < W.length) (hN : N = (W.length + 1) / 2) :
    wr.cell? ⟨g, j, none⟩ = some (.int .u64 0) ∧ PackI w (wr.setCell ⟨g, j, none⟩ (.int .u64 (W[2 * j]?.getD 0))) g W N (2 * j + 1) := by
  have hl := pack_take_len W (2 * j) (by omega)
  have hz : N - (2 * j + 1) / 2 = (N - (2 * j + 1 + 1) / 2) + 1 := by omega
  constructor
  · have := h.row.cell j (by simp [hl]; omega)
    rw [this, hz, List.replicate_succ, List.getElem?_append_right (by omega), show j - (pack (W.take (2 * j))).length = 0 by omega]
    rfl
  · refine ⟨?_, grown_trans h.gr (grown_set _ _ _ _)⟩
    have hr := h.row.set j (W[2 * j]?.getD 0)
    rw [hz, List.replicate_succ, List.set_append_right _ _ (by omega), show j - (pack (W.take (2 * j))).length = 0 by omega, List.set_cons_zero] at hr
    rw [take_succ_getD W (2 * j) hk, pack_append j _ _ (by simp; omega)]
    simpa [pack] using hr

theorem PackI.odd {w wr : World} {g : Nat} {W : List Int} {N j : Nat} (h : PackI w wr g W N (2 * j + 1)) (hk : 2 * j + 1 < W.length) :
    wr.cell? ⟨g, j, none⟩ = some (.int .u64 (W[2 * j]?.getD 0)) ∧ PackI w (wr.setCell ⟨g, j, none⟩ (.int .u64 (W[2 * j]?.getD 0 + B32 * W[2 * j + 1]?.getD 0))) g W N (2 * j + 2) := by
  have hl := pack_take_len W (2 * j) (by omega)
  have e1 : pack (W.take (2 * j + 1)) = pack (W.take (2 * j)) ++ [W[2 * j]?.getD 0] := by
    rw [take_succ_getD W (2 * j) (by omega), pack_append j _ _ (by simp; omega)]; rfl
  have e2 : pack (W.take (2 * j + 2)) = pack (W.take (2 * j)) ++ [W[2 * j]?.getD 0 + B32 * W[2 * j + 1]?.getD 0] := by
    rw [take_succ_getD W (2 * j + 1) hk, take_succ_getD W (2 * j) (by omega), List.append_assoc, pack_append j _ _ (by simp; omega)]; rfl
  have hz : (2 * j + 1 + 1) / 2 = (2 * j + 2 + 1) / 2 := by omega
  constructor
  · have := h.row.cell j (by simp [e1, hl]; omega)
    rw [this, e1, List.append_assoc, List.getElem?_append_right (by omega), show j - (pack (W.take (2 * j))).length = 0 by omega]
    rfl
  · refine ⟨?_, grown_trans h.gr (grown_set _ _ _ _)⟩
    have hr := h.row.set j (W[2 * j]?.getD 0 + B32 * W[2 * j + 1]?.getD 0)
    rw [e1, List.append_assoc, List.set_append_right _ _ (by omega), show j - (pack (W.take (2 * j))).length = 0 by omega] at hr
    rw [e2, List.append_assoc, ← hz]
    exact hr

set_option maxRecDepth 100000 in
set_option maxHeartbeats 1000000 in
theorem fromWords_any (ao : Option Addr) (ca : Nat) (W0 : List Int) (w : World) (hA : Rd w .u32 ao ca W0) (hd : Dig B32 W0) (hk : W0.length ≤ 1073741824) :
    Calls Try.prog 79 #[.slice ao W0.length ca] w (RetN w (val B32 W0) ((W0.length + 1) / 2)) := by
  obtain ⟨W, hW⟩ : ∃ W, W = trimL W0 := ⟨_, rfl⟩
  have htl := trimL_len W0
  rw [← hW] at htl
  have hAW : Rd w .u32 ao ca W := by rw [hW, trimL_take]; exact hA.take _
  have ht := trim32_any ao ca W0 w hA
  rw [← hW] at ht
  obtain ⟨n, hn⟩ : ∃ n, n = W.length := ⟨_, rfl⟩
  obtain ⟨n0, hn0⟩ : ∃ n0, n0 = W0.length := ⟨_, rfl⟩
  rw [← hn, ← hn0] at ht htl
  rw [← hn0] at hk ⊢
  have hdW : Dig B32 W := by rw [hW]; exact hd.trim
  have hv : val B64 (pack W) = val B32 W0 := by rw [pack_val, hW, val_trim]
  have hnr : Nrm (pack W) := pack_nrm hdW (by rw [hW]; exact Nrm.trim _)
  have HT := hid ht; have Hn := hid hn; have HA := hid hAW; have Hd := hid hdW; have Hv := hid hv; have Hnr := hid hnr
  clear ht hn hn0 hAW hdW hv hnr hA hd hW
  obtain ⟨i0, hi, hz0, hz1, hz2⟩ := info_parts Try.info105
  go_enter Try.func79, Try.ntmps79
  go_wp2_with (first | (go_at_call 100; refine HT.out.mono ?_; rintro e w1 ⟨rfl, rfl⟩) | (at_make; refine wpList_make_row w rfl _ _ 77 rfl 105 i0 .u64 Try.underlying77 hi hz0 hz1 .i64 .i64 _ _ ((n + 1) / 2) rfl rfl (by omega) (by omega) (by rw [hz2]; omega) (by unfold maxLen; omega) ?_))
  intro w1 hrow hg1
  have hg1b := grown_below hg1
  have H0 : PackI w w1 w.heap.size W ((n + 1) / 2) 0 := ⟨by simpa [pack] using hrow, grown_any hg1⟩
  have HR := hid (HA.out.below hg1b (Nat.le_refl _))
  have HG := hid (HA.out.ne (Nat.le_refl w.heap.size))
  clear hrow hg1 hg1b
  go_wp2
  go_loopw [15] (fun iv wr => ∃ k : Nat, k ≤ n ∧ iv = .int .i64 k ∧ PackI w wr w.heap.size W ((n + 1) / 2) k) (fun iv _ => n - (intOf iv).toNat)
  case atStart => exact ⟨0, Nat.zero_le _, rfl, H0⟩
  case round =>
    obtain ⟨k, hk, rfl, H⟩ := hrel
    by_cases hlt : k < n
    · obtain ⟨b, o, rfl⟩ := HA.out.adr (by have := Hn.out; omega)
      have hx : wr.cell? ⟨b, o + k, none⟩ = some (.int .u32 (W[k]?.getD 0)) := (HA.out.keptNew H.gr HG.out).cell b o rfl k (by have := Hn.out; omega)
      have hd := Hd.out.at B32_pos k
      rcases (show ∃ j, k = 2 * j ∨ k = 2 * j + 1 from ⟨k / 2, by omega⟩) with ⟨j, rfl | rfl⟩
      · obtain ⟨hc, HS⟩ := H.even (by have := Hn.out; omega) (by rw [Hn.out])
        have hf := H.row.frozen j
        obtain ⟨x, hxe⟩ : ∃ x, x = W[2 * j]?.getD 0 := ⟨_, rfl⟩
        rw [← hxe] at hx hd HS
        have e1 : (((2 * j : Nat) : Int)) / 2 = (j : Int) := by omega
        have e2 : (((2 * j : Nat) : Int)) % 2 = 0 := by omega
        have e3 := or_zero x hd.1 hd.2
        have d0 := hd.1; have d1 := hd.2; unfold B32 at d1
        have HS' := hid HS; have HX := hid hxe
        clear H HS hxe H0
        go_wp2
        go_region
        all_goals go_wp2
        go_roundw
        case rel => exact ⟨2 * j + 1, by omega, by go_num, HS'.out.drew⟩
        case measure => simp [intOf]; omega
      · obtain ⟨hc, HS⟩ := H.odd (by have := Hn.out; omega)
        have hf := H.row.frozen j
        obtain ⟨x, hxe⟩ : ∃ x, x = W[2 * j + 1]?.getD 0 := ⟨_, rfl⟩
        obtain ⟨y, hye⟩ : ∃ y, y = W[2 * j]?.getD 0 := ⟨_, rfl⟩
        have hy := Hd.out.at B32_pos (2 * j)
        rw [← hxe] at hx hd HS; rw [← hye] at hc HS hy
        have ej : (2 * j + 1) / 2 = j := by omega
        have hc' : wr.cell? ⟨w.heap.size, (2 * j + 1) / 2, none⟩ = some (.int .u64 y) := by rw [ej]; exact hc
        have hf' : wr.frozen? ⟨w.heap.size, (2 * j + 1) / 2, none⟩ = false := by rw [ej]; exact hf
        have HS2 : PackI w (wr.setCell ⟨w.heap.size, (2 * j + 1) / 2, none⟩ (.int .u64 (y + B32 * x))) w.heap.size W ((n + 1) / 2) (2 * j + 2) := by rw [ej]; exact HS
        have e2 : (2 * (j : Int) + 1) % 2 = 1 := by omega
        have e3 := or_high y x hy.1 hy.2 hd.1 hd.2
        have d0 := hd.1; have d1 := hd.2; unfold B32 at d1
        have HS' := hid HS2; have HX := hid hxe; have HY := hid hye
        clear H HS HS2 hxe hye H0 hc hf ej
        go_wp2
        go_region
        all_goals go_wp2
        go_roundw
        case rel => exact ⟨2 * j + 2, by omega, by go_num, HS'.out.drew⟩
        case measure => simp [intOf]; omega
    · obtain rfl : k = n := by omega
      clear H0
      go_wp2
      go_ret
      have hr := H.row
      rw [Hn.out, List.take_length, Nat.sub_self, List.replicate_zero, List.append_nil] at hr
      refine ⟨_, rfl, ?_, ⟨H.gr.os, H.gr.tape, H.gr.output, H.gr.size, fun i hi => H.gr.block i hi (fun e => by cases e; omega)⟩⟩
      have hN := nt_row (c := (k + 1) / 2) (K := (n0 + 1) / 2) hr (pack_dig Hd.out) Hv.out (by rw [pack_len, ← Hn.out]; omega) (by omega) (by rw [pack_len, ← Hn.out]; omega)
      rw [Hnr.out, pack_len, ← Hn.out] at hN
      exact hN

end Go.Proofs.Ytbmdjimfncgomaa

/- (exact.natural).words: the words of a natural, in new memory. -/
namespace Go.Proofs.Ytbmdjimfncgomaa
open Go.RowKit

def unpack : List Int → List Int
  | [] => []
  | x :: l => x % B32 :: x / B32 :: unpack l

theorem unpack_val : ∀ l : List Int, val B32 (unpack l) = val B64 l
  | [] => rfl
  | x :: l => by
    have h := unpack_val l
    have e : B64 = B32 * B32 := by decide
    have d := Int.emod_add_mul_ediv x B32
    simp only [unpack, val, h, e]; grind
theorem unpack_len : ∀ l : List Int, (unpack l).length = 2 * l.length
  | [] => rfl
  | x :: l => by simp only [unpack, List.length_cons, unpack_len l]; omega
theorem unpack_dig : ∀ {l : List Int}, Dig B64 l → Dig B32 (unpack l)
  | [], _ => Dig.nil _
  | x :: l, h => by
    have := h.head
    refine Dig.cons (Int.emod_nonneg _ (by decide)) (Int.emod_lt_of_pos _ B32_pos) (Dig.cons (Int.ediv_nonneg this.1 (by decide)) ?_ (unpack_dig h.tail))
    exact Int.ediv_lt_of_lt_mul B32_pos (by have := this.2; have e : B32 * B32 = B64 := by decide
                                            omega)
theorem unpack_snoc : ∀ (l : List Int) (x : Int), unpack (l ++ [x]) = unpack l ++ [x % B32, x / B32]
  | [], x => rfl
  | y :: l, x => by simp [unpack, unpack_snoc l x]

/-- A slice of words that the call has made, in normal form, whose number is n. -/
def FrW (w0 w : World) (v : Value) (n : Int) (K : Nat) : Prop := ∃ L : List Int, w.ownsRow w0.heap.size 74 1 v L.length (L.map (Value.int .u32)) ∧ Dig B32 L ∧ Nrm L ∧ val B32 L = n ∧ L.length ≤ K
def RetW (w : World) (n : Int) (K : Nat) (e : Ending) (w' : World) : Prop := ∃ v, e = .returned v ∧ FrW w w' v n K ∧ Below w.heap.size w w'

theorem owns_take {w : World} {base g n cap : Nat} {e : TypeId} {xs : List Value} (h : w.ownsRow base e 1 (.slice (some ⟨g, 0, none⟩) n cap) n xs) (m : Nat) (hm : m ≤ n) :
    w.ownsRow base e 1 (.slice (some ⟨g, 0, none⟩) m cap) m (xs.take m) := by
  rcases h.2 with ⟨h', _⟩ | ⟨g', cap', cur, h', hb, hg, hnc, hcm, hcs, ht⟩
  · simp at h'
  · simp only [Value.slice.injEq, Option.some.injEq, Addr.mk.injEq, and_true, true_and] at h'
    obtain ⟨rfl, rfl⟩ := h'
    refine ⟨by have := h.1; simp at this ⊢; omega, .inr ⟨g, cap, cur, rfl, hb, hg, by omega, hcm, hcs, ?_⟩⟩
    rw [← ht, List.take_take, Nat.min_eq_left (by omega)]; simp
theorem owns_rd {w : World} {base g cap : Nat} {e : TypeId} {k : IntKind} {L : List Int} (h : w.ownsRow base e 1 (.slice (some ⟨g, 0, none⟩) L.length cap) L.length (L.map (Value.int k))) (hc : cap ≤ 9223372036854775807) :
    Rd w k (some ⟨g, 0, none⟩) cap L := by
  have hcap : L.length ≤ cap := by
    rcases h.2 with ⟨h', _⟩ | ⟨g', cap', cur, h', hb, hg, hnc, _⟩
    · simp at h'
    · simp only [Value.slice.injEq, Option.some.injEq, Addr.mk.injEq, and_true, true_and] at h'
      obtain ⟨rfl, rfl⟩ := h'; exact hnc
  refine ⟨hcap, hc, fun _ => ⟨_, _, rfl⟩, fun b off e i hi => ?_⟩
  cases e
  rw [Nat.zero_add, h.cellAt i (by omega)]
  simp [hi]

theorem Try.info74 : (Try.prog.info? 74).map (fun i => (i.zero, i.size, i.bytes)) = some (some (.int .u32 0), 1, 4) := by kernel_rfl

set_option maxRecDepth 100000 in
set_option maxHeartbeats 1000000 in
theorem words_any (va : Value) (a : Int) (K : Nat) (w : World) (hA : Nt w va a K) (hk : K ≤ 1073741824) :
    Calls Try.prog 80 #[va] w (RetW w a (2 * K)) := by
  obtain ⟨ao, ca, L, rfl, hA⟩ := hA
  obtain ⟨n, hn⟩ : ∃ n, n = L.length := ⟨_, rfl⟩
  have hnK : n ≤ K := by have := hA.le; omega
  have hn30 : n ≤ 1073741824 := by omega
  rw [← hn]
  have HA := hid hA; have Hn := hid hn
  clear hA hn
  obtain ⟨i0, hi, hz0, hz1, hz2⟩ := info_parts Try.info74
  by_cases h0 : n = 0
  · subst h0
    go_enter Try.func80, Try.ntmps80
    go_wp2
    go_ret
    obtain rfl : L = [] := List.eq_nil_of_length_eq_zero Hn.out.symm
    exact ⟨_, rfl, ⟨[], World.ownsRow_nil _ _ _ _, Dig.nil _, rfl, HA.out.eq, Nat.zero_le _⟩, Below.refl _ _⟩
  · have hb0 : ((n : Int) == 0) = false := by rw [beq_eq_false_iff_ne]; omega
    obtain ⟨b, o, rfl⟩ := HA.out.rd.adr (by have := Hn.out; omega)
    go_enter Try.func80, Try.ntmps80
    go_wp2_with (at_make; refine wpList_make_own w rfl _ _ 22 rfl w.heap.size 74 i0 (.int .u32 0) 1 Try.underlying22 hi hz0 hz1 _ _ _ (2 * n) rfl rfl (by omega) (by rw [hz2]; omega) (by unfold maxLen; omega) (Nat.le_refl _) ?_)
    intro w1 hown1 hg1
    have hb1 := grown_below hg1
    go_wp2
    go_loopw [3, 15] (fun v iv wr => ∃ k : Nat, k ≤ n ∧ iv = .int .i64 k ∧ v = .slice (some ⟨w.heap.size, 0, none⟩) (2 * k) (2 * n) ∧ wr.ownsRow w.heap.size 74 1 (.slice (some ⟨w.heap.size, 0, none⟩) (2 * k) (2 * n)) (2 * k) ((unpack (L.take k)).map (Value.int .u32)) ∧ Below w.heap.size w wr) (fun _ iv _ => n - (intOf iv).toNat)
    case atStart => exact ⟨0, Nat.zero_le _, rfl, rfl, hown1, hb1⟩
    case round =>
      obtain ⟨k, hk, rfl, rfl, hown, hb⟩ := hrel
      by_cases hlt : k < n
      · have hx : wr.cell? ⟨b, o + k, none⟩ = some (.int .u64 (L[k]?.getD 0)) := (HA.out.rd.below hb (Nat.le_refl _)).cell b o rfl k (by have := Hn.out; omega)
        have hd := HA.out.dig.at B64_pos k
        have hts := take_succ_getD L k (by have := Hn.out; omega)
        have hus := unpack_snoc (L.take k) (L[k]?.getD 0)
        rw [← hts] at hus
        obtain ⟨x, hxe⟩ : ∃ x, x = L[k]?.getD 0 := ⟨_, rfl⟩
        rw [← hxe] at hx hd hus
        have HU := hid hus; have HX := hid hxe
        have d0 := hd.1; have d1 := hd.2; unfold B64 at d1
        clear hts hus hxe hown1 hg1 hb1
        go_wp2_with (at_builtin; refine wpList_append_fits _ rfl _ _ 22 rfl w.heap.size 74 i0 1 Try.underlying22 hi hz1 w.heap.size (2 * k) (2 * n) _ rfl (hown.alloc _) ⟨wr.heap.size, 0, none⟩ 2 2 [.int .u32 (x % 4294967296), .int .u32 (x / 4294967296)] rfl rfl ?c1 ?c2 ?c3 ?_)
        case c1 =>
          intro j u hj
          match j, hj with
          | 0, hj => simp at hj; subst hj; simp [Addr.add]
          | 1, hj => simp at hj; subst hj; simp [Addr.add]
        case c2 => intro u hu; simp at hu; rcases hu with rfl | rfl <;> rfl
        case c3 => omega
        intro w2 hown2 hg2
        have hb2 := (hb.alloc hb.size (.cells #[.int .u32 (x % 4294967296), .int .u32 (x / 4294967296)] 74)).grown hg2 (by simp; have := hb.size; omega) (fun k e => by cases e; exact Nat.le_refl _)
        have hown3 : w2.ownsRow w.heap.size 74 1 (.slice (some ⟨w.heap.size, 0, none⟩) (2 * (k + 1)) (2 * n)) (2 * (k + 1)) ((unpack (L.take (k + 1))).map (Value.int .u32)) := by
          rw [HU.out, List.map_append]; exact hown2
        clear hown2 hg2 hown hb
        have Hown := hid hown3; clear hown3
        go_wp2
        go_roundw
        case rel => exact ⟨k + 1, by omega, by go_num, rfl, Hown.out, hb2⟩
        case measure => simp [intOf]; omega
      · obtain rfl : k = n := by omega
        have hl : 2 * k = (unpack L).length := by rw [unpack_len, ← Hn.out]
        have hown4 : wr.ownsRow w.heap.size 74 1 (.slice (some ⟨w.heap.size, 0, none⟩) (unpack L).length (2 * k)) (unpack L).length ((unpack L).map (Value.int .u32)) := by
          have := hown; rw [Hn.out, List.take_length, ← Hn.out] at this; rw [← hl]; exact this
        have ht := trim32_any (some ⟨w.heap.size, 0, none⟩) (2 * k) (unpack L) wr (owns_rd hown4 (by omega))
        rw [← hl] at ht
        have HT := hid ht; have Hown := hid hown4; have Hb := hid hb
        clear ht hown4 hown hb hl hown1 hg1 hb1
        go_wp2_with (go_at_call 100; refine HT.out.mono ?_; rintro e w2 ⟨rfl, rfl⟩)
        go_ret
        refine ⟨_, rfl, ⟨trimL (unpack L), ?_, (unpack_dig HA.out.dig).trim, Nrm.trim _, by rw [val_trim, unpack_val]; exact HA.out.eq, ?_⟩, Hb.out⟩
        · have h := owns_take Hown.out (trimL (unpack L)).length (trimL_len _)
          rw [← List.map_take, ← trimL_take] at h
          exact h
        · have := trimL_len (unpack L); rw [unpack_len] at this; have := HA.out.le; omega

end Go.Proofs.Ytbmdjimfncgomaa

/- The document's own integers: sum. -/
namespace Go.Proofs.Ytbmdjimfncgomaa
open Go.RowKit

theorem owns_block {w : World} {base n s : Nat} {e : TypeId} {v : Value} {xs : List Value} (h : w.ownsRow base e s v n xs) : ∀ k, v.ownBlock = some k → base ≤ k := by
  intro k hk
  rcases h.2 with ⟨rfl, _⟩ | ⟨g, cap, cur, rfl, hb, _⟩
  · simp [Value.ownBlock] at hk
  · simp [Value.ownBlock] at hk; omega

/-- What holds of a sum of digits: k have been summed. -/
structure DsI (w wr : World) (A B : List Int) (k : Nat) (ov : Value) (Q : List Int) (c : Int) : Prop where
  own : wr.ownsRow w.heap.size 3 1 ov k (Q.map (Value.int .i64))
  len : Q.length = k
  dig : Dig R16 Q
  c0 : 0 ≤ c
  c1 : c ≤ 1
  eq : val R16 Q + R16 ^ k * c = val R16 (A.take k) + val R16 (B.take k)
  low : Below w.heap.size w wr

theorem DsI.next {w wr wx : World} {A B Q : List Int} {k : Nat} {ov ov' : Value} {c : Int} (H : DsI w wr A B k ov Q c) (x y : Int) (hx : x = A[k]?.getD 0) (hy : y = B[k]?.getD 0) (hA : Dig R16 A) (hB : Dig R16 B) (hka : k < A.length) (hkb : k < B.length)
    (hown : wx.ownsRow w.heap.size 3 1 ov' (k + 1) (Q.map (Value.int .i64) ++ [.int .i64 ((x + y + c) % 65536)])) (hlow : Below w.heap.size w wx) :
    DsI w wx A B (k + 1) ov' (Q ++ [(x + y + c) % 65536]) ((x + y + c) / 65536) := by
  have a := hA.at R16_pos k; have b := hB.at R16_pos k
  rw [← hx] at a; rw [← hy] at b
  have c0 := H.c0; have c1 := H.c1
  refine ⟨by rw [List.map_append]; exact hown, by simp [H.len], H.dig.append (Dig.cons (by omega) (by unfold R16; omega) (Dig.nil _)), by omega, by unfold R16 at a b; omega, ?_, hlow⟩
  rw [val_snoc, H.len, val_take_succ R16 A k hka, val_take_succ R16 B k hkb, ← hx, ← hy, Int.pow_succ]
  have e := H.eq
  have hd : (x + y + c) % 65536 + R16 * ((x + y + c) / 65536) = x + y + c := Int.emod_add_mul_ediv (x + y + c) 65536
  generalize (x + y + c) % 65536 = lo at *
  generalize (x + y + c) / 65536 = hi at *
  generalize R16 ^ k = p at *
  generalize R16 = r at *
  grind

def RetO (w : World) (n : Int) (K : Nat) (e : Ending) (w' : World) : Prop := ∃ v Q, e = .returned v ∧ w'.ownsRow w.heap.size 3 1 v K (Q.map (Value.int .i64)) ∧ Q.length = K ∧ Dig R16 Q ∧ val R16 Q = n ∧ Below w.heap.size w w'

set_option maxRecDepth 100000 in
set_option maxHeartbeats 4000000 in
theorem sum_any (ao bo : Option Addr) (ca cb N : Nat) (L M : List Int) (w : World) (hL : Rd w .i64 ao ca L) (hM : Rd w .i64 bo cb M) (dL : Dig R16 L) (dM : Dig R16 M) (hN : N = max L.length M.length) (hN30 : N ≤ 1073741824) :
    Calls Try.prog 52 #[.slice ao L.length ca, .slice bo M.length cb] w (RetO w (val R16 L + val R16 M) (N + 1)) := by
  obtain ⟨n, hn⟩ : ∃ n, n = L.length := ⟨_, rfl⟩
  obtain ⟨m, hm⟩ : ∃ m, m = M.length := ⟨_, rfl⟩
  have hnN : n ≤ N := by omega
  have hmN : m ≤ N := by omega
  have hdl := fun (w' : World) (hb : Below w.heap.size w w') (i : Nat) (hi : i ≤ 9223372036854775807) => digit_any ao ca i L w' (hL.below hb (Nat.le_refl _)) hi
  have hdm := fun (w' : World) (hb : Below w.heap.size w w') (i : Nat) (hi : i ≤ 9223372036854775807) => digit_any bo cb i M w' (hM.below hb (Nat.le_refl _)) hi
  have lP := pad_len (L := L) (N := N) (by omega)
  have lQ := pad_len (L := M) (N := N) (by omega)
  rw [← hn, ← hm] at hN
  rw [← hn] at hdl ⊢; rw [← hm] at hdm ⊢
  have HDl := hid hdl; have HDm := hid hdm; have HP := hid lP; have HQ := hid lQ; have DL := hid (pad_dig R16_pos dL N); have DM := hid (pad_dig R16_pos dM N)
  have hI0 : DsI w w (pad L N) (pad M N) 0 (.slice none 0 0) [] 0 := ⟨⟨by simp, .inl ⟨rfl, rfl⟩⟩, rfl, Dig.nil _, Int.le_refl 0, by decide, by simp [val], Below.refl _ _⟩
  have HI0 := hid hI0
  clear hdl hdm lP lQ hL hM dL dM hn hm hI0
  obtain ⟨i0, hi, hz0, hz1, hz2⟩ := info_parts Try.info3
  rcases Nat.lt_or_ge n m with hnm | hnm
  all_goals
    go_enter Try.func52, Try.ntmps52
    go_wp2
    go_loopw [5, 6, 7] (fun ov cv iv wr => ∃ k : Nat, ∃ Q c, k ≤ N ∧ iv = .int .i64 k ∧ cv = .int .i64 c ∧ DsI w wr (pad L N) (pad M N) k ov Q c) (fun _ _ iv _ => N - (intOf iv).toNat)
    case atStart => exact ⟨0, [], 0, Nat.zero_le _, rfl, rfl, HI0.out⟩
    case round =>
      obtain ⟨k, Q, c, hk, rfl, rfl, H⟩ := hrel
      by_cases hlt : k < N
      · have h1 := HDl.out _ H.low k (by omega)
        have h2 := HDm.out _ H.low k (by omega)
        have ha := DL.out.at R16_pos k; have hb := DM.out.at R16_pos k
        rw [pad_get] at ha hb
        obtain ⟨x, hx⟩ : ∃ x, x = L[k]?.getD 0 := ⟨_, rfl⟩
        obtain ⟨y, hy⟩ : ∃ y, y = M[k]?.getD 0 := ⟨_, rfl⟩
        rw [← hx] at h1 ha; rw [← hy] at h2 hb
        have HX := hid (show x = (pad L N)[k]?.getD 0 by rw [pad_get]; exact hx)
        have HY := hid (show y = (pad M N)[k]?.getD 0 by rw [pad_get]; exact hy)
        have c0 := H.c0; have c1 := H.c1
        have x0 := ha.1; have x1 : x < 65536 := ha.2; have y0 := hb.1; have y1 : y < 65536 := hb.2
        have H1 := hid h1; have H2 := hid h2; have HH := hid H
        clear h1 h2 ha hb hx hy H HI0
        go_wp2_with fail
        refine H1.out.mono ?_
        rintro e w1 ⟨rfl, rfl⟩
        go_wp2_with fail
        refine H2.out.mono ?_
        rintro e w2 ⟨rfl, rfl⟩
        go_wp2_with (at_builtin; refine wpList_append_own _ rfl _ _ 26 rfl w.heap.size 3 i0 (.int .i64 0) 1 8 Try.underlying26 hi hz0 hz1 hz2 rfl (by decide) _ k (Q.map (Value.int .i64)) rfl (HH.out.own.alloc _) ⟨w2.heap.size, 0, none⟩ 1 1 [.int .i64 ((x + y + c) % 65536)] rfl rfl ?c1 ?c2 ?c3 ?c4 ?c5 ?_)
        case c1 =>
          intro j u hj
          match j, hj with
          | 0, hj => simp at hj; subst hj; simp [Addr.add]
        case c2 => intro u hu; simp at hu; subst hu; rfl
        case c3 => unfold maxLen; omega
        case c4 => omega
        case c5 => have := HH.out.low.size; simp; omega
        intro ov' w3 hown hg _
        have hlow := (HH.out.low.alloc HH.out.low.size (.cells #[.int .i64 ((x + y + c) % 65536)] 3)).grown hg (by have := HH.out.low.size; simp; omega) (fun i e => owns_block HH.out.own i e)
        have HI := hid (HH.out.next x y HX.out HY.out DL.out DM.out (by have := HP.out; omega) (by have := HQ.out; omega) hown hlow)
        clear hown hg hlow
        go_wp2
        go_roundw
        case rel => exact ⟨k + 1, _, _, by omega, by go_num, rfl, HI.out⟩
        case measure => simp [intOf]; omega
      · obtain rfl : k = N := by omega
        have HH := hid H
        have c0 := H.c0; have c1 := H.c1
        clear H HI0
        go_wp2_with (at_builtin; refine wpList_append_own _ rfl _ _ 26 rfl w.heap.size 3 i0 (.int .i64 0) 1 8 Try.underlying26 hi hz0 hz1 hz2 rfl (by decide) _ k (Q.map (Value.int .i64)) rfl (HH.out.own.alloc _) ⟨wr.heap.size, 0, none⟩ 1 1 [.int .i64 c] rfl rfl ?c1 ?c2 ?c3 ?c4 ?c5 ?_)
        case c1 =>
          intro j u hj
          match j, hj with
          | 0, hj => simp at hj; subst hj; simp [Addr.add]
        case c2 => intro u hu; simp at hu; subst hu; rfl
        case c3 => unfold maxLen; omega
        case c4 => omega
        case c5 => have := HH.out.low.size; simp; omega
        intro ov' w3 hown hg _
        have hlow := (HH.out.low.alloc HH.out.low.size (.cells #[.int .i64 c] 3)).grown hg (by have := HH.out.low.size; simp; omega) (fun i e => owns_block HH.out.own i e)
        have hkk : max n m = k := hN.symm
        have hown' : w3.ownsRow w.heap.size 3 1 ov' (k + 1) (Q.map (Value.int .i64) ++ [.int .i64 c]) := by
          first
            | exact hown
            | (rw [hkk] at hown; exact hown)
            | (rw [show n = k by omega] at hown; exact hown)
        have hr : RetO w (val R16 L + val R16 M) (k + 1) (.returned ov') w3 := by
          refine ⟨ov', Q ++ [c], rfl, by rw [List.map_append]; exact hown', by simp [HH.out.len], HH.out.dig.append (Dig.cons c0 (by unfold R16; omega) (Dig.nil _)), ?_, hlow⟩
          have e := HH.out.eq
          rw [List.take_of_length_le (by rw [HP.out]; exact Nat.le_refl _), List.take_of_length_le (by rw [HQ.out]; exact Nat.le_refl _), pad_val, pad_val] at e
          rw [val_snoc, HH.out.len]; exact e
        have HR := hid hr
        clear hown hown' hkk hg hlow hr
        go_wp2
        go_ret
        exact HR.out

end Go.Proofs.Ytbmdjimfncgomaa
