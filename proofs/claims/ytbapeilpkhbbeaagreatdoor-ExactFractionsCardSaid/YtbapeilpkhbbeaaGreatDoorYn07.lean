/- exact.compare. Naturals that lie in rows of their own. exact.shiftRight. exact.divide. -/
import Derived.Test.YtbapeilpkhbbeaaGreatDoorYn03
import Derived.Test.YtbapeilpkhbbeaaGreatDoorYn06
/- exact.compare. -/
namespace Go.Proofs.YtbapeilpkhbbeaaGreatDoor
open Go.RowKit

theorem val_take_drop (B : Int) (l : List Int) (k : Nat) (hk : k ≤ l.length) : val B l = val B (l.take k) + B ^ k * val B (l.drop k) := by
  have h := val_append B (l.take k) (l.drop k)
  rw [List.take_append_drop, List.length_take, Nat.min_eq_left hk] at h
  exact h

/-- The highest digit that differs decides. -/
theorem cmp_top {B : Int} (hB : 0 < B) {l m : List Int} {k : Nat} (hl : Dig B l) (hm : Dig B m) (hkl : k < l.length) (hkm : k < m.length) (he : l.drop (k + 1) = m.drop (k + 1)) (hne : l[k]?.getD 0 ≠ m[k]?.getD 0) :
    cmpI (val B l) (val B m) = cmpI (l[k]?.getD 0) (m[k]?.getD 0) := by
  rw [val_take_drop B l (k + 1) hkl, val_take_drop B m (k + 1) hkm, he, take_succ_getD l k hkl, take_succ_getD m k hkm, val_snoc, val_snoc, List.length_take, List.length_take, Nat.min_eq_left (Nat.le_of_lt hkl), Nat.min_eq_left (Nat.le_of_lt hkm)]
  have h1 := val_lt hB (hl.take k); have h2 := val_lt hB (hm.take k)
  have h3 := val_nonneg hB (hl.take k); have h4 := val_nonneg hB (hm.take k)
  rw [List.length_take, Nat.min_eq_left (Nat.le_of_lt hkl)] at h1
  rw [List.length_take, Nat.min_eq_left (Nat.le_of_lt hkm)] at h2
  have hp : 0 < B ^ k := Int.pow_pos hB
  generalize l[k]?.getD 0 = x at *
  generalize m[k]?.getD 0 = y at *
  generalize B ^ k = p at *
  rcases Int.lt_trichotomy x y with h | h | h
  · have := Int.mul_le_mul_of_nonneg_left (show x + 1 ≤ y by omega) (Int.le_of_lt hp)
    rw [Int.mul_add] at this
    rw [cmpI_lt h, cmpI_lt (by omega)]
  · exact absurd h hne
  · have := Int.mul_le_mul_of_nonneg_left (show y + 1 ≤ x by omega) (Int.le_of_lt hp)
    rw [Int.mul_add] at this
    rw [cmpI_gt h, cmpI_gt (by omega)]

theorem cmp_len {B : Int} (hB : 0 < B) {l m : List Int} (hl : Dig B l) (hm : Dig B m) (nl : Nrm l) (nm : Nrm m) (hne : l.length ≠ m.length) : cmpI (val B l) (val B m) = cmpI l.length m.length := by
  rcases Nat.lt_or_gt_of_ne hne with h | h
  · have h1 := val_lt hB hl
    have h2 := Nrm.low hB hm nm (by omega)
    have h3 := pow_mono hB (show l.length ≤ m.length - 1 by omega)
    rw [cmpI_lt (by omega), cmpI_lt (by omega)]
  · have h1 := val_lt hB hm
    have h2 := Nrm.low hB hl nl (by omega)
    have h3 := pow_mono hB (show m.length ≤ l.length - 1 by omega)
    rw [cmpI_gt (by omega), cmpI_gt (by omega)]

theorem drop_step (l m : List Int) (k : Nat) (hl : k < l.length) (hm : k < m.length) (he : l.drop (k + 1) = m.drop (k + 1)) (h : l[k]?.getD 0 = m[k]?.getD 0) : l.drop k = m.drop k := by
  rw [List.drop_eq_getElem_cons hl, List.drop_eq_getElem_cons hm, he]
  have e1 : l[k]?.getD 0 = l[k] := by simp [hl]
  have e2 : m[k]?.getD 0 = m[k] := by simp [hm]
  rw [← e1, ← e2, h]

set_option maxRecDepth 100000 in
set_option maxHeartbeats 1000000 in
theorem compare_any (va vb : Value) (a b : Int) (Ka Kb : Nat) (w : World) (hA : Nt w va a Ka) (hB : Nt w vb b Kb) :
    Calls Tryz.prog 99 #[va, vb] w fun e w' => ∃ nq, e = .returned (.int .i64 (cmpI a b)) ∧ w' = w.drewN nq := by
  obtain ⟨ao, ca, LA, rfl, hA⟩ := hA
  obtain ⟨bo, cb, LB, rfl, hB⟩ := hB
  obtain ⟨n, hn⟩ : ∃ n, n = LA.length := ⟨_, rfl⟩
  obtain ⟨m, hm⟩ : ∃ m, m = LB.length := ⟨_, rfl⟩
  have hn63 : n ≤ 9223372036854775807 := by have := hA.rd.cap; have := hA.rd.most; omega
  have hm63 : m ≤ 9223372036854775807 := by have := hB.rd.cap; have := hB.rd.most; omega
  have hcmp : n ≠ m → cmpI a b = cmpI n m := fun h => by rw [← hA.eq, ← hB.eq, hn, hm]; exact cmp_len B64_pos hA.dig hB.dig hA.nrm hB.nrm (by omega)
  rw [← hn, ← hm]
  have HA := hid hA; have HB := hid hB; have Hn := hid hn; have Hm := hid hm; have Hcmp := hid hcmp
  clear hA hB hn hm hcmp
  by_cases hne : n = m
  · subst hne
    go_enter Tryz.func99, Tryz.ntmps99
    go_wp2
    go_loopw [5] (fun iv wr => ∃ k : Nat, ∃ nq, k ≤ n ∧ iv = .int .i64 ((k : Int) - 1) ∧ Hid (LA.drop k = LB.drop k) ∧ Hid (wr = w.drewN nq)) (fun iv _ => (intOf iv + 1).toNat)
    case atStart => exact ⟨n, 0, Nat.le_refl _, rfl, hid (by rw [List.drop_of_length_le (by have := Hn.out; omega), List.drop_of_length_le (by have := Hm.out; omega)]), hid rfl⟩
    case round =>
      obtain ⟨k, nq, hk, rfl, HD, HW⟩ := hrel
      cases k with
      | zero =>
        have hab : a = b := by
          have h := HD.out
          simp only [List.drop_zero] at h
          rw [← HA.out.eq, ← HB.out.eq, h]
        have he : cmpI a b = 0 := by rw [hab]; exact cmpI_self b
        have HE := hid he; clear he hab
        go_wp2
        go_ret
        exact ⟨nq, by rw [HE.out]; rfl, HW.out⟩
      | succ k =>
        have hkn : k < n := by omega
        obtain ⟨b1, o1, rfl⟩ := HA.out.rd.adr (by have := Hn.out; omega)
        obtain ⟨b2, o2, rfl⟩ := HB.out.rd.adr (by have := Hm.out; omega)
        have h1 : wr.cell? ⟨b1, o1 + k, none⟩ = some (.int .u64 (LA[k]?.getD 0)) := by rw [HW.out, cell_drewN]; exact HA.out.rd.cell b1 o1 rfl k (by have := Hn.out; omega)
        have h2 : wr.cell? ⟨b2, o2 + k, none⟩ = some (.int .u64 (LB[k]?.getD 0)) := by rw [HW.out, cell_drewN]; exact HB.out.rd.cell b2 o2 rfl k (by have := Hm.out; omega)
        have d1 := HA.out.dig.at B64_pos k
        have d2 := HB.out.dig.at B64_pos k
        obtain ⟨x, hx⟩ : ∃ x, x = LA[k]?.getD 0 := ⟨_, rfl⟩
        obtain ⟨y, hy⟩ : ∃ y, y = LB[k]?.getD 0 := ⟨_, rfl⟩
        rw [← hx] at h1 d1; rw [← hy] at h2 d2
        have hk0 : (0 : Int) ≤ (k : Int) := by omega
        have hk1 : (k : Int) < (n : Int) := by omega
        by_cases hxy : x = y
        · have hd := drop_step LA LB k (by have := Hn.out; omega) (by have := Hm.out; omega) HD.out (by rw [← hx, ← hy, hxy])
          have HD' := hid hd
          subst hxy
          clear hd hx hy HD
          go_wp2
          go_quiet (fail)
          go_wp2
          go_roundw
          case rel => exact ⟨k, _, by omega, by go_num, HD', hid (by rw [HW.out, World.drewN_drewN])⟩
          case measure => simp [intOf]
        · have hc := cmp_top B64_pos HA.out.dig HB.out.dig (show k < LA.length by have := Hn.out; omega) (show k < LB.length by have := Hm.out; omega) HD.out (by rw [← hx, ← hy]; exact hxy)
          rw [HA.out.eq, HB.out.eq, ← hx, ← hy] at hc
          have HC := hid hc
          clear hc hx hy HD
          have hb : ((x : Int) != y) = true := by rw [bne_iff_ne]; exact hxy
          go_wp2
          go_quiet (fail)
          go_wp2
          go_quiet ((go_at_call 130; exact quietMore (cmpU64' _ _ _)))
          go_wp2
          go_ret
          exact ⟨_, by rw [HC.out]; rfl, by rw [HW.out, World.drewN_drewN, World.drewN_drewN]⟩
  · have HC := hid (Hcmp.out hne)
    have hb : ((n : Int) != (m : Int)) = true := by rw [bne_iff_ne]; omega
    go_enter Tryz.func99, Tryz.ntmps99
    go_wp2_with (go_at_call 129; refine (cmpInt _ _ _).mono ?_; rintro e w' ⟨rfl, rfl⟩)
    go_ret
    exact ⟨0, by rw [HC.out]; rfl, rfl⟩

end Go.Proofs.YtbapeilpkhbbeaaGreatDoor

/- Naturals that lie in rows of their own. -/
namespace Go.Proofs.YtbapeilpkhbbeaaGreatDoor
open Go.RowKit

/-- A number in a row of its own: the limbs L, behind them S. -/
structure OwnL (w : World) (B g c : Nat) (L S : List Int) (n : Int) : Prop where
  row : Row .u64 63 w g (L ++ S)
  dig : Dig B64 L
  nrm : Nrm L
  eq : val B64 L = n
  cap : L.length ≤ c
  most : c ≤ 9223372036854775807
  base : B ≤ g

theorem own_trim {w : World} {B g c : Nat} {L S : List Int} {n : Int} (h : Row .u64 63 w g (L ++ S)) (hd : Dig B64 L) (hv : val B64 L = n) (hc : L.length ≤ c) (hm : c ≤ 9223372036854775807) (hb : B ≤ g) :
    OwnL w B g c (trimL L) (L.drop (trimL L).length ++ S) n := by
  refine ⟨?_, hd.trim, Nrm.trim L, by rw [val_trim]; exact hv, Nat.le_trans (trimL_len L) hc, hm, hb⟩
  have e : trimL L ++ (L.drop (trimL L).length ++ S) = L ++ S := by
    rw [← List.append_assoc]
    have h2 := List.take_append_drop (trimL L).length L
    rw [← trimL_take L] at h2
    rw [h2]
  rw [e]; exact h
theorem OwnL.rd {w : World} {B g c : Nat} {L S : List Int} {n : Int} (h : OwnL w B g c L S n) : Rd w .u64 (some ⟨g, 0, none⟩) c L := by
  have h' : Row .u64 63 w g ([] ++ L ++ S) := by simpa using h.row
  exact h'.rd h.cap h.most
theorem OwnL.ntl {w : World} {B g c : Nat} {L S : List Int} {n : Int} (h : OwnL w B g c L S n) : NtL w (some ⟨g, 0, none⟩) c L n L.length := ⟨h.rd, h.dig, h.nrm, h.eq, Nat.le_refl _⟩
theorem OwnL.nt {w : World} {B g c : Nat} {L S : List Int} {n : Int} (h : OwnL w B g c L S n) {K : Nat} (hK : L.length ≤ K) : Nt w (.slice (some ⟨g, 0, none⟩) L.length c) n K := ⟨_, c, L, rfl, h.rd, h.dig, h.nrm, h.eq, hK⟩
theorem OwnL.below {w w' : World} {B B' g c : Nat} {L S : List Int} {n : Int} (h : OwnL w B g c L S n) (hb : Below B' w w') (hB : w.heap.size ≤ B') : OwnL w' B g c L S n :=
  ⟨h.row.kept (below_grown (hb.mono hB)) (by simp), h.dig, h.nrm, h.eq, h.cap, h.most, h.base⟩

/-- Such a number, or nothing: 0. -/
def OwnV (w : World) (B : Nat) (v : Value) (n : Int) (K : Nat) : Prop := (∃ g c L S, v = .slice (some ⟨g, 0, none⟩) L.length c ∧ OwnL w B g c L S n ∧ L.length ≤ K) ∨ (v = .slice none 0 0 ∧ n = 0)
theorem OwnV.nt {w : World} {B : Nat} {v : Value} {n : Int} {K : Nat} (h : OwnV w B v n K) : Nt w v n K := by
  rcases h with ⟨g, c, L, S, rfl, h, hK⟩ | ⟨rfl, rfl⟩
  · exact h.nt hK
  · exact (Nt.nil w).mono (Nat.zero_le _)
theorem OwnL.base_le {w : World} {B B' g c : Nat} {L S : List Int} {n : Int} (h : OwnL w B g c L S n) (hb : B' ≤ B) : OwnL w B' g c L S n := ⟨h.row, h.dig, h.nrm, h.eq, h.cap, h.most, Nat.le_trans hb h.base⟩
theorem OwnV.base_le {w : World} {B B' : Nat} {v : Value} {n : Int} {K : Nat} (h : OwnV w B v n K) (hb : B' ≤ B) : OwnV w B' v n K := by
  rcases h with ⟨g, c, L, S, e, h, hK⟩ | h
  · exact .inl ⟨g, c, L, S, e, h.base_le hb, hK⟩
  · exact .inr h
theorem OwnV.below {w w' : World} {B B' : Nat} {v : Value} {n : Int} {K : Nat} (h : OwnV w B v n K) (hb : Below B' w w') (hB : w.heap.size ≤ B') : OwnV w' B v n K := by
  rcases h with ⟨g, c, L, S, e, h, hK⟩ | h
  · exact .inl ⟨g, c, L, S, e, h.below hb hB, hK⟩
  · exact .inr h
/-- The call hands back such a number in new memory. -/
def RetOwn (w : World) (n : Int) (K : Nat) (e : Ending) (w' : World) : Prop := ∃ v, e = .returned v ∧ OwnV w' w.heap.size v n K ∧ Below w.heap.size w w'
theorem own_row {w : World} {B g c : Nat} {L : List Int} {n : Int} {K : Nat} (h : Row .u64 63 w g L) (hd : Dig B64 L) (hv : val B64 L = n) (hc : L.length ≤ c) (hm : c ≤ 9223372036854775807) (hK : L.length ≤ K) (hb : B ≤ g) : OwnV w B (.slice (some ⟨g, 0, none⟩) (trimL L).length c) n K :=
  .inl ⟨g, c, _, _, rfl, own_trim (S := []) (by simpa using h) hd hv hc hm hb, Nat.le_trans (trimL_len L) hK⟩

end Go.Proofs.YtbapeilpkhbbeaaGreatDoor

/- exact.shiftRight. -/
namespace Go.Proofs.YtbapeilpkhbbeaaGreatDoor
open Go.RowKit

/-- A limb, shifted down, with what comes from the next one. -/
theorem shr_step {x y : Int} {s : Nat} (hs : s ≤ 63) (x0 : 0 ≤ x) (x1 : x < B64) :
    let lo := bits .or .u64 (x / 2 ^ s) (IntKind.u64.wrap (y * 2 ^ (64 - s)))
    0 ≤ lo ∧ lo < B64 ∧ lo * 2 ^ s + x % 2 ^ s = x + B64 * (y % 2 ^ s) := by
  obtain ⟨p1, p2, p3⟩ := pow_split hs
  have hw : IntKind.u64.wrap (y * 2 ^ (64 - s)) = (y % 2 ^ s) * 2 ^ (64 - s) := by
    rw [IntKind.wrap_u64, show (18446744073709551616 : Int) = 2 ^ (64 - s) * 2 ^ s from p3.symm, Int.mul_comm y, Int.mul_emod_mul_of_pos _ _ p2, Int.mul_comm]
  have m0 := Int.emod_nonneg y (show (2 : Int) ^ s ≠ 0 by omega)
  have m1 := Int.emod_lt_of_pos y p1
  have xe := Int.emod_add_mul_ediv x (2 ^ s)
  have q0 : 0 ≤ x / 2 ^ s := Int.ediv_nonneg x0 (Int.le_of_lt p1)
  have q1 : x / 2 ^ s < 2 ^ (64 - s) := Int.ediv_lt_of_lt_mul p1 (by rw [p3]; exact x1)
  have hm : (y % 2 ^ s + 1) * 2 ^ (64 - s) ≤ B64 := by rw [← p3, Int.mul_comm (2 ^ (64 - s))]; exact Int.mul_le_mul_of_nonneg_right (by omega) (Int.le_of_lt p2)
  rw [Int.add_mul] at hm
  have mp := Int.mul_nonneg m0 (Int.le_of_lt p2)
  have hq : x / 2 ^ s < 18446744073709551616 := by have := Int.ediv_le_self (2 ^ s) x0; unfold B64 at x1; omega
  have ho := or_low (y % 2 ^ s) (x / 2 ^ s) (64 - s) m0 (by unfold B64 at hm; omega) q0 q1 hq
  simp only [hw, ho]
  refine ⟨by omega, by omega, ?_⟩
  rw [← p3, Int.add_mul]
  have e1 : x / 2 ^ s * 2 ^ s = 2 ^ s * (x / 2 ^ s) := Int.mul_comm _ _
  have e2 : y % 2 ^ s * 2 ^ (64 - s) * 2 ^ s = 2 ^ (64 - s) * 2 ^ s * (y % 2 ^ s) := by rw [Int.mul_assoc, Int.mul_comm]
  omega

structure ShrI (w wr : World) (g : Nat) (D : List Int) (pt k : Nat) (Q : List Int) : Prop where
  row : Row .u64 63 wr g (Q ++ D.drop k)
  gr : w.grownBy wr (some g)
  len : Q.length = k
  dig : Dig B64 Q
  eq : val B64 Q * 2 ^ pt + D[0]?.getD 0 % 2 ^ pt = val B64 (D.take k) + B64 ^ k * (D[k]?.getD 0 % 2 ^ pt)

theorem drop_cons (D : List Int) (k : Nat) (hk : k < D.length) : D.drop k = D[k]?.getD 0 :: D.drop (k + 1) := by
  rw [List.drop_eq_getElem_cons hk]; simp [hk]

theorem ShrI.cell {w wr : World} {g : Nat} {D Q : List Int} {pt k : Nat} (H : ShrI w wr g D pt k Q) {i : Nat} (hi : k ≤ i) (hk : i < D.length) : wr.cell? ⟨g, i, none⟩ = some (.int .u64 (D[i]?.getD 0)) := by
  have hl := H.len
  rw [H.row.cell i (by simp; omega), List.getElem?_append_right (by omega), List.getElem?_drop, hl, show k + (i - k) = i by omega]

theorem ShrI.next {w wr wx : World} {g : Nat} {D Q : List Int} {pt k : Nat} {lo : Int} (H : ShrI w wr g D pt k Q) (hk : k < D.length) (h0 : 0 ≤ lo) (h1 : lo < B64) (he : lo * 2 ^ pt + D[k]?.getD 0 % 2 ^ pt = D[k]?.getD 0 + B64 * (D[k + 1]?.getD 0 % 2 ^ pt))
    (hr : Row .u64 63 wx g (Q ++ (lo :: D.drop (k + 1)))) (hg : w.grownBy wx (some g)) : ShrI w wx g D pt (k + 1) (Q ++ [lo]) := by
  refine ⟨by simpa using hr, hg, by simp [H.len], H.dig.append (Dig.cons h0 h1 (Dig.nil _)), ?_⟩
  rw [val_snoc, H.len, val_take_succ B64 D k hk, Int.pow_succ]
  have e := H.eq
  grind

theorem ShrI.row1 {w wr : World} {g : Nat} {D Q : List Int} {pt k : Nat} (H : ShrI w wr g D pt k Q) (hk : k < D.length) (y : Int) : Row .u64 63 (wr.setCell ⟨g, k, none⟩ (.int .u64 y)) g (Q ++ (y :: D.drop (k + 1))) := by
  have h1 := H.row.set k y
  rw [drop_cons D k hk, List.set_append_right _ _ (by rw [H.len]; exact Nat.le_refl _), H.len, Nat.sub_self, List.set_cons_zero] at h1
  exact h1
theorem row2 {wr : World} {g : Nat} {S Q : List Int} {k : Nat} {y z : Int} (h : Row .u64 63 wr g (Q ++ (y :: S))) (hl : Q.length = k) : Row .u64 63 (wr.setCell ⟨g, k, none⟩ (.int .u64 z)) g (Q ++ (z :: S)) := by
  have h1 := h.set k z
  rw [List.set_append_right _ _ (by omega), hl, Nat.sub_self, List.set_cons_zero] at h1
  exact h1

set_option maxRecDepth 100000 in
set_option maxHeartbeats 4000000 in
theorem shiftRight_own (va : Value) (a : Int) (s K : Nat) (w : World) (hA : Nt w va a K) (hK : K ≤ 1073741824) (hs : s ≤ 1073741824) :
    Calls Tryz.prog 147 #[va, .int .i64 (s : Int)] w (RetOwn w (a / 2 ^ s) K) := by
  obtain ⟨ao, ca, LA, rfl, hA⟩ := hA
  obtain ⟨n, hn⟩ : ∃ n, n = LA.length := ⟨_, rfl⟩
  have hn30 : n ≤ 1073741824 := by have := hA.le; omega
  obtain ⟨wh, hwh⟩ : ∃ wh, wh = s / 64 := ⟨_, rfl⟩
  obtain ⟨pt, hpt⟩ : ∃ pt, pt = s % 64 := ⟨_, rfl⟩
  have e1 : (s : Int) / 64 = (wh : Int) := by omega
  have e2 : (s : Int) % 64 = (pt : Int) := by omega
  have hp63 : pt ≤ 63 := by omega
  have hw30 : wh ≤ 1073741824 := by omega
  rw [← hn]
  have hpow : (2 : Int) ^ s = B64 ^ wh * 2 ^ pt := by
    have : s = 64 * wh + pt := by omega
    rw [this, Int.pow_add, Int.pow_mul]; rfl
  have hdiv : a / 2 ^ s = a / B64 ^ wh / 2 ^ pt := by rw [hpow]; exact (Int.ediv_ediv_of_nonneg (Int.le_of_lt (Int.pow_pos B64_pos))).symm
  have HA := hid hA; have Hn := hid hn; have HD := hid hdiv
  clear hA hn hwh hpt hpow hdiv
  by_cases hle : n ≤ wh
  · have h0 : a / 2 ^ s = 0 := by
      rw [HD.out, Int.ediv_eq_zero_of_lt (a := a) (b := B64 ^ wh)]
      · simp
      · exact HA.out.nonneg
      · have h1 := val_lt B64_pos HA.out.dig
        rw [HA.out.eq, ← Hn.out] at h1
        exact Int.lt_of_lt_of_le h1 (pow_mono B64_pos hle)
    rw [h0]
    clear h0
    go_enter Tryz.func147, Tryz.ntmps147
    go_wp2
    go_ret
    exact ⟨_, rfl, .inr ⟨rfl, rfl⟩, Below.refl _ _⟩
  · have hD : val B64 (LA.drop wh) = a / B64 ^ wh := by
      have h := val_take_drop B64 LA wh (by have := Hn.out; omega)
      rw [HA.out.eq] at h
      have hl := val_lt B64_pos (HA.out.dig.take wh)
      rw [List.length_take, Nat.min_eq_left (by have := Hn.out; omega)] at hl
      have h0 := val_nonneg B64_pos (HA.out.dig.take wh)
      exact (((Int.ediv_emod_unique (Int.pow_pos B64_pos)).2 ⟨h.symm, h0, hl⟩).1).symm
    obtain ⟨m, hm⟩ : ∃ m, n = wh + m := ⟨n - wh, by omega⟩
    have hm0 : 0 < m := by omega
    have hlD : (LA.drop wh).length = m := by rw [List.length_drop, ← Hn.out]; omega
    obtain ⟨b, o, rfl⟩ := HA.out.rd.adr (by have := Hn.out; omega)
    have hcap := HA.out.rd.cap
    rw [← Hn.out] at hcap
    have hRD : Rd w .u64 (some ⟨b, o + wh, none⟩) (ca - wh) (LA.drop wh) := by
      refine ⟨by rw [hlD]; omega, by have := HA.out.rd.most; omega, fun _ => ⟨_, _, rfl⟩, fun b' o' e i hi => ?_⟩
      cases e
      rw [Nat.add_assoc, HA.out.rd.cell b o rfl (wh + i) (by rw [hlD] at hi; have := Hn.out; omega), List.getElem?_drop]
    obtain ⟨D, hDD⟩ : ∃ D, D = LA.drop wh := ⟨_, rfl⟩
    rw [← hDD] at hD hlD hRD
    have hdg : Dig B64 D := by rw [hDD]; exact HA.out.dig.drop wh
    have HlD := hid hlD; have HRD := hid hRD; have HVD := hid hD; have Hdg := hid hdg
    clear hlD hRD hD hDD hdg
    obtain ⟨i0, hi, hz0, hz1, hz2⟩ := info_parts Tryz.info63
    subst hm
    have hmn : (wh : Int) < ((wh + m : Nat) : Int) := by omega
    go_enter Tryz.func147, Tryz.ntmps147
    go_wp2_with (at_make; refine wpList_make_row w rfl _ _ 54 rfl 63 i0 .u64 Tryz.underlying54 hi hz0 hz1 .i64 .i64 _ _ m rfl rfl (by omega) (by omega) (by rw [hz2]; omega) (by unfold maxLen; omega) ?_)
    intro w1 hrow hg1
    have hb1 := grown_below hg1
    have HR1 := hid (HRD.out.below hb1 (Nat.le_refl _))
    go_wp2_with ((with_reducible refine wpList_copy_row rfl _ _ _ _ rfl 63 Tryz.underlying54 Tryz.size63 .u64 63 w.heap.size [] (List.replicate m 0) [] D 0 m m m (some ⟨b, o + wh, none⟩) (ca - wh) rfl rfl rfl (by simp) HlD.out.symm (by simpa using hrow) HR1.out (by have := HlD.out; simp; omega) ?_))
    intro w2 hrow2 hg2
    have H0 : ShrI w w2 w.heap.size D pt 0 [] := by
      refine ⟨?_, grown_trans (grown_any hg1) hg2, rfl, Dig.nil _, by simp [val]⟩
      have e : m - D.length = 0 := by have := HlD.out; omega
      rw [e] at hrow2; simpa using hrow2
    have hb2 := hb1.grown hg2 hb1.size (fun i e => by cases e; exact Nat.le_refl _)
    clear hrow hg1 hrow2 hg2 hb1
    go_wp2
    go_loopw [29] (fun iv wr => ∃ k : Nat, ∃ Q, k ≤ m ∧ iv = .int .i64 k ∧ ShrI w wr w.heap.size D pt k Q ∧ Below w.heap.size w wr) (fun iv _ => m - (intOf iv).toNat)
    case atStart => exact ⟨0, [], Nat.zero_le _, rfl, H0, hb2⟩
    case round =>
      obtain ⟨k, Q, hk, rfl, H, hb⟩ := hrel
      by_cases hlt : k < m
      · have hkD : k < D.length := by have := HlD.out; omega
        have c0 := H.cell (Nat.le_refl k) hkD
        have hd := Hdg.out.at B64_pos k
        have f0 := H.row.frozen k
        by_cases hlast : k + 1 < m
        · have c1 := H.cell (Nat.le_succ k) (show k + 1 < D.length by have := HlD.out; omega)
          have hd1 := Hdg.out.at B64_pos (k + 1)
          obtain ⟨l0, l1, l2⟩ := shr_step (y := D[k + 1]?.getD 0) hp63 hd.1 hd.2
          obtain ⟨x, hx⟩ : ∃ x, x = D[k]?.getD 0 := ⟨_, rfl⟩
          obtain ⟨y, hy⟩ : ∃ y, y = D[k + 1]?.getD 0 := ⟨_, rfl⟩
          have HS := hid (fun wx => H.next (wx := wx) hkD l0 l1 l2)
          have HR := hid (H.row1 hkD (x / 2 ^ pt))
          have hg := H.gr
          have HL := hid H.len
          rw [← hx] at c0 hd HS; rw [← hy] at c1 HS
          have hx0 := hd.1
          have HG := hid hg
          clear H H0 hb2 hd hd1 l0 l1 l2 hx hy hg hkD
          go_wp2
          go_region
          all_goals go_wp2
          go_roundw
          case rel => exact ⟨k + 1, _, by omega, by go_num, HS.out _ (row2 HR.out HL.out) (grown_drew (grown_trans (grown_trans HG.out (grown_set _ _ _ _)) (grown_set _ _ _ _))), (((hb.setCell (Nat.le_refl _) _).setCell (Nat.le_refl _) _).drew)⟩
          case measure => simp [intOf]; omega
        · have hy0 : D[k + 1]?.getD 0 = 0 := by
            have : D.length ≤ k + 1 := by have := HlD.out; omega
            simp [this]
          obtain ⟨p1, p2, p3⟩ := pow_split hp63
          have q0 : 0 ≤ D[k]?.getD 0 / 2 ^ pt := Int.ediv_nonneg hd.1 (Int.le_of_lt p1)
          have q1 : D[k]?.getD 0 / 2 ^ pt < B64 := Int.lt_of_le_of_lt (Int.ediv_le_self _ hd.1) hd.2
          have qe := Int.emod_add_mul_ediv (D[k]?.getD 0) (2 ^ pt)
          have qe2 := Int.mul_comm (2 ^ pt) (D[k]?.getD 0 / 2 ^ pt)
          have HS := hid (fun wx => H.next (wx := wx) hkD q0 q1 (by rw [hy0]; simp; omega))
          have HR := hid (H.row1 hkD (D[k]?.getD 0 / 2 ^ pt))
          obtain ⟨x, hx⟩ : ∃ x, x = D[k]?.getD 0 := ⟨_, rfl⟩
          rw [← hx] at c0 hd HS HR
          have hx0 := hd.1
          have HG := hid H.gr
          clear H H0 hb2 hd hx hkD hy0 p1 p2 p3 q0 q1 qe qe2
          go_wp2
          go_roundw
          case rel => exact ⟨k + 1, _, by omega, by go_num, HS.out _ HR.out (grown_trans HG.out (grown_set _ _ _ _)), hb.setCell (Nat.le_refl _) _⟩
          case measure => simp [intOf]; omega
      · obtain rfl : k = m := by omega
        have hr : Row .u64 63 wr w.heap.size Q := by have := H.row; rw [List.drop_of_length_le (by have := HlD.out; omega)] at this; simpa using this
        have he := H.eq
        have hDk : D[k]?.getD 0 = 0 := by
          have : D.length ≤ k := by have := HlD.out; omega
          simp [this]
        rw [List.take_of_length_le (by have := HlD.out; omega), hDk, HVD.out] at he
        have p1 := (pow_split hp63).1
        have hv : val B64 Q = a / 2 ^ s := by
          rw [HD.out]
          have m0 := Int.emod_nonneg (D[0]?.getD 0) (show (2 : Int) ^ pt ≠ 0 by omega)
          have m1 := Int.emod_lt_of_pos (D[0]?.getD 0) p1
          exact (((Int.ediv_emod_unique p1).2 ⟨by rw [Int.mul_comm (2 ^ pt) (val B64 Q)]; simp at he; omega, m0, m1⟩).1).symm
        have ht := trim64_any (some ⟨w.heap.size, 0, none⟩) k Q wr (row_rd hr (by have := H.len; omega) (by omega))
        rw [H.len] at ht
        have hres := own_row (B := w.heap.size) (c := k) (K := K) hr H.dig hv (by have := H.len; omega) (by omega) (by have := H.len; have := HA.out.le; have := Hn.out; omega) (Nat.le_refl _)
        have HT := hid ht; have Hres := hid hres
        clear ht hres hr hv he hDk p1 H H0 hb2
        go_wp2_with (go_at_call 96; refine HT.out.mono ?_; rintro e w2 ⟨rfl, rfl⟩)
        go_ret
        exact ⟨_, rfl, Hres.out, hb⟩

end Go.Proofs.YtbapeilpkhbbeaaGreatDoor

/- exact.divide. -/
namespace Go.Proofs.YtbapeilpkhbbeaaGreatDoor
open Go.RowKit

theorem pow_lt_inv {B : Int} (hB : 1 < B) {m n : Nat} (h : B ^ m < B ^ n) : m < n := by
  rcases Nat.lt_or_ge m n with k | k
  · exact k
  · have := pow_mono (show 0 < B by omega) k; omega
theorem B64_one : 1 < B64 := by decide

theorem Nt.tight {w : World} {v : Value} {n : Int} {K K' : Nat} (h : Nt w v n K) (hn : n < B64 ^ K') : Nt w v n K' := by
  obtain ⟨ao, c, L, rfl, h⟩ := h
  refine ⟨ao, c, L, rfl, h.rd, h.dig, h.nrm, h.eq, ?_⟩
  rcases Nat.eq_zero_or_pos L.length with k | k
  · omega
  · have := h.nrm.low B64_pos h.dig k
    rw [h.eq] at this
    have := pow_lt_inv B64_one (Int.lt_of_le_of_lt this hn)
    omega
theorem Nt.lt {w : World} {v : Value} {n : Int} {K : Nat} (h : Nt w v n K) : n < B64 ^ K := by
  obtain ⟨ao, c, L, rfl, h⟩ := h
  rw [← h.eq]
  exact Int.lt_of_lt_of_le (val_lt B64_pos h.dig) (pow_mono B64_pos h.le)

/-- A number's limbs are as many as its size asks. -/
theorem len_of {L : List Int} {k : Nat} (hd : Dig B64 L) (hn : Nrm L) (h0 : B64 ^ k ≤ val B64 L) (h1 : val B64 L < B64 ^ (k + 1)) : L.length = k + 1 := by
  have a := pow_lt_inv B64_one (Int.lt_of_le_of_lt h0 (val_lt B64_pos hd))
  have b := pow_lt_inv B64_one (Int.lt_of_le_of_lt (hn.low B64_pos hd (by omega)) h1)
  omega
theorem Nrm.top {L : List Int} {k : Nat} (hn : Nrm L) (hl : L.length = k + 1) : L[k]?.getD 0 ≠ 0 := by
  intro h
  have e := take_succ_getD L k (by omega)
  rw [List.take_of_length_le (by omega), h] at e
  unfold Nrm at hn
  rw [e, trimL_snoc, if_pos rfl] at hn
  have := congrArg List.length hn
  have h2 := trimL_len (L.take k)
  simp at this h2
  omega

/-- The divisor, shifted to the top: as many limbs as before. -/
theorem top_shift {L : List Int} {k s : Nat} (hd : Dig B64 L) (hn : Nrm L) (hl : L.length = k + 1) (hs : s ≤ 63) (hlt : L[k]?.getD 0 * 2 ^ s < B64) : B64 ^ k ≤ val B64 L * 2 ^ s ∧ val B64 L * 2 ^ s < B64 ^ (k + 1) := by
  have lo := hn.low B64_pos hd (by omega)
  rw [hl, Nat.add_sub_cancel] at lo
  have p1 := (pow_split hs).1
  refine ⟨?_, ?_⟩
  · have := Int.mul_le_mul_of_nonneg_left (show (1 : Int) ≤ 2 ^ s by omega) (val_nonneg B64_pos hd); omega
  · have e := take_succ_getD L k (by omega)
    rw [List.take_of_length_le (by omega)] at e
    have hlen : (L.take k).length = k := by rw [List.length_take]; omega
    have ev : val B64 L = val B64 (L.take k) + B64 ^ k * L[k]?.getD 0 := by conv => lhs; rw [e, val_snoc, hlen]
    have hv := val_lt B64_pos (hd.take k)
    rw [hlen] at hv
    have hB : B64 = 2 ^ s * 2 ^ (64 - s) := by rw [← Int.pow_add, show s + (64 - s) = 64 by omega]; rfl
    have h2 : L[k]?.getD 0 + 1 ≤ 2 ^ (64 - s) := by
      have : 2 ^ s * L[k]?.getD 0 < 2 ^ s * 2 ^ (64 - s) := by rw [← hB, Int.mul_comm]; exact hlt
      exact Int.lt_of_mul_lt_mul_left this (Int.le_of_lt p1)
    have hp : 0 < B64 ^ k := Int.pow_pos B64_pos
    have h3 : val B64 L < B64 ^ k * 2 ^ (64 - s) := by
      have := Int.mul_le_mul_of_nonneg_left h2 (Int.le_of_lt hp)
      rw [Int.mul_add, Int.mul_one] at this
      omega
    have h4 := Int.mul_lt_mul_of_pos_right h3 p1
    rw [Int.mul_assoc, Int.mul_comm (2 ^ (64 - s)), ← hB] at h4
    rw [Int.pow_succ]; exact h4

/-- What the numbers are when j limbs of the quotient are still to come. -/
structure DvN (V D : Int) (j : Nat) (QT R : List Int) : Prop where
  digQ : Dig B64 QT
  digR : Dig B64 R
  eq : V = val B64 QT * B64 ^ j * D + val B64 R
  lt : val B64 R < B64 ^ j * D

/-- The limbs that the step takes hold less than the divisor times the base; what lies above them is 0. -/
theorem DvN.parts {V D : Int} {j m : Nat} {QT P M S : List Int} (H : DvN V D (j + 1) QT (P ++ M ++ S)) (hD : D < B64 ^ (m + 2)) (hP : P.length = j) (hM : M.length = m + 3) : val B64 M < B64 * D ∧ val B64 S = 0 := by
  have hl := H.lt
  have d1 := val_nonneg B64_pos (show Dig B64 P from fun x hx => H.digR x (by simp [hx]))
  have d2 := val_nonneg B64_pos (show Dig B64 M from fun x hx => H.digR x (by simp [hx]))
  have d3 := val_nonneg B64_pos (show Dig B64 S from fun x hx => H.digR x (by simp [hx]))
  have hp : 0 < B64 ^ j := Int.pow_pos B64_pos
  have hp2 : 0 < B64 ^ (m + 3) := Int.pow_pos B64_pos
  rw [List.append_assoc, val_append, val_append, hP, hM, show B64 ^ (j + 1) = B64 ^ j * B64 from Int.pow_succ _ _, Int.mul_assoc] at hl
  have e1 := Int.mul_nonneg (Int.le_of_lt hp2) d3
  have hlt : val B64 M + B64 ^ (m + 3) * val B64 S < B64 * D := Int.lt_of_mul_lt_mul_left (a := B64 ^ j) (by omega) (Int.le_of_lt hp)
  refine ⟨by omega, ?_⟩
  have e2 : B64 * D < B64 ^ (m + 3) := by
    have := Int.mul_lt_mul_of_pos_left hD B64_pos
    rw [show m + 3 = (m + 2) + 1 by omega, Int.pow_succ, Int.mul_comm (B64 ^ (m + 2))]; exact this
  have e3 : B64 ^ (m + 3) * val B64 S < B64 ^ (m + 3) * 1 := by omega
  have := Int.lt_of_mul_lt_mul_left e3 (Int.le_of_lt hp2)
  omega

theorem DvN.step {V D : Int} {j m : Nat} {QT P M M' S : List Int} (H : DvN V D (j + 1) QT (P ++ M ++ S)) (hD : D < B64 ^ (m + 2)) (hD0 : 0 < D) (hP : P.length = j) (hM : M.length = m + 3) (hl' : M'.length = m + 3) (hd' : Dig B64 M') (hv : val B64 M' = val B64 M % D) :
    DvN V D j (val B64 M / D :: QT) (P ++ M' ++ S) := by
  have hp := H.parts hD hP hM
  have dP : Dig B64 P := fun x hx => H.digR x (by simp [hx])
  have dS : Dig B64 S := fun x hx => H.digR x (by simp [hx])
  have d2 := val_nonneg B64_pos (show Dig B64 M from fun x hx => H.digR x (by simp [hx]))
  have q0 : 0 ≤ val B64 M / D := Int.ediv_nonneg d2 (Int.le_of_lt hD0)
  have q1 : val B64 M / D < B64 := Int.ediv_lt_of_lt_mul hD0 hp.1
  have e := Int.emod_add_mul_ediv (val B64 M) D
  have r1 := Int.emod_lt_of_pos (val B64 M) hD0
  have hPl := val_lt B64_pos dP
  rw [hP] at hPl
  refine ⟨Dig.cons q0 q1 H.digQ, (dP.append hd').append dS, ?_, ?_⟩
  · have e2 := H.eq
    rw [List.append_assoc, val_append, val_append, hP, hM, hp.2, Int.pow_succ] at e2
    rw [List.append_assoc, val_append, val_append, hP, hl', hp.2, hv]
    simp only [val]
    generalize val B64 M / D = q at *
    generalize val B64 M % D = r at *
    generalize B64 ^ j = p at *
    grind
  · rw [List.append_assoc, val_append, val_append, hP, hl', hp.2, hv, Int.mul_zero, Int.add_zero]
    have := Int.mul_le_mul_of_nonneg_left (show val B64 M % D + 1 ≤ D from r1) (Int.le_of_lt (Int.pow_pos (m := j) B64_pos))
    rw [Int.mul_add, Int.mul_one] at this
    omega

theorem DvN.done {V D : Int} {QT R : List Int} (H : DvN V D 0 QT R) (hD0 : 0 < D) : val B64 QT = V / D ∧ val B64 R = V % D := by
  have e := H.eq; have l := H.lt
  simp only [Int.pow_zero, Int.mul_one, Int.one_mul] at e l
  have u := (Int.ediv_emod_unique hD0 (a := V) (r := val B64 R) (q := val B64 QT)).2 ⟨by rw [Int.mul_comm]; omega, val_nonneg B64_pos H.digR, l⟩
  exact ⟨u.1.symm, u.2.symm⟩

theorem shift_div {a b : Int} {s : Nat} (hb : 0 < b) : a * 2 ^ s / (b * 2 ^ s) = a / b ∧ a * 2 ^ s % (b * 2 ^ s) / 2 ^ s = a % b := by
  have p : (0 : Int) < 2 ^ s := Int.pow_pos (by decide)
  have e1 : a * 2 ^ s / (b * 2 ^ s) = a / b := Int.mul_ediv_mul_of_pos_left a b p
  refine ⟨e1, ?_⟩
  have _ := hb
  have e2 : a * 2 ^ s % (b * 2 ^ s) = a % b * 2 ^ s := by rw [Int.emod_def, e1, Int.emod_def]; grind
  rw [e2]; exact Int.mul_ediv_cancel _ (by omega)

theorem fromLimb_any (x : Int) (w : World) (x0 : 0 ≤ x) (x1 : x < B64) : Calls Tryz.prog 119 #[.int .u64 x] w (RetN w x 1) := by
  have hrow : Row .u64 63 (w.alloc (Obj.cells #[Value.int IntKind.u64 x] 63)) w.heap.size [x] := by unfold Row World.alloc; simp
  have hg : w.grownBy (w.alloc (Obj.cells #[Value.int IntKind.u64 x] 63)) none := World.grownBy_alloc w _ none
  have hb := grown_below hg
  have ht := trim64_any (some ⟨w.heap.size, 0, none⟩) 1 [x] _ (row_rd hrow (by simp) (by decide))
  have hres := nt_row (c := 1) (K := 1) hrow (Dig.cons x0 x1 (Dig.nil _)) (n := x) (by simp [val]) (by simp) (by decide) (by simp)
  have HT := hid ht; have Hres := hid hres; have HB := hid hb
  clear ht hres hrow hg hb
  go_enter Tryz.func119, Tryz.ntmps119
  go_wp2_with (go_at_call 96; refine HT.out.mono ?_; rintro e w2 ⟨rfl, rfl⟩)
  go_ret
  exact ⟨_, rfl, Hres.out, HB.out⟩

end Go.Proofs.YtbapeilpkhbbeaaGreatDoor
