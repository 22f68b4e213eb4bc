/- The document's own integers: cut, digit, order. Digits to the base 65536, the lowest first. The document's own integers: few, even, value. The document's own integers: naturals as digits; half. The document's own integers: sum. The document's own integers: made, Sign, Neg. -/
import Derived.Test.YtbapeilpkhbbeaaGreatDoorYn02
import Derived.Test.YtbapeilpkhbbeaaGreatDoorYn07
import Derived.Test.YtbapeilpkhbbeaaGreatDoorYn09
import Derived.Test.YtbapeilpkhbbeaaGreatDoorYn16
/- The document's own integers: cut, digit, order. Digits to the base 65536, the lowest first. -/
namespace Go.Proofs.YtbapeilpkhbbeaaGreatDoor
open Go.RowKit

def R16 : Int := 65536
theorem R16_pos : 0 < R16 := by decide

set_option maxHeartbeats 400000 in
theorem cut_any (ao : Option Addr) (c : Nat) (L : List Int) (w : World) (h : Rd w .i64 ao c L) :
    Calls Tryz.prog 84 #[.slice ao L.length c] w fun e w' => e = .returned (.slice ao (trimL L).length c) ∧ w' = w := by
  obtain ⟨n, hn⟩ : ∃ n, n = L.length := ⟨_, rfl⟩
  have hc := h.cap; have hm := h.most
  rw [← hn] at hc ⊢
  have Hn := hid hn; clear hn
  go_enter Tryz.func84, Tryz.ntmps84
  go_wp2
  go_loop [3] (fun v => ∃ m : Nat, m ≤ n ∧ v = .int .i64 m ∧ Hid (trimL (L.take m) = trimL L)) (fun v => (intOf v).toNat)
  case atStart => exact ⟨n, Nat.le_refl _, rfl, hid (by rw [Hn.out, List.take_length])⟩
  case round =>
    obtain ⟨m, hmn, rfl, HT⟩ := hrel
    cases m with
    | zero =>
      go_wp2
      go_ret
      exact ⟨by rw [trimL_stop L HT.out]; rfl, rfl⟩
    | succ m =>
      obtain ⟨b, off, rfl⟩ := h.adr (by have := Hn.out; omega)
      have hcell := h.cell b off rfl m (by have := Hn.out; omega)
      by_cases hz : L[m]?.getD 0 = 0
      · have HZ := hid hz
        rw [hz] at hcell
        clear hz
        go_wp2
        go_round
        case rel => exact ⟨m, by omega, by go_num, hid (trimL_step0 L m (by have := Hn.out; omega) HT.out HZ.out)⟩
        case measure => simp [intOf]
      · have HZ := hid hz
        go_wp2
        go_ret
        exact ⟨by rw [trimL_step1 L m (by have := Hn.out; omega) HT.out HZ.out]; rfl, rfl⟩

theorem digit_any (ao : Option Addr) (c i : Nat) (L : List Int) (w : World) (h : Rd w .i64 ao c L) (hi : i ≤ 9223372036854775807) :
    Calls Tryz.prog 110 #[.slice ao L.length c, .int .i64 (i : Int)] w fun e w' => e = .returned (.int .i64 (L[i]?.getD 0)) ∧ w' = w := by
  obtain ⟨n, hn⟩ : ∃ n, n = L.length := ⟨_, rfl⟩
  have hc := h.cap; have hm := h.most
  rw [← hn] at hc ⊢
  by_cases hlt : i < n
  · obtain ⟨b, off, rfl⟩ := h.adr (by omega)
    have hcell := h.cell b off rfl i (by omega)
    clear h hn
    go_enter Tryz.func110, Tryz.ntmps110
    go_wp2
    go_ret
    exact ⟨rfl, rfl⟩
  · have e : L[i]?.getD 0 = 0 := by simp [show L.length ≤ i by omega]
    rw [e]
    have hge : ¬ (i : Int) < (n : Int) := by omega
    clear h hn e
    go_enter Tryz.func110, Tryz.ntmps110
    go_wp2
    go_ret
    exact ⟨rfl, rfl⟩

/-- A list with zeros behind it, up to a length. -/
def pad (L : List Int) (N : Nat) : List Int := L ++ List.replicate (N - L.length) 0
theorem pad_len {L : List Int} {N : Nat} (h : L.length ≤ N) : (pad L N).length = N := by unfold pad; simp; omega
theorem pad_get (L : List Int) (N i : Nat) : (pad L N)[i]?.getD 0 = L[i]?.getD 0 := by
  unfold pad
  by_cases h : i < L.length
  · rw [List.getElem?_append_left h]
  · rw [List.getElem?_append_right (by omega)]
    have e : L[i]?.getD 0 = 0 := by simp [Nat.le_of_not_lt h]
    rw [e]
    by_cases h2 : i - L.length < N - L.length
    · simp [h2]
    · simp [h2]
theorem val_rep0 (B : Int) (n : Nat) : val B (List.replicate n 0) = 0 := by
  induction n with
  | zero => rfl
  | succ n ih => simp [List.replicate_succ, val, ih]
theorem pad_val (B : Int) (L : List Int) (N : Nat) : val B (pad L N) = val B L := by unfold pad; rw [val_append, val_rep0]; simp
theorem pad_dig {B : Int} (hB : 0 < B) {L : List Int} (h : Dig B L) (N : Nat) : Dig B (pad L N) := h.append (fun x hx => by rw [(List.mem_replicate.1 hx).2]; exact ⟨Int.le_refl 0, hB⟩)

set_option maxRecDepth 100000 in
set_option maxHeartbeats 1000000 in
theorem order_any (ao bo : Option Addr) (ca cb : Nat) (L M : List Int) (w : World) (hL : Rd w .i64 ao ca L) (hM : Rd w .i64 bo cb M) (dL : Dig R16 L) (dM : Dig R16 M) :
    Calls Tryz.prog 89 #[.slice ao L.length ca, .slice bo M.length cb] w fun e w' => e = .returned (.int .i64 (cmpI (val R16 L) (val R16 M))) ∧ w' = w := by
  obtain ⟨n, hn⟩ : ∃ n, n = L.length := ⟨_, rfl⟩
  obtain ⟨m, hm⟩ : ∃ m, m = M.length := ⟨_, rfl⟩
  obtain ⟨N, hN⟩ : ∃ N, N = max n m := ⟨_, rfl⟩
  have hnN : n ≤ N := by omega
  have hmN : m ≤ N := by omega
  have hN62 : N ≤ 9223372036854775807 := by have := hL.cap; have := hL.most; have := hM.cap; have := hM.most; omega
  have hNi : max (n : Int) (m : Int) = (N : Int) := by omega
  have hdl := fun (i : Nat) (hi : i ≤ 9223372036854775807) => digit_any ao ca i L w hL hi
  have hdm := fun (i : Nat) (hi : i ≤ 9223372036854775807) => digit_any bo cb i M w hM hi
  have lP := pad_len (L := L) (N := N) (by omega)
  have lQ := pad_len (L := M) (N := N) (by omega)
  rw [← hn] at hdl ⊢; rw [← hm] at hdm ⊢
  have HDl := hid hdl; have HDm := hid hdm; have HP := hid lP; have HQ := hid lQ; have DL := hid dL; have DM := hid dM
  clear hdl hdm lP lQ hL hM dL dM hn hm hNi
  go_enter Tryz.func89, Tryz.ntmps89
  go_wp2
  all_goals
    go_loop [5] (fun iv => ∃ k : Nat, k ≤ N ∧ iv = .int .i64 ((k : Int) - 1) ∧ Hid ((pad L N).drop k = (pad M N).drop k)) (fun iv => (intOf iv + 1).toNat)
    case atStart => exact ⟨N, Nat.le_refl _, by congr 1; omega, hid (by rw [List.drop_of_length_le (by rw [HP.out]; exact Nat.le_refl _), List.drop_of_length_le (by rw [HQ.out]; exact Nat.le_refl _)])⟩
    case round =>
      obtain ⟨k, hk, rfl, HD⟩ := hrel
      cases k with
      | zero =>
        have he : cmpI (val R16 L) (val R16 M) = 0 := by
          have h := HD.out
          simp only [List.drop_zero] at h
          rw [← pad_val R16 L N, ← pad_val R16 M N, h]; exact cmpI_self _
        have HE := hid he; clear he
        go_wp2
        go_ret
        exact ⟨by rw [HE.out]; rfl, rfl⟩
      | succ k =>
        have hk0 : (0 : Int) ≤ (k : Int) := by omega
        have h1 := HDl.out k (by omega); have h2 := HDm.out k (by omega)
        have hst := fun h => drop_step (pad L N) (pad M N) k (by have := HP.out; omega) (by have := HQ.out; omega) HD.out h
        have htp := fun h => cmp_top R16_pos (pad_dig R16_pos DL.out N) (pad_dig R16_pos DM.out N) (show k < (pad L N).length by have := HP.out; omega) (show k < (pad M N).length by have := HQ.out; omega) HD.out h
        simp only [pad_get, pad_val] at hst htp
        obtain ⟨x, hx⟩ : ∃ x, x = L[k]?.getD 0 := ⟨_, rfl⟩
        obtain ⟨y, hy⟩ : ∃ y, y = M[k]?.getD 0 := ⟨_, rfl⟩
        rw [← hx] at h1 hst htp; rw [← hy] at h2 hst htp
        have H1 := hid h1; have H2 := hid h2; have HSt := hid hst; have HTp := hid htp
        clear h1 h2 hst htp hx hy HD
        go_wp2_with fail
        refine H1.out.mono ?_
        rintro e w1 ⟨rfl, rfl⟩
        go_wp2_with fail
        refine H2.out.mono ?_
        rintro e w2 ⟨rfl, rfl⟩
        rcases Int.lt_trichotomy x y with hxy | hxy | hxy
        · have HC := hid ((HTp.out (by omega)).trans (cmpI_lt hxy))
          go_wp2
          go_ret
          exact ⟨by rw [HC.out]; rfl, rfl⟩
        · subst hxy
          have HD' := hid (HSt.out rfl)
          go_wp2
          go_round
          case rel => exact ⟨k, by omega, by go_num, HD'⟩
          case measure => simp [intOf]
        · have HC := hid ((HTp.out (by omega)).trans (cmpI_gt hxy))
          have hnl : ¬ x < y := by omega
          go_wp2
          go_ret
          exact ⟨by rw [HC.out]; rfl, rfl⟩

end Go.Proofs.YtbapeilpkhbbeaaGreatDoor

/- The document's own integers: few, even, value. -/
namespace Go.Proofs.YtbapeilpkhbbeaaGreatDoor
open Go.RowKit

theorem few_any (ao : Option Addr) (c n : Nat) (w : World) : Calls Tryz.prog 85 #[.slice ao n c] w fun e w' => e = .returned (.bool (decide (n ≤ 3))) ∧ w' = w := by
  have e : decide ((n : Int) ≤ 3) = decide (n ≤ 3) := by by_cases h : n ≤ 3 <;> simp [h] <;> omega
  rw [← e]
  clear e
  go_enter Tryz.func85, Tryz.ntmps85
  go_wp2
  go_ret
  exact ⟨rfl, rfl⟩

theorem val_mod2 (L : List Int) : val R16 L % 2 = L[0]?.getD 0 % 2 := by
  cases L with
  | nil => rfl
  | cons x l => simp only [val, R16]; simp; omega

theorem even_any (ao : Option Addr) (c : Nat) (L : List Int) (w : World) (h : Rd w .i64 ao c L) (hd : Dig R16 L) :
    Calls Tryz.prog 87 #[.slice ao L.length c] w fun e w' => e = .returned (.bool (decide (val R16 L % 2 = 0))) ∧ w' = w := by
  have hdg := digit_any ao c 0 L w h (by decide)
  have h0 := (hd.at R16_pos 0).1
  rw [val_mod2]
  obtain ⟨x, hx⟩ : ∃ x, x = L[0]?.getD 0 := ⟨_, rfl⟩
  obtain ⟨n, hn⟩ : ∃ n, n = L.length := ⟨_, rfl⟩
  rw [← hx] at hdg h0 ⊢
  rw [← hn] at hdg ⊢
  have ht : x.tmod 2 = x % 2 := Int.tmod_eq_emod_of_nonneg h0
  have HD := hid hdg
  clear hdg h hd hx hn
  go_enter Tryz.func87, Tryz.ntmps87
  go_wp2_with (go_at_call 110; refine HD.out.mono ?_; rintro e w1 ⟨rfl, rfl⟩)
  go_ret
  refine ⟨?_, rfl⟩
  first | rfl | (by_cases hz : x % 2 = 0 <;> simp [hz, beq_iff_eq])

theorem value_small {L : List Int} (hd : Dig R16 L) (hl : L.length ≤ 3) : 0 ≤ val R16 L ∧ val R16 L < 281474976710656 := by
  have h := val_lt R16_pos hd
  have h2 := pow_mono R16_pos hl
  have e : R16 ^ 3 = 281474976710656 := by decide
  exact ⟨val_nonneg R16_pos hd, by omega⟩

theorem val_drop (B : Int) (L : List Int) (k : Nat) (hk : k < L.length) : val B (L.drop k) = L[k]?.getD 0 + B * val B (L.drop (k + 1)) := by
  rw [List.drop_eq_getElem_cons hk]; simp [val, hk]

set_option maxRecDepth 100000 in
set_option maxHeartbeats 1000000 in
theorem rvalue_any (ao : Option Addr) (c : Nat) (L : List Int) (w : World) (h : Rd w .i64 ao c L) (hd : Dig R16 L) (hl : L.length ≤ 3) :
    Calls Tryz.prog 124 #[.slice ao L.length c] w fun e w' => e = .returned (.int .u64 (val R16 L)) ∧ w' = w := by
  obtain ⟨n, hn⟩ : ∃ n, n = L.length := ⟨_, rfl⟩
  have hc := h.cap; have hm := h.most
  rw [← hn] at hc hl ⊢
  have Hn := hid hn; have HD := hid hd; have HL := hid h
  clear hn hd h
  go_enter Tryz.func124, Tryz.ntmps124
  go_wp2
  go_loop [3, 4] (fun vv iv => ∃ k : Nat, k ≤ n ∧ iv = .int .i64 ((k : Int) - 1) ∧ vv = .int .u64 (val R16 (L.drop k))) (fun _ iv => (intOf iv + 1).toNat)
  case atStart => exact ⟨n, Nat.le_refl _, rfl, by rw [List.drop_of_length_le (by have := Hn.out; omega)]; rfl⟩
  case round =>
    obtain ⟨k, hk, rfl, rfl⟩ := hrel
    cases k with
    | zero =>
      rw [List.drop_zero]
      go_wp2
      go_ret
      exact ⟨rfl, rfl⟩
    | succ k =>
      obtain ⟨b, off, rfl⟩ := HL.out.adr (by have := Hn.out; omega)
      have hcell := HL.out.cell b off rfl k (by have := Hn.out; omega)
      have hx := HD.out.at R16_pos k
      have hv := value_small (HD.out.drop (k + 1)) (by rw [List.length_drop]; have := Hn.out; omega)
      have hv2 := value_small (HD.out.drop k) (by rw [List.length_drop]; have := Hn.out; omega)
      have hvd := val_drop R16 L k (by have := Hn.out; omega)
      obtain ⟨x, hxe⟩ : ∃ x, x = L[k]?.getD 0 := ⟨_, rfl⟩
      obtain ⟨t, ht⟩ : ∃ t, t = val R16 (L.drop (k + 1)) := ⟨_, rfl⟩
      rw [← hxe] at hcell hx hvd
      rw [← ht] at hv hvd ⊢
      have hs : t * 65536 + x = val R16 (L.drop k) := by rw [hvd]; unfold R16; omega
      rw [← hs] at hv2
      have hx0 := hx.1; have hx1 : x < 65536 := hx.2
      have ht0 := hv.1; have ht1 := hv.2; have hv20 := hv2.1; have hv21 := hv2.2
      have Hs := hid hs
      have hk0 : (0 : Int) ≤ (k : Int) := by omega
      clear hx hxe ht hvd hs hv hv2
      go_wp2
      go_round
      case rel => exact ⟨k, by omega, by go_num, by rw [← Hs.out]⟩
      case measure => simp [intOf]

end Go.Proofs.YtbapeilpkhbbeaaGreatDoor

/- The document's own integers: naturals as digits; half. -/
namespace Go.Proofs.YtbapeilpkhbbeaaGreatDoor
open Go.RowKit

/-- The value v reads in w as the natural number n: digits to the base 65536, in normal form, K at most. -/
structure MdL (w : World) (ao : Option Addr) (c : Nat) (L : List Int) (n : Int) (K : Nat) : Prop where
  rd : Rd w .i64 ao c L
  dig : Dig R16 L
  nrm : Nrm L
  eq : val R16 L = n
  le : L.length ≤ K
def Md (w : World) (v : Value) (n : Int) (K : Nat) : Prop := ∃ ao c L, v = .slice ao L.length c ∧ MdL w ao c L n K
def RetM (w : World) (n : Int) (K : Nat) (e : Ending) (w' : World) : Prop := ∃ v, e = .returned v ∧ Md w' v n K ∧ Below w.heap.size w w'

theorem Md.nonneg {w : World} {v : Value} {n : Int} {K : Nat} (h : Md w v n K) : 0 ≤ n := by obtain ⟨_, _, _, _, h⟩ := h; rw [← h.eq]; exact val_nonneg R16_pos h.dig
theorem Md.below {w w' : World} {v : Value} {n : Int} {K B : Nat} (h : Md w v n K) (hb : Below B w w') (hB : w.heap.size ≤ B) : Md w' v n K := by
  obtain ⟨ao, c, L, rfl, h⟩ := h
  exact ⟨ao, c, L, rfl, h.rd.below hb hB, h.dig, h.nrm, h.eq, h.le⟩
theorem Md.mono {w : World} {v : Value} {n : Int} {K K' : Nat} (h : Md w v n K) (hk : K ≤ K') : Md w v n K' := by
  obtain ⟨ao, c, L, rfl, h⟩ := h
  exact ⟨ao, c, L, rfl, h.rd, h.dig, h.nrm, h.eq, Nat.le_trans h.le hk⟩
theorem Md.nil (w : World) : Md w (.slice none 0 0) 0 0 := ⟨none, 0, [], rfl, Rd.nil _ _, Dig.nil _, rfl, rfl, Nat.le_refl _⟩

theorem rowi_rd {w : World} {g : Nat} {L : List Int} {c : Nat} (h : Row .i64 3 w g L) (hc : L.length ≤ c) (hc' : c ≤ 9223372036854775807) : Rd w .i64 (some ⟨g, 0, none⟩) c L := by
  have h' : Row .i64 3 w g ([] ++ L ++ []) := by simpa using h
  exact h'.rd hc hc'
theorem md_row {w : World} {g : Nat} {L : List Int} {c : Nat} {n : Int} {K : Nat} (h : Row .i64 3 w g L) (hd : Dig R16 L) (hv : val R16 L = n) (hc : L.length ≤ c) (hc' : c ≤ 9223372036854775807) (hK : L.length ≤ K) :
    Md w (.slice (some ⟨g, 0, none⟩) (trimL L).length c) n K := by
  refine ⟨_, c, trimL L, rfl, ?_, hd.trim, Nrm.trim L, by rw [val_trim]; exact hv, Nat.le_trans (trimL_len L) hK⟩
  rw [trimL_take L]; exact (rowi_rd h hc hc').take _

theorem Tryz.info3 : (Tryz.prog.info? 3).map (fun i => (i.zero, i.size, i.bytes)) = some (some (.int .i64 0), 1, 8) := by kernel_rfl

/-- Behind the digits from j on, divided by x. -/
structure DivR (w wr : World) (g : Nat) (LA : List Int) (x : Int) (j : Nat) (QT : List Int) (r : Int) : Prop where
  row : Row .i64 3 wr g (List.replicate j 0 ++ QT)
  gr : w.grownBy wr (some g)
  len : j + QT.length = LA.length
  dig : Dig R16 QT
  r0 : 0 ≤ r
  r1 : r < x
  eq : val R16 (LA.drop j) = val R16 QT * x + r

theorem DivR.step {w wr : World} {g : Nat} {LA QT : List Int} {x r : Int} {j : Nat} (h : DivR w wr g LA x (j + 1) QT r) (hx : 0 < x) (a : Int) (ha : a = LA[j]?.getD 0) (a0 : 0 ≤ a) (a1 : a < R16) :
    DivR w (wr.setCell ⟨g, j, none⟩ (.int .i64 ((r * 65536 + a) / x))) g LA x j ((r * 65536 + a) / x :: QT) ((r * 65536 + a) % x) ∧ 0 ≤ r * 65536 + a ∧ (r * 65536 + a) / x < 65536 := by
  have hj : j < LA.length := by have := h.len; omega
  have r0 := h.r0; have r1 := h.r1
  have hn0 : 0 ≤ r * 65536 + a := by omega
  have hn1 : r * 65536 + a < 65536 * x := by unfold R16 at a1; omega
  have q0 : 0 ≤ (r * 65536 + a) / x := Int.ediv_nonneg hn0 (Int.le_of_lt hx)
  have q1 : (r * 65536 + a) / x < 65536 := Int.ediv_lt_of_lt_mul hx hn1
  have hs := h.row.set j ((r * 65536 + a) / x)
  rw [List.replicate_succ', List.append_assoc, List.set_append_right _ _ (by simp), List.length_replicate, Nat.sub_self] at hs
  refine ⟨⟨hs, grown_trans h.gr (grown_set _ _ _ _), by have := h.len; simp; omega, Dig.cons q0 q1 h.dig, Int.emod_nonneg _ (by omega), Int.emod_lt_of_pos _ hx, ?_⟩, hn0, q1⟩
  have e := Int.emod_add_mul_ediv (r * 65536 + a) x
  rw [val_drop R16 LA j hj, ← ha, h.eq]
  simp only [val]
  generalize (r * 65536 + a) / x = q at *
  generalize (r * 65536 + a) % x = m at *
  generalize val R16 QT = t at *
  unfold R16
  grind

set_option maxRecDepth 100000 in
set_option maxHeartbeats 2000000 in
theorem half_any (va : Value) (a : Int) (K : Nat) (w : World) (hA : Md w va a K) (hK : K ≤ 1073741824) :
    Calls Tryz.prog 88 #[va] w (RetM w (a / 2) K) := by
  obtain ⟨ao, ca, LA, rfl, hA⟩ := hA
  obtain ⟨n, hn⟩ : ∃ n, n = LA.length := ⟨_, rfl⟩
  have hn30 : n ≤ 1073741824 := by have := hA.le; omega
  rw [← hn]
  have HA := hid hA; have Hn := hid hn
  clear hA hn
  obtain ⟨i0, hi, hz0, hz1, hz2⟩ := info_parts Tryz.info3
  go_enter Tryz.func88, Tryz.ntmps88
  go_wp2_with (at_make; refine wpList_make_row w rfl _ _ 29 rfl 3 i0 .i64 Tryz.underlying29 hi hz0 hz1 .i64 .i64 _ _ n rfl rfl rfl rfl (by rw [hz2]; omega) (by unfold maxLen; omega) ?_)
  intro w1 hrow hg1
  have hb1 := grown_below hg1
  have H0 : DivR w w1 w.heap.size LA 2 n [] 0 := ⟨by simpa using hrow, grown_any hg1, by simpa using Hn.out, Dig.nil _, Int.le_refl 0, by decide, by rw [List.drop_of_length_le (by have := Hn.out; omega)]; simp [val]⟩
  have HG1 := hid (HA.out.rd.ne (Nat.le_refl w.heap.size))
  clear hrow hg1
  go_wp2
  go_loopw [4, 5] (fun rv iv wr => ∃ j : Nat, ∃ QT r, j ≤ n ∧ iv = .int .i64 ((j : Int) - 1) ∧ rv = .int .i64 r ∧ DivR w wr w.heap.size LA 2 j QT r ∧ Below w.heap.size w wr) (fun _ iv _ => (intOf iv + 1).toNat)
  case atStart => exact ⟨n, [], 0, Nat.le_refl _, rfl, rfl, H0, hb1⟩
  case round =>
    obtain ⟨j, QT, r, hj, rfl, rfl, H, hb⟩ := hrel
    cases j with
    | zero =>
      have hr : Row .i64 3 wr w.heap.size QT := by have := H.row; simpa using this
      have hl : QT.length = n := by have := H.len; have := Hn.out; omega
      have he := H.eq
      rw [List.drop_zero, HA.out.eq] at he
      have hq : val R16 QT = a / 2 := by have := H.r0; have := H.r1; omega
      have ht := cut_any (some ⟨w.heap.size, 0, none⟩) n QT wr (rowi_rd hr (by omega) (by omega))
      have hres := md_row (c := n) (K := K) hr H.dig hq (by omega) (by omega) (by have := HA.out.le; have := Hn.out; omega)
      rw [hl] at ht
      have HT := hid ht; have Hres := hid hres
      clear ht hres hr hl he hq H H0 hb1
      go_wp2_with (go_at_call 84; refine HT.out.mono ?_; rintro e w2 ⟨rfl, rfl⟩)
      go_ret
      exact ⟨_, rfl, Hres.out, hb⟩
    | succ j =>
      have hjn : j < n := by omega
      obtain ⟨b, o, rfl⟩ := HA.out.rd.adr (by have := Hn.out; omega)
      have hc := (HA.out.rd.keptNew H.gr HG1.out).cell b o rfl j (by have := Hn.out; omega)
      have hd := HA.out.dig.at R16_pos j
      obtain ⟨y, hy⟩ : ∃ y, y = LA[j]?.getD 0 := ⟨_, rfl⟩
      rw [← hy] at hc hd
      obtain ⟨hS, hn0, hq1⟩ := H.step (by decide) y hy hd.1 hd.2
      have hq := H.row.cell j (by have := H.len; simp; omega)
      have hf := H.row.frozen j
      obtain ⟨u, hu⟩ : ∃ u, u = ((List.replicate (j + 1) 0 ++ QT)[j]?.getD 0 : Int) := ⟨_, rfl⟩
      rw [← hu] at hq
      have hr0 := H.r0; have hr1 := H.r1
      have hy0 := hd.1; have hy1 : y < 65536 := hd.2
      have hk0 : (0 : Int) ≤ (j : Int) := by omega
      have HS := hid hS
      clear hS H H0 hb1 hd hy hu
      go_wp2
      go_roundw
      case rel => exact ⟨j, _, _, by omega, by go_num, rfl, HS.out, hb.setCell (Nat.le_refl _) _⟩
      case measure => simp [intOf]

end Go.Proofs.YtbapeilpkhbbeaaGreatDoor

/- The document's own integers: sum. -/
namespace Go.Proofs.YtbapeilpkhbbeaaGreatDoor
open Go.RowKit

theorem owns_block {w : World} {base n s : Nat} {e : TypeId} {v : Value} {xs : List Value} (h : w.ownsRow base e s v n xs) : ∀ k, v.ownBlock = some k → base ≤ k := by
  intro k hk
  rcases h.2 with ⟨rfl, _⟩ | ⟨g, cap, cur, rfl, hb, _⟩
  · simp [Value.ownBlock] at hk
  · simp [Value.ownBlock] at hk; omega

/-- What holds of a sum of digits: k have been summed. -/
structure DsI (w wr : World) (A B : List Int) (k : Nat) (ov : Value) (Q : List Int) (c : Int) : Prop where
  own : wr.ownsRow w.heap.size 3 1 ov k (Q.map (Value.int .i64))
  len : Q.length = k
  dig : Dig R16 Q
  c0 : 0 ≤ c
  c1 : c ≤ 1
  eq : val R16 Q + R16 ^ k * c = val R16 (A.take k) + val R16 (B.take k)
  low : Below w.heap.size w wr

theorem DsI.next {w wr wx : World} {A B Q : List Int} {k : Nat} {ov ov' : Value} {c : Int} (H : DsI w wr A B k ov Q c) (x y : Int) (hx : x = A[k]?.getD 0) (hy : y = B[k]?.getD 0) (hA : Dig R16 A) (hB : Dig R16 B) (hka : k < A.length) (hkb : k < B.length)
    (hown : wx.ownsRow w.heap.size 3 1 ov' (k + 1) (Q.map (Value.int .i64) ++ [.int .i64 ((x + y + c) % 65536)])) (hlow : Below w.heap.size w wx) :
    DsI w wx A B (k + 1) ov' (Q ++ [(x + y + c) % 65536]) ((x + y + c) / 65536) := by
  have a := hA.at R16_pos k; have b := hB.at R16_pos k
  rw [← hx] at a; rw [← hy] at b
  have c0 := H.c0; have c1 := H.c1
  refine ⟨by rw [List.map_append]; exact hown, by simp [H.len], H.dig.append (Dig.cons (by omega) (by unfold R16; omega) (Dig.nil _)), by omega, by unfold R16 at a b; omega, ?_, hlow⟩
  rw [val_snoc, H.len, val_take_succ R16 A k hka, val_take_succ R16 B k hkb, ← hx, ← hy, Int.pow_succ]
  have e := H.eq
  have hd : (x + y + c) % 65536 + R16 * ((x + y + c) / 65536) = x + y + c := Int.emod_add_mul_ediv (x + y + c) 65536
  generalize (x + y + c) % 65536 = lo at *
  generalize (x + y + c) / 65536 = hi at *
  generalize R16 ^ k = p at *
  generalize R16 = r at *
  grind

def RetO (w : World) (n : Int) (K : Nat) (e : Ending) (w' : World) : Prop := ∃ v Q, e = .returned v ∧ w'.ownsRow w.heap.size 3 1 v K (Q.map (Value.int .i64)) ∧ Q.length = K ∧ Dig R16 Q ∧ val R16 Q = n ∧ Below w.heap.size w w'

set_option maxRecDepth 100000 in
set_option maxHeartbeats 4000000 in
theorem sum_any (ao bo : Option Addr) (ca cb N : Nat) (L M : List Int) (w : World) (hL : Rd w .i64 ao ca L) (hM : Rd w .i64 bo cb M) (dL : Dig R16 L) (dM : Dig R16 M) (hN : N = max L.length M.length) (hN30 : N ≤ 1073741824) :
    Calls Tryz.prog 91 #[.slice ao L.length ca, .slice bo M.length cb] w (RetO w (val R16 L + val R16 M) (N + 1)) := by
  obtain ⟨n, hn⟩ : ∃ n, n = L.length := ⟨_, rfl⟩
  obtain ⟨m, hm⟩ : ∃ m, m = M.length := ⟨_, rfl⟩
  have hnN : n ≤ N := by omega
  have hmN : m ≤ N := by omega
  have hdl := fun (w' : World) (hb : Below w.heap.size w w') (i : Nat) (hi : i ≤ 9223372036854775807) => digit_any ao ca i L w' (hL.below hb (Nat.le_refl _)) hi
  have hdm := fun (w' : World) (hb : Below w.heap.size w w') (i : Nat) (hi : i ≤ 9223372036854775807) => digit_any bo cb i M w' (hM.below hb (Nat.le_refl _)) hi
  have lP := pad_len (L := L) (N := N) (by omega)
  have lQ := pad_len (L := M) (N := N) (by omega)
  rw [← hn, ← hm] at hN
  rw [← hn] at hdl ⊢; rw [← hm] at hdm ⊢
  have HDl := hid hdl; have HDm := hid hdm; have HP := hid lP; have HQ := hid lQ; have DL := hid (pad_dig R16_pos dL N); have DM := hid (pad_dig R16_pos dM N)
  have hI0 : DsI w w (pad L N) (pad M N) 0 (.slice none 0 0) [] 0 := ⟨⟨by simp, .inl ⟨rfl, rfl⟩⟩, rfl, Dig.nil _, Int.le_refl 0, by decide, by simp [val], Below.refl _ _⟩
  have HI0 := hid hI0
  clear hdl hdm lP lQ hL hM dL dM hn hm hI0
  obtain ⟨i0, hi, hz0, hz1, hz2⟩ := info_parts Tryz.info3
  rcases Nat.lt_or_ge n m with hnm | hnm
  all_goals
    go_enter Tryz.func91, Tryz.ntmps91
    go_wp2
    go_loopw [5, 6, 7] (fun ov cv iv wr => ∃ k : Nat, ∃ Q c, k ≤ N ∧ iv = .int .i64 k ∧ cv = .int .i64 c ∧ DsI w wr (pad L N) (pad M N) k ov Q c) (fun _ _ iv _ => N - (intOf iv).toNat)
    case atStart => exact ⟨0, [], 0, Nat.zero_le _, rfl, rfl, HI0.out⟩
    case round =>
      obtain ⟨k, Q, c, hk, rfl, rfl, H⟩ := hrel
      by_cases hlt : k < N
      · have h1 := HDl.out _ H.low k (by omega)
        have h2 := HDm.out _ H.low k (by omega)
        have ha := DL.out.at R16_pos k; have hb := DM.out.at R16_pos k
        rw [pad_get] at ha hb
        obtain ⟨x, hx⟩ : ∃ x, x = L[k]?.getD 0 := ⟨_, rfl⟩
        obtain ⟨y, hy⟩ : ∃ y, y = M[k]?.getD 0 := ⟨_, rfl⟩
        rw [← hx] at h1 ha; rw [← hy] at h2 hb
        have HX := hid (show x = (pad L N)[k]?.getD 0 by rw [pad_get]; exact hx)
        have HY := hid (show y = (pad M N)[k]?.getD 0 by rw [pad_get]; exact hy)
        have c0 := H.c0; have c1 := H.c1
        have x0 := ha.1; have x1 : x < 65536 := ha.2; have y0 := hb.1; have y1 : y < 65536 := hb.2
        have H1 := hid h1; have H2 := hid h2; have HH := hid H
        clear h1 h2 ha hb hx hy H HI0
        go_wp2_with fail
        refine H1.out.mono ?_
        rintro e w1 ⟨rfl, rfl⟩
        go_wp2_with fail
        refine H2.out.mono ?_
        rintro e w2 ⟨rfl, rfl⟩
        go_wp2_with (at_builtin; refine wpList_append_own _ rfl _ _ 29 rfl w.heap.size 3 i0 (.int .i64 0) 1 8 Tryz.underlying29 hi hz0 hz1 hz2 rfl (by decide) _ k (Q.map (Value.int .i64)) rfl (HH.out.own.alloc _) ⟨w2.heap.size, 0, none⟩ 1 1 [.int .i64 ((x + y + c) % 65536)] rfl rfl ?c1 ?c2 ?c3 ?c4 ?c5 ?_)
        case c1 =>
          intro j u hj
          match j, hj with
          | 0, hj => simp at hj; subst hj; simp [Addr.add]
        case c2 => intro u hu; simp at hu; subst hu; rfl
        case c3 => unfold maxLen; omega
        case c4 => omega
        case c5 => have := HH.out.low.size; simp; omega
        intro ov' w3 hown hg _
        have hlow := (HH.out.low.alloc HH.out.low.size (.cells #[.int .i64 ((x + y + c) % 65536)] 3)).grown hg (by have := HH.out.low.size; simp; omega) (fun i e => owns_block HH.out.own i e)
        have HI := hid (HH.out.next x y HX.out HY.out DL.out DM.out (by have := HP.out; omega) (by have := HQ.out; omega) hown hlow)
        clear hown hg hlow
        go_wp2
        go_roundw
        case rel => exact ⟨k + 1, _, _, by omega, by go_num, rfl, HI.out⟩
        case measure => simp [intOf]; omega
      · obtain rfl : k = N := by omega
        have HH := hid H
        have c0 := H.c0; have c1 := H.c1
        clear H HI0
        go_wp2_with (at_builtin; refine wpList_append_own _ rfl _ _ 29 rfl w.heap.size 3 i0 (.int .i64 0) 1 8 Tryz.underlying29 hi hz0 hz1 hz2 rfl (by decide) _ k (Q.map (Value.int .i64)) rfl (HH.out.own.alloc _) ⟨wr.heap.size, 0, none⟩ 1 1 [.int .i64 c] rfl rfl ?c1 ?c2 ?c3 ?c4 ?c5 ?_)
        case c1 =>
          intro j u hj
          match j, hj with
          | 0, hj => simp at hj; subst hj; simp [Addr.add]
        case c2 => intro u hu; simp at hu; subst hu; rfl
        case c3 => unfold maxLen; omega
        case c4 => omega
        case c5 => have := HH.out.low.size; simp; omega
        intro ov' w3 hown hg _
        have hlow := (HH.out.low.alloc HH.out.low.size (.cells #[.int .i64 c] 3)).grown hg (by have := HH.out.low.size; simp; omega) (fun i e => owns_block HH.out.own i e)
        have hkk : max n m = k := hN.symm
        have hown' : w3.ownsRow w.heap.size 3 1 ov' (k + 1) (Q.map (Value.int .i64) ++ [.int .i64 c]) := by
          first
            | exact hown
            | (rw [hkk] at hown; exact hown)
            | (rw [show n = k by omega] at hown; exact hown)
        have hr : RetO w (val R16 L + val R16 M) (k + 1) (.returned ov') w3 := by
          refine ⟨ov', Q ++ [c], rfl, by rw [List.map_append]; exact hown', by simp [HH.out.len], HH.out.dig.append (Dig.cons c0 (by unfold R16; omega) (Dig.nil _)), ?_, hlow⟩
          have e := HH.out.eq
          rw [List.take_of_length_le (by rw [HP.out]; exact Nat.le_refl _), List.take_of_length_le (by rw [HQ.out]; exact Nat.le_refl _), pad_val, pad_val] at e
          rw [val_snoc, HH.out.len]; exact e
        have HR := hid hr
        clear hown hown' hkk hg hlow hr
        go_wp2
        go_ret
        exact HR.out

end Go.Proofs.YtbapeilpkhbbeaaGreatDoor

/- The document's own integers: made, Sign, Neg. -/
namespace Go.Proofs.YtbapeilpkhbbeaaGreatDoor
open Go.RowKit

/-- The value v reads in w as the document's integer z, of at most K digits. -/
def Zt (w : World) (v : Value) (z : Int) (K : Nat) : Prop := ∃ s, v = .agg #[.bool (decide (z < 0)), s] ∧ Md w s (z.natAbs : Int) K
def RetZ (w : World) (z : Int) (K : Nat) (e : Ending) (w' : World) : Prop := ∃ v, e = .returned v ∧ Zt w' v z K ∧ Below w.heap.size w w'
theorem Zt.below {w w' : World} {v : Value} {n : Int} {K B : Nat} (h : Zt w v n K) (hb : Below B w w') (hB : w.heap.size ≤ B) : Zt w' v n K := by
  obtain ⟨s, rfl, h⟩ := h; exact ⟨s, rfl, h.below hb hB⟩
theorem Zt.mono {w : World} {v : Value} {n : Int} {K K' : Nat} (h : Zt w v n K) (hk : K ≤ K') : Zt w v n K' := by
  obtain ⟨s, rfl, h⟩ := h; exact ⟨s, rfl, h.mono hk⟩
theorem Md.set {w : World} {s : Value} {n : Int} {K : Nat} (h : Md w s n K) {a : Addr} {u : Value} (hu : w.cell? a = some u) (hn : ∀ x, u ≠ .int .i64 x) (v : Value) : Md (w.setCell a v) s n K := by
  obtain ⟨ao, c, L, rfl, h⟩ := h; exact ⟨ao, c, L, rfl, h.rd.set hu hn v, h.dig, h.nrm, h.eq, h.le⟩
theorem Zt.set {w : World} {s : Value} {n : Int} {K : Nat} (h : Zt w s n K) {a : Addr} {u : Value} (hu : w.cell? a = some u) (hn : ∀ x, u ≠ .int .i64 x) (v : Value) : Zt (w.setCell a v) s n K := by
  obtain ⟨s, rfl, h⟩ := h; exact ⟨s, rfl, h.set hu hn v⟩
theorem MdL.zero_iff {w : World} {ao : Option Addr} {c : Nat} {L : List Int} {n : Int} {K : Nat} (h : MdL w ao c L n K) : L.length = 0 ↔ n = 0 := by
  constructor
  · intro hl; rw [← h.eq, List.eq_nil_of_length_eq_zero hl]; rfl
  · intro hn; rw [Nrm.eq_nil R16_pos h.dig h.nrm (by rw [h.eq, hn])]; rfl
theorem Zt.opened {w : World} {v : Value} {z : Int} {K : Nat} (h : Zt w v z K) : ∃ b ao m c, v = .agg #[.bool b, .slice ao m c] ∧ Hid (∀ w', Below w.heap.size w w' → Zt w' (.agg #[.bool b, .slice ao m c]) z K) ∧ Hid (∀ w', Below w.heap.size w w' → Md w' (.slice ao m c) (z.natAbs : Int) K) ∧ Hid (b = decide (z < 0)) := by
  obtain ⟨s, rfl, ao, c, L, rfl, h⟩ := h
  have hN : ∀ w', Below w.heap.size w w' → Md w' (.slice ao L.length c) (z.natAbs : Int) K := fun w' hb => ⟨ao, c, L, rfl, h.rd.below hb (Nat.le_refl _), h.dig, h.nrm, h.eq, h.le⟩
  exact ⟨_, ao, L.length, c, rfl, hid (fun w' hb => ⟨_, rfl, hN w' hb⟩), hid hN, hid rfl⟩
theorem Md.opened {w : World} {v : Value} {n : Int} {K : Nat} (h : Md w v n K) : ∃ ao m c, v = .slice ao m c ∧ Hid (∀ w', Below w.heap.size w w' → Md w' (.slice ao m c) n K) := by
  obtain ⟨ao, c, L, rfl, h⟩ := h
  exact ⟨ao, L.length, c, rfl, hid (fun w' hb => ⟨ao, c, L, rfl, h.rd.below hb (Nat.le_refl _), h.dig, h.nrm, h.eq, h.le⟩)⟩

/-- Digits, not cut: what reads as them. -/
def Dg (w : World) (v : Value) (n : Int) (K : Nat) : Prop := ∃ ao c L, v = .slice ao L.length c ∧ Rd w .i64 ao c L ∧ Dig R16 L ∧ val R16 L = n ∧ L.length ≤ K
theorem Md.dg {w : World} {v : Value} {n : Int} {K : Nat} (h : Md w v n K) : Dg w v n K := by
  obtain ⟨ao, c, L, rfl, h⟩ := h; exact ⟨ao, c, L, rfl, h.rd, h.dig, h.eq, h.le⟩
theorem Dg.below {w w' : World} {v : Value} {n : Int} {K B : Nat} (h : Dg w v n K) (hb : Below B w w') (hB : w.heap.size ≤ B) : Dg w' v n K := by
  obtain ⟨ao, c, L, rfl, hr, h⟩ := h; exact ⟨ao, c, L, rfl, hr.below hb hB, h⟩
theorem Dg.mono {w : World} {v : Value} {n : Int} {K K' : Nat} (h : Dg w v n K) (hk : K ≤ K') : Dg w v n K' := by
  obtain ⟨ao, c, L, rfl, hr, hd, hv, hl⟩ := h; exact ⟨ao, c, L, rfl, hr, hd, hv, Nat.le_trans hl hk⟩
theorem Dg.opened {w : World} {v : Value} {n : Int} {K : Nat} (h : Dg w v n K) : ∃ ao m c, v = .slice ao m c ∧ Hid (∀ w', Below w.heap.size w w' → Dg w' (.slice ao m c) n K) := by
  obtain ⟨ao, c, L, rfl, h⟩ := h
  exact ⟨ao, L.length, c, rfl, hid (fun w' hb => Dg.below ⟨ao, c, L, rfl, h⟩ hb (Nat.le_refl _))⟩

set_option maxRecDepth 100000 in
set_option maxHeartbeats 2000000 in
theorem made_any (below : Bool) (v : Value) (n : Int) (K : Nat) (w : World) (h : Dg w v n K) :
    Calls Tryz.prog 46 #[.bool below, v] w (RetZ w (sgn below n) K) := by
  obtain ⟨ao, c, L, rfl, hr, hd, hv, hl⟩ := h
  have h0 : 0 ≤ n := by rw [← hv]; exact val_nonneg R16_pos hd
  have hb0 : Below w.heap.size w (w.alloc (.cells #[.bool false, .slice none 0 0] 31)) := (Below.refl _ _).alloc (Nat.le_refl _) _
  have hc := cut_any ao c L _ (hr.below hb0 (Nat.le_refl _))
  have hfin : ∀ w', Below w.heap.size w w' → Zt w' (.agg #[.bool (below && decide ((0 : Int) < ((trimL L).length : Int))), .slice ao (trimL L).length c]) (sgn below n) K := fun w' hb => by
    have hM : MdL w' ao c (trimL L) n K := ⟨by rw [trimL_take L]; exact (hr.take _).below hb (Nat.le_refl _), hd.trim, Nrm.trim L, by rw [val_trim]; exact hv, Nat.le_trans (trimL_len L) hl⟩
    have hz := hM.zero_iff
    have e : decide ((0 : Int) < ((trimL L).length : Int)) = decide (0 < n) := by apply decide_eq_decide.2; constructor <;> intro hh <;> omega
    rw [e]
    exact ⟨_, by rw [sgn_lt below h0], by rw [sgn_abs below h0]; exact ⟨ao, c, trimL L, rfl, hM⟩⟩
  obtain ⟨m, hm⟩ : ∃ m, m = (trimL L).length := ⟨_, rfl⟩
  rw [← hm] at hc hfin
  have HC := hid hc; have HF := hid hfin
  clear hc hfin hm hr hd hv hl h0 hb0
  cases below with
  | false =>
    go_enter Tryz.func46, Tryz.ntmps46
    go_wp2_with (go_at_call 84; refine HC.out.mono ?_; rintro e w1 ⟨rfl, rfl⟩)
    refine bodyPost_ret (v := .agg #[.bool false, .slice ao m c]) (by simp [results, Tryz.results46, go_sem]) rfl ⟨_, rfl, ?_, (Below.refl _ _).alloc (Nat.le_refl _) _⟩
    exact HF.out _ ((Below.refl _ _).alloc (Nat.le_refl _) _)
  | true =>
    go_enter Tryz.func46, Tryz.ntmps46
    go_wp2_with (go_at_call 84; refine HC.out.mono ?_; rintro e w1 ⟨rfl, rfl⟩)
    refine bodyPost_ret (v := .agg #[.bool (decide ((0 : Int) < (m : Int))), .slice ao m c]) (by simp [results, Tryz.results46, go_sem]) rfl ⟨_, rfl, ?_, (Below.refl _ _).alloc (Nat.le_refl _) _⟩
    exact HF.out _ ((Below.refl _ _).alloc (Nat.le_refl _) _)

end Go.Proofs.YtbapeilpkhbbeaaGreatDoor
