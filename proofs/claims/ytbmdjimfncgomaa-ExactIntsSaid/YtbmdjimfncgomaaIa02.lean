/- exact.subtractFrom: it subtracts from a row, and hands back what is borrowed from beyond it. Naturals of the program: what a slice of limbs stands for. exact.compare. The document's own integers: cut, digit, order. Digits to the base 65536, the lowest first. The document's own integers: few, even, value. The document's own integers: naturals as digits; half. -/
import Derived.Test.YtbmdjimfncgomaaIa01
/- exact.subtractFrom: it subtracts from a row, and hands back what is borrowed from beyond it. -/
namespace Go.Proofs.Ytbmdjimfncgomaa
open Go.RowKit

theorem sub_wrap (x y b : Int) (h0 : 0 ≤ x) (h1 : x < B64) (k0 : 0 ≤ y) (k1 : y < B64) (b0 : 0 ≤ b) (b1 : b ≤ 1) : (x - y - b) % B64 = x - y - b + B64 * bor x y b := by
  unfold bor B64 at *; split <;> omega

/-- What holds of a difference: k digits have been subtracted, whose number is m. -/
structure SubI (w wr : World) (g : Nat) (P A S : List Int) (k : Nat) (m : Int) (A1 : List Int) (cc : Int) : Prop where
  len : A1.length = A.length
  dig : Dig B64 A1
  c0 : 0 ≤ cc
  c1 : cc ≤ 1
  row : Row .u64 105 wr g (P ++ A1 ++ S)
  gr : w.grownBy wr (some g)
  eq : val B64 A1 - B64 ^ k * cc = val B64 A - m

theorem SubI.step {w wr : World} {g : Nat} {P A S : List Int} {k : Nat} {m : Int} {A1 : List Int} {cc : Int} (h : SubI w wr g P A S k m A1 cc) (y : Int) (h0 : 0 ≤ y) (h1 : y < B64) (hk : k < A.length) :
    SubI w (wr.setCell ⟨g, P.length + k, none⟩ (.int .u64 ((A1[k]?.getD 0 - y - cc) % B64))) g P A S (k + 1) (m + B64 ^ k * y) (A1.set k ((A1[k]?.getD 0 - y - cc) % B64)) (bor (A1[k]?.getD 0) y cc) := by
  have hl : k < A1.length := by rw [h.len]; exact hk
  have hx := h.dig.at B64_pos k
  have hc0 := h.c0; have hc1 := h.c1
  have hr := h.row.set (P.length + k) ((A1[k]?.getD 0 - y - cc) % B64)
  rw [mid_set P A1 S k _ hl] at hr
  have hd := sub_wrap (A1[k]?.getD 0) y cc hx.1 hx.2 h0 h1 hc0 hc1
  have b0 := Int.emod_nonneg (A1[k]?.getD 0 - y - cc) (show B64 ≠ 0 by decide)
  have b1 := Int.emod_lt_of_pos (A1[k]?.getD 0 - y - cc) B64_pos
  refine ⟨by simpa using h.len, h.dig.set k b0 b1, (bor_01 _ _ _).1, (bor_01 _ _ _).2, hr, grown_trans h.gr (grown_set _ _ _ _), ?_⟩
  rw [val_set _ _ _ _ hl, Int.pow_succ, hd]
  have e := h.eq
  grind

theorem SubI.done {w wr : World} {g : Nat} {P A S : List Int} {k : Nat} {m : Int} {A1 : List Int} {cc : Int} (h : SubI w wr g P A S k m A1 cc) (he : cc = 0 ∨ k = A.length) : SubI w wr g P A S A.length m A1 cc := by
  rcases he with rfl | rfl
  · exact ⟨h.len, h.dig, h.c0, h.c1, h.row, h.gr, by have := h.eq; simpa using this⟩
  · exact h

set_option maxHeartbeats 1000000 in
theorem subFrom_any (g : Nat) (P A S M : List Int) (c bc : Nat) (bo : Option Addr) (w : World) (hrow : Row .u64 105 w g (P ++ A ++ S)) (hdA : Dig B64 A) (hdM : Dig B64 M)
    (hcA : A.length ≤ c) (hcm : c ≤ 9223372036854775807) (hM : Rd w .u64 bo bc M) (hMA : M.length ≤ A.length) (hne : 0 < M.length → ∀ b off, bo = some ⟨b, off, none⟩ → b ≠ g) :
    Calls Try.prog 102 #[.slice (some ⟨g, P.length, none⟩) A.length c, .slice bo M.length bc] w fun e w' => ∃ A1 cc, e = .returned (.int .u64 cc) ∧ SubI w w' g P A S A.length (val B64 M) A1 cc := by
  obtain ⟨off, hoff⟩ : ∃ off, off = P.length := ⟨_, rfl⟩
  obtain ⟨n, hn⟩ : ∃ n, n = A.length := ⟨_, rfl⟩
  obtain ⟨m, hm⟩ : ∃ m, m = M.length := ⟨_, rfl⟩
  have hmn : m ≤ n := by omega
  have hmc := hM.cap; have hmm := hM.most
  rw [← hm] at hmc
  rw [← hn] at hcA
  rw [← hn, ← hm, ← hoff]
  have H0 : SubI w w g P A S 0 (val B64 (M.take 0)) A 0 := ⟨rfl, hdA, Int.le_refl 0, by decide, hrow, grown_refl _ _, by simp [val]⟩
  have Hoff := hid hoff; have Hn := hid hn; have Hm := hid hm; have HdM := hid hdM; have Hne := hid hne; have HM := hid hM
  clear hoff hn hm hdA hdM hne hrow hM hMA
  go_enter Try.func102, Try.ntmps102
  go_wp2
  go_loopw [4, 10] (fun cv iv wr => ∃ k : Nat, ∃ A1 cc, k ≤ m ∧ iv = .int .i64 k ∧ cv = .int .u64 cc ∧ SubI w wr g P A S k (val B64 (M.take k)) A1 cc) (fun _ iv _ => m - (intOf iv).toNat)
  case atStart => exact ⟨0, A, 0, Nat.zero_le _, rfl, rfl, H0⟩
  case round =>
    obtain ⟨k, A1, cc, hk, rfl, rfl, H⟩ := hrel
    by_cases hlt : k < m
    · have hAk := H.row.cell (off + k) (by have := Hoff.out; have := Hn.out; have := H.len; simp; omega)
      have hfr := H.row.frozen (off + k)
      rw [Hoff.out, mid_get P A1 S k (by have := Hn.out; have := H.len; omega), ← Hoff.out] at hAk
      have hkn : k < n := by omega
      obtain ⟨b, o, rfl⟩ := HM.out.adr (by have := Hm.out; omega)
      have hMk := (HM.out.keptNew H.gr Hne.out).cell b o rfl k (by have := Hm.out; omega)
      have h0 := HdM.out.at B64_pos k
      have h1 := H.dig.at B64_pos k
      have HS := H.step (M[k]?.getD 0) h0.1 h0.2 (by have := Hn.out; omega)
      rw [← val_take_succ B64 M k (by have := Hm.out; omega), ← Hoff.out] at HS
      have c0 := H.c0; have c1 := H.c1
      obtain ⟨x, hx⟩ : ∃ x, x = A1[k]?.getD 0 := ⟨_, rfl⟩
      obtain ⟨y, hy⟩ : ∃ y, y = M[k]?.getD 0 := ⟨_, rfl⟩
      rw [← hx, ← hy] at HS; rw [← hx] at hAk h1; rw [← hy] at hMk h0
      have H' := hid H; have HS' := hid HS; have Hx := hid hx; have Hy := hid hy
      clear H HS hx hy H0
      go_wp2_with (simp only [sub64 x y cc h1.1 h0.1 h0.2 c0 c1])
      go_roundw
      case rel => exact ⟨k + 1, _, _, by omega, by go_num, rfl, HS'.out⟩
      case measure => simp [intOf]; omega
    · obtain rfl : k = m := by omega
      have HT : SubI w wr g P A S k (val B64 M) A1 cc := by have := H; rwa [Hm.out, List.take_length, ← Hm.out] at this
      clear H H0
      go_wp2
      go_loopw [4, 7] (fun cv iv wr => ∃ j : Nat, ∃ A1 cc, k ≤ j ∧ j ≤ n ∧ iv = .int .i64 j ∧ cv = .int .u64 cc ∧ SubI w wr g P A S j (val B64 M) A1 cc) (fun _ iv _ => n - (intOf iv).toNat)
      case atStart => exact ⟨k, A1, cc, Nat.le_refl _, hmn, rfl, rfl, HT⟩
      case round =>
        obtain ⟨j, A1, cc, hkj, hjn, rfl, rfl, H⟩ := hrel
        have c0 := H.c0; have c1 := H.c1
        by_cases hz : cc = 0
        · subst hz
          have HD := H.done (.inl rfl)
          clear H HT
          go_wp2
          go_ret
          exact ⟨A1, 0, rfl, by rw [Hn.out]; exact HD⟩
        · obtain rfl : cc = 1 := by omega
          by_cases hlt : j < n
          · have hAk := H.row.cell (off + j) (by have := Hoff.out; have := Hn.out; have := H.len; simp; omega)
            have hfr := H.row.frozen (off + j)
            rw [Hoff.out, mid_get P A1 S j (by have := Hn.out; have := H.len; omega), ← Hoff.out] at hAk
            have h1 := H.dig.at B64_pos j
            have HS := H.step 0 (Int.le_refl 0) (by decide) (by have := Hn.out; omega)
            rw [← Hoff.out] at HS
            simp only [Int.sub_zero, Int.add_zero, Int.mul_zero] at HS
            obtain ⟨x, hx⟩ : ∃ x, x = A1[j]?.getD 0 := ⟨_, rfl⟩
            rw [← hx] at HS hAk h1
            have H' := hid H; have HS' := hid HS; have Hx := hid hx
            clear H HS hx HT
            have ha := sub64 x 0 1 h1.1 (Int.le_refl 0) (by decide) (by decide) (by decide)
            simp only [Int.sub_zero] at ha
            go_wp2_with (simp only [ha])
            go_roundw
            case rel => exact ⟨j + 1, _, _, by omega, by omega, by go_num, rfl, HS'.out⟩
            case measure => simp [intOf]; omega
          · have HD := H.done (.inr (by have := Hn.out; omega))
            clear H HT
            go_wp2
            go_ret
            exact ⟨A1, 1, rfl, by rw [Hn.out]; exact HD⟩

end Go.Proofs.Ytbmdjimfncgomaa

/- Naturals of the program: what a slice of limbs stands for. -/
namespace Go.Proofs.Ytbmdjimfncgomaa
open Go.RowKit

/-- The value v reads in w as the natural number n, in normal form, with K limbs at most. -/
structure NtL (w : World) (ao : Option Addr) (c : Nat) (L : List Int) (n : Int) (K : Nat) : Prop where
  rd : Rd w .u64 ao c L
  dig : Dig B64 L
  nrm : Nrm L
  eq : val B64 L = n
  le : L.length ≤ K
def Nt (w : World) (v : Value) (n : Int) (K : Nat) : Prop := ∃ ao c L, v = .slice ao L.length c ∧ NtL w ao c L n K
/-- The call hands back such a value, and has turned nothing that was there. -/
def RetN (w : World) (n : Int) (K : Nat) (e : Ending) (w' : World) : Prop := ∃ v, e = .returned v ∧ Nt w' v n K ∧ Below w.heap.size w w'

theorem NtL.nonneg {w : World} {ao : Option Addr} {c : Nat} {L : List Int} {n : Int} {K : Nat} (h : NtL w ao c L n K) : 0 ≤ n := by rw [← h.eq]; exact val_nonneg B64_pos h.dig
theorem Nt.nonneg {w : World} {v : Value} {n : Int} {K : Nat} (h : Nt w v n K) : 0 ≤ n := by obtain ⟨_, _, _, _, h⟩ := h; exact h.nonneg
theorem Nt.below {w w' : World} {v : Value} {n : Int} {K B : Nat} (h : Nt w v n K) (hb : Below B w w') (hB : w.heap.size ≤ B) : Nt w' v n K := by
  obtain ⟨ao, c, L, rfl, h⟩ := h
  exact ⟨ao, c, L, rfl, h.rd.below hb hB, h.dig, h.nrm, h.eq, h.le⟩
theorem Nt.mono {w : World} {v : Value} {n : Int} {K K' : Nat} (h : Nt w v n K) (hk : K ≤ K') : Nt w v n K' := by
  obtain ⟨ao, c, L, rfl, h⟩ := h
  exact ⟨ao, c, L, rfl, h.rd, h.dig, h.nrm, h.eq, Nat.le_trans h.le hk⟩
theorem Nt.nil (w : World) : Nt w (.slice none 0 0) 0 0 := ⟨none, 0, [], rfl, Rd.nil _ _, Dig.nil _, rfl, rfl, Nat.le_refl _⟩

/-- A row, trimmed, is a natural. -/
theorem nt_row {w : World} {g : Nat} {L : List Int} {c : Nat} {n : Int} {K : Nat} (h : Row .u64 105 w g L) (hd : Dig B64 L) (hv : val B64 L = n) (hc : L.length ≤ c) (hc' : c ≤ 9223372036854775807) (hK : L.length ≤ K) :
    Nt w (.slice (some ⟨g, 0, none⟩) (trimL L).length c) n K := by
  have h' : Row .u64 105 w g ([] ++ L ++ []) := by simpa using h
  have hr := h'.rd hc hc'
  refine ⟨_, c, trimL L, rfl, ?_, hd.trim, Nrm.trim L, by rw [val_trim]; exact hv, Nat.le_trans (trimL_len L) hK⟩
  rw [trimL_take L]; exact hr.take _
theorem row_rd {w : World} {g : Nat} {L : List Int} {c : Nat} (h : Row .u64 105 w g L) (hc : L.length ≤ c) (hc' : c ≤ 9223372036854775807) : Rd w .u64 (some ⟨g, 0, none⟩) c L := by
  have h' : Row .u64 105 w g ([] ++ L ++ []) := by simpa using h
  exact h'.rd hc hc'

theorem val_replicate (B : Int) (n : Nat) : val B (List.replicate n 0) = 0 := by
  induction n with
  | zero => rfl
  | succ n ih => simp [List.replicate_succ, val, ih]
theorem Dig.replicate {B : Int} (hB : 0 < B) (n : Nat) : Dig B (List.replicate n 0) := fun x hx => by rw [(List.mem_replicate.1 hx).2]; exact ⟨Int.le_refl 0, hB⟩

theorem Try.info105 : (Try.prog.info? 105).map (fun i => (i.zero, i.size, i.bytes)) = some (some (.int .u64 0), 1, 8) := by kernel_rfl
theorem Try.size105 : (Try.prog.info? 105).map (·.size) = some 1 := by kernel_rfl

/-- A copy into a row of zeros, and a sum with it: no carry is left. -/
theorem add_done {w wr : World} {g : Nat} {LA LB A1 : List Int} {cc : Int} (hdA : Dig B64 LA) (hdB : Dig B64 LB) (hle : LB.length ≤ LA.length)
    (h : AddI w wr g [] (LA ++ [0]) [] (LA ++ [0]).length (val B64 LB) A1 cc) : Row .u64 105 wr g A1 ∧ Dig B64 A1 ∧ val B64 A1 = val B64 LA + val B64 LB ∧ A1.length = LA.length + 1 := by
  have hl : A1.length = LA.length + 1 := by rw [h.len]; simp
  have e := h.eq
  rw [val_snoc] at e
  have h1 := val_lt B64_pos hdA
  have h2 := val_lt B64_pos hdB
  have h3 : B64 ^ LB.length ≤ B64 ^ LA.length := pow_mono B64_pos hle
  have h4 := val_nonneg B64_pos h.dig
  have hp : 0 < B64 ^ LA.length := Int.pow_pos B64_pos
  have hcc : cc = 0 := by
    rcases (show cc = 0 ∨ cc = 1 by have := h.c0; have := h.c1; omega) with h | h
    · exact h
    · subst h
      have : B64 ^ (LA ++ [(0 : Int)]).length = B64 ^ LA.length * B64 := by rw [List.length_append, Int.pow_add]; simp [Int.pow_succ]
      rw [this] at e
      have : B64 ^ LA.length * 2 ≤ B64 ^ LA.length * B64 := Int.mul_le_mul_of_nonneg_left (by decide) (Int.le_of_lt hp)
      omega
  subst hcc
  refine ⟨by simpa using h.row, h.dig, by simpa using e, hl⟩

end Go.Proofs.Ytbmdjimfncgomaa

/- exact.compare. -/
namespace Go.Proofs.Ytbmdjimfncgomaa
open Go.RowKit

theorem val_take_drop (B : Int) (l : List Int) (k : Nat) (hk : k ≤ l.length) : val B l = val B (l.take k) + B ^ k * val B (l.drop k) := by
  have h := val_append B (l.take k) (l.drop k)
  rw [List.take_append_drop, List.length_take, Nat.min_eq_left hk] at h
  exact h

/-- The highest digit that differs decides. -/
theorem cmp_top {B : Int} (hB : 0 < B) {l m : List Int} {k : Nat} (hl : Dig B l) (hm : Dig B m) (hkl : k < l.length) (hkm : k < m.length) (he : l.drop (k + 1) = m.drop (k + 1)) (hne : l[k]?.getD 0 ≠ m[k]?.getD 0) :
    cmpI (val B l) (val B m) = cmpI (l[k]?.getD 0) (m[k]?.getD 0) := by
  rw [val_take_drop B l (k + 1) hkl, val_take_drop B m (k + 1) hkm, he, take_succ_getD l k hkl, take_succ_getD m k hkm, val_snoc, val_snoc, List.length_take, List.length_take, Nat.min_eq_left (Nat.le_of_lt hkl), Nat.min_eq_left (Nat.le_of_lt hkm)]
  have h1 := val_lt hB (hl.take k); have h2 := val_lt hB (hm.take k)
  have h3 := val_nonneg hB (hl.take k); have h4 := val_nonneg hB (hm.take k)
  rw [List.length_take, Nat.min_eq_left (Nat.le_of_lt hkl)] at h1
  rw [List.length_take, Nat.min_eq_left (Nat.le_of_lt hkm)] at h2
  have hp : 0 < B ^ k := Int.pow_pos hB
  generalize l[k]?.getD 0 = x at *
  generalize m[k]?.getD 0 = y at *
  generalize B ^ k = p at *
  rcases Int.lt_trichotomy x y with h | h | h
  · have := Int.mul_le_mul_of_nonneg_left (show x + 1 ≤ y by omega) (Int.le_of_lt hp)
    rw [Int.mul_add] at this
    rw [cmpI_lt h, cmpI_lt (by omega)]
  · exact absurd h hne
  · have := Int.mul_le_mul_of_nonneg_left (show y + 1 ≤ x by omega) (Int.le_of_lt hp)
    rw [Int.mul_add] at this
    rw [cmpI_gt h, cmpI_gt (by omega)]

theorem cmp_len {B : Int} (hB : 0 < B) {l m : List Int} (hl : Dig B l) (hm : Dig B m) (nl : Nrm l) (nm : Nrm m) (hne : l.length ≠ m.length) : cmpI (val B l) (val B m) = cmpI l.length m.length := by
  rcases Nat.lt_or_gt_of_ne hne with h | h
  · have h1 := val_lt hB hl
    have h2 := Nrm.low hB hm nm (by omega)
    have h3 := pow_mono hB (show l.length ≤ m.length - 1 by omega)
    rw [cmpI_lt (by omega), cmpI_lt (by omega)]
  · have h1 := val_lt hB hm
    have h2 := Nrm.low hB hl nl (by omega)
    have h3 := pow_mono hB (show m.length ≤ l.length - 1 by omega)
    rw [cmpI_gt (by omega), cmpI_gt (by omega)]

theorem drop_step (l m : List Int) (k : Nat) (hl : k < l.length) (hm : k < m.length) (he : l.drop (k + 1) = m.drop (k + 1)) (h : l[k]?.getD 0 = m[k]?.getD 0) : l.drop k = m.drop k := by
  rw [List.drop_eq_getElem_cons hl, List.drop_eq_getElem_cons hm, he]
  have e1 : l[k]?.getD 0 = l[k] := by simp [hl]
  have e2 : m[k]?.getD 0 = m[k] := by simp [hm]
  rw [← e1, ← e2, h]

set_option maxRecDepth 100000 in
set_option maxHeartbeats 1000000 in
theorem compare_any (va vb : Value) (a b : Int) (Ka Kb : Nat) (w : World) (hA : Nt w va a Ka) (hB : Nt w vb b Kb) :
    Calls Try.prog 66 #[va, vb] w fun e w' => ∃ nq, e = .returned (.int .i64 (cmpI a b)) ∧ w' = w.drewN nq := by
  obtain ⟨ao, ca, LA, rfl, hA⟩ := hA
  obtain ⟨bo, cb, LB, rfl, hB⟩ := hB
  obtain ⟨n, hn⟩ : ∃ n, n = LA.length := ⟨_, rfl⟩
  obtain ⟨m, hm⟩ : ∃ m, m = LB.length := ⟨_, rfl⟩
  have hn63 : n ≤ 9223372036854775807 := by have := hA.rd.cap; have := hA.rd.most; omega
  have hm63 : m ≤ 9223372036854775807 := by have := hB.rd.cap; have := hB.rd.most; omega
  have hcmp : n ≠ m → cmpI a b = cmpI n m := fun h => by rw [← hA.eq, ← hB.eq, hn, hm]; exact cmp_len B64_pos hA.dig hB.dig hA.nrm hB.nrm (by omega)
  rw [← hn, ← hm]
  have HA := hid hA; have HB := hid hB; have Hn := hid hn; have Hm := hid hm; have Hcmp := hid hcmp
  clear hA hB hn hm hcmp
  by_cases hne : n = m
  · subst hne
    go_enter Try.func66, Try.ntmps66
    go_wp2
    go_loopw [5] (fun iv wr => ∃ k : Nat, ∃ nq, k ≤ n ∧ iv = .int .i64 ((k : Int) - 1) ∧ Hid (LA.drop k = LB.drop k) ∧ Hid (wr = w.drewN nq)) (fun iv _ => (intOf iv + 1).toNat)
    case atStart => exact ⟨n, 0, Nat.le_refl _, rfl, hid (by rw [List.drop_of_length_le (by have := Hn.out; omega), List.drop_of_length_le (by have := Hm.out; omega)]), hid rfl⟩
    case round =>
      obtain ⟨k, nq, hk, rfl, HD, HW⟩ := hrel
      cases k with
      | zero =>
        have hab : a = b := by
          have h := HD.out
          simp only [List.drop_zero] at h
          rw [← HA.out.eq, ← HB.out.eq, h]
        have he : cmpI a b = 0 := by rw [hab]; exact cmpI_self b
        have HE := hid he; clear he hab
        go_wp2
        go_ret
        exact ⟨nq, by rw [HE.out]; rfl, HW.out⟩
      | succ k =>
        have hkn : k < n := by omega
        obtain ⟨b1, o1, rfl⟩ := HA.out.rd.adr (by have := Hn.out; omega)
        obtain ⟨b2, o2, rfl⟩ := HB.out.rd.adr (by have := Hm.out; omega)
        have h1 : wr.cell? ⟨b1, o1 + k, none⟩ = some (.int .u64 (LA[k]?.getD 0)) := by rw [HW.out, cell_drewN]; exact HA.out.rd.cell b1 o1 rfl k (by have := Hn.out; omega)
        have h2 : wr.cell? ⟨b2, o2 + k, none⟩ = some (.int .u64 (LB[k]?.getD 0)) := by rw [HW.out, cell_drewN]; exact HB.out.rd.cell b2 o2 rfl k (by have := Hm.out; omega)
        have d1 := HA.out.dig.at B64_pos k
        have d2 := HB.out.dig.at B64_pos k
        obtain ⟨x, hx⟩ : ∃ x, x = LA[k]?.getD 0 := ⟨_, rfl⟩
        obtain ⟨y, hy⟩ : ∃ y, y = LB[k]?.getD 0 := ⟨_, rfl⟩
        rw [← hx] at h1 d1; rw [← hy] at h2 d2
        have hk0 : (0 : Int) ≤ (k : Int) := by omega
        have hk1 : (k : Int) < (n : Int) := by omega
        by_cases hxy : x = y
        · have hd := drop_step LA LB k (by have := Hn.out; omega) (by have := Hm.out; omega) HD.out (by rw [← hx, ← hy, hxy])
          have HD' := hid hd
          subst hxy
          clear hd hx hy HD
          go_wp2
          go_quiet (fail)
          go_wp2
          go_roundw
          case rel => exact ⟨k, _, by omega, by go_num, HD', hid (by rw [HW.out, World.drewN_drewN])⟩
          case measure => simp [intOf]
        · have hc := cmp_top B64_pos HA.out.dig HB.out.dig (show k < LA.length by have := Hn.out; omega) (show k < LB.length by have := Hm.out; omega) HD.out (by rw [← hx, ← hy]; exact hxy)
          rw [HA.out.eq, HB.out.eq, ← hx, ← hy] at hc
          have HC := hid hc
          clear hc hx hy HD
          have hb : ((x : Int) != y) = true := by rw [bne_iff_ne]; exact hxy
          go_wp2
          go_quiet (fail)
          go_wp2
          go_quiet ((go_at_call 93; exact quietMore (cmpU64' _ _ _)))
          go_wp2
          go_ret
          exact ⟨_, by rw [HC.out]; rfl, by rw [HW.out, World.drewN_drewN, World.drewN_drewN]⟩
  · have HC := hid (Hcmp.out hne)
    have hb : ((n : Int) != (m : Int)) = true := by rw [bne_iff_ne]; omega
    go_enter Try.func66, Try.ntmps66
    go_wp2_with (go_at_call 92; refine (cmpInt _ _ _).mono ?_; rintro e w' ⟨rfl, rfl⟩)
    go_ret
    exact ⟨0, by rw [HC.out]; rfl, rfl⟩

end Go.Proofs.Ytbmdjimfncgomaa

/- The document's own integers: cut, digit, order. Digits to the base 65536, the lowest first. -/
namespace Go.Proofs.Ytbmdjimfncgomaa
open Go.RowKit

def R16 : Int := 65536
theorem R16_pos : 0 < R16 := by decide

set_option maxHeartbeats 400000 in
theorem cut_any (ao : Option Addr) (c : Nat) (L : List Int) (w : World) (h : Rd w .i64 ao c L) :
    Calls Try.prog 78 #[.slice ao L.length c] w fun e w' => e = .returned (.slice ao (trimL L).length c) ∧ w' = w := by
  obtain ⟨n, hn⟩ : ∃ n, n = L.length := ⟨_, rfl⟩
  have hc := h.cap; have hm := h.most
  rw [← hn] at hc ⊢
  have Hn := hid hn; clear hn
  go_enter Try.func78, Try.ntmps78
  go_wp2
  go_loop [3] (fun v => ∃ m : Nat, m ≤ n ∧ v = .int .i64 m ∧ Hid (trimL (L.take m) = trimL L)) (fun v => (intOf v).toNat)
  case atStart => exact ⟨n, Nat.le_refl _, rfl, hid (by rw [Hn.out, List.take_length])⟩
  case round =>
    obtain ⟨m, hmn, rfl, HT⟩ := hrel
    cases m with
    | zero =>
      go_wp2
      go_ret
      exact ⟨by rw [trimL_stop L HT.out]; rfl, rfl⟩
    | succ m =>
      obtain ⟨b, off, rfl⟩ := h.adr (by have := Hn.out; omega)
      have hcell := h.cell b off rfl m (by have := Hn.out; omega)
      by_cases hz : L[m]?.getD 0 = 0
      · have HZ := hid hz
        rw [hz] at hcell
        clear hz
        go_wp2
        go_round
        case rel => exact ⟨m, by omega, by go_num, hid (trimL_step0 L m (by have := Hn.out; omega) HT.out HZ.out)⟩
        case measure => simp [intOf]
      · have HZ := hid hz
        go_wp2
        go_ret
        exact ⟨by rw [trimL_step1 L m (by have := Hn.out; omega) HT.out HZ.out]; rfl, rfl⟩

theorem digit_any (ao : Option Addr) (c i : Nat) (L : List Int) (w : World) (h : Rd w .i64 ao c L) (hi : i ≤ 9223372036854775807) :
    Calls Try.prog 55 #[.slice ao L.length c, .int .i64 (i : Int)] w fun e w' => e = .returned (.int .i64 (L[i]?.getD 0)) ∧ w' = w := by
  obtain ⟨n, hn⟩ : ∃ n, n = L.length := ⟨_, rfl⟩
  have hc := h.cap; have hm := h.most
  rw [← hn] at hc ⊢
  by_cases hlt : i < n
  · obtain ⟨b, off, rfl⟩ := h.adr (by omega)
    have hcell := h.cell b off rfl i (by omega)
    clear h hn
    go_enter Try.func55, Try.ntmps55
    go_wp2
    go_ret
    exact ⟨rfl, rfl⟩
  · have e : L[i]?.getD 0 = 0 := by simp [show L.length ≤ i by omega]
    rw [e]
    have hge : ¬ (i : Int) < (n : Int) := by omega
    clear h hn e
    go_enter Try.func55, Try.ntmps55
    go_wp2
    go_ret
    exact ⟨rfl, rfl⟩

/-- A list with zeros behind it, up to a length. -/
def pad (L : List Int) (N : Nat) : List Int := L ++ List.replicate (N - L.length) 0
theorem pad_len {L : List Int} {N : Nat} (h : L.length ≤ N) : (pad L N).length = N := by unfold pad; simp; omega
theorem pad_get (L : List Int) (N i : Nat) : (pad L N)[i]?.getD 0 = L[i]?.getD 0 := by
  unfold pad
  by_cases h : i < L.length
  · rw [List.getElem?_append_left h]
  · rw [List.getElem?_append_right (by omega)]
    have e : L[i]?.getD 0 = 0 := by simp [Nat.le_of_not_lt h]
    rw [e]
    by_cases h2 : i - L.length < N - L.length
    · simp [h2]
    · simp [h2]
theorem val_rep0 (B : Int) (n : Nat) : val B (List.replicate n 0) = 0 := by
  induction n with
  | zero => rfl
  | succ n ih => simp [List.replicate_succ, val, ih]
theorem pad_val (B : Int) (L : List Int) (N : Nat) : val B (pad L N) = val B L := by unfold pad; rw [val_append, val_rep0]; simp
theorem pad_dig {B : Int} (hB : 0 < B) {L : List Int} (h : Dig B L) (N : Nat) : Dig B (pad L N) := h.append (fun x hx => by rw [(List.mem_replicate.1 hx).2]; exact ⟨Int.le_refl 0, hB⟩)

set_option maxRecDepth 100000 in
set_option maxHeartbeats 1000000 in
theorem order_any (ao bo : Option Addr) (ca cb : Nat) (L M : List Int) (w : World) (hL : Rd w .i64 ao ca L) (hM : Rd w .i64 bo cb M) (dL : Dig R16 L) (dM : Dig R16 M) :
    Calls Try.prog 53 #[.slice ao L.length ca, .slice bo M.length cb] w fun e w' => e = .returned (.int .i64 (cmpI (val R16 L) (val R16 M))) ∧ w' = w := by
  obtain ⟨n, hn⟩ : ∃ n, n = L.length := ⟨_, rfl⟩
  obtain ⟨m, hm⟩ : ∃ m, m = M.length := ⟨_, rfl⟩
  obtain ⟨N, hN⟩ : ∃ N, N = max n m := ⟨_, rfl⟩
  have hnN : n ≤ N := by omega
  have hmN : m ≤ N := by omega
  have hN62 : N ≤ 9223372036854775807 := by have := hL.cap; have := hL.most; have := hM.cap; have := hM.most; omega
  have hNi : max (n : Int) (m : Int) = (N : Int) := by omega
  have hdl := fun (i : Nat) (hi : i ≤ 9223372036854775807) => digit_any ao ca i L w hL hi
  have hdm := fun (i : Nat) (hi : i ≤ 9223372036854775807) => digit_any bo cb i M w hM hi
  have lP := pad_len (L := L) (N := N) (by omega)
  have lQ := pad_len (L := M) (N := N) (by omega)
  rw [← hn] at hdl ⊢; rw [← hm] at hdm ⊢
  have HDl := hid hdl; have HDm := hid hdm; have HP := hid lP; have HQ := hid lQ; have DL := hid dL; have DM := hid dM
  clear hdl hdm lP lQ hL hM dL dM hn hm hNi
  go_enter Try.func53, Try.ntmps53
  go_wp2
  all_goals
    go_loop [5] (fun iv => ∃ k : Nat, k ≤ N ∧ iv = .int .i64 ((k : Int) - 1) ∧ Hid ((pad L N).drop k = (pad M N).drop k)) (fun iv => (intOf iv + 1).toNat)
    case atStart => exact ⟨N, Nat.le_refl _, by congr 1; omega, hid (by rw [List.drop_of_length_le (by rw [HP.out]; exact Nat.le_refl _), List.drop_of_length_le (by rw [HQ.out]; exact Nat.le_refl _)])⟩
    case round =>
      obtain ⟨k, hk, rfl, HD⟩ := hrel
      cases k with
      | zero =>
        have he : cmpI (val R16 L) (val R16 M) = 0 := by
          have h := HD.out
          simp only [List.drop_zero] at h
          rw [← pad_val R16 L N, ← pad_val R16 M N, h]; exact cmpI_self _
        have HE := hid he; clear he
        go_wp2
        go_ret
        exact ⟨by rw [HE.out]; rfl, rfl⟩
      | succ k =>
        have hk0 : (0 : Int) ≤ (k : Int) := by omega
        have h1 := HDl.out k (by omega); have h2 := HDm.out k (by omega)
        have hst := fun h => drop_step (pad L N) (pad M N) k (by have := HP.out; omega) (by have := HQ.out; omega) HD.out h
        have htp := fun h => cmp_top R16_pos (pad_dig R16_pos DL.out N) (pad_dig R16_pos DM.out N) (show k < (pad L N).length by have := HP.out; omega) (show k < (pad M N).length by have := HQ.out; omega) HD.out h
        simp only [pad_get, pad_val] at hst htp
        obtain ⟨x, hx⟩ : ∃ x, x = L[k]?.getD 0 := ⟨_, rfl⟩
        obtain ⟨y, hy⟩ : ∃ y, y = M[k]?.getD 0 := ⟨_, rfl⟩
        rw [← hx] at h1 hst htp; rw [← hy] at h2 hst htp
        have H1 := hid h1; have H2 := hid h2; have HSt := hid hst; have HTp := hid htp
        clear h1 h2 hst htp hx hy HD
        go_wp2_with fail
        refine H1.out.mono ?_
        rintro e w1 ⟨rfl, rfl⟩
        go_wp2_with fail
        refine H2.out.mono ?_
        rintro e w2 ⟨rfl, rfl⟩
        rcases Int.lt_trichotomy x y with hxy | hxy | hxy
        · have HC := hid ((HTp.out (by omega)).trans (cmpI_lt hxy))
          go_wp2
          go_ret
          exact ⟨by rw [HC.out]; rfl, rfl⟩
        · subst hxy
          have HD' := hid (HSt.out rfl)
          go_wp2
          go_round
          case rel => exact ⟨k, by omega, by go_num, HD'⟩
          case measure => simp [intOf]
        · have HC := hid ((HTp.out (by omega)).trans (cmpI_gt hxy))
          have hnl : ¬ x < y := by omega
          go_wp2
          go_ret
          exact ⟨by rw [HC.out]; rfl, rfl⟩

end Go.Proofs.Ytbmdjimfncgomaa

/- The document's own integers: few, even, value. -/
namespace Go.Proofs.Ytbmdjimfncgomaa
open Go.RowKit

theorem few_any (ao : Option Addr) (c n : Nat) (w : World) : Calls Try.prog 56 #[.slice ao n c] w fun e w' => e = .returned (.bool (decide (n ≤ 3))) ∧ w' = w := by
  have e : decide ((n : Int) ≤ 3) = decide (n ≤ 3) := by by_cases h : n ≤ 3 <;> simp [h] <;> omega
  rw [← e]
  clear e
  go_enter Try.func56, Try.ntmps56
  go_wp2
  go_ret
  exact ⟨rfl, rfl⟩

theorem val_mod2 (L : List Int) : val R16 L % 2 = L[0]?.getD 0 % 2 := by
  cases L with
  | nil => rfl
  | cons x l => simp only [val, R16]; simp; omega

theorem even_any (ao : Option Addr) (c : Nat) (L : List Int) (w : World) (h : Rd w .i64 ao c L) (hd : Dig R16 L) :
    Calls Try.prog 58 #[.slice ao L.length c] w fun e w' => e = .returned (.bool (decide (val R16 L % 2 = 0))) ∧ w' = w := by
  have hdg := digit_any ao c 0 L w h (by decide)
  have h0 := (hd.at R16_pos 0).1
  rw [val_mod2]
  obtain ⟨x, hx⟩ : ∃ x, x = L[0]?.getD 0 := ⟨_, rfl⟩
  obtain ⟨n, hn⟩ : ∃ n, n = L.length := ⟨_, rfl⟩
  rw [← hx] at hdg h0 ⊢
  rw [← hn] at hdg ⊢
  have ht : x.tmod 2 = x % 2 := Int.tmod_eq_emod_of_nonneg h0
  have HD := hid hdg
  clear hdg h hd hx hn
  go_enter Try.func58, Try.ntmps58
  go_wp2_with (go_at_call 55; refine HD.out.mono ?_; rintro e w1 ⟨rfl, rfl⟩)
  go_ret
  refine ⟨?_, rfl⟩
  first | rfl | (by_cases hz : x % 2 = 0 <;> simp [hz, beq_iff_eq])

theorem value_small {L : List Int} (hd : Dig R16 L) (hl : L.length ≤ 3) : 0 ≤ val R16 L ∧ val R16 L < 281474976710656 := by
  have h := val_lt R16_pos hd
  have h2 := pow_mono R16_pos hl
  have e : R16 ^ 3 = 281474976710656 := by decide
  exact ⟨val_nonneg R16_pos hd, by omega⟩

theorem val_drop (B : Int) (L : List Int) (k : Nat) (hk : k < L.length) : val B (L.drop k) = L[k]?.getD 0 + B * val B (L.drop (k + 1)) := by
  rw [List.drop_eq_getElem_cons hk]; simp [val, hk]

set_option maxRecDepth 100000 in
set_option maxHeartbeats 1000000 in
theorem rvalue_any (ao : Option Addr) (c : Nat) (L : List Int) (w : World) (h : Rd w .i64 ao c L) (hd : Dig R16 L) (hl : L.length ≤ 3) :
    Calls Try.prog 90 #[.slice ao L.length c] w fun e w' => e = .returned (.int .u64 (val R16 L)) ∧ w' = w := by
  obtain ⟨n, hn⟩ : ∃ n, n = L.length := ⟨_, rfl⟩
  have hc := h.cap; have hm := h.most
  rw [← hn] at hc hl ⊢
  have Hn := hid hn; have HD := hid hd; have HL := hid h
  clear hn hd h
  go_enter Try.func90, Try.ntmps90
  go_wp2
  go_loop [3, 4] (fun vv iv => ∃ k : Nat, k ≤ n ∧ iv = .int .i64 ((k : Int) - 1) ∧ vv = .int .u64 (val R16 (L.drop k))) (fun _ iv => (intOf iv + 1).toNat)
  case atStart => exact ⟨n, Nat.le_refl _, rfl, by rw [List.drop_of_length_le (by have := Hn.out; omega)]; rfl⟩
  case round =>
    obtain ⟨k, hk, rfl, rfl⟩ := hrel
    cases k with
    | zero =>
      rw [List.drop_zero]
      go_wp2
      go_ret
      exact ⟨rfl, rfl⟩
    | succ k =>
      obtain ⟨b, off, rfl⟩ := HL.out.adr (by have := Hn.out; omega)
      have hcell := HL.out.cell b off rfl k (by have := Hn.out; omega)
      have hx := HD.out.at R16_pos k
      have hv := value_small (HD.out.drop (k + 1)) (by rw [List.length_drop]; have := Hn.out; omega)
      have hv2 := value_small (HD.out.drop k) (by rw [List.length_drop]; have := Hn.out; omega)
      have hvd := val_drop R16 L k (by have := Hn.out; omega)
      obtain ⟨x, hxe⟩ : ∃ x, x = L[k]?.getD 0 := ⟨_, rfl⟩
      obtain ⟨t, ht⟩ : ∃ t, t = val R16 (L.drop (k + 1)) := ⟨_, rfl⟩
      rw [← hxe] at hcell hx hvd
      rw [← ht] at hv hvd ⊢
      have hs : t * 65536 + x = val R16 (L.drop k) := by rw [hvd]; unfold R16; omega
      rw [← hs] at hv2
      have hx0 := hx.1; have hx1 : x < 65536 := hx.2
      have ht0 := hv.1; have ht1 := hv.2; have hv20 := hv2.1; have hv21 := hv2.2
      have Hs := hid hs
      have hk0 : (0 : Int) ≤ (k : Int) := by omega
      clear hx hxe ht hvd hs hv hv2
      go_wp2
      go_round
      case rel => exact ⟨k, by omega, by go_num, by rw [← Hs.out]⟩
      case measure => simp [intOf]

end Go.Proofs.Ytbmdjimfncgomaa

/- The document's own integers: naturals as digits; half. -/
namespace Go.Proofs.Ytbmdjimfncgomaa
open Go.RowKit

/-- The value v reads in w as the natural number n: digits to the base 65536, in normal form, K at most. -/
structure MdL (w : World) (ao : Option Addr) (c : Nat) (L : List Int) (n : Int) (K : Nat) : Prop where
  rd : Rd w .i64 ao c L
  dig : Dig R16 L
  nrm : Nrm L
  eq : val R16 L = n
  le : L.length ≤ K
def Md (w : World) (v : Value) (n : Int) (K : Nat) : Prop := ∃ ao c L, v = .slice ao L.length c ∧ MdL w ao c L n K
def RetM (w : World) (n : Int) (K : Nat) (e : Ending) (w' : World) : Prop := ∃ v, e = .returned v ∧ Md w' v n K ∧ Below w.heap.size w w'

theorem Md.nonneg {w : World} {v : Value} {n : Int} {K : Nat} (h : Md w v n K) : 0 ≤ n := by obtain ⟨_, _, _, _, h⟩ := h; rw [← h.eq]; exact val_nonneg R16_pos h.dig
theorem Md.below {w w' : World} {v : Value} {n : Int} {K B : Nat} (h : Md w v n K) (hb : Below B w w') (hB : w.heap.size ≤ B) : Md w' v n K := by
  obtain ⟨ao, c, L, rfl, h⟩ := h
  exact ⟨ao, c, L, rfl, h.rd.below hb hB, h.dig, h.nrm, h.eq, h.le⟩
theorem Md.mono {w : World} {v : Value} {n : Int} {K K' : Nat} (h : Md w v n K) (hk : K ≤ K') : Md w v n K' := by
  obtain ⟨ao, c, L, rfl, h⟩ := h
  exact ⟨ao, c, L, rfl, h.rd, h.dig, h.nrm, h.eq, Nat.le_trans h.le hk⟩
theorem Md.nil (w : World) : Md w (.slice none 0 0) 0 0 := ⟨none, 0, [], rfl, Rd.nil _ _, Dig.nil _, rfl, rfl, Nat.le_refl _⟩

theorem rowi_rd {w : World} {g : Nat} {L : List Int} {c : Nat} (h : Row .i64 3 w g L) (hc : L.length ≤ c) (hc' : c ≤ 9223372036854775807) : Rd w .i64 (some ⟨g, 0, none⟩) c L := by
  have h' : Row .i64 3 w g ([] ++ L ++ []) := by simpa using h
  exact h'.rd hc hc'
theorem md_row {w : World} {g : Nat} {L : List Int} {c : Nat} {n : Int} {K : Nat} (h : Row .i64 3 w g L) (hd : Dig R16 L) (hv : val R16 L = n) (hc : L.length ≤ c) (hc' : c ≤ 9223372036854775807) (hK : L.length ≤ K) :
    Md w (.slice (some ⟨g, 0, none⟩) (trimL L).length c) n K := by
  refine ⟨_, c, trimL L, rfl, ?_, hd.trim, Nrm.trim L, by rw [val_trim]; exact hv, Nat.le_trans (trimL_len L) hK⟩
  rw [trimL_take L]; exact (rowi_rd h hc hc').take _

theorem Try.info3 : (Try.prog.info? 3).map (fun i => (i.zero, i.size, i.bytes)) = some (some (.int .i64 0), 1, 8) := by kernel_rfl

/-- Behind the digits from j on, divided by x. -/
structure DivR (w wr : World) (g : Nat) (LA : List Int) (x : Int) (j : Nat) (QT : List Int) (r : Int) : Prop where
  row : Row .i64 3 wr g (List.replicate j 0 ++ QT)
  gr : w.grownBy wr (some g)
  len : j + QT.length = LA.length
  dig : Dig R16 QT
  r0 : 0 ≤ r
  r1 : r < x
  eq : val R16 (LA.drop j) = val R16 QT * x + r

theorem DivR.step {w wr : World} {g : Nat} {LA QT : List Int} {x r : Int} {j : Nat} (h : DivR w wr g LA x (j + 1) QT r) (hx : 0 < x) (a : Int) (ha : a = LA[j]?.getD 0) (a0 : 0 ≤ a) (a1 : a < R16) :
    DivR w (wr.setCell ⟨g, j, none⟩ (.int .i64 ((r * 65536 + a) / x))) g LA x j ((r * 65536 + a) / x :: QT) ((r * 65536 + a) % x) ∧ 0 ≤ r * 65536 + a ∧ (r * 65536 + a) / x < 65536 := by
  have hj : j < LA.length := by have := h.len; omega
  have r0 := h.r0; have r1 := h.r1
  have hn0 : 0 ≤ r * 65536 + a := by omega
  have hn1 : r * 65536 + a < 65536 * x := by unfold R16 at a1; omega
  have q0 : 0 ≤ (r * 65536 + a) / x := Int.ediv_nonneg hn0 (Int.le_of_lt hx)
  have q1 : (r * 65536 + a) / x < 65536 := Int.ediv_lt_of_lt_mul hx hn1
  have hs := h.row.set j ((r * 65536 + a) / x)
  rw [List.replicate_succ', List.append_assoc, List.set_append_right _ _ (by simp), List.length_replicate, Nat.sub_self] at hs
  refine ⟨⟨hs, grown_trans h.gr (grown_set _ _ _ _), by have := h.len; simp; omega, Dig.cons q0 q1 h.dig, Int.emod_nonneg _ (by omega), Int.emod_lt_of_pos _ hx, ?_⟩, hn0, q1⟩
  have e := Int.emod_add_mul_ediv (r * 65536 + a) x
  rw [val_drop R16 LA j hj, ← ha, h.eq]
  simp only [val]
  generalize (r * 65536 + a) / x = q at *
  generalize (r * 65536 + a) % x = m at *
  generalize val R16 QT = t at *
  unfold R16
  grind

set_option maxRecDepth 100000 in
set_option maxHeartbeats 2000000 in
theorem half_any (va : Value) (a : Int) (K : Nat) (w : World) (hA : Md w va a K) (hK : K ≤ 1073741824) :
    Calls Try.prog 59 #[va] w (RetM w (a / 2) K) := by
  obtain ⟨ao, ca, LA, rfl, hA⟩ := hA
  obtain ⟨n, hn⟩ : ∃ n, n = LA.length := ⟨_, rfl⟩
  have hn30 : n ≤ 1073741824 := by have := hA.le; omega
  rw [← hn]
  have HA := hid hA; have Hn := hid hn
  clear hA hn
  obtain ⟨i0, hi, hz0, hz1, hz2⟩ := info_parts Try.info3
  go_enter Try.func59, Try.ntmps59
  go_wp2_with (at_make; refine wpList_make_row w rfl _ _ 26 rfl 3 i0 .i64 Try.underlying26 hi hz0 hz1 .i64 .i64 _ _ n rfl rfl rfl rfl (by rw [hz2]; omega) (by unfold maxLen; omega) ?_)
  intro w1 hrow hg1
  have hb1 := grown_below hg1
  have H0 : DivR w w1 w.heap.size LA 2 n [] 0 := ⟨by simpa using hrow, grown_any hg1, by simpa using Hn.out, Dig.nil _, Int.le_refl 0, by decide, by rw [List.drop_of_length_le (by have := Hn.out; omega)]; simp [val]⟩
  have HG1 := hid (HA.out.rd.ne (Nat.le_refl w.heap.size))
  clear hrow hg1
  go_wp2
  go_loopw [4, 5] (fun rv iv wr => ∃ j : Nat, ∃ QT r, j ≤ n ∧ iv = .int .i64 ((j : Int) - 1) ∧ rv = .int .i64 r ∧ DivR w wr w.heap.size LA 2 j QT r ∧ Below w.heap.size w wr) (fun _ iv _ => (intOf iv + 1).toNat)
  case atStart => exact ⟨n, [], 0, Nat.le_refl _, rfl, rfl, H0, hb1⟩
  case round =>
    obtain ⟨j, QT, r, hj, rfl, rfl, H, hb⟩ := hrel
    cases j with
    | zero =>
      have hr : Row .i64 3 wr w.heap.size QT := by have := H.row; simpa using this
      have hl : QT.length = n := by have := H.len; have := Hn.out; omega
      have he := H.eq
      rw [List.drop_zero, HA.out.eq] at he
      have hq : val R16 QT = a / 2 := by have := H.r0; have := H.r1; omega
      have ht := cut_any (some ⟨w.heap.size, 0, none⟩) n QT wr (rowi_rd hr (by omega) (by omega))
      have hres := md_row (c := n) (K := K) hr H.dig hq (by omega) (by omega) (by have := HA.out.le; have := Hn.out; omega)
      rw [hl] at ht
      have HT := hid ht; have Hres := hid hres
      clear ht hres hr hl he hq H H0 hb1
      go_wp2_with (go_at_call 78; refine HT.out.mono ?_; rintro e w2 ⟨rfl, rfl⟩)
      go_ret
      exact ⟨_, rfl, Hres.out, hb⟩
    | succ j =>
      have hjn : j < n := by omega
      obtain ⟨b, o, rfl⟩ := HA.out.rd.adr (by have := Hn.out; omega)
      have hc := (HA.out.rd.keptNew H.gr HG1.out).cell b o rfl j (by have := Hn.out; omega)
      have hd := HA.out.dig.at R16_pos j
      obtain ⟨y, hy⟩ : ∃ y, y = LA[j]?.getD 0 := ⟨_, rfl⟩
      rw [← hy] at hc hd
      obtain ⟨hS, hn0, hq1⟩ := H.step (by decide) y hy hd.1 hd.2
      have hq := H.row.cell j (by have := H.len; simp; omega)
      have hf := H.row.frozen j
      obtain ⟨u, hu⟩ : ∃ u, u = ((List.replicate (j + 1) 0 ++ QT)[j]?.getD 0 : Int) := ⟨_, rfl⟩
      rw [← hu] at hq
      have hr0 := H.r0; have hr1 := H.r1
      have hy0 := hd.1; have hy1 : y < 65536 := hd.2
      have hk0 : (0 : Int) ≤ (j : Int) := by omega
      have HS := hid hS
      clear hS H H0 hb1 hd hy hu
      go_wp2
      go_roundw
      case rel => exact ⟨j, _, _, by omega, by go_num, rfl, HS.out, hb.setCell (Nat.le_refl _) _⟩
      case measure => simp [intOf]

end Go.Proofs.Ytbmdjimfncgomaa
