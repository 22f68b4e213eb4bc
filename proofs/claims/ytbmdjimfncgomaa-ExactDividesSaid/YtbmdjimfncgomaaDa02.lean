/- exact.subtractFrom: it subtracts from a row, and hands back what is borrowed from beyond it. exact.trim, at natural and at []uint32: a prefix. Naturals of the program: what a slice of limbs stands for. exact.add, exact.subtract, exact.clone. Naturals that lie in rows of their own. exact.join. -/
import Derived.Test.YtbmdjimfncgomaaDa01
/- exact.subtractFrom: it subtracts from a row, and hands back what is borrowed from beyond it. -/
namespace Go.Proofs.Ytbmdjimfncgomaa
open Go.RowKit

theorem sub_wrap (x y b : Int) (h0 : 0 ≤ x) (h1 : x < B64) (k0 : 0 ≤ y) (k1 : y < B64) (b0 : 0 ≤ b) (b1 : b ≤ 1) : (x - y - b) % B64 = x - y - b + B64 * bor x y b := by
  unfold bor B64 at *; split <;> omega

/-- What holds of a difference: k digits have been subtracted, whose number is m. -/
structure SubI (w wr : World) (g : Nat) (P A S : List Int) (k : Nat) (m : Int) (A1 : List Int) (cc : Int) : Prop where
  len : A1.length = A.length
  dig : Dig B64 A1
  c0 : 0 ≤ cc
  c1 : cc ≤ 1
  row : Row .u64 105 wr g (P ++ A1 ++ S)
  gr : w.grownBy wr (some g)
  eq : val B64 A1 - B64 ^ k * cc = val B64 A - m

theorem SubI.step {w wr : World} {g : Nat} {P A S : List Int} {k : Nat} {m : Int} {A1 : List Int} {cc : Int} (h : SubI w wr g P A S k m A1 cc) (y : Int) (h0 : 0 ≤ y) (h1 : y < B64) (hk : k < A.length) :
    SubI w (wr.setCell ⟨g, P.length + k, none⟩ (.int .u64 ((A1[k]?.getD 0 - y - cc) % B64))) g P A S (k + 1) (m + B64 ^ k * y) (A1.set k ((A1[k]?.getD 0 - y - cc) % B64)) (bor (A1[k]?.getD 0) y cc) := by
  have hl : k < A1.length := by rw [h.len]; exact hk
  have hx := h.dig.at B64_pos k
  have hc0 := h.c0; have hc1 := h.c1
  have hr := h.row.set (P.length + k) ((A1[k]?.getD 0 - y - cc) % B64)
  rw [mid_set P A1 S k _ hl] at hr
  have hd := sub_wrap (A1[k]?.getD 0) y cc hx.1 hx.2 h0 h1 hc0 hc1
  have b0 := Int.emod_nonneg (A1[k]?.getD 0 - y - cc) (show B64 ≠ 0 by decide)
  have b1 := Int.emod_lt_of_pos (A1[k]?.getD 0 - y - cc) B64_pos
  refine ⟨by simpa using h.len, h.dig.set k b0 b1, (bor_01 _ _ _).1, (bor_01 _ _ _).2, hr, grown_trans h.gr (grown_set _ _ _ _), ?_⟩
  rw [val_set _ _ _ _ hl, Int.pow_succ, hd]
  have e := h.eq
  grind

theorem SubI.done {w wr : World} {g : Nat} {P A S : List Int} {k : Nat} {m : Int} {A1 : List Int} {cc : Int} (h : SubI w wr g P A S k m A1 cc) (he : cc = 0 ∨ k = A.length) : SubI w wr g P A S A.length m A1 cc := by
  rcases he with rfl | rfl
  · exact ⟨h.len, h.dig, h.c0, h.c1, h.row, h.gr, by have := h.eq; simpa using this⟩
  · exact h

set_option maxHeartbeats 1000000 in
theorem subFrom_any (g : Nat) (P A S M : List Int) (c bc : Nat) (bo : Option Addr) (w : World) (hrow : Row .u64 105 w g (P ++ A ++ S)) (hdA : Dig B64 A) (hdM : Dig B64 M)
    (hcA : A.length ≤ c) (hcm : c ≤ 9223372036854775807) (hM : Rd w .u64 bo bc M) (hMA : M.length ≤ A.length) (hne : 0 < M.length → ∀ b off, bo = some ⟨b, off, none⟩ → b ≠ g) :
    Calls Try.prog 102 #[.slice (some ⟨g, P.length, none⟩) A.length c, .slice bo M.length bc] w fun e w' => ∃ A1 cc, e = .returned (.int .u64 cc) ∧ SubI w w' g P A S A.length (val B64 M) A1 cc := by
  obtain ⟨off, hoff⟩ : ∃ off, off = P.length := ⟨_, rfl⟩
  obtain ⟨n, hn⟩ : ∃ n, n = A.length := ⟨_, rfl⟩
  obtain ⟨m, hm⟩ : ∃ m, m = M.length := ⟨_, rfl⟩
  have hmn : m ≤ n := by omega
  have hmc := hM.cap; have hmm := hM.most
  rw [← hm] at hmc
  rw [← hn] at hcA
  rw [← hn, ← hm, ← hoff]
  have H0 : SubI w w g P A S 0 (val B64 (M.take 0)) A 0 := ⟨rfl, hdA, Int.le_refl 0, by decide, hrow, grown_refl _ _, by simp [val]⟩
  have Hoff := hid hoff; have Hn := hid hn; have Hm := hid hm; have HdM := hid hdM; have Hne := hid hne; have HM := hid hM
  clear hoff hn hm hdA hdM hne hrow hM hMA
  go_enter Try.func102, Try.ntmps102
  go_wp2
  go_loopw [4, 10] (fun cv iv wr => ∃ k : Nat, ∃ A1 cc, k ≤ m ∧ iv = .int .i64 k ∧ cv = .int .u64 cc ∧ SubI w wr g P A S k (val B64 (M.take k)) A1 cc) (fun _ iv _ => m - (intOf iv).toNat)
  case atStart => exact ⟨0, A, 0, Nat.zero_le _, rfl, rfl, H0⟩
  case round =>
    obtain ⟨k, A1, cc, hk, rfl, rfl, H⟩ := hrel
    by_cases hlt : k < m
    · have hAk := H.row.cell (off + k) (by have := Hoff.out; have := Hn.out; have := H.len; simp; omega)
      have hfr := H.row.frozen (off + k)
      rw [Hoff.out, mid_get P A1 S k (by have := Hn.out; have := H.len; omega), ← Hoff.out] at hAk
      have hkn : k < n := by omega
      obtain ⟨b, o, rfl⟩ := HM.out.adr (by have := Hm.out; omega)
      have hMk := (HM.out.keptNew H.gr Hne.out).cell b o rfl k (by have := Hm.out; omega)
      have h0 := HdM.out.at B64_pos k
      have h1 := H.dig.at B64_pos k
      have HS := H.step (M[k]?.getD 0) h0.1 h0.2 (by have := Hn.out; omega)
      rw [← val_take_succ B64 M k (by have := Hm.out; omega), ← Hoff.out] at HS
      have c0 := H.c0; have c1 := H.c1
      obtain ⟨x, hx⟩ : ∃ x, x = A1[k]?.getD 0 := ⟨_, rfl⟩
      obtain ⟨y, hy⟩ : ∃ y, y = M[k]?.getD 0 := ⟨_, rfl⟩
      rw [← hx, ← hy] at HS; rw [← hx] at hAk h1; rw [← hy] at hMk h0
      have H' := hid H; have HS' := hid HS; have Hx := hid hx; have Hy := hid hy
      clear H HS hx hy H0
      go_wp2_with (simp only [sub64 x y cc h1.1 h0.1 h0.2 c0 c1])
      go_roundw
      case rel => exact ⟨k + 1, _, _, by omega, by go_num, rfl, HS'.out⟩
      case measure => simp [intOf]; omega
    · obtain rfl : k = m := by omega
      have HT : SubI w wr g P A S k (val B64 M) A1 cc := by have := H; rwa [Hm.out, List.take_length, ← Hm.out] at this
      clear H H0
      go_wp2
      go_loopw [4, 7] (fun cv iv wr => ∃ j : Nat, ∃ A1 cc, k ≤ j ∧ j ≤ n ∧ iv = .int .i64 j ∧ cv = .int .u64 cc ∧ SubI w wr g P A S j (val B64 M) A1 cc) (fun _ iv _ => n - (intOf iv).toNat)
      case atStart => exact ⟨k, A1, cc, Nat.le_refl _, hmn, rfl, rfl, HT⟩
      case round =>
        obtain ⟨j, A1, cc, hkj, hjn, rfl, rfl, H⟩ := hrel
        have c0 := H.c0; have c1 := H.c1
        by_cases hz : cc = 0
        · subst hz
          have HD := H.done (.inl rfl)
          clear H HT
          go_wp2
          go_ret
          exact ⟨A1, 0, rfl, by rw [Hn.out]; exact HD⟩
        · obtain rfl : cc = 1 := by omega
          by_cases hlt : j < n
          · have hAk := H.row.cell (off + j) (by have := Hoff.out; have := Hn.out; have := H.len; simp; omega)
            have hfr := H.row.frozen (off + j)
            rw [Hoff.out, mid_get P A1 S j (by have := Hn.out; have := H.len; omega), ← Hoff.out] at hAk
            have h1 := H.dig.at B64_pos j
            have HS := H.step 0 (Int.le_refl 0) (by decide) (by have := Hn.out; omega)
            rw [← Hoff.out] at HS
            simp only [Int.sub_zero, Int.add_zero, Int.mul_zero] at HS
            obtain ⟨x, hx⟩ : ∃ x, x = A1[j]?.getD 0 := ⟨_, rfl⟩
            rw [← hx] at HS hAk h1
            have H' := hid H; have HS' := hid HS; have Hx := hid hx
            clear H HS hx HT
            have ha := sub64 x 0 1 h1.1 (Int.le_refl 0) (by decide) (by decide) (by decide)
            simp only [Int.sub_zero] at ha
            go_wp2_with (simp only [ha])
            go_roundw
            case rel => exact ⟨j + 1, _, _, by omega, by omega, by go_num, rfl, HS'.out⟩
            case measure => simp [intOf]; omega
          · have HD := H.done (.inr (by have := Hn.out; omega))
            clear H HT
            go_wp2
            go_ret
            exact ⟨A1, 1, rfl, by rw [Hn.out]; exact HD⟩

end Go.Proofs.Ytbmdjimfncgomaa

/- exact.trim, at natural and at []uint32: a prefix. -/
namespace Go.Proofs.Ytbmdjimfncgomaa
open Go.RowKit

theorem trimL_step0 (L : List Int) (m : Nat) (hm : m < L.length) (h : trimL (L.take (m + 1)) = trimL L) (hz : L[m]?.getD 0 = 0) : trimL (L.take m) = trimL L := by
  rw [take_succ_getD L m hm, trimL_snoc, if_pos hz] at h; exact h
theorem trimL_step1 (L : List Int) (m : Nat) (hm : m < L.length) (h : trimL (L.take (m + 1)) = trimL L) (hz : ¬ L[m]?.getD 0 = 0) : (trimL L).length = m + 1 := by
  rw [take_succ_getD L m hm, trimL_snoc, if_neg hz] at h; rw [← h]; simp; omega
theorem trimL_stop (L : List Int) (h : trimL (L.take 0) = trimL L) : (trimL L).length = 0 := by rw [← h]; rfl

set_option maxHeartbeats 400000 in
theorem trim64_any (ao : Option Addr) (c : Nat) (L : List Int) (w : World) (h : Rd w .u64 ao c L) :
    Calls Try.prog 99 #[.slice ao L.length c] w fun e w' => e = .returned (.slice ao (trimL L).length c) ∧ w = w' := by
  obtain ⟨n, hn⟩ : ∃ n, n = L.length := ⟨_, rfl⟩
  have hc := h.cap; have hm := h.most
  rw [← hn] at hc ⊢
  have Hn := hid hn; clear hn
  go_enter Try.func99, Try.ntmps99
  go_wp2
  go_loop [0] (fun v => ∃ m : Nat, m ≤ n ∧ v = .slice ao m c ∧ Hid (trimL (L.take m) = trimL L)) (fun v => lenOf v)
  case atStart => exact ⟨n, Nat.le_refl _, rfl, hid (by rw [Hn.out, List.take_length])⟩
  case round =>
    obtain ⟨m, hmn, rfl, HT⟩ := hrel
    cases m with
    | zero =>
      go_wp2
      go_ret
      exact ⟨by rw [trimL_stop L HT.out]; rfl, rfl⟩
    | succ m =>
      obtain ⟨b, off, rfl⟩ := h.adr (by have := Hn.out; omega)
      have hcell := h.cell b off rfl m (by have := Hn.out; omega)
      by_cases hz : L[m]?.getD 0 = 0
      · have HZ := hid hz
        rw [hz] at hcell
        clear hz
        go_wp2
        go_round
        case rel => exact ⟨m, by omega, rfl, hid (trimL_step0 L m (by have := Hn.out; omega) HT.out HZ.out)⟩
        case measure => simp [lenOf]
      · have HZ := hid hz
        go_wp2
        go_ret
        exact ⟨by rw [trimL_step1 L m (by have := Hn.out; omega) HT.out HZ.out]; rfl, rfl⟩

set_option maxHeartbeats 400000 in
theorem trim32_any (ao : Option Addr) (c : Nat) (L : List Int) (w : World) (h : Rd w .u32 ao c L) :
    Calls Try.prog 100 #[.slice ao L.length c] w fun e w' => e = .returned (.slice ao (trimL L).length c) ∧ w = w' := by
  obtain ⟨n, hn⟩ : ∃ n, n = L.length := ⟨_, rfl⟩
  have hc := h.cap; have hm := h.most
  rw [← hn] at hc ⊢
  have Hn := hid hn; clear hn
  go_enter Try.func100, Try.ntmps100
  go_wp2
  go_loop [0] (fun v => ∃ m : Nat, m ≤ n ∧ v = .slice ao m c ∧ Hid (trimL (L.take m) = trimL L)) (fun v => lenOf v)
  case atStart => exact ⟨n, Nat.le_refl _, rfl, hid (by rw [Hn.out, List.take_length])⟩
  case round =>
    obtain ⟨m, hmn, rfl, HT⟩ := hrel
    cases m with
    | zero =>
      go_wp2
      go_ret
      exact ⟨by rw [trimL_stop L HT.out]; rfl, rfl⟩
    | succ m =>
      obtain ⟨b, off, rfl⟩ := h.adr (by have := Hn.out; omega)
      have hcell := h.cell b off rfl m (by have := Hn.out; omega)
      by_cases hz : L[m]?.getD 0 = 0
      · have HZ := hid hz
        rw [hz] at hcell
        clear hz
        go_wp2
        go_round
        case rel => exact ⟨m, by omega, rfl, hid (trimL_step0 L m (by have := Hn.out; omega) HT.out HZ.out)⟩
        case measure => simp [lenOf]
      · have HZ := hid hz
        go_wp2
        go_ret
        exact ⟨by rw [trimL_step1 L m (by have := Hn.out; omega) HT.out HZ.out]; rfl, rfl⟩

end Go.Proofs.Ytbmdjimfncgomaa

/- Naturals of the program: what a slice of limbs stands for. -/
namespace Go.Proofs.Ytbmdjimfncgomaa
open Go.RowKit

/-- The value v reads in w as the natural number n, in normal form, with K limbs at most. -/
structure NtL (w : World) (ao : Option Addr) (c : Nat) (L : List Int) (n : Int) (K : Nat) : Prop where
  rd : Rd w .u64 ao c L
  dig : Dig B64 L
  nrm : Nrm L
  eq : val B64 L = n
  le : L.length ≤ K
def Nt (w : World) (v : Value) (n : Int) (K : Nat) : Prop := ∃ ao c L, v = .slice ao L.length c ∧ NtL w ao c L n K
/-- The call hands back such a value, and has turned nothing that was there. -/
def RetN (w : World) (n : Int) (K : Nat) (e : Ending) (w' : World) : Prop := ∃ v, e = .returned v ∧ Nt w' v n K ∧ Below w.heap.size w w'

theorem NtL.nonneg {w : World} {ao : Option Addr} {c : Nat} {L : List Int} {n : Int} {K : Nat} (h : NtL w ao c L n K) : 0 ≤ n := by rw [← h.eq]; exact val_nonneg B64_pos h.dig
theorem Nt.nonneg {w : World} {v : Value} {n : Int} {K : Nat} (h : Nt w v n K) : 0 ≤ n := by obtain ⟨_, _, _, _, h⟩ := h; exact h.nonneg
theorem Nt.below {w w' : World} {v : Value} {n : Int} {K B : Nat} (h : Nt w v n K) (hb : Below B w w') (hB : w.heap.size ≤ B) : Nt w' v n K := by
  obtain ⟨ao, c, L, rfl, h⟩ := h
  exact ⟨ao, c, L, rfl, h.rd.below hb hB, h.dig, h.nrm, h.eq, h.le⟩
theorem Nt.mono {w : World} {v : Value} {n : Int} {K K' : Nat} (h : Nt w v n K) (hk : K ≤ K') : Nt w v n K' := by
  obtain ⟨ao, c, L, rfl, h⟩ := h
  exact ⟨ao, c, L, rfl, h.rd, h.dig, h.nrm, h.eq, Nat.le_trans h.le hk⟩
theorem Nt.nil (w : World) : Nt w (.slice none 0 0) 0 0 := ⟨none, 0, [], rfl, Rd.nil _ _, Dig.nil _, rfl, rfl, Nat.le_refl _⟩

/-- A row, trimmed, is a natural. -/
theorem nt_row {w : World} {g : Nat} {L : List Int} {c : Nat} {n : Int} {K : Nat} (h : Row .u64 105 w g L) (hd : Dig B64 L) (hv : val B64 L = n) (hc : L.length ≤ c) (hc' : c ≤ 9223372036854775807) (hK : L.length ≤ K) :
    Nt w (.slice (some ⟨g, 0, none⟩) (trimL L).length c) n K := by
  have h' : Row .u64 105 w g ([] ++ L ++ []) := by simpa using h
  have hr := h'.rd hc hc'
  refine ⟨_, c, trimL L, rfl, ?_, hd.trim, Nrm.trim L, by rw [val_trim]; exact hv, Nat.le_trans (trimL_len L) hK⟩
  rw [trimL_take L]; exact hr.take _
theorem row_rd {w : World} {g : Nat} {L : List Int} {c : Nat} (h : Row .u64 105 w g L) (hc : L.length ≤ c) (hc' : c ≤ 9223372036854775807) : Rd w .u64 (some ⟨g, 0, none⟩) c L := by
  have h' : Row .u64 105 w g ([] ++ L ++ []) := by simpa using h
  exact h'.rd hc hc'

theorem val_replicate (B : Int) (n : Nat) : val B (List.replicate n 0) = 0 := by
  induction n with
  | zero => rfl
  | succ n ih => simp [List.replicate_succ, val, ih]
theorem Dig.replicate {B : Int} (hB : 0 < B) (n : Nat) : Dig B (List.replicate n 0) := fun x hx => by rw [(List.mem_replicate.1 hx).2]; exact ⟨Int.le_refl 0, hB⟩

theorem Try.info105 : (Try.prog.info? 105).map (fun i => (i.zero, i.size, i.bytes)) = some (some (.int .u64 0), 1, 8) := by kernel_rfl
theorem Try.size105 : (Try.prog.info? 105).map (·.size) = some 1 := by kernel_rfl

/-- A copy into a row of zeros, and a sum with it: no carry is left. -/
theorem add_done {w wr : World} {g : Nat} {LA LB A1 : List Int} {cc : Int} (hdA : Dig B64 LA) (hdB : Dig B64 LB) (hle : LB.length ≤ LA.length)
    (h : AddI w wr g [] (LA ++ [0]) [] (LA ++ [0]).length (val B64 LB) A1 cc) : Row .u64 105 wr g A1 ∧ Dig B64 A1 ∧ val B64 A1 = val B64 LA + val B64 LB ∧ A1.length = LA.length + 1 := by
  have hl : A1.length = LA.length + 1 := by rw [h.len]; simp
  have e := h.eq
  rw [val_snoc] at e
  have h1 := val_lt B64_pos hdA
  have h2 := val_lt B64_pos hdB
  have h3 : B64 ^ LB.length ≤ B64 ^ LA.length := pow_mono B64_pos hle
  have h4 := val_nonneg B64_pos h.dig
  have hp : 0 < B64 ^ LA.length := Int.pow_pos B64_pos
  have hcc : cc = 0 := by
    rcases (show cc = 0 ∨ cc = 1 by have := h.c0; have := h.c1; omega) with h | h
    · exact h
    · subst h
      have : B64 ^ (LA ++ [(0 : Int)]).length = B64 ^ LA.length * B64 := by rw [List.length_append, Int.pow_add]; simp [Int.pow_succ]
      rw [this] at e
      have : B64 ^ LA.length * 2 ≤ B64 ^ LA.length * B64 := Int.mul_le_mul_of_nonneg_left (by decide) (Int.le_of_lt hp)
      omega
  subst hcc
  refine ⟨by simpa using h.row, h.dig, by simpa using e, hl⟩

end Go.Proofs.Ytbmdjimfncgomaa

/- exact.add, exact.subtract, exact.clone. -/
namespace Go.Proofs.Ytbmdjimfncgomaa
open Go.RowKit

set_option maxRecDepth 100000 in
set_option maxHeartbeats 1000000 in
theorem add_ge (ao bo : Option Addr) (ca cb : Nat) (LA LB : List Int) (a b : Int) (Ka Kb : Nat) (w : World) (hA : NtL w ao ca LA a Ka) (hB : NtL w bo cb LB b Kb) (hk : Ka ≤ 1073741824) (hle : LB.length ≤ LA.length) :
    Calls Try.prog 81 #[.slice ao LA.length ca, .slice bo LB.length cb] w (RetN w (a + b) (Ka + 1)) := by
  obtain ⟨n, hn⟩ : ∃ n, n = LA.length := ⟨_, rfl⟩
  obtain ⟨m, hm⟩ : ∃ m, m = LB.length := ⟨_, rfl⟩
  have hn30 : n ≤ 1073741824 := by have := hA.le; omega
  have hmn : m ≤ n := by omega
  rw [← hn, ← hm]
  have HA := hid hA; have HB := hid hB; have Hn := hid hn; have Hm := hid hm
  clear hA hB hn hm hle
  obtain ⟨i0, hi, hz0, hz1, hz2⟩ := info_parts Try.info105
  go_enter Try.func81, Try.ntmps81
  go_wp2_with (at_make; refine wpList_make_row w rfl _ _ 77 rfl 105 i0 .u64 Try.underlying77 hi hz0 hz1 .i64 .i64 _ _ (n + 1) rfl rfl (by omega) (by omega) (by rw [hz2]; omega) (by unfold maxLen; omega) ?_)
  intro w1 hrow hg1
  have hg1b := grown_below hg1
  have HRA := hid ((HA.out.rd).below hg1b (Nat.le_refl _))
  go_wp2_with ((with_reducible refine wpList_copy_row rfl _ _ _ _ rfl 105 Try.underlying77 Try.size105 .u64 105 w.heap.size [] (List.replicate (n + 1) 0) [] LA 0 (n + 1) n (n + 1) ao ca rfl rfl rfl (by simp) Hn.out (by simpa using hrow) HRA.out (by have := Hn.out; simp; omega) ?_))
  intro w2 hrow2 hg2
  have HG := hid (HB.out.rd.ne (Nat.le_refl w.heap.size))
  have HRB := hid ((HB.out.rd.below hg1b (Nat.le_refl _)).keptNew hg2 HG.out)
  have hrow2' : Row .u64 105 w2 w.heap.size ([] ++ (LA ++ [0]) ++ []) := by
    have e : n + 1 - LA.length = 1 := by have := Hn.out; omega
    rw [e] at hrow2; simpa using hrow2
  have Hrow2 := hid hrow2'; have Hb := hid hg1b; have Hg2 := hid hg2
  clear hrow2 hrow2' hrow hg1 hg1b hg2
  have hdd : Dig B64 (LA ++ [0]) := HA.out.dig.append (Dig.cons (Int.le_refl 0) (by decide) (Dig.nil _))
  have hc := addTo_any w.heap.size [] (LA ++ [0]) [] LB (n + 1) cb bo w2 Hrow2.out hdd HB.out.dig (by have := Hn.out; simp; omega) (by omega) HRB.out (by have := Hn.out; have := Hm.out; simp; omega) HG.out
  rw [show ([] : List Int).length = 0 from rfl, show (LA ++ [(0 : Int)]).length = n + 1 from by rw [Hn.out]; simp, ← Hm.out] at hc
  have Hc := hid hc; clear hc hdd
  go_wp2_with (go_at_call 101; refine Hc.out.mono ?_; rintro e w3 ⟨A1, cc, rfl, HI⟩)
  rw [show n + 1 = (LA ++ [(0 : Int)]).length from by rw [Hn.out]; simp] at HI
  obtain ⟨hrow3, hd3, hv3, hl3⟩ := add_done HA.out.dig HB.out.dig (by have := Hn.out; have := Hm.out; omega) HI
  have hg3 := HI.gr
  have ht := trim64_any (some ⟨w.heap.size, 0, none⟩) (n + 1) A1 w3 (row_rd hrow3 (by have := Hn.out; omega) (by omega))
  rw [hl3, ← Hn.out] at ht
  have HT := hid ht
  have hres : Nt w3 (.slice (some ⟨w.heap.size, 0, none⟩) (trimL A1).length (n + 1)) (a + b) (Ka + 1) :=
    nt_row hrow3 hd3 (by rw [hv3, HA.out.eq, HB.out.eq]) (by have := Hn.out; omega) (by omega) (by have := HA.out.le; omega)
  have hbel : Below w.heap.size w w3 := (Hb.out.grown Hg2.out Hb.out.size (fun k e => by cases e; exact Nat.le_refl _)).grown hg3 (by have := Hb.out.size; have := Hg2.out.size; omega) (fun k e => by cases e; exact Nat.le_refl _)
  have Hres := hid hres; have Hbel := hid hbel
  clear ht hres hbel hrow3 hd3 hv3 hl3 hg3 HI
  refine HT.out.mono ?_
  rintro e w4 ⟨rfl, rfl⟩
  go_wp2
  go_ret
  exact ⟨_, rfl, Hres.out, Hbel.out⟩

set_option maxRecDepth 100000 in
set_option maxHeartbeats 1000000 in
theorem add_lt (ao bo : Option Addr) (ca cb : Nat) (LA LB : List Int) (a b : Int) (Ka Kb : Nat) (w : World) (hA : NtL w ao ca LA a Ka) (hB : NtL w bo cb LB b Kb) (hk : Ka ≤ 1073741824) (hle : LB.length < LA.length) :
    Calls Try.prog 81 #[.slice bo LB.length cb, .slice ao LA.length ca] w (RetN w (a + b) (Ka + 1)) := by
  obtain ⟨n, hn⟩ : ∃ n, n = LA.length := ⟨_, rfl⟩
  obtain ⟨m, hm⟩ : ∃ m, m = LB.length := ⟨_, rfl⟩
  have hn30 : n ≤ 1073741824 := by have := hA.le; omega
  have hmn : m < n := by omega
  rw [← hn, ← hm]
  have HA := hid hA; have HB := hid hB; have Hn := hid hn; have Hm := hid hm
  clear hA hB hn hm hle
  obtain ⟨i0, hi, hz0, hz1, hz2⟩ := info_parts Try.info105
  have hmn' : m ≤ n := by omega
  go_enter Try.func81, Try.ntmps81
  go_wp2_with (at_make; refine wpList_make_row w rfl _ _ 77 rfl 105 i0 .u64 Try.underlying77 hi hz0 hz1 .i64 .i64 _ _ (n + 1) rfl rfl (by omega) (by omega) (by rw [hz2]; omega) (by unfold maxLen; omega) ?_)
  intro w1 hrow hg1
  have hg1b := grown_below hg1
  have HRA := hid ((HA.out.rd).below hg1b (Nat.le_refl _))
  go_wp2_with ((with_reducible refine wpList_copy_row rfl _ _ _ _ rfl 105 Try.underlying77 Try.size105 .u64 105 w.heap.size [] (List.replicate (n + 1) 0) [] LA 0 (n + 1) n (n + 1) ao ca rfl rfl rfl (by simp) Hn.out (by simpa using hrow) HRA.out (by have := Hn.out; simp; omega) ?_))
  intro w2 hrow2 hg2
  have HG := hid (HB.out.rd.ne (Nat.le_refl w.heap.size))
  have HRB := hid ((HB.out.rd.below hg1b (Nat.le_refl _)).keptNew hg2 HG.out)
  have hrow2' : Row .u64 105 w2 w.heap.size ([] ++ (LA ++ [0]) ++ []) := by
    have e : n + 1 - LA.length = 1 := by have := Hn.out; omega
    rw [e] at hrow2; simpa using hrow2
  have Hrow2 := hid hrow2'; have Hb := hid hg1b; have Hg2 := hid hg2
  clear hrow2 hrow2' hrow hg1 hg1b hg2
  have hdd : Dig B64 (LA ++ [0]) := HA.out.dig.append (Dig.cons (Int.le_refl 0) (by decide) (Dig.nil _))
  have hc := addTo_any w.heap.size [] (LA ++ [0]) [] LB (n + 1) cb bo w2 Hrow2.out hdd HB.out.dig (by have := Hn.out; simp; omega) (by omega) HRB.out (by have := Hn.out; have := Hm.out; simp; omega) HG.out
  rw [show ([] : List Int).length = 0 from rfl, show (LA ++ [(0 : Int)]).length = n + 1 from by rw [Hn.out]; simp, ← Hm.out] at hc
  have Hc := hid hc; clear hc hdd
  go_wp2_with (go_at_call 101; refine Hc.out.mono ?_; rintro e w3 ⟨A1, cc, rfl, HI⟩)
  rw [show n + 1 = (LA ++ [(0 : Int)]).length from by rw [Hn.out]; simp] at HI
  obtain ⟨hrow3, hd3, hv3, hl3⟩ := add_done HA.out.dig HB.out.dig (by have := Hn.out; have := Hm.out; omega) HI
  have hg3 := HI.gr
  have ht := trim64_any (some ⟨w.heap.size, 0, none⟩) (n + 1) A1 w3 (row_rd hrow3 (by have := Hn.out; omega) (by omega))
  rw [hl3, ← Hn.out] at ht
  have HT := hid ht
  have hres : Nt w3 (.slice (some ⟨w.heap.size, 0, none⟩) (trimL A1).length (n + 1)) (a + b) (Ka + 1) :=
    nt_row hrow3 hd3 (by rw [hv3, HA.out.eq, HB.out.eq]) (by have := Hn.out; omega) (by omega) (by have := HA.out.le; omega)
  have hbel : Below w.heap.size w w3 := (Hb.out.grown Hg2.out Hb.out.size (fun k e => by cases e; exact Nat.le_refl _)).grown hg3 (by have := Hb.out.size; have := Hg2.out.size; omega) (fun k e => by cases e; exact Nat.le_refl _)
  have Hres := hid hres; have Hbel := hid hbel
  clear ht hres hbel hrow3 hd3 hv3 hl3 hg3 HI
  refine HT.out.mono ?_
  rintro e w4 ⟨rfl, rfl⟩
  go_wp2
  go_ret
  exact ⟨_, rfl, Hres.out, Hbel.out⟩

theorem add_any (va vb : Value) (a b : Int) (Ka Kb K : Nat) (w : World) (hA : Nt w va a Ka) (hB : Nt w vb b Kb) (h1 : Ka ≤ 1073741824) (h2 : Kb ≤ 1073741824) (hK : Ka < K) (hK' : Kb < K) :
    Calls Try.prog 81 #[va, vb] w (RetN w (a + b) K) := by
  obtain ⟨ao, ca, LA, rfl, hA⟩ := hA
  obtain ⟨bo, cb, LB, rfl, hB⟩ := hB
  by_cases h : LB.length ≤ LA.length
  · refine (add_ge ao bo ca cb LA LB a b Ka Kb w hA hB h1 h).mono ?_
    rintro e w' ⟨v, rfl, hv, hb⟩
    exact ⟨v, rfl, hv.mono hK, hb⟩
  · refine (add_lt bo ao cb ca LB LA b a Kb Ka w hB hA h2 (by omega)).mono ?_
    rintro e w' ⟨v, rfl, hv, hb⟩
    exact ⟨v, rfl, by rw [Int.add_comm]; exact hv.mono hK', hb⟩

theorem sub_done {w wr : World} {g : Nat} {LA LB A1 : List Int} {cc : Int} (hle : val B64 LB ≤ val B64 LA)
    (h : SubI w wr g [] LA [] LA.length (val B64 LB) A1 cc) : Row .u64 105 wr g A1 ∧ Dig B64 A1 ∧ val B64 A1 = val B64 LA - val B64 LB ∧ A1.length = LA.length := by
  have e := h.eq
  have h1 := val_lt B64_pos h.dig
  rw [h.len] at h1
  have hcc : cc = 0 := by
    rcases (show cc = 0 ∨ cc = 1 by have := h.c0; have := h.c1; omega) with h | h
    · exact h
    · subst h; omega
  subst hcc
  exact ⟨by simpa using h.row, h.dig, by simpa using e, h.len⟩

set_option maxRecDepth 100000 in
set_option maxHeartbeats 1000000 in
theorem subtract_le (ao bo : Option Addr) (ca cb : Nat) (LA LB : List Int) (a b : Int) (Ka Kb : Nat) (w : World) (hA : NtL w ao ca LA a Ka) (hB : NtL w bo cb LB b Kb) (hk : Ka ≤ 1073741824) (hle : LB.length ≤ LA.length) (hba : b ≤ a) :
    Calls Try.prog 82 #[.slice ao LA.length ca, .slice bo LB.length cb] w (RetN w (a - b) Ka) := by
  obtain ⟨n, hn⟩ : ∃ n, n = LA.length := ⟨_, rfl⟩
  obtain ⟨m, hm⟩ : ∃ m, m = LB.length := ⟨_, rfl⟩
  have hn30 : n ≤ 1073741824 := by have := hA.le; omega
  have hmn : m ≤ n := by omega
  rw [← hn, ← hm]
  have HA := hid hA; have HB := hid hB; have Hn := hid hn; have Hm := hid hm
  clear hA hB hn hm hle
  obtain ⟨i0, hi, hz0, hz1, hz2⟩ := info_parts Try.info105
  go_enter Try.func82, Try.ntmps82
  go_wp2_with (at_make; refine wpList_make_row w rfl _ _ 77 rfl 105 i0 .u64 Try.underlying77 hi hz0 hz1 .i64 .i64 _ _ n rfl rfl (by omega) (by omega) (by rw [hz2]; omega) (by unfold maxLen; omega) ?_)
  intro w1 hrow hg1
  have hg1b := grown_below hg1
  have HRA := hid ((HA.out.rd).below hg1b (Nat.le_refl _))
  go_wp2_with ((with_reducible refine wpList_copy_row rfl _ _ _ _ rfl 105 Try.underlying77 Try.size105 .u64 105 w.heap.size [] (List.replicate n 0) [] LA 0 n n n ao ca rfl rfl rfl (by simp) Hn.out (by simpa using hrow) HRA.out (by have := Hn.out; simp; omega) ?_))
  intro w2 hrow2 hg2
  have HG := hid (HB.out.rd.ne (Nat.le_refl w.heap.size))
  have HRB := hid ((HB.out.rd.below hg1b (Nat.le_refl _)).keptNew hg2 HG.out)
  have hrow2' : Row .u64 105 w2 w.heap.size ([] ++ (LA) ++ []) := by
    have e : n - LA.length = 0 := by have := Hn.out; omega
    rw [e] at hrow2; simpa using hrow2
  have Hrow2 := hid hrow2'; have Hb := hid hg1b; have Hg2 := hid hg2
  clear hrow2 hrow2' hrow hg1 hg1b hg2
  have hdd : Dig B64 LA := HA.out.dig
  have hc := subFrom_any w.heap.size [] (LA) [] LB n cb bo w2 Hrow2.out hdd HB.out.dig (by have := Hn.out; simp; omega) (by omega) HRB.out (by have := Hn.out; have := Hm.out; simp; omega) HG.out
  rw [show ([] : List Int).length = 0 from rfl, ← Hn.out, ← Hm.out] at hc
  have Hc := hid hc; clear hc hdd
  go_wp2_with (go_at_call 102; refine Hc.out.mono ?_; rintro e w3 ⟨A1, cc, rfl, HI⟩)
  rw [Hn.out] at HI
  obtain ⟨hrow3, hd3, hv3, hl3⟩ := sub_done (by rw [HA.out.eq, HB.out.eq]; exact hba) HI
  have hg3 := HI.gr
  have ht := trim64_any (some ⟨w.heap.size, 0, none⟩) n A1 w3 (row_rd hrow3 (by have := Hn.out; omega) (by omega))
  rw [hl3, ← Hn.out] at ht
  have HT := hid ht
  have hres : Nt w3 (.slice (some ⟨w.heap.size, 0, none⟩) (trimL A1).length n) (a - b) Ka :=
    nt_row hrow3 hd3 (by rw [hv3, HA.out.eq, HB.out.eq]) (by have := Hn.out; omega) (by omega) (by have := HA.out.le; omega)
  have hbel : Below w.heap.size w w3 := (Hb.out.grown Hg2.out Hb.out.size (fun k e => by cases e; exact Nat.le_refl _)).grown hg3 (by have := Hb.out.size; have := Hg2.out.size; omega) (fun k e => by cases e; exact Nat.le_refl _)
  have Hres := hid hres; have Hbel := hid hbel
  clear ht hres hbel hrow3 hd3 hv3 hl3 hg3 HI
  refine HT.out.mono ?_
  rintro e w4 ⟨rfl, rfl⟩
  go_wp2
  go_ret
  exact ⟨_, rfl, Hres.out, Hbel.out⟩

theorem len_of_le {LA LB : List Int} (hA : Dig B64 LA) (hB : Dig B64 LB) (nB : Nrm LB) (h : val B64 LB ≤ val B64 LA) : LB.length ≤ LA.length := by
  by_cases hl : LB.length ≤ LA.length
  · exact hl
  · exfalso
    have h1 := val_lt B64_pos hA
    have h2 := Nrm.low B64_pos hB nB (by omega)
    have h3 := pow_mono B64_pos (show LA.length ≤ LB.length - 1 by omega)
    omega

theorem subtract_any (va vb : Value) (a b : Int) (Ka Kb : Nat) (w : World) (hA : Nt w va a Ka) (hB : Nt w vb b Kb) (h1 : Ka ≤ 1073741824) (hba : b ≤ a) :
    Calls Try.prog 82 #[va, vb] w (RetN w (a - b) Ka) := by
  obtain ⟨ao, ca, LA, rfl, hA⟩ := hA
  obtain ⟨bo, cb, LB, rfl, hB⟩ := hB
  exact subtract_le ao bo ca cb LA LB a b Ka Kb w hA hB h1 (len_of_le hA.dig hB.dig hB.nrm (by rw [hA.eq, hB.eq]; exact hba)) hba

set_option maxRecDepth 100000 in
set_option maxHeartbeats 1000000 in
theorem clone_any (ao : Option Addr) (ca : Nat) (LA : List Int) (a : Int) (Ka : Nat) (w : World) (hA : NtL w ao ca LA a Ka) (hk : Ka ≤ 1073741824) :
    Calls Try.prog 84 #[.slice ao LA.length ca] w fun e w' => e = .returned (.slice (some ⟨w.heap.size, 0, none⟩) LA.length LA.length) ∧ Row .u64 105 w' w.heap.size LA ∧ Below w.heap.size w w' := by
  obtain ⟨n, hn⟩ : ∃ n, n = LA.length := ⟨_, rfl⟩
  have hn30 : n ≤ 1073741824 := by have := hA.le; omega
  rw [← hn]
  have HA := hid hA; have Hn := hid hn
  clear hA hn
  obtain ⟨i0, hi, hz0, hz1, hz2⟩ := info_parts Try.info105
  go_enter Try.func84, Try.ntmps84
  go_wp2_with (at_make; refine wpList_make_row w rfl _ _ 77 rfl 105 i0 .u64 Try.underlying77 hi hz0 hz1 .i64 .i64 _ _ n rfl rfl (by omega) (by omega) (by rw [hz2]; omega) (by unfold maxLen; omega) ?_)
  intro w1 hrow hg1
  have hg1b := grown_below hg1
  have HRA := hid ((HA.out.rd).below hg1b (Nat.le_refl _))
  go_wp2_with ((with_reducible refine wpList_copy_row rfl _ _ _ _ rfl 105 Try.underlying77 Try.size105 .u64 105 w.heap.size [] (List.replicate n 0) [] LA 0 n n n ao ca rfl rfl rfl (by simp) Hn.out (by simpa using hrow) HRA.out (by have := Hn.out; simp; omega) ?_))
  intro w2 hrow2 hg2
  have hrow2' : Row .u64 105 w2 w.heap.size LA := by
    have e : n - LA.length = 0 := by have := Hn.out; omega
    rw [e] at hrow2; simpa using hrow2
  have Hrow2 := hid hrow2'; have Hb := hid (hg1b.grown hg2 hg1b.size (fun k e => by cases e; exact Nat.le_refl _))
  clear hrow2 hrow2' hrow hg1 hg1b hg2
  go_wp2
  go_ret
  exact ⟨rfl, Hrow2.out, Hb.out⟩

end Go.Proofs.Ytbmdjimfncgomaa

/- Naturals that lie in rows of their own. -/
namespace Go.Proofs.Ytbmdjimfncgomaa
open Go.RowKit

/-- A number in a row of its own: the limbs L, behind them S. -/
structure OwnL (w : World) (B g c : Nat) (L S : List Int) (n : Int) : Prop where
  row : Row .u64 105 w g (L ++ S)
  dig : Dig B64 L
  nrm : Nrm L
  eq : val B64 L = n
  cap : L.length ≤ c
  most : c ≤ 9223372036854775807
  base : B ≤ g

theorem own_trim {w : World} {B g c : Nat} {L S : List Int} {n : Int} (h : Row .u64 105 w g (L ++ S)) (hd : Dig B64 L) (hv : val B64 L = n) (hc : L.length ≤ c) (hm : c ≤ 9223372036854775807) (hb : B ≤ g) :
    OwnL w B g c (trimL L) (L.drop (trimL L).length ++ S) n := by
  refine ⟨?_, hd.trim, Nrm.trim L, by rw [val_trim]; exact hv, Nat.le_trans (trimL_len L) hc, hm, hb⟩
  have e : trimL L ++ (L.drop (trimL L).length ++ S) = L ++ S := by
    rw [← List.append_assoc]
    have h2 := List.take_append_drop (trimL L).length L
    rw [← trimL_take L] at h2
    rw [h2]
  rw [e]; exact h
theorem OwnL.rd {w : World} {B g c : Nat} {L S : List Int} {n : Int} (h : OwnL w B g c L S n) : Rd w .u64 (some ⟨g, 0, none⟩) c L := by
  have h' : Row .u64 105 w g ([] ++ L ++ S) := by simpa using h.row
  exact h'.rd h.cap h.most
theorem OwnL.ntl {w : World} {B g c : Nat} {L S : List Int} {n : Int} (h : OwnL w B g c L S n) : NtL w (some ⟨g, 0, none⟩) c L n L.length := ⟨h.rd, h.dig, h.nrm, h.eq, Nat.le_refl _⟩
theorem OwnL.nt {w : World} {B g c : Nat} {L S : List Int} {n : Int} (h : OwnL w B g c L S n) {K : Nat} (hK : L.length ≤ K) : Nt w (.slice (some ⟨g, 0, none⟩) L.length c) n K := ⟨_, c, L, rfl, h.rd, h.dig, h.nrm, h.eq, hK⟩
theorem OwnL.below {w w' : World} {B B' g c : Nat} {L S : List Int} {n : Int} (h : OwnL w B g c L S n) (hb : Below B' w w') (hB : w.heap.size ≤ B') : OwnL w' B g c L S n :=
  ⟨h.row.kept (below_grown (hb.mono hB)) (by simp), h.dig, h.nrm, h.eq, h.cap, h.most, h.base⟩

/-- Such a number, or nothing: 0. -/
def OwnV (w : World) (B : Nat) (v : Value) (n : Int) (K : Nat) : Prop := (∃ g c L S, v = .slice (some ⟨g, 0, none⟩) L.length c ∧ OwnL w B g c L S n ∧ L.length ≤ K) ∨ (v = .slice none 0 0 ∧ n = 0)
theorem OwnV.nt {w : World} {B : Nat} {v : Value} {n : Int} {K : Nat} (h : OwnV w B v n K) : Nt w v n K := by
  rcases h with ⟨g, c, L, S, rfl, h, hK⟩ | ⟨rfl, rfl⟩
  · exact h.nt hK
  · exact (Nt.nil w).mono (Nat.zero_le _)
theorem OwnL.base_le {w : World} {B B' g c : Nat} {L S : List Int} {n : Int} (h : OwnL w B g c L S n) (hb : B' ≤ B) : OwnL w B' g c L S n := ⟨h.row, h.dig, h.nrm, h.eq, h.cap, h.most, Nat.le_trans hb h.base⟩
theorem OwnV.base_le {w : World} {B B' : Nat} {v : Value} {n : Int} {K : Nat} (h : OwnV w B v n K) (hb : B' ≤ B) : OwnV w B' v n K := by
  rcases h with ⟨g, c, L, S, e, h, hK⟩ | h
  · exact .inl ⟨g, c, L, S, e, h.base_le hb, hK⟩
  · exact .inr h
theorem OwnV.below {w w' : World} {B B' : Nat} {v : Value} {n : Int} {K : Nat} (h : OwnV w B v n K) (hb : Below B' w w') (hB : w.heap.size ≤ B') : OwnV w' B v n K := by
  rcases h with ⟨g, c, L, S, e, h, hK⟩ | h
  · exact .inl ⟨g, c, L, S, e, h.below hb hB, hK⟩
  · exact .inr h
/-- The call hands back such a number in new memory. -/
def RetOwn (w : World) (n : Int) (K : Nat) (e : Ending) (w' : World) : Prop := ∃ v, e = .returned v ∧ OwnV w' w.heap.size v n K ∧ Below w.heap.size w w'
theorem own_row {w : World} {B g c : Nat} {L : List Int} {n : Int} {K : Nat} (h : Row .u64 105 w g L) (hd : Dig B64 L) (hv : val B64 L = n) (hc : L.length ≤ c) (hm : c ≤ 9223372036854775807) (hK : L.length ≤ K) (hb : B ≤ g) : OwnV w B (.slice (some ⟨g, 0, none⟩) (trimL L).length c) n K :=
  .inl ⟨g, c, _, _, rfl, own_trim (S := []) (by simpa using h) hd hv hc hm hb, Nat.le_trans (trimL_len L) hK⟩

end Go.Proofs.Ytbmdjimfncgomaa

/- exact.join. -/
namespace Go.Proofs.Ytbmdjimfncgomaa
open Go.RowKit

theorem join_done {w wr : World} {g h N : Nat} {R LA LB A1 : List Int} {cc : Int} (hdA : Dig B64 LA) (hdB : Dig B64 LB) (hA : LA.length ≤ N) (hB : LB.length + h ≤ N) (hR : R.length = N + 1) (hv : val B64 R = B64 ^ h * val B64 LB)
    (H : AddI w wr g [] R [] R.length (val B64 LA) A1 cc) : Row .u64 105 wr g A1 ∧ Dig B64 A1 ∧ val B64 A1 = val B64 LA + B64 ^ h * val B64 LB ∧ A1.length = N + 1 := by
  have hl : A1.length = N + 1 := by rw [H.len, hR]
  have e := H.eq
  rw [hv, hR] at e
  have h1 := val_lt B64_pos hdA
  have h2 := val_lt B64_pos hdB
  have h3 : B64 ^ LA.length ≤ B64 ^ N := pow_mono B64_pos hA
  have h5 : B64 ^ (h + LB.length) ≤ B64 ^ N := pow_mono B64_pos (by omega)
  have hp : 0 < B64 ^ h := Int.pow_pos B64_pos
  have h6 : B64 ^ h * val B64 LB ≤ B64 ^ h * B64 ^ LB.length := Int.mul_le_mul_of_nonneg_left (Int.le_of_lt h2) (Int.le_of_lt hp)
  rw [← Int.pow_add] at h6
  have h4 := val_nonneg B64_pos H.dig
  have hpN : 0 < B64 ^ N := Int.pow_pos B64_pos
  have hcc : cc = 0 := by
    rcases (show cc = 0 ∨ cc = 1 by have := H.c0; have := H.c1; omega) with h | h
    · exact h
    · subst h
      rw [Int.pow_succ] at e
      have : B64 ^ N * 2 ≤ B64 ^ N * B64 := Int.mul_le_mul_of_nonneg_left (by decide) (Int.le_of_lt hpN)
      omega
  subst hcc
  refine ⟨by simpa using H.row, H.dig, by simp at e; omega, hl⟩

set_option maxRecDepth 100000 in
set_option maxHeartbeats 2000000 in
theorem join_any (va vb : Value) (a b : Int) (Ka Kb t K : Nat) (w : World) (hA : Nt w va a Ka) (hB : Nt w vb b Kb) (hKa : Ka < K) (hKb : Kb + t < K) (hK : K ≤ 1073741824) :
    Calls Try.prog 104 #[va, vb, .int .i64 t] w (RetOwn w (a + B64 ^ t * b) K) := by
  obtain ⟨ao, ca, LA, rfl, hA⟩ := hA
  obtain ⟨bo, cb, LB, rfl, hB⟩ := hB
  obtain ⟨n, hn⟩ : ∃ n, n = LA.length := ⟨_, rfl⟩
  obtain ⟨m, hm⟩ : ∃ m, m = LB.length := ⟨_, rfl⟩
  have hnK : n < K := by have := hA.le; omega
  have hmK : m + t < K := by have := hB.le; omega
  rw [← hn, ← hm]
  obtain ⟨N, hN⟩ : ∃ N, N = max n (m + t) := ⟨_, rfl⟩
  have hNi : max (n : Int) ((m : Int) + (t : Int)) = (N : Int) := by omega
  have hNn : n ≤ N := by omega
  have hNm : m + t ≤ N := by omega
  have hNK : N < K := by omega
  have HA := hid hA; have HB := hid hB; have Hn := hid hn; have Hm := hid hm
  clear hA hB hn hm hN
  by_cases hcmp : (n : Int) < (m : Int) + (t : Int)
  all_goals
  obtain ⟨i0, hi, hz0, hz1, hz2⟩ := info_parts Try.info105
  go_enter Try.func104, Try.ntmps104
  go_wp2_with (at_make; refine wpList_make_row w rfl _ _ 77 rfl 105 i0 .u64 Try.underlying77 hi hz0 hz1 .i64 .i64 _ _ (N + 1) rfl rfl (by omega) (by omega) (by rw [hz2]; omega) (by unfold maxLen; omega) ?_)
  intro w1 hrow hg1
  have hg1b := grown_below hg1
  have HRB := hid (HB.out.rd.below hg1b (Nat.le_refl _))
  have HRA := hid (HA.out.rd.below hg1b (Nat.le_refl _))
  have hrow1 : Row .u64 105 w1 w.heap.size (List.replicate t 0 ++ List.replicate (N + 1 - t) 0 ++ []) := by
    rw [List.append_nil, List.replicate_append_replicate, show t + (N + 1 - t) = N + 1 by omega]; exact hrow
  have Hrow1 := hid hrow1
  have Hb1 := hid hg1b
  clear hrow hrow1 hg1 hg1b
  go_wp2_with ((with_reducible refine wpList_copy_row rfl _ _ _ _ rfl 105 Try.underlying77 Try.size105 .u64 105 w.heap.size (List.replicate t 0) (List.replicate (N + 1 - t) 0) [] LB t (N + 1 - t) m (N + 1 - t) bo cb rfl rfl (by simp) (by simp) Hm.out Hrow1.out HRB.out (by have := Hm.out; simp; omega) ?_))
  intro w2 hrow2 hg2
  have HneA := hid (HA.out.rd.ne (Nat.le_refl w.heap.size))
  have HRA2 := hid (HRA.out.keptNew hg2 HneA.out)
  obtain ⟨R, hR⟩ : ∃ R, R = List.replicate t (0 : Int) ++ (LB ++ List.replicate (N + 1 - t - LB.length) (0 : Int)) := ⟨_, rfl⟩
  rw [← hR] at hrow2
  have hRl : R.length = N + 1 := by have := Hm.out; rw [hR]; simp; omega
  have hRd : Dig B64 R := by
    rw [hR]
    exact (Dig.replicate B64_pos _).append (HB.out.dig.append (Dig.replicate B64_pos _))
  have hRv : val B64 R = B64 ^ t * val B64 LB := by
    rw [hR, val_append, val_append, val_replicate, List.length_replicate, val_replicate]; simp
  have hc := addTo_any w.heap.size [] R [] LA (N + 1) ca ao w2 (by simpa using hrow2) hRd HA.out.dig (by omega) (by omega) HRA2.out (by have := Hn.out; omega) HneA.out
  rw [show ([] : List Int).length = 0 from rfl, hRl, ← Hn.out] at hc
  have hdone := fun (w' : World) (A1 : List Int) (cc : Int) (HI : AddI w2 w' w.heap.size [] R [] R.length (val B64 LA) A1 cc) => join_done (N := N) HA.out.dig HB.out.dig (by have := Hn.out; omega) (by have := Hm.out; omega) hRl hRv HI
  rw [hRl, HA.out.eq, HB.out.eq] at hdone
  rw [HA.out.eq] at hc
  have Hc := hid hc; have Hd := hid hdone
  have Hb2 := hid (Hb1.out.grown hg2 Hb1.out.size (fun k e => by cases e; exact Nat.le_refl _))
  have Hg2 := hid hg2
  clear hc hdone hR hRl hRd hRv hrow2 hg2
  go_wp2_with (go_at_call 101; refine Hc.out.mono ?_; rintro e w3 ⟨A1, cc, rfl, HI⟩)
  obtain ⟨hrow3, hd3, hv3, hl3⟩ := Hd.out _ _ _ HI
  have hbel : Below w.heap.size w w3 := Hb2.out.grown HI.gr (by have := Hb2.out.size; omega) (fun k e => by cases e; exact Nat.le_refl _)
  have ht := trim64_any (some ⟨w.heap.size, 0, none⟩) (N + 1) A1 w3 (row_rd hrow3 (by omega) (by omega))
  rw [hl3] at ht
  have hres := own_row (B := w.heap.size) (c := N + 1) (K := K) hrow3 hd3 hv3 (by omega) (by omega) (by omega) (Nat.le_refl _)
  have HT := hid ht; have Hres := hid hres; have Hbel := hid hbel
  clear ht hres hbel hrow3 hd3 hv3 hl3 HI
  refine HT.out.mono ?_
  rintro e w4 ⟨rfl, rfl⟩
  go_wp2
  go_ret
  exact ⟨_, rfl, Hres.out, Hbel.out⟩

end Go.Proofs.Ytbmdjimfncgomaa
