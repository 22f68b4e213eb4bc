/- exact.addTo: it adds to a row, and hands back what is carried beyond it. exact.subtractFrom: it subtracts from a row, and hands back what is borrowed from beyond it. exact.trim, at natural and at []uint32: a prefix. Naturals of the program: what a slice of limbs stands for. -/
import Derived.Test.YtbapeilpkhbbeaaGreatBn01
/- exact.addTo: it adds to a row, and hands back what is carried beyond it. -/
namespace Go.Proofs.YtbapeilpkhbbeaaGreat
open Go.RowKit

theorem B64_pos : 0 < B64 := by decide

theorem val_set (B : Int) (l : List Int) (i : Nat) (x : Int) (hi : i < l.length) : val B (l.set i x) = val B l + B ^ i * (x - l[i]?.getD 0) := by
  induction l generalizing i with
  | nil => simp at hi
  | cons y l ih =>
    cases i with
    | zero => simp [val]; omega
    | succ i =>
      have := ih i (by simpa using hi)
      simp only [List.set_cons_succ, val, this, List.getElem?_cons_succ, Int.pow_succ]
      grind
theorem Dig.set {B : Int} {l : List Int} (h : Dig B l) (i : Nat) {x : Int} (h0 : 0 ≤ x) (h1 : x < B) : Dig B (l.set i x) := fun y hy => by
  rcases List.mem_or_eq_of_mem_set hy with hy | rfl
  · exact h y hy
  · exact ⟨h0, h1⟩

/-- What holds of a sum: k digits have been added, whose number is m. -/
structure AddI (w wr : World) (g : Nat) (P A S : List Int) (k : Nat) (m : Int) (A1 : List Int) (cc : Int) : Prop where
  len : A1.length = A.length
  dig : Dig B64 A1
  c0 : 0 ≤ cc
  c1 : cc ≤ 1
  row : Row .u64 106 wr g (P ++ A1 ++ S)
  gr : w.grownBy wr (some g)
  eq : val B64 A1 + B64 ^ k * cc = val B64 A + m

theorem AddI.step {w wr : World} {g : Nat} {P A S : List Int} {k : Nat} {m : Int} {A1 : List Int} {cc : Int} (h : AddI w wr g P A S k m A1 cc) (y : Int) (h0 : 0 ≤ y) (h1 : y < B64) (hk : k < A.length) :
    AddI w (wr.setCell ⟨g, P.length + k, none⟩ (.int .u64 ((A1[k]?.getD 0 + y + cc) % B64))) g P A S (k + 1) (m + B64 ^ k * y) (A1.set k ((A1[k]?.getD 0 + y + cc) % B64)) ((A1[k]?.getD 0 + y + cc) / B64) := by
  have hl : k < A1.length := by rw [h.len]; exact hk
  have hx := h.dig.at B64_pos k
  have hc0 := h.c0; have hc1 := h.c1
  have hr := h.row.set (P.length + k) ((A1[k]?.getD 0 + y + cc) % B64)
  rw [mid_set P A1 S k _ hl] at hr
  have hd := Int.emod_add_mul_ediv (A1[k]?.getD 0 + y + cc) B64
  have b0 := Int.emod_nonneg (A1[k]?.getD 0 + y + cc) (show B64 ≠ 0 by decide)
  have b1 := Int.emod_lt_of_pos (A1[k]?.getD 0 + y + cc) B64_pos
  refine ⟨by simpa using h.len, h.dig.set k b0 b1, Int.ediv_nonneg (by omega) (Int.le_of_lt B64_pos), ?_, hr, grown_trans h.gr (grown_set _ _ _ _), ?_⟩
  · have : A1[k]?.getD 0 + y + cc < 2 * B64 := by omega
    have := Int.ediv_lt_of_lt_mul B64_pos this
    omega
  · rw [val_set _ _ _ _ hl, Int.pow_succ]
    have e := h.eq
    grind

theorem AddI.done {w wr : World} {g : Nat} {P A S : List Int} {k : Nat} {m : Int} {A1 : List Int} {cc : Int} (h : AddI w wr g P A S k m A1 cc) (he : cc = 0 ∨ k = A.length) : AddI w wr g P A S A.length m A1 cc := by
  rcases he with rfl | rfl
  · exact ⟨h.len, h.dig, h.c0, h.c1, h.row, h.gr, by have := h.eq; simpa using this⟩
  · exact h

theorem val_take_succ (B : Int) (M : List Int) (k : Nat) (hk : k < M.length) : val B (M.take (k + 1)) = val B (M.take k) + B ^ k * M[k]?.getD 0 := by
  rw [take_succ_getD M k hk, val_snoc, List.length_take, Nat.min_eq_left (by omega)]

set_option maxHeartbeats 1000000 in
theorem addTo_any (g : Nat) (P A S M : List Int) (c bc : Nat) (bo : Option Addr) (w : World) (hrow : Row .u64 106 w g (P ++ A ++ S)) (hdA : Dig B64 A) (hdM : Dig B64 M)
    (hcA : A.length ≤ c) (hcm : c ≤ 9223372036854775807) (hM : Rd w .u64 bo bc M) (hMA : M.length ≤ A.length) (hne : 0 < M.length → ∀ b off, bo = some ⟨b, off, none⟩ → b ≠ g) :
    Calls Tryz.prog 137 #[.slice (some ⟨g, P.length, none⟩) A.length c, .slice bo M.length bc] w fun e w' => ∃ A1 cc, e = .returned (.int .u64 cc) ∧ AddI w w' g P A S A.length (val B64 M) A1 cc := by
  obtain ⟨off, hoff⟩ : ∃ off, off = P.length := ⟨_, rfl⟩
  obtain ⟨n, hn⟩ : ∃ n, n = A.length := ⟨_, rfl⟩
  obtain ⟨m, hm⟩ : ∃ m, m = M.length := ⟨_, rfl⟩
  have hmn : m ≤ n := by omega
  have hmc := hM.cap; have hmm := hM.most
  rw [← hm] at hmc
  rw [← hn] at hcA
  rw [← hn, ← hm, ← hoff]
  have H0 : AddI w w g P A S 0 (val B64 (M.take 0)) A 0 := ⟨rfl, hdA, Int.le_refl 0, by decide, hrow, grown_refl _ _, by simp [val]⟩
  have Hoff := hid hoff; have Hn := hid hn; have Hm := hid hm; have HdM := hid hdM; have Hne := hid hne; have HM := hid hM
  clear hoff hn hm hdA hdM hne hrow hM hMA
  go_enter Tryz.func137, Tryz.ntmps137
  go_wp2
  go_loopw [4, 10] (fun cv iv wr => ∃ k : Nat, ∃ A1 cc, k ≤ m ∧ iv = .int .i64 k ∧ cv = .int .u64 cc ∧ AddI w wr g P A S k (val B64 (M.take k)) A1 cc) (fun _ iv _ => m - (intOf iv).toNat)
  case atStart => exact ⟨0, A, 0, Nat.zero_le _, rfl, rfl, H0⟩
  case round =>
    obtain ⟨k, A1, cc, hk, rfl, rfl, H⟩ := hrel
    by_cases hlt : k < m
    · have hAk := H.row.cell (off + k) (by have := Hoff.out; have := Hn.out; have := H.len; simp; omega)
      have hfr := H.row.frozen (off + k)
      rw [Hoff.out, mid_get P A1 S k (by have := Hn.out; have := H.len; omega), ← Hoff.out] at hAk
      have hkn : k < n := by omega
      obtain ⟨b, o, rfl⟩ := HM.out.adr (by have := Hm.out; omega)
      have hMk := (HM.out.keptNew H.gr Hne.out).cell b o rfl k (by have := Hm.out; omega)
      have h0 := HdM.out.at B64_pos k
      have h1 := H.dig.at B64_pos k
      have HS := H.step (M[k]?.getD 0) h0.1 h0.2 (by have := Hn.out; omega)
      rw [← val_take_succ B64 M k (by have := Hm.out; omega), ← Hoff.out] at HS
      have c0 := H.c0; have c1 := H.c1
      obtain ⟨x, hx⟩ : ∃ x, x = A1[k]?.getD 0 := ⟨_, rfl⟩
      obtain ⟨y, hy⟩ : ∃ y, y = M[k]?.getD 0 := ⟨_, rfl⟩
      rw [← hx, ← hy] at HS; rw [← hx] at hAk h1; rw [← hy] at hMk h0
      have H' := hid H; have HS' := hid HS; have Hx := hid hx; have Hy := hid hy
      clear H HS hx hy H0
      go_wp2_with (simp only [add64 x y cc h1.1 h0.1 c0 c1])
      go_roundw
      case rel => exact ⟨k + 1, _, _, by omega, by go_num, rfl, HS'.out⟩
      case measure => simp [intOf]; omega
    · obtain rfl : k = m := by omega
      have HT : AddI w wr g P A S k (val B64 M) A1 cc := by have := H; rwa [Hm.out, List.take_length, ← Hm.out] at this
      clear H H0
      go_wp2
      go_loopw [4, 7] (fun cv iv wr => ∃ j : Nat, ∃ A1 cc, k ≤ j ∧ j ≤ n ∧ iv = .int .i64 j ∧ cv = .int .u64 cc ∧ AddI w wr g P A S j (val B64 M) A1 cc) (fun _ iv _ => n - (intOf iv).toNat)
      case atStart => exact ⟨k, A1, cc, Nat.le_refl _, hmn, rfl, rfl, HT⟩
      case round =>
        obtain ⟨j, A1, cc, hkj, hjn, rfl, rfl, H⟩ := hrel
        have c0 := H.c0; have c1 := H.c1
        by_cases hz : cc = 0
        · subst hz
          have HD := H.done (.inl rfl)
          clear H HT
          go_wp2
          go_ret
          exact ⟨A1, 0, rfl, by rw [Hn.out]; exact HD⟩
        · obtain rfl : cc = 1 := by omega
          by_cases hlt : j < n
          · have hAk := H.row.cell (off + j) (by have := Hoff.out; have := Hn.out; have := H.len; simp; omega)
            have hfr := H.row.frozen (off + j)
            rw [Hoff.out, mid_get P A1 S j (by have := Hn.out; have := H.len; omega), ← Hoff.out] at hAk
            have h1 := H.dig.at B64_pos j
            have HS := H.step 0 (Int.le_refl 0) (by decide) (by have := Hn.out; omega)
            rw [← Hoff.out] at HS
            simp only [Int.add_zero, Int.mul_zero] at HS
            obtain ⟨x, hx⟩ : ∃ x, x = A1[j]?.getD 0 := ⟨_, rfl⟩
            rw [← hx] at HS hAk h1
            have H' := hid H; have HS' := hid HS; have Hx := hid hx
            clear H HS hx HT
            have ha := add64 x 0 1 h1.1 (Int.le_refl 0) (by decide) (by decide)
            simp only [Int.add_zero] at ha
            go_wp2_with (simp only [ha])
            go_roundw
            case rel => exact ⟨j + 1, _, _, by omega, by omega, by go_num, rfl, HS'.out⟩
            case measure => simp [intOf]; omega
          · have HD := H.done (.inr (by have := Hn.out; omega))
            clear H HT
            go_wp2
            go_ret
            exact ⟨A1, 1, rfl, by rw [Hn.out]; exact HD⟩

end Go.Proofs.YtbapeilpkhbbeaaGreat

/- exact.subtractFrom: it subtracts from a row, and hands back what is borrowed from beyond it. -/
namespace Go.Proofs.YtbapeilpkhbbeaaGreat
open Go.RowKit

theorem sub_wrap (x y b : Int) (h0 : 0 ≤ x) (h1 : x < B64) (k0 : 0 ≤ y) (k1 : y < B64) (b0 : 0 ≤ b) (b1 : b ≤ 1) : (x - y - b) % B64 = x - y - b + B64 * bor x y b := by
  unfold bor B64 at *; split <;> omega

/-- What holds of a difference: k digits have been subtracted, whose number is m. -/
structure SubI (w wr : World) (g : Nat) (P A S : List Int) (k : Nat) (m : Int) (A1 : List Int) (cc : Int) : Prop where
  len : A1.length = A.length
  dig : Dig B64 A1
  c0 : 0 ≤ cc
  c1 : cc ≤ 1
  row : Row .u64 106 wr g (P ++ A1 ++ S)
  gr : w.grownBy wr (some g)
  eq : val B64 A1 - B64 ^ k * cc = val B64 A - m

theorem SubI.step {w wr : World} {g : Nat} {P A S : List Int} {k : Nat} {m : Int} {A1 : List Int} {cc : Int} (h : SubI w wr g P A S k m A1 cc) (y : Int) (h0 : 0 ≤ y) (h1 : y < B64) (hk : k < A.length) :
    SubI w (wr.setCell ⟨g, P.length + k, none⟩ (.int .u64 ((A1[k]?.getD 0 - y - cc) % B64))) g P A S (k + 1) (m + B64 ^ k * y) (A1.set k ((A1[k]?.getD 0 - y - cc) % B64)) (bor (A1[k]?.getD 0) y cc) := by
  have hl : k < A1.length := by rw [h.len]; exact hk
  have hx := h.dig.at B64_pos k
  have hc0 := h.c0; have hc1 := h.c1
  have hr := h.row.set (P.length + k) ((A1[k]?.getD 0 - y - cc) % B64)
  rw [mid_set P A1 S k _ hl] at hr
  have hd := sub_wrap (A1[k]?.getD 0) y cc hx.1 hx.2 h0 h1 hc0 hc1
  have b0 := Int.emod_nonneg (A1[k]?.getD 0 - y - cc) (show B64 ≠ 0 by decide)
  have b1 := Int.emod_lt_of_pos (A1[k]?.getD 0 - y - cc) B64_pos
  refine ⟨by simpa using h.len, h.dig.set k b0 b1, (bor_01 _ _ _).1, (bor_01 _ _ _).2, hr, grown_trans h.gr (grown_set _ _ _ _), ?_⟩
  rw [val_set _ _ _ _ hl, Int.pow_succ, hd]
  have e := h.eq
  grind

theorem SubI.done {w wr : World} {g : Nat} {P A S : List Int} {k : Nat} {m : Int} {A1 : List Int} {cc : Int} (h : SubI w wr g P A S k m A1 cc) (he : cc = 0 ∨ k = A.length) : SubI w wr g P A S A.length m A1 cc := by
  rcases he with rfl | rfl
  · exact ⟨h.len, h.dig, h.c0, h.c1, h.row, h.gr, by have := h.eq; simpa using this⟩
  · exact h

set_option maxHeartbeats 1000000 in
theorem subFrom_any (g : Nat) (P A S M : List Int) (c bc : Nat) (bo : Option Addr) (w : World) (hrow : Row .u64 106 w g (P ++ A ++ S)) (hdA : Dig B64 A) (hdM : Dig B64 M)
    (hcA : A.length ≤ c) (hcm : c ≤ 9223372036854775807) (hM : Rd w .u64 bo bc M) (hMA : M.length ≤ A.length) (hne : 0 < M.length → ∀ b off, bo = some ⟨b, off, none⟩ → b ≠ g) :
    Calls Tryz.prog 138 #[.slice (some ⟨g, P.length, none⟩) A.length c, .slice bo M.length bc] w fun e w' => ∃ A1 cc, e = .returned (.int .u64 cc) ∧ SubI w w' g P A S A.length (val B64 M) A1 cc := by
  obtain ⟨off, hoff⟩ : ∃ off, off = P.length := ⟨_, rfl⟩
  obtain ⟨n, hn⟩ : ∃ n, n = A.length := ⟨_, rfl⟩
  obtain ⟨m, hm⟩ : ∃ m, m = M.length := ⟨_, rfl⟩
  have hmn : m ≤ n := by omega
  have hmc := hM.cap; have hmm := hM.most
  rw [← hm] at hmc
  rw [← hn] at hcA
  rw [← hn, ← hm, ← hoff]
  have H0 : SubI w w g P A S 0 (val B64 (M.take 0)) A 0 := ⟨rfl, hdA, Int.le_refl 0, by decide, hrow, grown_refl _ _, by simp [val]⟩
  have Hoff := hid hoff; have Hn := hid hn; have Hm := hid hm; have HdM := hid hdM; have Hne := hid hne; have HM := hid hM
  clear hoff hn hm hdA hdM hne hrow hM hMA
  go_enter Tryz.func138, Tryz.ntmps138
  go_wp2
  go_loopw [4, 10] (fun cv iv wr => ∃ k : Nat, ∃ A1 cc, k ≤ m ∧ iv = .int .i64 k ∧ cv = .int .u64 cc ∧ SubI w wr g P A S k (val B64 (M.take k)) A1 cc) (fun _ iv _ => m - (intOf iv).toNat)
  case atStart => exact ⟨0, A, 0, Nat.zero_le _, rfl, rfl, H0⟩
  case round =>
    obtain ⟨k, A1, cc, hk, rfl, rfl, H⟩ := hrel
    by_cases hlt : k < m
    · have hAk := H.row.cell (off + k) (by have := Hoff.out; have := Hn.out; have := H.len; simp; omega)
      have hfr := H.row.frozen (off + k)
      rw [Hoff.out, mid_get P A1 S k (by have := Hn.out; have := H.len; omega), ← Hoff.out] at hAk
      have hkn : k < n := by omega
      obtain ⟨b, o, rfl⟩ := HM.out.adr (by have := Hm.out; omega)
      have hMk := (HM.out.keptNew H.gr Hne.out).cell b o rfl k (by have := Hm.out; omega)
      have h0 := HdM.out.at B64_pos k
      have h1 := H.dig.at B64_pos k
      have HS := H.step (M[k]?.getD 0) h0.1 h0.2 (by have := Hn.out; omega)
      rw [← val_take_succ B64 M k (by have := Hm.out; omega), ← Hoff.out] at HS
      have c0 := H.c0; have c1 := H.c1
      obtain ⟨x, hx⟩ : ∃ x, x = A1[k]?.getD 0 := ⟨_, rfl⟩
      obtain ⟨y, hy⟩ : ∃ y, y = M[k]?.getD 0 := ⟨_, rfl⟩
      rw [← hx, ← hy] at HS; rw [← hx] at hAk h1; rw [← hy] at hMk h0
      have H' := hid H; have HS' := hid HS; have Hx := hid hx; have Hy := hid hy
      clear H HS hx hy H0
      go_wp2_with (simp only [sub64 x y cc h1.1 h0.1 h0.2 c0 c1])
      go_roundw
      case rel => exact ⟨k + 1, _, _, by omega, by go_num, rfl, HS'.out⟩
      case measure => simp [intOf]; omega
    · obtain rfl : k = m := by omega
      have HT : SubI w wr g P A S k (val B64 M) A1 cc := by have := H; rwa [Hm.out, List.take_length, ← Hm.out] at this
      clear H H0
      go_wp2
      go_loopw [4, 7] (fun cv iv wr => ∃ j : Nat, ∃ A1 cc, k ≤ j ∧ j ≤ n ∧ iv = .int .i64 j ∧ cv = .int .u64 cc ∧ SubI w wr g P A S j (val B64 M) A1 cc) (fun _ iv _ => n - (intOf iv).toNat)
      case atStart => exact ⟨k, A1, cc, Nat.le_refl _, hmn, rfl, rfl, HT⟩
      case round =>
        obtain ⟨j, A1, cc, hkj, hjn, rfl, rfl, H⟩ := hrel
        have c0 := H.c0; have c1 := H.c1
        by_cases hz : cc = 0
        · subst hz
          have HD := H.done (.inl rfl)
          clear H HT
          go_wp2
          go_ret
          exact ⟨A1, 0, rfl, by rw [Hn.out]; exact HD⟩
        · obtain rfl : cc = 1 := by omega
          by_cases hlt : j < n
          · have hAk := H.row.cell (off + j) (by have := Hoff.out; have := Hn.out; have := H.len; simp; omega)
            have hfr := H.row.frozen (off + j)
            rw [Hoff.out, mid_get P A1 S j (by have := Hn.out; have := H.len; omega), ← Hoff.out] at hAk
            have h1 := H.dig.at B64_pos j
            have HS := H.step 0 (Int.le_refl 0) (by decide) (by have := Hn.out; omega)
            rw [← Hoff.out] at HS
            simp only [Int.sub_zero, Int.add_zero, Int.mul_zero] at HS
            obtain ⟨x, hx⟩ : ∃ x, x = A1[j]?.getD 0 := ⟨_, rfl⟩
            rw [← hx] at HS hAk h1
            have H' := hid H; have HS' := hid HS; have Hx := hid hx
            clear H HS hx HT
            have ha := sub64 x 0 1 h1.1 (Int.le_refl 0) (by decide) (by decide) (by decide)
            simp only [Int.sub_zero] at ha
            go_wp2_with (simp only [ha])
            go_roundw
            case rel => exact ⟨j + 1, _, _, by omega, by omega, by go_num, rfl, HS'.out⟩
            case measure => simp [intOf]; omega
          · have HD := H.done (.inr (by have := Hn.out; omega))
            clear H HT
            go_wp2
            go_ret
            exact ⟨A1, 1, rfl, by rw [Hn.out]; exact HD⟩

end Go.Proofs.YtbapeilpkhbbeaaGreat

/- exact.trim, at natural and at []uint32: a prefix. -/
namespace Go.Proofs.YtbapeilpkhbbeaaGreat
open Go.RowKit

theorem trimL_step0 (L : List Int) (m : Nat) (hm : m < L.length) (h : trimL (L.take (m + 1)) = trimL L) (hz : L[m]?.getD 0 = 0) : trimL (L.take m) = trimL L := by
  rw [take_succ_getD L m hm, trimL_snoc, if_pos hz] at h; exact h
theorem trimL_step1 (L : List Int) (m : Nat) (hm : m < L.length) (h : trimL (L.take (m + 1)) = trimL L) (hz : ¬ L[m]?.getD 0 = 0) : (trimL L).length = m + 1 := by
  rw [take_succ_getD L m hm, trimL_snoc, if_neg hz] at h; rw [← h]; simp; omega
theorem trimL_stop (L : List Int) (h : trimL (L.take 0) = trimL L) : (trimL L).length = 0 := by rw [← h]; rfl

set_option maxHeartbeats 400000 in
theorem trim64_any (ao : Option Addr) (c : Nat) (L : List Int) (w : World) (h : Rd w .u64 ao c L) :
    Calls Tryz.prog 109 #[.slice ao L.length c] w fun e w' => e = .returned (.slice ao (trimL L).length c) ∧ w = w' := by
  obtain ⟨n, hn⟩ : ∃ n, n = L.length := ⟨_, rfl⟩
  have hc := h.cap; have hm := h.most
  rw [← hn] at hc ⊢
  have Hn := hid hn; clear hn
  go_enter Tryz.func109, Tryz.ntmps109
  go_wp2
  go_loop [0] (fun v => ∃ m : Nat, m ≤ n ∧ v = .slice ao m c ∧ Hid (trimL (L.take m) = trimL L)) (fun v => lenOf v)
  case atStart => exact ⟨n, Nat.le_refl _, rfl, hid (by rw [Hn.out, List.take_length])⟩
  case round =>
    obtain ⟨m, hmn, rfl, HT⟩ := hrel
    cases m with
    | zero =>
      go_wp2
      go_ret
      exact ⟨by rw [trimL_stop L HT.out]; rfl, rfl⟩
    | succ m =>
      obtain ⟨b, off, rfl⟩ := h.adr (by have := Hn.out; omega)
      have hcell := h.cell b off rfl m (by have := Hn.out; omega)
      by_cases hz : L[m]?.getD 0 = 0
      · have HZ := hid hz
        rw [hz] at hcell
        clear hz
        go_wp2
        go_round
        case rel => exact ⟨m, by omega, rfl, hid (trimL_step0 L m (by have := Hn.out; omega) HT.out HZ.out)⟩
        case measure => simp [lenOf]
      · have HZ := hid hz
        go_wp2
        go_ret
        exact ⟨by rw [trimL_step1 L m (by have := Hn.out; omega) HT.out HZ.out]; rfl, rfl⟩

set_option maxHeartbeats 400000 in
theorem trim32_any (ao : Option Addr) (c : Nat) (L : List Int) (w : World) (h : Rd w .u32 ao c L) :
    Calls Tryz.prog 139 #[.slice ao L.length c] w fun e w' => e = .returned (.slice ao (trimL L).length c) ∧ w = w' := by
  obtain ⟨n, hn⟩ : ∃ n, n = L.length := ⟨_, rfl⟩
  have hc := h.cap; have hm := h.most
  rw [← hn] at hc ⊢
  have Hn := hid hn; clear hn
  go_enter Tryz.func139, Tryz.ntmps139
  go_wp2
  go_loop [0] (fun v => ∃ m : Nat, m ≤ n ∧ v = .slice ao m c ∧ Hid (trimL (L.take m) = trimL L)) (fun v => lenOf v)
  case atStart => exact ⟨n, Nat.le_refl _, rfl, hid (by rw [Hn.out, List.take_length])⟩
  case round =>
    obtain ⟨m, hmn, rfl, HT⟩ := hrel
    cases m with
    | zero =>
      go_wp2
      go_ret
      exact ⟨by rw [trimL_stop L HT.out]; rfl, rfl⟩
    | succ m =>
      obtain ⟨b, off, rfl⟩ := h.adr (by have := Hn.out; omega)
      have hcell := h.cell b off rfl m (by have := Hn.out; omega)
      by_cases hz : L[m]?.getD 0 = 0
      · have HZ := hid hz
        rw [hz] at hcell
        clear hz
        go_wp2
        go_round
        case rel => exact ⟨m, by omega, rfl, hid (trimL_step0 L m (by have := Hn.out; omega) HT.out HZ.out)⟩
        case measure => simp [lenOf]
      · have HZ := hid hz
        go_wp2
        go_ret
        exact ⟨by rw [trimL_step1 L m (by have := Hn.out; omega) HT.out HZ.out]; rfl, rfl⟩

end Go.Proofs.YtbapeilpkhbbeaaGreat

/- Naturals of the program: what a slice of limbs stands for. -/
namespace Go.Proofs.YtbapeilpkhbbeaaGreat
open Go.RowKit

/-- The value v reads in w as the natural number n, in normal form, with K limbs at most. -/
structure NtL (w : World) (ao : Option Addr) (c : Nat) (L : List Int) (n : Int) (K : Nat) : Prop where
  rd : Rd w .u64 ao c L
  dig : Dig B64 L
  nrm : Nrm L
  eq : val B64 L = n
  le : L.length ≤ K
def Nt (w : World) (v : Value) (n : Int) (K : Nat) : Prop := ∃ ao c L, v = .slice ao L.length c ∧ NtL w ao c L n K
/-- The call hands back such a value, and has turned nothing that was there. -/
def RetN (w : World) (n : Int) (K : Nat) (e : Ending) (w' : World) : Prop := ∃ v, e = .returned v ∧ Nt w' v n K ∧ Below w.heap.size w w'

theorem NtL.nonneg {w : World} {ao : Option Addr} {c : Nat} {L : List Int} {n : Int} {K : Nat} (h : NtL w ao c L n K) : 0 ≤ n := by rw [← h.eq]; exact val_nonneg B64_pos h.dig
theorem Nt.nonneg {w : World} {v : Value} {n : Int} {K : Nat} (h : Nt w v n K) : 0 ≤ n := by obtain ⟨_, _, _, _, h⟩ := h; exact h.nonneg
theorem Nt.below {w w' : World} {v : Value} {n : Int} {K B : Nat} (h : Nt w v n K) (hb : Below B w w') (hB : w.heap.size ≤ B) : Nt w' v n K := by
  obtain ⟨ao, c, L, rfl, h⟩ := h
  exact ⟨ao, c, L, rfl, h.rd.below hb hB, h.dig, h.nrm, h.eq, h.le⟩
theorem Nt.mono {w : World} {v : Value} {n : Int} {K K' : Nat} (h : Nt w v n K) (hk : K ≤ K') : Nt w v n K' := by
  obtain ⟨ao, c, L, rfl, h⟩ := h
  exact ⟨ao, c, L, rfl, h.rd, h.dig, h.nrm, h.eq, Nat.le_trans h.le hk⟩
theorem Nt.nil (w : World) : Nt w (.slice none 0 0) 0 0 := ⟨none, 0, [], rfl, Rd.nil _ _, Dig.nil _, rfl, rfl, Nat.le_refl _⟩

/-- A row, trimmed, is a natural. -/
theorem nt_row {w : World} {g : Nat} {L : List Int} {c : Nat} {n : Int} {K : Nat} (h : Row .u64 106 w g L) (hd : Dig B64 L) (hv : val B64 L = n) (hc : L.length ≤ c) (hc' : c ≤ 9223372036854775807) (hK : L.length ≤ K) :
    Nt w (.slice (some ⟨g, 0, none⟩) (trimL L).length c) n K := by
  have h' : Row .u64 106 w g ([] ++ L ++ []) := by simpa using h
  have hr := h'.rd hc hc'
  refine ⟨_, c, trimL L, rfl, ?_, hd.trim, Nrm.trim L, by rw [val_trim]; exact hv, Nat.le_trans (trimL_len L) hK⟩
  rw [trimL_take L]; exact hr.take _
theorem row_rd {w : World} {g : Nat} {L : List Int} {c : Nat} (h : Row .u64 106 w g L) (hc : L.length ≤ c) (hc' : c ≤ 9223372036854775807) : Rd w .u64 (some ⟨g, 0, none⟩) c L := by
  have h' : Row .u64 106 w g ([] ++ L ++ []) := by simpa using h
  exact h'.rd hc hc'

theorem val_replicate (B : Int) (n : Nat) : val B (List.replicate n 0) = 0 := by
  induction n with
  | zero => rfl
  | succ n ih => simp [List.replicate_succ, val, ih]
theorem Dig.replicate {B : Int} (hB : 0 < B) (n : Nat) : Dig B (List.replicate n 0) := fun x hx => by rw [(List.mem_replicate.1 hx).2]; exact ⟨Int.le_refl 0, hB⟩

theorem Tryz.info106 : (Tryz.prog.info? 106).map (fun i => (i.zero, i.size, i.bytes)) = some (some (.int .u64 0), 1, 8) := by kernel_rfl
theorem Tryz.size106 : (Tryz.prog.info? 106).map (·.size) = some 1 := by kernel_rfl

/-- A copy into a row of zeros, and a sum with it: no carry is left. -/
theorem add_done {w wr : World} {g : Nat} {LA LB A1 : List Int} {cc : Int} (hdA : Dig B64 LA) (hdB : Dig B64 LB) (hle : LB.length ≤ LA.length)
    (h : AddI w wr g [] (LA ++ [0]) [] (LA ++ [0]).length (val B64 LB) A1 cc) : Row .u64 106 wr g A1 ∧ Dig B64 A1 ∧ val B64 A1 = val B64 LA + val B64 LB ∧ A1.length = LA.length + 1 := by
  have hl : A1.length = LA.length + 1 := by rw [h.len]; simp
  have e := h.eq
  rw [val_snoc] at e
  have h1 := val_lt B64_pos hdA
  have h2 := val_lt B64_pos hdB
  have h3 : B64 ^ LB.length ≤ B64 ^ LA.length := pow_mono B64_pos hle
  have h4 := val_nonneg B64_pos h.dig
  have hp : 0 < B64 ^ LA.length := Int.pow_pos B64_pos
  have hcc : cc = 0 := by
    rcases (show cc = 0 ∨ cc = 1 by have := h.c0; have := h.c1; omega) with h | h
    · exact h
    · subst h
      have : B64 ^ (LA ++ [(0 : Int)]).length = B64 ^ LA.length * B64 := by rw [List.length_append, Int.pow_add]; simp [Int.pow_succ]
      rw [this] at e
      have : B64 ^ LA.length * 2 ≤ B64 ^ LA.length * B64 := Int.mul_le_mul_of_nonneg_left (by decide) (Int.le_of_lt hp)
      omega
  subst hcc
  refine ⟨by simpa using h.row, h.dig, by simpa using e, hl⟩

end Go.Proofs.YtbapeilpkhbbeaaGreat
