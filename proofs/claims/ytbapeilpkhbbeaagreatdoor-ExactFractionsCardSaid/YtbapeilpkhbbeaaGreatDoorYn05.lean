/- exact.addProduct: it adds a product to a row. exact.subtractProduct: it subtracts a product from a row. exact.guessLimb: a limb of a quotient, or a greater one. -/
import Derived.Test.YtbapeilpkhbbeaaGreatDoorYn03
import Derived.Test.YtbapeilpkhbbeaaGreatDoorYn02
import Derived.Test.YtbapeilpkhbbeaaGreatDoorYn04
/- exact.addProduct: it adds a product to a row. -/
namespace Go.Proofs.YtbapeilpkhbbeaaGreatDoor
open Go.RowKit

theorem mul_le (x y : Int) (h0 : 0 ≤ x) (h1 : x < B64) (k0 : 0 ≤ y) (k1 : y < B64) : 0 ≤ x * y ∧ x * y ≤ 340282366920938463426481119284349108225 := by
  refine ⟨Int.mul_nonneg h0 k0, ?_⟩
  have a : x * y ≤ 18446744073709551615 * y := Int.mul_le_mul_of_nonneg_right (by unfold B64 at h1; omega) k0
  unfold B64 at k1; omega

/-- bits.Mul64, its two results under names. -/
theorem mul64_ex (x y : Int) (hx : 0 ≤ x) (hx' : x < B64) (hy : 0 ≤ y) (hy' : y < B64) (w : World) :
    Calls Tryz.prog 132 #[.int .u64 x, .int .u64 y] w fun e w' => ∃ hi lo, e = .returned (.tuple #[.int .u64 hi, .int .u64 lo]) ∧ (0 ≤ hi ∧ 0 ≤ lo ∧ lo < B64 ∧ hi ≤ 18446744073709551614 ∧ Hid (lo + B64 * hi = x * y)) ∧ w = w' := by
  refine (mul64 x y hx hx' hy hy' w).mono ?_
  rintro e w' ⟨rfl, rfl⟩
  have h := mul_le x y hx hx' hy hy'
  refine ⟨_, _, rfl, ⟨Int.ediv_nonneg h.1 (by decide), Int.emod_nonneg _ (by decide), Int.emod_lt_of_pos _ B64_pos, ?_, hid (Int.emod_add_mul_ediv _ _)⟩, rfl⟩
  have h2 := h.2
  unfold B64; omega

theorem add64_ex (x y c : Int) (hx : 0 ≤ x) (hx' : x < B64) (hy : 0 ≤ y) (hy' : y < B64) (hc0 : 0 ≤ c) (hc : c ≤ 1) :
    ∃ s d, (∀ w, (callFunc 149 #[.int .u64 x, .int .u64 y, .int .u64 c]).run Tryz.prog w = .ok (.value (.tuple #[.int .u64 s, .int .u64 d])) w) ∧ (0 ≤ s ∧ s < B64 ∧ 0 ≤ d ∧ d ≤ 1) ∧ s + B64 * d = x + y + c := by
  refine ⟨_, _, fun w => add64 x y c hx hy hc0 hc w, ⟨Int.emod_nonneg _ (by decide), Int.emod_lt_of_pos _ B64_pos, ?_, ?_⟩, Int.emod_add_mul_ediv _ _⟩
  · exact Int.ediv_nonneg (by omega) (by decide)
  · unfold B64 at *; omega

theorem mul_step {s x y cc hi lo l1 c1 o c2 : Int} (hs : 0 ≤ s ∧ s < B64) (hx : 0 ≤ x ∧ x < B64) (hy : 0 ≤ y ∧ y < B64) (hc : 0 ≤ cc ∧ cc < B64) (h1 : lo + B64 * hi = x * y) (h2 : l1 + B64 * c1 = lo + cc) (h3 : o + B64 * c2 = s + l1) (ho : 0 ≤ o) :
    hi + c1 + c2 ≤ 18446744073709551615 ∧ o + B64 * (hi + c1 + c2) = s + x * y + cc := by
  have h := (mul_le x y hx.1 hx.2 hy.1 hy.2).2
  generalize x * y = p at *
  unfold B64 at *
  constructor <;> omega

/-- What holds after k limbs. -/
structure MulI (w wr : World) (g : Nat) (P A S : List Int) (k : Nat) (m : Int) (A1 : List Int) (cc : Int) : Prop where
  len : A1.length = A.length
  dig : Dig B64 A1
  c0 : 0 ≤ cc
  c1 : cc < B64
  row : Row .u64 63 wr g (P ++ A1 ++ S)
  gr : w.grownBy wr (some g)
  eq : val B64 A1 + B64 ^ k * cc = val B64 A + m

theorem MulI.step {w wr : World} {g : Nat} {P A S : List Int} {k : Nat} {m : Int} {A1 : List Int} {cc : Int} (h : MulI w wr g P A S k m A1 cc) (p o d : Int) (h0 : 0 ≤ o) (h1 : o < B64) (d0 : 0 ≤ d) (d1 : d < B64) (he : o + B64 * d = A1[k]?.getD 0 + p + cc) (hk : k < A.length) :
    MulI w (wr.setCell ⟨g, P.length + k, none⟩ (.int .u64 o)) g P A S (k + 1) (m + B64 ^ k * p) (A1.set k o) d := by
  have hl : k < A1.length := by rw [h.len]; exact hk
  have hr := h.row.set (P.length + k) o
  rw [mid_set P A1 S k _ hl] at hr
  refine ⟨by simpa using h.len, h.dig.set k h0 h1, d0, d1, hr, grown_trans h.gr (grown_set _ _ _ _), ?_⟩
  rw [val_set _ _ _ _ hl, Int.pow_succ]
  have e := h.eq
  grind

set_option maxRecDepth 100000 in
set_option maxHeartbeats 2000000 in
theorem addProduct_any (g : Nat) (P A S M : List Int) (c bc : Nat) (bo : Option Addr) (x : Int) (w : World) (hrow : Row .u64 63 w g (P ++ A ++ S)) (hdA : Dig B64 A) (hdM : Dig B64 M) (hx0 : 0 ≤ x) (hx1 : x < B64)
    (hcA : A.length ≤ c) (_hcm : c ≤ 9223372036854775807) (hM : Rd w .u64 bo bc M) (hMA : M.length = A.length) (hne : 0 < M.length → ∀ b off, bo = some ⟨b, off, none⟩ → b ≠ g) :
    Calls Tryz.prog 126 #[.slice (some ⟨g, P.length, none⟩) A.length c, .slice bo M.length bc, .int .u64 x] w fun e w' => ∃ A1 cc, e = .returned (.int .u64 cc) ∧ MulI w w' g P A S A.length (val B64 M * x) A1 cc := by
  obtain ⟨off, hoff⟩ : ∃ off, off = P.length := ⟨_, rfl⟩
  obtain ⟨n, hn⟩ : ∃ n, n = A.length := ⟨_, rfl⟩
  have hnM : M.length = n := by omega
  have hmc := hM.cap; have hmm := hM.most
  rw [← hn] at hcA
  rw [hnM] at hmc
  have H0 : MulI w w g P A S 0 (val B64 (M.take 0) * x) A 0 := ⟨rfl, hdA, Int.le_refl 0, by decide, hrow, grown_refl _ _, by simp [val]⟩
  rw [hnM, ← hn, ← hoff]
  have Hoff := hid hoff; have Hn := hid hn; have Hm := hid hnM; have HdM := hid hdM; have Hne := hid hne; have HM := hid hM
  have Hx := hid (show 0 ≤ x ∧ x < B64 from ⟨hx0, hx1⟩)
  clear hoff hn hnM hdA hdM hne hrow hM hMA hx1
  go_enter Tryz.func126, Tryz.ntmps126
  go_wp2
  go_loopw [6, 18] (fun cv iv wr => ∃ k : Nat, ∃ A1 cc, k ≤ n ∧ iv = .int .i64 k ∧ cv = .int .u64 cc ∧ MulI w wr g P A S k (val B64 (M.take k) * x) A1 cc) (fun _ iv _ => n - (intOf iv).toNat)
  case atStart => exact ⟨0, A, 0, Nat.zero_le _, rfl, rfl, H0⟩
  case round =>
    obtain ⟨k, A1, cc, hk, rfl, rfl, H⟩ := hrel
    by_cases hlt : k < n
    · have hAk := H.row.cell (off + k) (by have := Hoff.out; have := Hn.out; have := H.len; simp; omega)
      have hfr := H.row.frozen (off + k)
      rw [Hoff.out, mid_get P A1 S k (by have := Hn.out; have := H.len; omega), ← Hoff.out] at hAk
      obtain ⟨b, o, rfl⟩ := HM.out.adr (by have := Hm.out; omega)
      have hMk := (HM.out.keptNew H.gr Hne.out).cell b o rfl k (by have := Hm.out; omega)
      have h0 := HdM.out.at B64_pos k
      have h1 := H.dig.at B64_pos k
      have c0 := H.c0; have c1 := H.c1
      have hv := val_take_succ B64 M k (by have := Hm.out; omega)
      have HST := hid (fun (o d : Int) => H.step (x * M[k]?.getD 0) o d)
      obtain ⟨s, hs⟩ : ∃ s, s = A1[k]?.getD 0 := ⟨_, rfl⟩
      obtain ⟨y, hy⟩ : ∃ y, y = M[k]?.getD 0 := ⟨_, rfl⟩
      rw [← hs] at hAk h1 HST; rw [← hy] at hMk h0 HST hv
      have Hs := hid hs; have Hy := hid hy; have Hh1 := hid h1; have Hh0 := hid h0; have Hc := hid (show 0 ≤ cc ∧ cc < B64 from ⟨c0, c1⟩); have Hv := hid hv
      clear H hs hy H0 h0 h1 c1 hv
      go_wp2_with fail
      refine (mul64_ex x y Hx.out.1 Hx.out.2 Hh0.out.1 Hh0.out.2 _).mono ?_
      rintro e w' ⟨hi, lo, rfl, ⟨hi0, lo0, lo1, hi1, HP⟩, rfl⟩
      obtain ⟨l1, d1, ha1, ⟨l10, l11, d10, d11⟩, hl1⟩ := add64_ex lo cc 0 lo0 lo1 Hc.out.1 Hc.out.2 (Int.le_refl 0) (by decide)
      obtain ⟨o2, d2, ha2, ⟨o20, o21, d20, d21⟩, ho2⟩ := add64_ex s l1 0 Hh1.out.1 Hh1.out.2 l10 l11 (Int.le_refl 0) (by decide)
      have hms := mul_step Hh1.out Hx.out Hh0.out Hc.out HP.out (by simpa using hl1) (by simpa using ho2) o20
      have hle := hms.1
      have HS := HST.out o2 (hi + d1 + d2) o20 o21 (by omega) (by unfold B64; omega) hms.2 (by have := Hn.out; omega)
      have hval : val B64 (M.take k) * x + B64 ^ k * (x * y) = val B64 (M.take (k + 1)) * x := by rw [Hv.out]; grind
      rw [hval, ← Hoff.out] at HS
      have HS' := hid HS
      clear HS hval hms hl1 ho2 HST lo1 l11 o21
      go_wp2
      go_roundw
      case rel => exact ⟨k + 1, _, _, by omega, by go_num, rfl, HS'.out⟩
      case measure => simp [intOf]; omega
    · obtain rfl : k = n := by omega
      have HT : MulI w wr g P A S k (val B64 M * x) A1 cc := by have := H; rwa [← Hm.out, List.take_length, Hm.out] at this
      clear H H0
      go_wp2
      go_ret
      exact ⟨A1, cc, rfl, HT⟩

end Go.Proofs.YtbapeilpkhbbeaaGreatDoor

/- exact.subtractProduct: it subtracts a product from a row. -/
namespace Go.Proofs.YtbapeilpkhbbeaaGreatDoor
open Go.RowKit

theorem sub64_ex (x y c : Int) (hx : 0 ≤ x) (hx' : x < B64) (hy : 0 ≤ y) (hy' : y < B64) (hc0 : 0 ≤ c) (hc : c ≤ 1) :
    ∃ s d, (∀ w, (callFunc 150 #[.int .u64 x, .int .u64 y, .int .u64 c]).run Tryz.prog w = .ok (.value (.tuple #[.int .u64 s, .int .u64 d])) w) ∧ (0 ≤ s ∧ s < B64 ∧ 0 ≤ d ∧ d ≤ 1) ∧ s - B64 * d = x - y - c ∧ (y + c = 0 → d = 0) := by
  refine ⟨_, _, fun w => sub64 x y c hx hy hy' hc0 hc w, ⟨Int.emod_nonneg _ (by decide), Int.emod_lt_of_pos _ B64_pos, (bor_01 _ _ _).1, (bor_01 _ _ _).2⟩, ?_, ?_⟩
  · rw [sub_wrap x y c hx hx' hy hy' hc0 hc]; omega
  · intro h; unfold bor; rw [if_neg (by omega)]

theorem msub_step {s x y cc hi lo l1 c1 o c2 : Int} (_hs : 0 ≤ s ∧ s < B64) (hx : 0 ≤ x ∧ x < B64) (hy : 0 ≤ y ∧ y < B64) (hc : 0 ≤ cc ∧ cc < B64) (h1 : lo + B64 * hi = x * y) (h2 : l1 + B64 * c1 = lo + cc) (h3 : o - B64 * c2 = s - l1) (hl : 0 ≤ l1) (h5 : l1 = 0 → c2 = 0) (h6 : c2 ≤ 1) :
    hi + c1 + c2 ≤ 18446744073709551615 ∧ o - B64 * (hi + c1 + c2) = s - x * y - cc ∧ hi + c1 ≤ 18446744073709551615 := by
  have h := (mul_le x y hx.1 hx.2 hy.1 hy.2).2
  generalize x * y = p at *
  unfold B64 at *
  refine ⟨?_, by omega, by omega⟩
  by_cases e : l1 = 0
  · have := h5 e; omega
  · omega

/-- What holds after k limbs. -/
structure MSubI (w wr : World) (g : Nat) (P A S : List Int) (k : Nat) (m : Int) (A1 : List Int) (cc : Int) : Prop where
  len : A1.length = A.length
  dig : Dig B64 A1
  c0 : 0 ≤ cc
  c1 : cc < B64
  row : Row .u64 63 wr g (P ++ A1 ++ S)
  gr : w.grownBy wr (some g)
  eq : val B64 A1 - B64 ^ k * cc = val B64 A - m

theorem MSubI.step {w wr : World} {g : Nat} {P A S : List Int} {k : Nat} {m : Int} {A1 : List Int} {cc : Int} (h : MSubI w wr g P A S k m A1 cc) (p o d : Int) (h0 : 0 ≤ o) (h1 : o < B64) (d0 : 0 ≤ d) (d1 : d < B64) (he : o - B64 * d = A1[k]?.getD 0 - p - cc) (hk : k < A.length) :
    MSubI w (wr.setCell ⟨g, P.length + k, none⟩ (.int .u64 o)) g P A S (k + 1) (m + B64 ^ k * p) (A1.set k o) d := by
  have hl : k < A1.length := by rw [h.len]; exact hk
  have hr := h.row.set (P.length + k) o
  rw [mid_set P A1 S k _ hl] at hr
  refine ⟨by simpa using h.len, h.dig.set k h0 h1, d0, d1, hr, grown_trans h.gr (grown_set _ _ _ _), ?_⟩
  rw [val_set _ _ _ _ hl, Int.pow_succ]
  have e := h.eq
  grind

set_option maxRecDepth 100000 in
set_option maxHeartbeats 2000000 in
theorem subtractProduct_any (g : Nat) (P A S M : List Int) (c bc : Nat) (bo : Option Addr) (x : Int) (w : World) (hrow : Row .u64 63 w g (P ++ A ++ S)) (hdA : Dig B64 A) (hdM : Dig B64 M) (hx0 : 0 ≤ x) (hx1 : x < B64)
    (hcA : A.length ≤ c) (_hcm : c ≤ 9223372036854775807) (hM : Rd w .u64 bo bc M) (hMA : M.length = A.length) (hne : 0 < M.length → ∀ b off, bo = some ⟨b, off, none⟩ → b ≠ g) :
    Calls Tryz.prog 165 #[.slice (some ⟨g, P.length, none⟩) A.length c, .slice bo M.length bc, .int .u64 x] w fun e w' => ∃ A1 cc, e = .returned (.int .u64 cc) ∧ MSubI w w' g P A S A.length (val B64 M * x) A1 cc := by
  obtain ⟨off, hoff⟩ : ∃ off, off = P.length := ⟨_, rfl⟩
  obtain ⟨n, hn⟩ : ∃ n, n = A.length := ⟨_, rfl⟩
  have hnM : M.length = n := by omega
  have hmc := hM.cap; have hmm := hM.most
  rw [← hn] at hcA
  rw [hnM] at hmc
  have H0 : MSubI w w g P A S 0 (val B64 (M.take 0) * x) A 0 := ⟨rfl, hdA, Int.le_refl 0, by decide, hrow, grown_refl _ _, by simp [val]⟩
  rw [hnM, ← hn, ← hoff]
  have Hoff := hid hoff; have Hn := hid hn; have Hm := hid hnM; have HdM := hid hdM; have Hne := hid hne; have HM := hid hM
  have Hx := hid (show 0 ≤ x ∧ x < B64 from ⟨hx0, hx1⟩)
  clear hoff hn hnM hdA hdM hne hrow hM hMA hx1
  go_enter Tryz.func165, Tryz.ntmps165
  go_wp2
  go_loopw [6, 18] (fun cv iv wr => ∃ k : Nat, ∃ A1 cc, k ≤ n ∧ iv = .int .i64 k ∧ cv = .int .u64 cc ∧ MSubI w wr g P A S k (val B64 (M.take k) * x) A1 cc) (fun _ iv _ => n - (intOf iv).toNat)
  case atStart => exact ⟨0, A, 0, Nat.zero_le _, rfl, rfl, H0⟩
  case round =>
    obtain ⟨k, A1, cc, hk, rfl, rfl, H⟩ := hrel
    by_cases hlt : k < n
    · have hAk := H.row.cell (off + k) (by have := Hoff.out; have := Hn.out; have := H.len; simp; omega)
      have hfr := H.row.frozen (off + k)
      rw [Hoff.out, mid_get P A1 S k (by have := Hn.out; have := H.len; omega), ← Hoff.out] at hAk
      obtain ⟨b, o, rfl⟩ := HM.out.adr (by have := Hm.out; omega)
      have hMk := (HM.out.keptNew H.gr Hne.out).cell b o rfl k (by have := Hm.out; omega)
      have h0 := HdM.out.at B64_pos k
      have h1 := H.dig.at B64_pos k
      have c0 := H.c0; have c1 := H.c1
      have hv := val_take_succ B64 M k (by have := Hm.out; omega)
      have HST := hid (fun (o d : Int) => H.step (x * M[k]?.getD 0) o d)
      obtain ⟨s, hs⟩ : ∃ s, s = A1[k]?.getD 0 := ⟨_, rfl⟩
      obtain ⟨y, hy⟩ : ∃ y, y = M[k]?.getD 0 := ⟨_, rfl⟩
      rw [← hs] at hAk h1 HST; rw [← hy] at hMk h0 HST hv
      have Hs := hid hs; have Hy := hid hy; have Hh1 := hid h1; have Hh0 := hid h0; have Hc := hid (show 0 ≤ cc ∧ cc < B64 from ⟨c0, c1⟩); have Hv := hid hv
      clear H hs hy H0 h0 h1 c1 hv
      go_wp2_with fail
      refine (mul64_ex x y Hx.out.1 Hx.out.2 Hh0.out.1 Hh0.out.2 _).mono ?_
      rintro e w' ⟨hi, lo, rfl, ⟨hi0, lo0, lo1, hi1, HP⟩, rfl⟩
      obtain ⟨l1, d1, ha1, ⟨l10, l11, d10, d11⟩, hl1⟩ := add64_ex lo cc 0 lo0 lo1 Hc.out.1 Hc.out.2 (Int.le_refl 0) (by decide)
      obtain ⟨o2, d2, ha2, ⟨o20, o21, d20, d21⟩, ho2, hz2⟩ := sub64_ex s l1 0 Hh1.out.1 Hh1.out.2 l10 l11 (Int.le_refl 0) (by decide)
      have hms := msub_step Hh1.out Hx.out Hh0.out Hc.out HP.out (by simpa using hl1) (by simpa using ho2) l10 (by simpa using hz2) d21
      have hle := hms.1
      have hle2 := hms.2.2
      have HS := HST.out o2 (hi + d1 + d2) o20 o21 (by omega) (by unfold B64; omega) hms.2.1 (by have := Hn.out; omega)
      have hval : val B64 (M.take k) * x + B64 ^ k * (x * y) = val B64 (M.take (k + 1)) * x := by rw [Hv.out]; grind
      rw [hval, ← Hoff.out] at HS
      have HS' := hid HS
      clear HS hval hms hl1 ho2 hz2 HST lo1 l11 o21
      go_wp2
      go_roundw
      case rel => exact ⟨k + 1, _, _, by omega, by go_num, rfl, HS'.out⟩
      case measure => simp [intOf]; omega
    · obtain rfl : k = n := by omega
      have HT : MSubI w wr g P A S k (val B64 M * x) A1 cc := by have := H; rwa [← Hm.out, List.take_length, Hm.out] at this
      clear H H0
      go_wp2
      go_ret
      exact ⟨A1, cc, rfl, HT⟩

end Go.Proofs.YtbapeilpkhbbeaaGreatDoor

/- exact.guessLimb: a limb of a quotient, or a greater one. -/
namespace Go.Proofs.YtbapeilpkhbbeaaGreatDoor
open Go.RowKit

/-- The guess is made smaller, until it is no longer seen to be too great. -/
def glGo (d1 d0 h0 : Int) : Nat → Int → Int → Int
  | 0, q, _ => q
  | n + 1, q, r => if q * d0 / B64 < r ∨ (q * d0 / B64 = r ∧ q * d0 % B64 ≤ h0) then q else if B64 ≤ r + d1 then q - 1 else glGo d1 d0 h0 n (q - 1) (r + d1)
def gl (h2 h1 h0 d1 d0 : Int) : Int := if d1 ≤ h2 then B64 - 1 else glGo d1 d0 h0 18446744073709551616 ((h2 * B64 + h1) / d1) ((h2 * B64 + h1) % d1)

theorem gl_seen {q d0 r h0 : Int} (hq : 0 ≤ q) (hd : 0 ≤ d0) (hk : h0 < B64) (h : ¬ (q * d0 / B64 < r ∨ (q * d0 / B64 = r ∧ q * d0 % B64 ≤ h0))) : r * B64 + h0 < q * d0 := by
  have e := Int.emod_add_mul_ediv (q * d0) B64
  have a := Int.emod_nonneg (q * d0) (show B64 ≠ 0 by decide)
  have b := Int.emod_lt_of_pos (q * d0) B64_pos
  have c := Int.mul_nonneg hq hd
  generalize q * d0 % B64 = lo at *
  generalize q * d0 / B64 = hi at *
  unfold B64 at *
  omega

/-- No limb that fits is greater than the guess. -/
theorem glGo_ge {d1 d0 h0 H : Int} (hd1 : 0 < d1) (hd0 : 0 ≤ d0) (hh : 0 ≤ h0) (hk : h0 < B64) : ∀ (n : Nat) (q r : Int), 0 ≤ q → q < B64 → 0 ≤ r → q * d1 + r = H → (∀ Q : Int, 0 ≤ Q → Q * (d1 * B64 + d0) ≤ H * B64 + h0 → Q ≤ q) →
    (0 ≤ glGo d1 d0 h0 n q r ∧ glGo d1 d0 h0 n q r < B64) ∧ ∀ Q : Int, 0 ≤ Q → Q * (d1 * B64 + d0) ≤ H * B64 + h0 → Q ≤ glGo d1 d0 h0 n q r := by
  intro n
  induction n with
  | zero => intro q r q0 q1 _ _ h; exact ⟨⟨q0, q1⟩, h⟩
  | succ n ih =>
    intro q r q0 q1 r0 he h
    simp only [glGo]
    split
    · exact ⟨⟨q0, q1⟩, h⟩
    · next hs =>
      have hl := gl_seen q0 hd0 hk hs
      have hq1 : 1 ≤ q := by
        rcases Int.lt_or_le 0 q with k | k
        · omega
        · have : q = 0 := by omega
          subst this
          have := Int.mul_nonneg r0 (Int.le_of_lt B64_pos)
          omega
      have hstep : ∀ Q : Int, 0 ≤ Q → Q * (d1 * B64 + d0) ≤ H * B64 + h0 → Q ≤ q - 1 := by
        intro Q Q0 hQ
        have h1 := h Q Q0 hQ
        rcases Int.lt_or_le Q q with k | k
        · omega
        · have : Q = q := by omega
          subst this
          have e : Q * (d1 * B64 + d0) = (Q * d1 + r) * B64 - r * B64 + Q * d0 := by grind
          rw [e, he] at hQ
          omega
      split
      · exact ⟨⟨by omega, by omega⟩, hstep⟩
      · exact ih (q - 1) (r + d1) (by omega) (by omega) (by omega) (by rw [Int.sub_mul]; omega) hstep

theorem gl_ge {h2 h1 h0 d1 d0 : Int} (hh2 : 0 ≤ h2) (hh1 : 0 ≤ h1 ∧ h1 < B64) (hh0 : 0 ≤ h0 ∧ h0 < B64) (hd1 : 0 < d1) (hd0 : 0 ≤ d0) :
    (0 ≤ gl h2 h1 h0 d1 d0 ∧ gl h2 h1 h0 d1 d0 < B64) ∧ ∀ Q : Int, 0 ≤ Q → Q < B64 → Q * (d1 * B64 + d0) ≤ (h2 * B64 + h1) * B64 + h0 → Q ≤ gl h2 h1 h0 d1 d0 := by
  unfold gl
  split
  · exact ⟨⟨by decide, by decide⟩, fun Q _ h _ => by omega⟩
  · next hlt =>
    have H0 : 0 ≤ h2 * B64 + h1 := by have := Int.mul_nonneg hh2 (Int.le_of_lt B64_pos); omega
    have hH : h2 * B64 + h1 < B64 * d1 := by
      have := Int.mul_le_mul_of_nonneg_right (show h2 + 1 ≤ d1 by omega) (Int.le_of_lt B64_pos)
      rw [Int.add_mul] at this
      rw [Int.mul_comm B64 d1]; omega
    have q0 : 0 ≤ (h2 * B64 + h1) / d1 := Int.ediv_nonneg H0 (Int.le_of_lt hd1)
    have q1 : (h2 * B64 + h1) / d1 < B64 := Int.ediv_lt_of_lt_mul hd1 hH
    have r0 := Int.emod_nonneg (h2 * B64 + h1) (show d1 ≠ 0 by omega)
    have e := Int.emod_add_mul_ediv (h2 * B64 + h1) d1
    have g := glGo_ge (h0 := h0) hd1 hd0 hh0.1 hh0.2 18446744073709551616 ((h2 * B64 + h1) / d1) ((h2 * B64 + h1) % d1) q0 q1 r0 (H := h2 * B64 + h1) (by rw [Int.mul_comm]; omega) (by
      intro Q Q0 hQ
      have e2 : Q * (d1 * B64 + d0) = Q * d1 * B64 + Q * d0 := by rw [Int.mul_add, Int.mul_assoc]
      have e3 := Int.mul_nonneg Q0 hd0
      refine (Int.le_ediv_iff_mul_le hd1).2 ?_
      rw [e2] at hQ
      have hk := hh0.2
      generalize Q * d1 = a at *
      generalize Q * d0 = b at *
      generalize h2 * B64 + h1 = c at *
      unfold B64 at *
      omega)
    exact ⟨g.1, fun Q Q0 _ hQ => g.2 Q Q0 hQ⟩

theorem gl_begin {h2 h1 d1 : Int} (hh2 : 0 ≤ h2) (hh1 : 0 ≤ h1 ∧ h1 < B64) (hd1 : 0 < d1 ∧ d1 < B64) (hlt : h2 < d1) :
    0 ≤ (h2 * B64 + h1) / d1 ∧ (h2 * B64 + h1) / d1 < B64 ∧ 0 ≤ (h2 * B64 + h1) % d1 ∧ (h2 * B64 + h1) % d1 < B64 := by
  have H0 : 0 ≤ h2 * B64 + h1 := by have := Int.mul_nonneg hh2 (Int.le_of_lt B64_pos); omega
  have hH : h2 * B64 + h1 < B64 * d1 := by
    have := Int.mul_le_mul_of_nonneg_right (show h2 + 1 ≤ d1 by omega) (Int.le_of_lt B64_pos)
    rw [Int.add_mul] at this
    rw [Int.mul_comm B64 d1]; omega
  have := Int.emod_lt_of_pos (h2 * B64 + h1) hd1.1
  exact ⟨Int.ediv_nonneg H0 (Int.le_of_lt hd1.1), Int.ediv_lt_of_lt_mul hd1.1 hH, Int.emod_nonneg _ (by omega), by omega⟩

/-- A call that draws, behind a quiet region. -/
theorem quietDraws {P : Program} {f : FuncId} {args : Array Value} {w : World} {a n : Nat} {v : Value} (h : Calls P f args (w.drewN (a + n)) fun e w' => e = .returned v ∧ ∃ k, w' = (w.drewN (a + n)).drewN k) :
    Calls P f args (w.drewN (a + n)) fun e w' => e = .returned v ∧ ∃ m, w' = w.drewN (a + m) := h.mono fun _ _ ⟨he, k, hm⟩ => ⟨he, n + k, by rw [hm, World.drewN_drewN, Nat.add_assoc]⟩

/-- What holds at the loop's head. -/
structure GlI (w wr : World) (d1 d0 h0 R : Int) (n : Nat) (q r : Int) : Prop where
  q0 : 0 ≤ q
  q1 : q < B64
  r0 : 0 ≤ r
  r1 : r < B64
  fuel : B64 - r ≤ n
  res : glGo d1 d0 h0 n q r = R
  wd : ∃ nq, wr = w.drewN nq

set_option maxRecDepth 100000 in
set_option maxHeartbeats 2000000 in
theorem guessLimb_any (b1 o1 c1 b2 o2 c2 : Nat) (h0 h1 h2 d0 d1 : Int) (w : World) (H0 : 0 ≤ h0 ∧ h0 < B64) (H1 : 0 ≤ h1 ∧ h1 < B64) (H2 : 0 ≤ h2 ∧ h2 < B64) (D0 : 0 ≤ d0 ∧ d0 < B64) (D1 : 0 < d1 ∧ d1 < B64)
    (C0 : w.cell? ⟨b1, o1, none⟩ = some (.int .u64 h0)) (C1 : w.cell? ⟨b1, o1 + 1, none⟩ = some (.int .u64 h1)) (C2 : w.cell? ⟨b1, o1 + 2, none⟩ = some (.int .u64 h2)) (E0 : w.cell? ⟨b2, o2, none⟩ = some (.int .u64 d0)) (E1 : w.cell? ⟨b2, o2 + 1, none⟩ = some (.int .u64 d1)) :
    Calls Tryz.prog 164 #[.slice (some ⟨b1, o1, none⟩) 3 c1, .slice (some ⟨b2, o2, none⟩) 2 c2] w fun e w' => e = .returned (.int .u64 (gl h2 h1 h0 d1 d0)) ∧ ∃ nq, w' = w.drewN nq := by
  by_cases hc : d1 ≤ h2
  · have HR := hid (show gl h2 h1 h0 d1 d0 = 18446744073709551615 by unfold gl; rw [if_pos hc]; rfl)
    go_enter Tryz.func164, Tryz.ntmps164
    go_wp2
    go_quiet (fail)
    go_wp2
    go_ret
    exact ⟨by rw [HR.out]; rfl, _, rfl⟩
  · have hR0 : gl h2 h1 h0 d1 d0 = glGo d1 d0 h0 18446744073709551616 ((h2 * B64 + h1) / d1) ((h2 * B64 + h1) % d1) := by unfold gl; rw [if_neg hc]
    have hlt : h2 < d1 := by omega
    rw [hR0]
    have hb := gl_begin H2.1 H1 D1 hlt
    have hd := fun w => div64_any h2 h1 d1 H2.1 hlt H1.1 H1.2 D1.2 w
    obtain ⟨q, hq⟩ : ∃ q, q = (h2 * B64 + h1) / d1 := ⟨_, rfl⟩
    obtain ⟨r, hr⟩ : ∃ r, r = (h2 * B64 + h1) % d1 := ⟨_, rfl⟩
    simp only [← hq, ← hr] at hb hd ⊢
    obtain ⟨R, hR⟩ : ∃ R, R = glGo d1 d0 h0 18446744073709551616 q r := ⟨_, rfl⟩
    rw [← hR]
    have HI : ∀ n, GlI w (w.drewN n) d1 d0 h0 R 18446744073709551616 q r := fun n => ⟨hb.1, hb.2.1, hb.2.2.1, hb.2.2.2, by have := hb.2.2.1; unfold B64; omega, hR.symm, n, rfl⟩
    have HI' := hid HI
    have HD := hid hd
    clear hR0 hR hb hq hr HI hd
    go_enter Tryz.func164, Tryz.ntmps164
    go_wp2
    go_quiet (fail)
    go_wp2
    go_quiet ((go_at_call 135; exact quietDraws (HD.out _)))
    go_wp2
    go_loopw [5, 6] (fun qv rv wr => ∃ n q r, qv = .int .u64 q ∧ rv = .int .u64 r ∧ GlI w wr d1 d0 h0 R n q r) (fun _ rv _ => (18446744073709551616 - intOf rv).toNat)
    case atStart => exact ⟨_, _, _, rfl, rfl, by rw [World.drewN_drewN]; exact HI'.out _⟩
    case round =>
      obtain ⟨n, q, r, rfl, rfl, H⟩ := hrel
      obtain ⟨nq2, rfl⟩ := H.wd
      have Hq := hid (show 0 ≤ q ∧ q < B64 from ⟨H.q0, H.q1⟩)
      have hfuel := H.fuel
      have HL := hid H
      have r0 := H.r0; have r1 := H.r1
      cases n with
      | zero => unfold B64 at *; omega
      | succ n =>
        have hres := H.res
        simp only [glGo] at hres
        have hm := fun w => mul64 q d0 H.q0 H.q1 D0.1 D0.2 w
        have hseen := fun h => gl_seen (q := q) (d0 := d0) (r := r) (h0 := h0) H.q0 D0.1 H0.2 h
        obtain ⟨hi, hhi⟩ : ∃ hi, hi = q * d0 / B64 := ⟨_, rfl⟩
        obtain ⟨lo, hlo⟩ : ∃ lo, lo = q * d0 % B64 := ⟨_, rfl⟩
        rw [← hhi, ← hlo] at hm hres hseen
        have HM := hid hm
        by_cases c1 : hi < r
        · rw [if_pos (.inl c1)] at hres
          have HRes := hid hres
          clear hm hres hhi hlo hseen H hfuel HI'
          go_wp2_with (go_at_call 132; refine (HM.out _).mono ?_; rintro e w' ⟨rfl, rfl⟩)
          go_ret
          exact ⟨by rw [← HRes.out]; rfl, _, rfl⟩
        · by_cases c2 : hi = r
          · by_cases c3 : lo ≤ h0
            · rw [if_pos (.inr ⟨c2, c3⟩)] at hres
              have HRes := hid hres
              clear hm hres hhi hlo hseen H hfuel HI'
              go_wp2_with (go_at_call 132; refine (HM.out _).mono ?_; rintro e w' ⟨rfl, rfl⟩)
              go_ret
              exact ⟨by rw [← HRes.out]; rfl, _, rfl⟩
            · have hs := hseen (by omega)
              rw [if_neg (by omega)] at hres
              have hq1 : 1 ≤ q := by
                rcases Int.lt_or_le 0 q with k | k
                · omega
                · have : q = 0 := by have := H.q0; omega
                  subst this
                  have := Int.mul_nonneg r0 (Int.le_of_lt B64_pos)
                  have := H0.1
                  omega
              have q1' : q ≤ 18446744073709551615 := by have := H.q1; unfold B64 at this; omega
              clear hm hhi hlo hseen hs HI' H
              by_cases c4 : B64 ≤ r + d1
              · rw [if_pos c4] at hres
                have hcar : (r + d1 + 0) / B64 = 1 ∧ (r + d1 + 0) % B64 = r + d1 - B64 := by have := D1.2; unfold B64 at *; omega
                have ha := fun w => add64 r d1 0 r0 (by have := D1.1; omega) (Int.le_refl 0) (by decide) w
                simp only [hcar.1, hcar.2] at ha
                have HRes := hid hres
                clear hres hfuel hcar c4
                go_wp2_with (go_at_call 132; refine (HM.out _).mono ?_; rintro e w' ⟨rfl, rfl⟩)
                go_ret
                exact ⟨by rw [← HRes.out]; go_num, _, rfl⟩
              · rw [if_neg c4] at hres
                have hcar : (r + d1 + 0) / B64 = 0 ∧ (r + d1 + 0) % B64 = r + d1 := by have := D1.1; unfold B64 at *; omega
                have ha := fun w => add64 r d1 0 r0 (by have := D1.1; omega) (Int.le_refl 0) (by decide) w
                simp only [hcar.1, hcar.2] at ha
                have HS := hid (show GlI w (w.drewN nq2) d1 d0 h0 R n (q - 1) (r + d1) from ⟨by omega, by unfold B64; omega, by have := D1.1; omega, by omega, by have := D1.1; omega, hres, nq2, rfl⟩)
                have hd1 := D1.1
                unfold B64 at c4
                clear hres hfuel hcar
                go_wp2_with (go_at_call 132; refine (HM.out _).mono ?_; rintro e w' ⟨rfl, rfl⟩)
                go_roundw
                case rel => exact ⟨n, _, _, by go_num, rfl, HS.out⟩
                case measure => simp [intOf]; omega
          · have hs := hseen (by omega)
            rw [if_neg (by omega)] at hres
            have hq1 : 1 ≤ q := by
              rcases Int.lt_or_le 0 q with k | k
              · omega
              · have : q = 0 := by have := H.q0; omega
                subst this
                have := Int.mul_nonneg r0 (Int.le_of_lt B64_pos)
                have := H0.1
                omega
            have q1' : q ≤ 18446744073709551615 := by have := H.q1; unfold B64 at this; omega
            clear hm hhi hlo hseen hs HI' H
            by_cases c4 : B64 ≤ r + d1
            · rw [if_pos c4] at hres
              have hcar : (r + d1 + 0) / B64 = 1 ∧ (r + d1 + 0) % B64 = r + d1 - B64 := by have := D1.2; unfold B64 at *; omega
              have ha := fun w => add64 r d1 0 r0 (by have := D1.1; omega) (Int.le_refl 0) (by decide) w
              simp only [hcar.1, hcar.2] at ha
              have HRes := hid hres
              clear hres hfuel hcar c4
              go_wp2_with (go_at_call 132; refine (HM.out _).mono ?_; rintro e w' ⟨rfl, rfl⟩)
              go_ret
              exact ⟨by rw [← HRes.out]; go_num, _, rfl⟩
            · rw [if_neg c4] at hres
              have hcar : (r + d1 + 0) / B64 = 0 ∧ (r + d1 + 0) % B64 = r + d1 := by have := D1.1; unfold B64 at *; omega
              have ha := fun w => add64 r d1 0 r0 (by have := D1.1; omega) (Int.le_refl 0) (by decide) w
              simp only [hcar.1, hcar.2] at ha
              have HS := hid (show GlI w (w.drewN nq2) d1 d0 h0 R n (q - 1) (r + d1) from ⟨by omega, by unfold B64; omega, by have := D1.1; omega, by omega, by have := D1.1; omega, hres, nq2, rfl⟩)
              have hd1 := D1.1
              unfold B64 at c4
              clear hres hfuel hcar
              go_wp2_with (go_at_call 132; refine (HM.out _).mono ?_; rintro e w' ⟨rfl, rfl⟩)
              go_roundw
              case rel => exact ⟨n, _, _, by go_num, rfl, HS.out⟩
              case measure => simp [intOf]; omega

end Go.Proofs.YtbapeilpkhbbeaaGreatDoor
