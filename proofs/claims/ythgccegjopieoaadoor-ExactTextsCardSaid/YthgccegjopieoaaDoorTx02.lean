/- Naturals of the program: what a slice of limbs stands for. exact.add, exact.subtract, exact.clone. Naturals that lie in rows of their own. exact.join. exact.addProduct: it adds a product to a row. exact.multiplyLimbs. exact.multiplyLimbs: the product lies in new memory. math/bits.LeadingZeros64, Len64: by the library's contracts. exact.fromWords, (exact.natural).words: two words are a limb. -/
import Derived.Test.YthgccegjopieoaaDoorTx01
import Derived.Shelf.Small.Bits
import Derived.Shelf.Strconv.Itoa0
/- Naturals of the program: what a slice of limbs stands for. -/
namespace Go.Proofs.YthgccegjopieoaaDoor
open Go.RowKit

/-- The value v reads in w as the natural number n, in normal form, with K limbs at most. -/
structure NtL (w : World) (ao : Option Addr) (c : Nat) (L : List Int) (n : Int) (K : Nat) : Prop where
  rd : Rd w .u64 ao c L
  dig : Dig B64 L
  nrm : Nrm L
  eq : val B64 L = n
  le : L.length ≤ K
def Nt (w : World) (v : Value) (n : Int) (K : Nat) : Prop := ∃ ao c L, v = .slice ao L.length c ∧ NtL w ao c L n K
/-- The call hands back such a value, and has turned nothing that was there. -/
def RetN (w : World) (n : Int) (K : Nat) (e : Ending) (w' : World) : Prop := ∃ v, e = .returned v ∧ Nt w' v n K ∧ Below w.heap.size w w'

theorem NtL.nonneg {w : World} {ao : Option Addr} {c : Nat} {L : List Int} {n : Int} {K : Nat} (h : NtL w ao c L n K) : 0 ≤ n := by rw [← h.eq]; exact val_nonneg B64_pos h.dig
theorem Nt.nonneg {w : World} {v : Value} {n : Int} {K : Nat} (h : Nt w v n K) : 0 ≤ n := by obtain ⟨_, _, _, _, h⟩ := h; exact h.nonneg
theorem Nt.below {w w' : World} {v : Value} {n : Int} {K B : Nat} (h : Nt w v n K) (hb : Below B w w') (hB : w.heap.size ≤ B) : Nt w' v n K := by
  obtain ⟨ao, c, L, rfl, h⟩ := h
  exact ⟨ao, c, L, rfl, h.rd.below hb hB, h.dig, h.nrm, h.eq, h.le⟩
theorem Nt.mono {w : World} {v : Value} {n : Int} {K K' : Nat} (h : Nt w v n K) (hk : K ≤ K') : Nt w v n K' := by
  obtain ⟨ao, c, L, rfl, h⟩ := h
  exact ⟨ao, c, L, rfl, h.rd, h.dig, h.nrm, h.eq, Nat.le_trans h.le hk⟩
theorem Nt.nil (w : World) : Nt w (.slice none 0 0) 0 0 := ⟨none, 0, [], rfl, Rd.nil _ _, Dig.nil _, rfl, rfl, Nat.le_refl _⟩

/-- A row, trimmed, is a natural. -/
theorem nt_row {w : World} {g : Nat} {L : List Int} {c : Nat} {n : Int} {K : Nat} (h : Row .u64 75 w g L) (hd : Dig B64 L) (hv : val B64 L = n) (hc : L.length ≤ c) (hc' : c ≤ 9223372036854775807) (hK : L.length ≤ K) :
    Nt w (.slice (some ⟨g, 0, none⟩) (trimL L).length c) n K := by
  have h' : Row .u64 75 w g ([] ++ L ++ []) := by simpa using h
  have hr := h'.rd hc hc'
  refine ⟨_, c, trimL L, rfl, ?_, hd.trim, Nrm.trim L, by rw [val_trim]; exact hv, Nat.le_trans (trimL_len L) hK⟩
  rw [trimL_take L]; exact hr.take _
theorem row_rd {w : World} {g : Nat} {L : List Int} {c : Nat} (h : Row .u64 75 w g L) (hc : L.length ≤ c) (hc' : c ≤ 9223372036854775807) : Rd w .u64 (some ⟨g, 0, none⟩) c L := by
  have h' : Row .u64 75 w g ([] ++ L ++ []) := by simpa using h
  exact h'.rd hc hc'

theorem val_replicate (B : Int) (n : Nat) : val B (List.replicate n 0) = 0 := by
  induction n with
  | zero => rfl
  | succ n ih => simp [List.replicate_succ, val, ih]
theorem Dig.replicate {B : Int} (hB : 0 < B) (n : Nat) : Dig B (List.replicate n 0) := fun x hx => by rw [(List.mem_replicate.1 hx).2]; exact ⟨Int.le_refl 0, hB⟩

theorem Tryd.info75 : (Tryd.prog.info? 75).map (fun i => (i.zero, i.size, i.bytes)) = some (some (.int .u64 0), 1, 8) := by kernel_rfl
end Go.Proofs.YthgccegjopieoaaDoor

/- exact.add, exact.subtract, exact.clone. -/
namespace Go.Proofs.YthgccegjopieoaaDoor
open Go.RowKit

end Go.Proofs.YthgccegjopieoaaDoor

/- Naturals that lie in rows of their own. -/
namespace Go.Proofs.YthgccegjopieoaaDoor
open Go.RowKit

/-- A number in a row of its own: the limbs L, behind them S. -/
structure OwnL (w : World) (B g c : Nat) (L S : List Int) (n : Int) : Prop where
  row : Row .u64 75 w g (L ++ S)
  dig : Dig B64 L
  nrm : Nrm L
  eq : val B64 L = n
  cap : L.length ≤ c
  most : c ≤ 9223372036854775807
  base : B ≤ g

theorem own_trim {w : World} {B g c : Nat} {L S : List Int} {n : Int} (h : Row .u64 75 w g (L ++ S)) (hd : Dig B64 L) (hv : val B64 L = n) (hc : L.length ≤ c) (hm : c ≤ 9223372036854775807) (hb : B ≤ g) :
    OwnL w B g c (trimL L) (L.drop (trimL L).length ++ S) n := by
  refine ⟨?_, hd.trim, Nrm.trim L, by rw [val_trim]; exact hv, Nat.le_trans (trimL_len L) hc, hm, hb⟩
  have e : trimL L ++ (L.drop (trimL L).length ++ S) = L ++ S := by
    rw [← List.append_assoc]
    have h2 := List.take_append_drop (trimL L).length L
    rw [← trimL_take L] at h2
    rw [h2]
  rw [e]; exact h
theorem OwnL.rd {w : World} {B g c : Nat} {L S : List Int} {n : Int} (h : OwnL w B g c L S n) : Rd w .u64 (some ⟨g, 0, none⟩) c L := by
  have h' : Row .u64 75 w g ([] ++ L ++ S) := by simpa using h.row
  exact h'.rd h.cap h.most
theorem OwnL.nt {w : World} {B g c : Nat} {L S : List Int} {n : Int} (h : OwnL w B g c L S n) {K : Nat} (hK : L.length ≤ K) : Nt w (.slice (some ⟨g, 0, none⟩) L.length c) n K := ⟨_, c, L, rfl, h.rd, h.dig, h.nrm, h.eq, hK⟩
theorem OwnL.below {w w' : World} {B B' g c : Nat} {L S : List Int} {n : Int} (h : OwnL w B g c L S n) (hb : Below B' w w') (hB : w.heap.size ≤ B') : OwnL w' B g c L S n :=
  ⟨h.row.kept (below_grown (hb.mono hB)) (by simp), h.dig, h.nrm, h.eq, h.cap, h.most, h.base⟩

/-- Such a number, or nothing: 0. -/
def OwnV (w : World) (B : Nat) (v : Value) (n : Int) (K : Nat) : Prop := (∃ g c L S, v = .slice (some ⟨g, 0, none⟩) L.length c ∧ OwnL w B g c L S n ∧ L.length ≤ K) ∨ (v = .slice none 0 0 ∧ n = 0)
theorem OwnV.nt {w : World} {B : Nat} {v : Value} {n : Int} {K : Nat} (h : OwnV w B v n K) : Nt w v n K := by
  rcases h with ⟨g, c, L, S, rfl, h, hK⟩ | ⟨rfl, rfl⟩
  · exact h.nt hK
  · exact (Nt.nil w).mono (Nat.zero_le _)
theorem OwnV.below {w w' : World} {B B' : Nat} {v : Value} {n : Int} {K : Nat} (h : OwnV w B v n K) (hb : Below B' w w') (hB : w.heap.size ≤ B') : OwnV w' B v n K := by
  rcases h with ⟨g, c, L, S, e, h, hK⟩ | h
  · exact .inl ⟨g, c, L, S, e, h.below hb hB, hK⟩
  · exact .inr h
/-- The call hands back such a number in new memory. -/
def RetOwn (w : World) (n : Int) (K : Nat) (e : Ending) (w' : World) : Prop := ∃ v, e = .returned v ∧ OwnV w' w.heap.size v n K ∧ Below w.heap.size w w'
theorem own_row {w : World} {B g c : Nat} {L : List Int} {n : Int} {K : Nat} (h : Row .u64 75 w g L) (hd : Dig B64 L) (hv : val B64 L = n) (hc : L.length ≤ c) (hm : c ≤ 9223372036854775807) (hK : L.length ≤ K) (hb : B ≤ g) : OwnV w B (.slice (some ⟨g, 0, none⟩) (trimL L).length c) n K :=
  .inl ⟨g, c, _, _, rfl, own_trim (S := []) (by simpa using h) hd hv hc hm hb, Nat.le_trans (trimL_len L) hK⟩

end Go.Proofs.YthgccegjopieoaaDoor

/- exact.join. -/
namespace Go.Proofs.YthgccegjopieoaaDoor
open Go.RowKit

end Go.Proofs.YthgccegjopieoaaDoor

/- exact.addProduct: it adds a product to a row. -/
namespace Go.Proofs.YthgccegjopieoaaDoor
open Go.RowKit

theorem mul_le (x y : Int) (h0 : 0 ≤ x) (h1 : x < B64) (k0 : 0 ≤ y) (k1 : y < B64) : 0 ≤ x * y ∧ x * y ≤ 340282366920938463426481119284349108225 := by
  refine ⟨Int.mul_nonneg h0 k0, ?_⟩
  have a : x * y ≤ 18446744073709551615 * y := Int.mul_le_mul_of_nonneg_right (by unfold B64 at h1; omega) k0
  unfold B64 at k1; omega

/-- bits.Mul64, its two results under names. -/
theorem mul64_ex (x y : Int) (hx : 0 ≤ x) (hx' : x < B64) (hy : 0 ≤ y) (hy' : y < B64) (w : World) :
    Calls Tryd.prog 57 #[.int .u64 x, .int .u64 y] w fun e w' => ∃ hi lo, e = .returned (.tuple #[.int .u64 hi, .int .u64 lo]) ∧ (0 ≤ hi ∧ 0 ≤ lo ∧ lo < B64 ∧ hi ≤ 18446744073709551614 ∧ Hid (lo + B64 * hi = x * y)) ∧ w = w' := by
  refine (mul64 x y hx hx' hy hy' w).mono ?_
  rintro e w' ⟨rfl, rfl⟩
  have h := mul_le x y hx hx' hy hy'
  refine ⟨_, _, rfl, ⟨Int.ediv_nonneg h.1 (by decide), Int.emod_nonneg _ (by decide), Int.emod_lt_of_pos _ B64_pos, ?_, hid (Int.emod_add_mul_ediv _ _)⟩, rfl⟩
  have h2 := h.2
  unfold B64; omega

theorem add64_ex (x y c : Int) (hx : 0 ≤ x) (hx' : x < B64) (hy : 0 ≤ y) (hy' : y < B64) (hc0 : 0 ≤ c) (hc : c ≤ 1) :
    ∃ s d, (∀ w, (callFunc 58 #[.int .u64 x, .int .u64 y, .int .u64 c]).run Tryd.prog w = .ok (.value (.tuple #[.int .u64 s, .int .u64 d])) w) ∧ (0 ≤ s ∧ s < B64 ∧ 0 ≤ d ∧ d ≤ 1) ∧ s + B64 * d = x + y + c := by
  refine ⟨_, _, fun w => add64 x y c hx hy hc0 hc w, ⟨Int.emod_nonneg _ (by decide), Int.emod_lt_of_pos _ B64_pos, ?_, ?_⟩, Int.emod_add_mul_ediv _ _⟩
  · exact Int.ediv_nonneg (by omega) (by decide)
  · unfold B64 at *; omega

theorem mul_step {s x y cc hi lo l1 c1 o c2 : Int} (hs : 0 ≤ s ∧ s < B64) (hx : 0 ≤ x ∧ x < B64) (hy : 0 ≤ y ∧ y < B64) (hc : 0 ≤ cc ∧ cc < B64) (h1 : lo + B64 * hi = x * y) (h2 : l1 + B64 * c1 = lo + cc) (h3 : o + B64 * c2 = s + l1) (ho : 0 ≤ o) :
    hi + c1 + c2 ≤ 18446744073709551615 ∧ o + B64 * (hi + c1 + c2) = s + x * y + cc := by
  have h := (mul_le x y hx.1 hx.2 hy.1 hy.2).2
  generalize x * y = p at *
  unfold B64 at *
  constructor <;> omega

/-- What holds after k limbs. -/
structure MulI (w wr : World) (g : Nat) (P A S : List Int) (k : Nat) (m : Int) (A1 : List Int) (cc : Int) : Prop where
  len : A1.length = A.length
  dig : Dig B64 A1
  c0 : 0 ≤ cc
  c1 : cc < B64
  row : Row .u64 75 wr g (P ++ A1 ++ S)
  gr : w.grownBy wr (some g)
  eq : val B64 A1 + B64 ^ k * cc = val B64 A + m

theorem MulI.step {w wr : World} {g : Nat} {P A S : List Int} {k : Nat} {m : Int} {A1 : List Int} {cc : Int} (h : MulI w wr g P A S k m A1 cc) (p o d : Int) (h0 : 0 ≤ o) (h1 : o < B64) (d0 : 0 ≤ d) (d1 : d < B64) (he : o + B64 * d = A1[k]?.getD 0 + p + cc) (hk : k < A.length) :
    MulI w (wr.setCell ⟨g, P.length + k, none⟩ (.int .u64 o)) g P A S (k + 1) (m + B64 ^ k * p) (A1.set k o) d := by
  have hl : k < A1.length := by rw [h.len]; exact hk
  have hr := h.row.set (P.length + k) o
  rw [mid_set P A1 S k _ hl] at hr
  refine ⟨by simpa using h.len, h.dig.set k h0 h1, d0, d1, hr, grown_trans h.gr (grown_set _ _ _ _), ?_⟩
  rw [val_set _ _ _ _ hl, Int.pow_succ]
  have e := h.eq
  grind

set_option maxRecDepth 100000 in
set_option maxHeartbeats 2000000 in
theorem addProduct_any (g : Nat) (P A S M : List Int) (c bc : Nat) (bo : Option Addr) (x : Int) (w : World) (hrow : Row .u64 75 w g (P ++ A ++ S)) (hdA : Dig B64 A) (hdM : Dig B64 M) (hx0 : 0 ≤ x) (hx1 : x < B64)
    (hcA : A.length ≤ c) (_hcm : c ≤ 9223372036854775807) (hM : Rd w .u64 bo bc M) (hMA : M.length = A.length) (hne : 0 < M.length → ∀ b off, bo = some ⟨b, off, none⟩ → b ≠ g) :
    Calls Tryd.prog 50 #[.slice (some ⟨g, P.length, none⟩) A.length c, .slice bo M.length bc, .int .u64 x] w fun e w' => ∃ A1 cc, e = .returned (.int .u64 cc) ∧ MulI w w' g P A S A.length (val B64 M * x) A1 cc := by
  obtain ⟨off, hoff⟩ : ∃ off, off = P.length := ⟨_, rfl⟩
  obtain ⟨n, hn⟩ : ∃ n, n = A.length := ⟨_, rfl⟩
  have hnM : M.length = n := by omega
  have hmc := hM.cap; have hmm := hM.most
  rw [← hn] at hcA
  rw [hnM] at hmc
  have H0 : MulI w w g P A S 0 (val B64 (M.take 0) * x) A 0 := ⟨rfl, hdA, Int.le_refl 0, by decide, hrow, grown_refl _ _, by simp [val]⟩
  rw [hnM, ← hn, ← hoff]
  have Hoff := hid hoff; have Hn := hid hn; have Hm := hid hnM; have HdM := hid hdM; have Hne := hid hne; have HM := hid hM
  have Hx := hid (show 0 ≤ x ∧ x < B64 from ⟨hx0, hx1⟩)
  clear hoff hn hnM hdA hdM hne hrow hM hMA hx1
  go_enter Tryd.func50, Tryd.ntmps50
  go_wp2
  go_loopw [6, 18] (fun cv iv wr => ∃ k : Nat, ∃ A1 cc, k ≤ n ∧ iv = .int .i64 k ∧ cv = .int .u64 cc ∧ MulI w wr g P A S k (val B64 (M.take k) * x) A1 cc) (fun _ iv _ => n - (intOf iv).toNat)
  case atStart => exact ⟨0, A, 0, Nat.zero_le _, rfl, rfl, H0⟩
  case round =>
    obtain ⟨k, A1, cc, hk, rfl, rfl, H⟩ := hrel
    by_cases hlt : k < n
    · have hAk := H.row.cell (off + k) (by have := Hoff.out; have := Hn.out; have := H.len; simp; omega)
      have hfr := H.row.frozen (off + k)
      rw [Hoff.out, mid_get P A1 S k (by have := Hn.out; have := H.len; omega), ← Hoff.out] at hAk
      obtain ⟨b, o, rfl⟩ := HM.out.adr (by have := Hm.out; omega)
      have hMk := (HM.out.keptNew H.gr Hne.out).cell b o rfl k (by have := Hm.out; omega)
      have h0 := HdM.out.at B64_pos k
      have h1 := H.dig.at B64_pos k
      have c0 := H.c0; have c1 := H.c1
      have hv := val_take_succ B64 M k (by have := Hm.out; omega)
      have HST := hid (fun (o d : Int) => H.step (x * M[k]?.getD 0) o d)
      obtain ⟨s, hs⟩ : ∃ s, s = A1[k]?.getD 0 := ⟨_, rfl⟩
      obtain ⟨y, hy⟩ : ∃ y, y = M[k]?.getD 0 := ⟨_, rfl⟩
      rw [← hs] at hAk h1 HST; rw [← hy] at hMk h0 HST hv
      have Hs := hid hs; have Hy := hid hy; have Hh1 := hid h1; have Hh0 := hid h0; have Hc := hid (show 0 ≤ cc ∧ cc < B64 from ⟨c0, c1⟩); have Hv := hid hv
      clear H hs hy H0 h0 h1 c1 hv
      go_wp2_with fail
      refine (mul64_ex x y Hx.out.1 Hx.out.2 Hh0.out.1 Hh0.out.2 _).mono ?_
      rintro e w' ⟨hi, lo, rfl, ⟨hi0, lo0, lo1, hi1, HP⟩, rfl⟩
      obtain ⟨l1, d1, ha1, ⟨l10, l11, d10, d11⟩, hl1⟩ := add64_ex lo cc 0 lo0 lo1 Hc.out.1 Hc.out.2 (Int.le_refl 0) (by decide)
      obtain ⟨o2, d2, ha2, ⟨o20, o21, d20, d21⟩, ho2⟩ := add64_ex s l1 0 Hh1.out.1 Hh1.out.2 l10 l11 (Int.le_refl 0) (by decide)
      have hms := mul_step Hh1.out Hx.out Hh0.out Hc.out HP.out (by simpa using hl1) (by simpa using ho2) o20
      have hle := hms.1
      have HS := HST.out o2 (hi + d1 + d2) o20 o21 (by omega) (by unfold B64; omega) hms.2 (by have := Hn.out; omega)
      have hval : val B64 (M.take k) * x + B64 ^ k * (x * y) = val B64 (M.take (k + 1)) * x := by rw [Hv.out]; grind
      rw [hval, ← Hoff.out] at HS
      have HS' := hid HS
      clear HS hval hms hl1 ho2 HST lo1 l11 o21
      go_wp2
      go_roundw
      case rel => exact ⟨k + 1, _, _, by omega, by go_num, rfl, HS'.out⟩
      case measure => simp [intOf]; omega
    · obtain rfl : k = n := by omega
      have HT : MulI w wr g P A S k (val B64 M * x) A1 cc := by have := H; rwa [← Hm.out, List.take_length, Hm.out] at this
      clear H H0
      go_wp2
      go_ret
      exact ⟨A1, cc, rfl, HT⟩

end Go.Proofs.YthgccegjopieoaaDoor

/- exact.multiplyLimbs. -/
namespace Go.Proofs.YthgccegjopieoaaDoor
open Go.RowKit

/-- After k limbs of the second factor: Q is the product so far. -/
structure LimbI (w wr : World) (g : Nat) (LA LB : List Int) (k : Nat) (Q : List Int) : Prop where
  row : Row .u64 75 wr g (Q ++ List.replicate (LB.length - k) 0)
  gr : w.grownBy wr (some g)
  len : Q.length = LA.length + k
  dig : Dig B64 Q
  eq : val B64 Q = val B64 LA * val B64 (LB.take k)

theorem LimbI.step {w wr w1 : World} {g : Nat} {LA LB Q A1 : List Int} {k : Nat} {cc y : Int} (h : LimbI w wr g LA LB k Q) (hk : k < LB.length) (hy : y = LB[k]?.getD 0)
    (hm : MulI wr w1 g (Q.take k) (Q.drop k) (List.replicate (LB.length - k) 0) (Q.drop k).length (val B64 LA * y) A1 cc) :
    LimbI w (w1.setCell ⟨g, k + LA.length, none⟩ (.int .u64 cc)) g LA LB (k + 1) (Q.take k ++ A1 ++ [cc]) := by
  have hl1 : A1.length = LA.length := by rw [hm.len, List.length_drop, h.len]; omega
  have hlP : (Q.take k).length = k := by rw [List.length_take, h.len]; omega
  have hr := hm.row.set (k + LA.length) cc
  have hz : LB.length - k = (LB.length - (k + 1)) + 1 := by omega
  rw [hz, List.replicate_succ, List.set_append_right _ _ (by simp [hlP, hl1]), show k + LA.length - (Q.take k ++ A1).length = 0 by simp [hlP, hl1], List.set_cons_zero] at hr
  refine ⟨by simpa [List.append_assoc] using hr, grown_trans (grown_trans h.gr hm.gr) (grown_set _ _ _ _), by simp [hlP, hl1]; omega, ((h.dig.take k).append hm.dig).append (Dig.cons hm.c0 hm.c1 (Dig.nil _)), ?_⟩
  have e := hm.eq
  have ld : (Q.drop k).length = LA.length := by rw [List.length_drop, h.len]; omega
  rw [ld] at e
  rw [List.append_assoc, val_append, val_snoc, hlP, hl1, e, val_take_succ B64 LB k hk, ← hy]
  have e2 := val_append B64 (Q.take k) (Q.drop k)
  rw [List.take_append_drop, hlP, h.eq] at e2
  grind

end Go.Proofs.YthgccegjopieoaaDoor

/- exact.multiplyLimbs: the product lies in new memory. -/
namespace Go.Proofs.YthgccegjopieoaaDoor
open Go.RowKit

end Go.Proofs.YthgccegjopieoaaDoor

/- math/bits.LeadingZeros64, Len64: by the library's contracts. -/
namespace Go.Proofs.YthgccegjopieoaaDoor
open Go.RowKit Go.Shelf

def lz_ren : Go.Shelf.Ren := ⟨fun | 134 => 68 | 129 => 70 | n => n, fun | 53 => 75 | 3 => 3 | 4 => 4 | 46 => 78 | 5 => 5 | 9 => 9 | n => n, fun | n => n⟩
theorem lz_lays : Go.Proofs.Lays.n134 Tryd.prog lz_ren := {
  mixed := by kernel_rfl
  f129 := Tryd.func70.trans (congrArg some (by kernel_rfl))
  f134 := Tryd.func68.trans (congrArg some (by kernel_rfl))
  t3 := Tryd.underlying3
  a3 := Tryd.isAgg3
  z3 := Tryd.sizeOf3
  v3 := Tryd.zeroValue3
  t4 := Tryd.underlying4
  a4 := Tryd.isAgg4
  z4 := Tryd.sizeOf4
  v4 := Tryd.zeroValue4
  t5 := Tryd.underlying5
  a5 := Tryd.isAgg5
  z5 := Tryd.sizeOf5
  v5 := Tryd.zeroValue5
  t9 := Tryd.underlying9
  a9 := Tryd.isAgg9
  z9 := Tryd.sizeOf9
  v9 := Tryd.zeroValue9
  t46 := Tryd.underlying78
  a46 := Tryd.isAgg78
  z46 := Tryd.sizeOf78
  v46 := Tryd.zeroValue78
  t53 := Tryd.underlying75
  a53 := Tryd.isAgg75
  z53 := Tryd.sizeOf75
  v53 := Tryd.zeroValue75 }

theorem bitLenAux_bd : ∀ (f x : Nat), x < 2 ^ f → 0 < x → 0 < Lib.bitLenAux f x ∧ 2 ^ (Lib.bitLenAux f x - 1) ≤ x ∧ x < 2 ^ Lib.bitLenAux f x ∧ Lib.bitLenAux f x ≤ f
  | 0, x, h, h0 => by simp at h; omega
  | f + 1, x, h, h0 => by
    rw [Lib.bitLenAux, if_neg (by omega)]
    by_cases h1 : x / 2 = 0
    · have : x = 1 := by omega
      subst this
      cases f <;> simp [Lib.bitLenAux]
    · have ih := bitLenAux_bd f (x / 2) (by rw [Nat.pow_succ] at h; omega) (by omega)
      obtain ⟨a, b, c, d⟩ := ih
      refine ⟨by omega, ?_, ?_, by omega⟩
      · rw [Nat.add_sub_cancel_left]
        have e : Lib.bitLenAux f (x / 2) = (Lib.bitLenAux f (x / 2) - 1) + 1 := by omega
        rw [e, Nat.pow_succ]; omega
      · rw [Nat.add_comm, Nat.pow_succ]; omega

theorem bitLen_bd (x : Nat) (h : x < 18446744073709551616) (h0 : 0 < x) : 0 < Lib.bitLen x ∧ 2 ^ (Lib.bitLen x - 1) ≤ x ∧ x < 2 ^ Lib.bitLen x ∧ Lib.bitLen x ≤ 64 := bitLenAux_bd 64 x h h0

/-- The shift by which the highest bit comes to stand first. -/
theorem lz64 (y : Int) (h0 : 0 < y) (h1 : y < B64) (w : World) : Calls Tryd.prog 68 #[.int .u64 y] w fun e w' => ∃ s : Nat, e = .returned (.int .i64 s) ∧ s ≤ 63 ∧ 9223372036854775808 ≤ y * 2 ^ s ∧ y * 2 ^ s < B64 ∧ w = w' := by
  unfold B64 at h1
  refine (Any.bits_LeadingZeros64 lz_lays y w (by omega) (by omega)).mono ?_
  rintro e w' ⟨rfl, rfl⟩
  have hb := bitLen_bd y.toNat (by omega) (by omega)
  obtain ⟨a, b, c, d⟩ := hb
  refine ⟨64 - Lib.bitLen y.toNat, by congr 2; omega, by omega, ?_, ?_, rfl⟩
  · have e : (64 - Lib.bitLen y.toNat) + (Lib.bitLen y.toNat - 1) = 63 := by omega
    have := Nat.mul_le_mul_right (2 ^ (64 - Lib.bitLen y.toNat)) b
    rw [← Nat.pow_add, Nat.add_comm, e] at this
    have h2 : ((2 ^ 63 : Nat) : Int) ≤ ((y.toNat * 2 ^ (64 - Lib.bitLen y.toNat) : Nat) : Int) := by exact_mod_cast this
    rw [Int.natCast_mul, Int.natCast_pow, Int.toNat_of_nonneg (by omega)] at h2
    simpa using h2
  · have e : Lib.bitLen y.toNat + (64 - Lib.bitLen y.toNat) = 64 := by omega
    have := Nat.mul_lt_mul_of_pos_right c (Nat.two_pow_pos (64 - Lib.bitLen y.toNat))
    rw [← Nat.pow_add, e] at this
    have h2 : ((y.toNat * 2 ^ (64 - Lib.bitLen y.toNat) : Nat) : Int) < ((2 ^ 64 : Nat) : Int) := by exact_mod_cast this
    rw [Int.natCast_mul, Int.natCast_pow, Int.toNat_of_nonneg (by omega)] at h2
    simpa [B64] using h2

end Go.Proofs.YthgccegjopieoaaDoor

/- exact.fromWords, (exact.natural).words: two words are a limb. -/
namespace Go.Proofs.YthgccegjopieoaaDoor
open Go.RowKit

/-- 2^32, behind a name. -/
def B32 : Int := 4294967296
theorem B32_pos : 0 < B32 := by decide

/-- Two words are a limb. -/
def pack : List Int → List Int
  | [] => []
  | [x] => [x]
  | x :: y :: l => (x + B32 * y) :: pack l

theorem pack_val : ∀ l : List Int, val B64 (pack l) = val B32 l
  | [] => rfl
  | [x] => by simp [pack, val]
  | x :: y :: l => by
    have h := pack_val l
    simp only [pack, val, h]
    have e : B64 = B32 * B32 := by decide
    rw [e]; grind
theorem pack_len : ∀ l : List Int, (pack l).length = (l.length + 1) / 2
  | [] => rfl
  | [x] => by simp [pack]
  | x :: y :: l => by have h := pack_len l; simp only [pack, List.length_cons, h]; omega
theorem pack_dig : ∀ {l : List Int}, Dig B32 l → Dig B64 (pack l)
  | [], _ => Dig.nil _
  | [x], h => by
    have := h.head
    exact Dig.cons this.1 (Int.lt_trans this.2 (by decide)) (Dig.nil _)
  | x :: y :: l, h => by
    have h1 := h.head; have h2 := h.tail.head
    refine Dig.cons ?_ ?_ (pack_dig h.tail.tail)
    · unfold B32 at *; omega
    · unfold B32 B64 at *; omega
theorem pack_nrm : ∀ {l : List Int}, Dig B32 l → Nrm l → Nrm (pack l)
  | [], _, _ => rfl
  | [x], _, h => h
  | x :: y :: l, hd, h => by
    have ih := pack_nrm hd.tail.tail h.tail.tail
    unfold Nrm at ih ⊢
    simp only [pack, trimL, ih]
    split
    · next hc =>
      exfalso
      obtain ⟨h1, h2⟩ := hc
      have hl : l = [] := by
        have := pack_len l; rw [h1] at this; simp at this
        exact List.eq_nil_of_length_eq_zero (by omega)
      subst hl
      have hx := hd.head; have hy := hd.tail.head
      have : x = 0 ∧ y = 0 := by unfold B32 at *; constructor <;> omega
      obtain ⟨rfl, rfl⟩ := this
      simp [Nrm, trimL] at h
    · rfl
theorem pack_append : ∀ (j : Nat) (l m : List Int), l.length = 2 * j → pack (l ++ m) = pack l ++ pack m
  | 0, [], m, _ => rfl
  | 0, _ :: _, _, h => by simp at h
  | j + 1, [], _, h => by simp at h
  | j + 1, [x], _, h => by simp at h; omega
  | j + 1, x :: y :: l, m, h => by
    have := pack_append j l m (by simp at h; omega)
    simp [pack, this]

theorem or_high (lo h : Int) (h0 : 0 ≤ lo) (h1 : lo < B32) (k0 : 0 ≤ h) (k1 : h < B32) : bits .or .u64 lo (h * 4294967296) = lo + B32 * h := by
  obtain ⟨a, rfl⟩ := Int.eq_ofNat_of_zero_le h0
  obtain ⟨b, rfl⟩ := Int.eq_ofNat_of_zero_le k0
  unfold B32 at *
  have e : ((b : Int) * 4294967296) = ((b * 4294967296 : Nat) : Int) := by omega
  rw [e, bits_or_u64_nat a (b * 4294967296) (by omega) (by omega)]
  have := Nat.two_pow_add_eq_or_of_lt (i := 32) (show a < 2 ^ 32 by omega) b
  rw [show (2 : Nat) ^ 32 = 4294967296 from rfl] at this
  rw [Nat.or_comm, Nat.mul_comm b, ← this]; omega
theorem or_zero (x : Int) (h0 : 0 ≤ x) (h1 : x < B32) : bits .or .u64 0 x = x := by
  obtain ⟨a, rfl⟩ := Int.eq_ofNat_of_zero_le h0
  unfold B32 at *
  have := bits_or_u64_nat 0 a (by omega) (by omega)
  simpa using this

/-- After k words. -/
structure PackI (w wr : World) (g : Nat) (W : List Int) (N k : Nat) : Prop where
  row : Row .u64 75 wr g (pack (W.take k) ++ List.replicate (N - (k + 1) / 2) 0)
  gr : w.grownBy wr (some g)

theorem PackI.drew {w wr : World} {g : Nat} {W : List Int} {N k : Nat} (h : PackI w wr g W N k) : PackI w wr.drew g W N k := ⟨h.row, grown_drew h.gr⟩
theorem pack_take_len (W : List Int) (k : Nat) (h : k ≤ W.length) : (pack (W.take k)).length = (k + 1) / 2 := by rw [pack_len, List.length_take, Nat.min_eq_left h]

theorem PackI.even {w wr : World} {g : Nat} {W : List Int} {N j : Nat} (h : PackI w wr g W N (2 * j)) (hk : 2 * j < W.length) (hN : N = (W.length + 1) / 2) :
    wr.cell? ⟨g, j, none⟩ = some (.int .u64 0) ∧ PackI w (wr.setCell ⟨g, j, none⟩ (.int .u64 (W[2 * j]?.getD 0))) g W N (2 * j + 1) := by
  have hl := pack_take_len W (2 * j) (by omega)
  have hz : N - (2 * j + 1) / 2 = (N - (2 * j + 1 + 1) / 2) + 1 := by omega
  constructor
  · have := h.row.cell j (by simp [hl]; omega)
    rw [this, hz, List.replicate_succ, List.getElem?_append_right (by omega), show j - (pack (W.take (2 * j))).length = 0 by omega]
    rfl
  · refine ⟨?_, grown_trans h.gr (grown_set _ _ _ _)⟩
    have hr := h.row.set j (W[2 * j]?.getD 0)
    rw [hz, List.replicate_succ, List.set_append_right _ _ (by omega), show j - (pack (W.take (2 * j))).length = 0 by omega, List.set_cons_zero] at hr
    rw [take_succ_getD W (2 * j) hk, pack_append j _ _ (by simp; omega)]
    simpa [pack] using hr

theorem PackI.odd {w wr : World} {g : Nat} {W : List Int} {N j : Nat} (h : PackI w wr g W N (2 * j + 1)) (hk : 2 * j + 1 < W.length) :
    wr.cell? ⟨g, j, none⟩ = some (.int .u64 (W[2 * j]?.getD 0)) ∧ PackI w (wr.setCell ⟨g, j, none⟩ (.int .u64 (W[2 * j]?.getD 0 + B32 * W[2 * j + 1]?.getD 0))) g W N (2 * j + 2) := by
  have hl := pack_take_len W (2 * j) (by omega)
  have e1 : pack (W.take (2 * j + 1)) = pack (W.take (2 * j)) ++ [W[2 * j]?.getD 0] := by
    rw [take_succ_getD W (2 * j) (by omega), pack_append j _ _ (by simp; omega)]; rfl
  have e2 : pack (W.take (2 * j + 2)) = pack (W.take (2 * j)) ++ [W[2 * j]?.getD 0 + B32 * W[2 * j + 1]?.getD 0] := by
    rw [take_succ_getD W (2 * j + 1) hk, take_succ_getD W (2 * j) (by omega), List.append_assoc, pack_append j _ _ (by simp; omega)]; rfl
  have hz : (2 * j + 1 + 1) / 2 = (2 * j + 2 + 1) / 2 := by omega
  constructor
  · have := h.row.cell j (by simp [e1, hl]; omega)
    rw [this, e1, List.append_assoc, List.getElem?_append_right (by omega), show j - (pack (W.take (2 * j))).length = 0 by omega]
    rfl
  · refine ⟨?_, grown_trans h.gr (grown_set _ _ _ _)⟩
    have hr := h.row.set j (W[2 * j]?.getD 0 + B32 * W[2 * j + 1]?.getD 0)
    rw [e1, List.append_assoc, List.set_append_right _ _ (by omega), show j - (pack (W.take (2 * j))).length = 0 by omega] at hr
    rw [e2, List.append_assoc, ← hz]
    exact hr

set_option maxRecDepth 100000 in
set_option maxHeartbeats 1000000 in
theorem fromWords_any (ao : Option Addr) (ca : Nat) (W0 : List Int) (w : World) (hA : Rd w .u32 ao ca W0) (hd : Dig B32 W0) (hk : W0.length ≤ 1073741824) :
    Calls Tryd.prog 28 #[.slice ao W0.length ca] w (RetN w (val B32 W0) ((W0.length + 1) / 2)) := by
  obtain ⟨W, hW⟩ : ∃ W, W = trimL W0 := ⟨_, rfl⟩
  have htl := trimL_len W0
  rw [← hW] at htl
  have hAW : Rd w .u32 ao ca W := by rw [hW, trimL_take]; exact hA.take _
  have ht := trim32_any ao ca W0 w hA
  rw [← hW] at ht
  obtain ⟨n, hn⟩ : ∃ n, n = W.length := ⟨_, rfl⟩
  obtain ⟨n0, hn0⟩ : ∃ n0, n0 = W0.length := ⟨_, rfl⟩
  rw [← hn, ← hn0] at ht htl
  rw [← hn0] at hk ⊢
  have hdW : Dig B32 W := by rw [hW]; exact hd.trim
  have hv : val B64 (pack W) = val B32 W0 := by rw [pack_val, hW, val_trim]
  have hnr : Nrm (pack W) := pack_nrm hdW (by rw [hW]; exact Nrm.trim _)
  have HT := hid ht; have Hn := hid hn; have HA := hid hAW; have Hd := hid hdW; have Hv := hid hv; have Hnr := hid hnr
  clear ht hn hn0 hAW hdW hv hnr hA hd hW
  obtain ⟨i0, hi, hz0, hz1, hz2⟩ := info_parts Tryd.info75
  go_enter Tryd.func28, Tryd.ntmps28
  go_wp2_with (first | (go_at_call 38; refine HT.out.mono ?_; rintro e w1 ⟨rfl, rfl⟩) | (at_make; refine wpList_make_row w rfl _ _ 39 rfl 75 i0 .u64 Tryd.underlying39 hi hz0 hz1 .i64 .i64 _ _ ((n + 1) / 2) rfl rfl (by omega) (by omega) (by rw [hz2]; omega) (by unfold maxLen; omega) ?_))
  intro w1 hrow hg1
  have hg1b := grown_below hg1
  have H0 : PackI w w1 w.heap.size W ((n + 1) / 2) 0 := ⟨by simpa [pack] using hrow, grown_any hg1⟩
  have HR := hid (HA.out.below hg1b (Nat.le_refl _))
  have HG := hid (HA.out.ne (Nat.le_refl w.heap.size))
  clear hrow hg1 hg1b
  go_wp2
  go_loopw [15] (fun iv wr => ∃ k : Nat, k ≤ n ∧ iv = .int .i64 k ∧ PackI w wr w.heap.size W ((n + 1) / 2) k) (fun iv _ => n - (intOf iv).toNat)
  case atStart => exact ⟨0, Nat.zero_le _, rfl, H0⟩
  case round =>
    obtain ⟨k, hk, rfl, H⟩ := hrel
    by_cases hlt : k < n
    · obtain ⟨b, o, rfl⟩ := HA.out.adr (by have := Hn.out; omega)
      have hx : wr.cell? ⟨b, o + k, none⟩ = some (.int .u32 (W[k]?.getD 0)) := (HA.out.keptNew H.gr HG.out).cell b o rfl k (by have := Hn.out; omega)
      have hd := Hd.out.at B32_pos k
      rcases (show ∃ j, k = 2 * j ∨ k = 2 * j + 1 from ⟨k / 2, by omega⟩) with ⟨j, rfl | rfl⟩
      · obtain ⟨hc, HS⟩ := H.even (by have := Hn.out; omega) (by rw [Hn.out])
        have hf := H.row.frozen j
        obtain ⟨x, hxe⟩ : ∃ x, x = W[2 * j]?.getD 0 := ⟨_, rfl⟩
        rw [← hxe] at hx hd HS
        have e1 : (((2 * j : Nat) : Int)) / 2 = (j : Int) := by omega
        have e2 : (((2 * j : Nat) : Int)) % 2 = 0 := by omega
        have e3 := or_zero x hd.1 hd.2
        have d0 := hd.1; have d1 := hd.2; unfold B32 at d1
        have HS' := hid HS; have HX := hid hxe
        clear H HS hxe H0
        go_wp2
        go_region
        all_goals go_wp2
        go_roundw
        case rel => exact ⟨2 * j + 1, by omega, by go_num, HS'.out.drew⟩
        case measure => simp [intOf]; omega
      · obtain ⟨hc, HS⟩ := H.odd (by have := Hn.out; omega)
        have hf := H.row.frozen j
        obtain ⟨x, hxe⟩ : ∃ x, x = W[2 * j + 1]?.getD 0 := ⟨_, rfl⟩
        obtain ⟨y, hye⟩ : ∃ y, y = W[2 * j]?.getD 0 := ⟨_, rfl⟩
        have hy := Hd.out.at B32_pos (2 * j)
        rw [← hxe] at hx hd HS; rw [← hye] at hc HS hy
        have ej : (2 * j + 1) / 2 = j := by omega
        have hc' : wr.cell? ⟨w.heap.size, (2 * j + 1) / 2, none⟩ = some (.int .u64 y) := by rw [ej]; exact hc
        have hf' : wr.frozen? ⟨w.heap.size, (2 * j + 1) / 2, none⟩ = false := by rw [ej]; exact hf
        have HS2 : PackI w (wr.setCell ⟨w.heap.size, (2 * j + 1) / 2, none⟩ (.int .u64 (y + B32 * x))) w.heap.size W ((n + 1) / 2) (2 * j + 2) := by rw [ej]; exact HS
        have e2 : (2 * (j : Int) + 1) % 2 = 1 := by omega
        have e3 := or_high y x hy.1 hy.2 hd.1 hd.2
        have d0 := hd.1; have d1 := hd.2; unfold B32 at d1
        have HS' := hid HS2; have HX := hid hxe; have HY := hid hye
        clear H HS HS2 hxe hye H0 hc hf ej
        go_wp2
        go_region
        all_goals go_wp2
        go_roundw
        case rel => exact ⟨2 * j + 2, by omega, by go_num, HS'.out.drew⟩
        case measure => simp [intOf]; omega
    · obtain rfl : k = n := by omega
      clear H0
      go_wp2
      go_ret
      have hr := H.row
      rw [Hn.out, List.take_length, Nat.sub_self, List.replicate_zero, List.append_nil] at hr
      refine ⟨_, rfl, ?_, ⟨H.gr.os, H.gr.tape, H.gr.output, H.gr.size, fun i hi => H.gr.block i hi (fun e => by cases e; omega)⟩⟩
      have hN := nt_row (c := (k + 1) / 2) (K := (n0 + 1) / 2) hr (pack_dig Hd.out) Hv.out (by rw [pack_len, ← Hn.out]; omega) (by omega) (by rw [pack_len, ← Hn.out]; omega)
      rw [Hnr.out, pack_len, ← Hn.out] at hN
      exact hN

end Go.Proofs.YthgccegjopieoaaDoor
