/- exact.isOne, bitLength, gcdLimb. exact.bitLength, root. exact.root: its walk. The document's own integers: Gcd. -/
import Derived.Test.YtbmdjimfncgomaaIa11
import Derived.Test.YtbmdjimfncgomaaIa03
import Derived.Test.YtbmdjimfncgomaaIa10
import Derived.Test.YtbmdjimfncgomaaIa08
import Derived.Deep.DeepCutAuto
import Derived.Deep.CutBlock
/- exact.isOne, bitLength, gcdLimb. -/
namespace Go.Proofs.Ytbmdjimfncgomaa
open Go.RowKit

theorem gcd_step {a b : Int} (ha : 0 ≤ a) (hb : 0 < b) : Int.gcd b (a % b) = Int.gcd a b := by
  obtain ⟨x, rfl⟩ := Int.eq_ofNat_of_zero_le ha
  obtain ⟨y, rfl⟩ := Int.eq_ofNat_of_zero_le (Int.le_of_lt hb)
  rw [← Int.natCast_emod]
  simp only [Int.gcd, Int.natAbs_natCast]
  rw [Nat.gcd_comm x y, Nat.gcd_rec y x, Nat.gcd_comm]

set_option maxRecDepth 100000 in
set_option maxHeartbeats 1000000 in
theorem gcdLimb_any (a b : Int) (w : World) (ha : 0 ≤ a ∧ a < B64) (hb : 0 ≤ b ∧ b < B64) :
    Calls Try.prog 89 #[.int .u64 a, .int .u64 b] w fun e w' => e = .returned (.int .u64 (Int.gcd a b : Int)) ∧ ∃ nq, w' = w.drewN nq := by
  obtain ⟨G, hG⟩ : ∃ G, G = Int.gcd a b := ⟨_, rfl⟩
  rw [← hG]
  have HG := hid hG; have HA := hid ha; have HB := hid hb
  clear hG ha hb
  go_enter Try.func89, Try.ntmps89
  go_wp2
  go_loopw [0, 1] (fun av bv wr => ∃ x y : Int, ∃ nq, av = .int .u64 x ∧ bv = .int .u64 y ∧ Hid (wr = w.drewN nq) ∧ Hid (G = Int.gcd x y) ∧ Hid (0 ≤ x ∧ x < B64) ∧ Hid (0 ≤ y ∧ y < B64)) (fun _ bv _ => (intOf bv).toNat)
  case atStart => exact ⟨a, b, 0, rfl, rfl, hid rfl, HG, HA, HB⟩
  case round =>
    obtain ⟨x, y, nq, rfl, rfl, HW, HG', HX, HY⟩ := hrel
    by_cases hy : y = 0
    · subst hy
      have hr := HG'.out
      have hx := HX.out.1
      have hr' : (G : Int) = x := by
        rw [hr]
        obtain ⟨x, rfl⟩ := Int.eq_ofNat_of_zero_le hx
        simp [Int.gcd]
      have HR := hid hr'
      clear hr hr' hx
      go_wp2
      go_ret
      exact ⟨by rw [HR.out]; rfl, nq, HW.out⟩
    · have hy0 : 0 < y := by have := HY.out.1; omega
      have hx0 := HX.out.1
      have hm0 := Int.emod_nonneg x hy
      have hm1 := Int.emod_lt_of_pos x hy0
      have hg := gcd_step hx0 hy0
      have htm : x.tmod y = x % y := Int.tmod_eq_emod_of_nonneg hx0
      obtain ⟨r, hr⟩ : ∃ r, r = x % y := ⟨_, rfl⟩
      rw [← hr] at hm0 hm1 hg htm
      have hr2 := hr.symm
      have HM := hid hm1; have HGs := hid hg; have HY0 := hid hy0
      have hb : ((y : Int) != 0) = true := by rw [bne_iff_ne]; exact hy
      clear hr hg hm1 hy0
      go_wp2
      go_quiet (fail)
      go_wp2
      go_roundw
      case rel => exact ⟨y, r, _, rfl, by go_num, hid (by rw [HW.out, World.drewN_drewN]), hid (by rw [HGs.out]; exact HG'.out), HY, hid ⟨hm0, by have := HM.out; have := HY.out.2; omega⟩⟩
      case measure => simp [intOf]; have := HM.out; omega

set_option maxRecDepth 100000 in
set_option maxHeartbeats 1000000 in
theorem isOne_any (va : Value) (a : Int) (K : Nat) (w : World) (hA : Nt w va a K) :
    Calls Try.prog 97 #[va] w fun e w' => e = .returned (.bool (decide (a = 1))) ∧ w' = w := by
  obtain ⟨ao, c, LA, rfl, hA⟩ := hA
  by_cases h1 : LA.length = 1
  · obtain ⟨y, rfl⟩ : ∃ y, LA = [y] := List.length_eq_one_iff.1 h1
    obtain ⟨b, o, rfl⟩ := hA.rd.adr (by simp)
    have hc := hA.rd.cell b o rfl 0 (by simp)
    have hy : y = a := by have := hA.eq; simpa [val] using this
    subst hy
    simp at hc ⊢
    clear hA h1
    by_cases hy1 : y = 1
    · subst hy1
      go_enter Try.func97, Try.ntmps97
      go_wp2
      go_ret
      exact ⟨by simp, rfl⟩
    · go_enter Try.func97, Try.ntmps97
      go_wp2
      go_ret
      exact ⟨by simp [hy1], rfl⟩
  · have ha : ¬ a = 1 := by
      intro h
      apply h1
      have e := val_inj B64_pos hA.dig (Dig.cons (by decide) (by decide) (Dig.nil _)) hA.nrm (show Nrm [1] by unfold Nrm; simp [trimL]) (by rw [hA.eq, h]; simp [val])
      rw [e]; rfl
    have HAa := hid ha
    obtain ⟨n, hn⟩ : ∃ n, n = LA.length := ⟨_, rfl⟩
    rw [← hn] at h1 ⊢
    have hn1 : ¬ (n : Int) = 1 := by omega
    clear hA hn ha
    go_enter Try.func97, Try.ntmps97
    go_wp2
    go_ret
    exact ⟨by rw [decide_eq_false HAa.out]; rfl, rfl⟩

end Go.Proofs.Ytbmdjimfncgomaa

/- exact.bitLength, root. -/
namespace Go.Proofs.Ytbmdjimfncgomaa
open Go.RowKit Go.Shelf

/-- math/bits.Len64 of a number that is not 0. -/
theorem len64 (y : Int) (h0 : 0 < y) (h1 : y < B64) (w : World) : Calls Try.prog 112 #[.int .u64 y] w fun e w' => ∃ s : Nat, e = .returned (.int .i64 s) ∧ 1 ≤ s ∧ s ≤ 64 ∧ 2 ^ (s - 1) ≤ y ∧ y < 2 ^ s ∧ w = w' := by
  unfold B64 at h1
  refine (Any.bits_Len64 { lz_lays with } y w (by omega) (by omega)).mono ?_
  rintro e w' ⟨rfl, rfl⟩
  have hb := bitLen_bd y.toNat (by omega) (by omega)
  obtain ⟨a, b, c, d⟩ := hb
  have e : (y.toNat : Int) = y := Int.toNat_of_nonneg (by omega)
  refine ⟨Lib.bitLen y.toNat, rfl, a, d, ?_, ?_, rfl⟩
  · have : ((2 ^ (Lib.bitLen y.toNat - 1) : Nat) : Int) ≤ (y.toNat : Int) := by exact_mod_cast b
    rw [e, Int.natCast_pow] at this; exact this
  · have : (y.toNat : Int) < ((2 ^ Lib.bitLen y.toNat : Nat) : Int) := by exact_mod_cast c
    rw [e, Int.natCast_pow] at this; exact this

/-- How many bits a number has. -/
def Bits (a : Int) (l : Nat) : Prop := (a = 0 ∧ l = 0) ∨ (1 ≤ l ∧ 2 ^ (l - 1) ≤ a ∧ a < 2 ^ l)

theorem bits_top {L : List Int} {k s : Nat} (hd : Dig B64 L) (hl : L.length = k + 1) (h1 : 1 ≤ s) (hlo : 2 ^ (s - 1) ≤ L[k]?.getD 0) (hhi : L[k]?.getD 0 < 2 ^ s) : Bits (val B64 L) (64 * k + s) := by
  have e := take_succ_getD L k (by omega)
  rw [List.take_of_length_le (by omega)] at e
  have hlen : (L.take k).length = k := by rw [List.length_take]; omega
  have ev : val B64 L = val B64 (L.take k) + B64 ^ k * L[k]?.getD 0 := by conv => lhs; rw [e, val_snoc, hlen]
  have hv := val_lt B64_pos (hd.take k)
  have hv0 := val_nonneg B64_pos (hd.take k)
  rw [hlen] at hv
  have hp : 0 < B64 ^ k := Int.pow_pos B64_pos
  have hB : B64 ^ k = 2 ^ (64 * k) := by rw [Int.pow_mul]; rfl
  refine .inr ⟨by omega, ?_, ?_⟩
  · rw [show 64 * k + s - 1 = 64 * k + (s - 1) by omega, Int.pow_add, ← hB]
    have := Int.mul_le_mul_of_nonneg_left hlo (Int.le_of_lt hp)
    omega
  · rw [Int.pow_add, ← hB]
    have := Int.mul_le_mul_of_nonneg_left (show L[k]?.getD 0 + 1 ≤ 2 ^ s from hhi) (Int.le_of_lt hp)
    rw [Int.mul_add, Int.mul_one] at this
    omega

set_option maxRecDepth 100000 in
set_option maxHeartbeats 1000000 in
theorem bitLength_any (va : Value) (a : Int) (K : Nat) (w : World) (hA : Nt w va a K) (hK : K ≤ 1073741824) :
    Calls Try.prog 95 #[va] w fun e w' => ∃ l : Nat, e = .returned (.int .i64 l) ∧ l ≤ 64 * K ∧ Bits a l ∧ w' = w := by
  obtain ⟨ao, c, LA, rfl, hA⟩ := hA
  by_cases h0 : LA.length = 0
  · have ha : a = 0 := by rw [← hA.eq, List.eq_nil_of_length_eq_zero h0]; rfl
    have HA0 := hid ha
    rw [h0]
    clear hA h0 ha
    go_enter Try.func95, Try.ntmps95
    go_wp2
    go_ret
    exact ⟨0, rfl, Nat.zero_le _, .inl ⟨HA0.out, rfl⟩, rfl⟩
  · obtain ⟨k, hk⟩ : ∃ k, LA.length = k + 1 := ⟨LA.length - 1, by omega⟩
    obtain ⟨b, o, rfl⟩ := hA.rd.adr (by omega)
    have hc := hA.rd.cell b o rfl k (by omega)
    have ht := hA.nrm.top hk
    have hd := hA.dig.at B64_pos k
    have hbt := fun (s : Nat) h1 h2 h3 => bits_top (s := s) hA.dig hk h1 h2 h3
    rw [hA.eq] at hbt
    have hkK : k + 1 ≤ K := by have := hA.le; omega
    obtain ⟨y, hy⟩ : ∃ y, y = LA[k]?.getD 0 := ⟨_, rfl⟩
    rw [← hy] at hc ht hd hbt
    have hz := len64 y (by omega) hd.2 w
    have HZ := hid hz; have HBt := hid hbt
    rw [hk]
    clear hz hbt hy ht hd hA h0 hk
    go_enter Try.func95, Try.ntmps95
    go_wp2_with (go_at_call 112; refine HZ.out.mono ?_; rintro e w' ⟨s, rfl, s1, s64, s2, s3, rfl⟩)
    go_ret
    exact ⟨64 * k + s, by go_num, by omega, HBt.out s s1 s2 s3, rfl⟩

/-- A step of Newton's from above stays above. -/
theorem newton_up {a g : Int} (ha : 0 ≤ a) (hg : 0 < g) : a < ((g + a / g) / 2 + 1) * ((g + a / g) / 2 + 1) := by
  obtain ⟨q, hq⟩ : ∃ q, q = a / g := ⟨_, rfl⟩
  have q0 : 0 ≤ q := by rw [hq]; exact Int.ediv_nonneg ha (Int.le_of_lt hg)
  have e := Int.emod_add_mul_ediv a g
  have r1 := Int.emod_lt_of_pos a hg
  rw [← hq] at e ⊢
  obtain ⟨n, hn⟩ : ∃ n, n = (g + q) / 2 := ⟨_, rfl⟩
  rw [← hn]
  have h1 : g + q ≤ 2 * n + 1 := by omega
  -- a < g (q + 1), and (q + 1) + g ≤ 2 (n + 1)
  have h2 : a < g * (q + 1) := by rw [Int.mul_add, Int.mul_one]; omega
  have h3 : g * (q + 1) ≤ (n + 1) * (n + 1) := by
    obtain ⟨u, hu⟩ : ∃ u, u = q + 1 := ⟨_, rfl⟩
    rw [← hu]
    have hs : g + u ≤ 2 * (n + 1) := by omega
    -- 4 g u = (g + u)^2 - (g - u)^2
    have sq : 0 ≤ (g - u) * (g - u) := by
      rcases Int.le_total 0 (g - u) with h | h
      · exact Int.mul_nonneg h h
      · have := Int.mul_nonneg (show 0 ≤ -(g - u) by omega) (show 0 ≤ -(g - u) by omega); rwa [Int.neg_mul_neg] at this
    have m1 := Int.mul_le_mul hs hs (by omega) (by omega)
    have e1 : (g + u) * (g + u) = (g - u) * (g - u) + 4 * (g * u) := by grind
    have e2 : 2 * (n + 1) * (2 * (n + 1)) = 4 * ((n + 1) * (n + 1)) := by grind
    omega
  omega

theorem newton_stop {a g : Int} (hg : 0 < g) (h : g ≤ (g + a / g) / 2) : g * g ≤ a := by
  have : g ≤ a / g := by omega
  exact (Int.le_ediv_iff_mul_le hg).1 this

theorem newton_pos {a n : Int} (ha : 0 < a) (h : a < (n + 1) * (n + 1)) (hn : 0 ≤ n) : 0 < n := by
  rcases Int.lt_or_le 0 n with k | k
  · exact k
  · have : n = 0 := by omega
    subst this; omega

theorem newton_begin {a : Int} {l : Nat} (h : Bits a l) (ha : 0 < a) : a < (2 ^ ((l + 1) / 2) + 1) * (2 ^ ((l + 1) / 2) + 1) := by
  rcases h with h | h
  · omega
  · have e : (2 : Int) ^ l ≤ 2 ^ ((l + 1) / 2 + (l + 1) / 2) := pow_mono (by decide) (by omega)
    rw [Int.pow_add] at e
    have p : (0 : Int) < 2 ^ ((l + 1) / 2) := Int.pow_pos (by decide)
    have := h.2.2
    rw [Int.mul_add, Int.add_mul]
    omega

end Go.Proofs.Ytbmdjimfncgomaa

/- exact.root: its walk. -/
namespace Go.Proofs.Ytbmdjimfncgomaa
open Go.RowKit

theorem Rd.unique {w : World} {k : IntKind} {ao : Option Addr} {c c' : Nat} {L L' : List Int} (h : Rd w k ao c L) (h' : Rd w k ao c' L') (hl : L.length = L'.length) : L = L' := by
  by_cases h0 : L.length = 0
  · rw [List.eq_nil_of_length_eq_zero h0, List.eq_nil_of_length_eq_zero (l := L') (by omega)]
  · obtain ⟨b, o, rfl⟩ := h.adr (by omega)
    refine List.ext_getElem hl fun i h1 h2 => ?_
    have a := h.cell b o rfl i h1
    rw [h'.cell b o rfl i h2] at a
    have e := Value.int.inj (Option.some.inj a)
    simpa [h1, h2] using e.2.symm
theorem Nt.unique {w : World} {v : Value} {n n' : Int} {K K' : Nat} (h : Nt w v n K) (h' : Nt w v n' K') : n = n' := by
  obtain ⟨ao, c, L, rfl, h⟩ := h
  obtain ⟨ao', c', L', e, h'⟩ := h'
  obtain ⟨e1, e2, _⟩ := Value.slice.inj e
  subst e1
  rw [← h.eq, ← h'.eq, h.rd.unique h'.rd e2]

open Classical in
/-- The number that a value stands for, 0 if none. -/
noncomputable def natOf (w : World) (v : Value) : Nat := if h : ∃ n : Int, ∃ K, Nt w v n K then (Classical.choose h).toNat else 0
theorem natOf_eq {w : World} {v : Value} {n : Int} {K : Nat} (h : Nt w v n K) : natOf w v = n.toNat := by
  have hx : ∃ n : Int, ∃ K, Nt w v n K := ⟨n, K, h⟩
  unfold natOf
  rw [dif_pos hx]
  obtain ⟨K', h'⟩ := Classical.choose_spec hx
  rw [h'.unique h]

theorem one_row (w : World) : Nt (w.alloc (Obj.cells #[Value.int IntKind.u64 1] 105)) (.slice (some ⟨w.heap.size, 0, none⟩) 1 1) 1 1 := by
  have hrow : Row .u64 105 (w.alloc (Obj.cells #[Value.int IntKind.u64 1] 105)) w.heap.size [1] := by unfold Row World.alloc; simp
  have h := nt_row (c := 1) (K := 1) hrow (Dig.cons (by decide) (by decide) (Dig.nil _)) (n := 1) (by simp [val]) (by simp) (by decide) (by simp)
  simpa [trimL] using h

structure RootI (w wr : World) (a : Int) (Kg : Nat) (gv : Value) (g : Int) : Prop where
  nt : Nt wr gv g Kg
  pos : 0 < g
  up : a < (g + 1) * (g + 1)
  low : Below w.heap.size w wr

def RetRoot (w : World) (a : Int) (K : Nat) (e : Ending) (w' : World) : Prop := ∃ r : Int, 0 ≤ r ∧ r * r ≤ a ∧ a < (r + 1) * (r + 1) ∧ RetN w r K e w'

set_option maxRecDepth 100000 in
set_option maxHeartbeats 4000000 in
theorem root_any (va : Value) (a : Int) (K : Nat) (w : World) (hA : Nt w va a K) (hK : K ≤ 10000000) :
    Calls Try.prog 70 #[va] w (RetRoot w a (K + 3)) := by
  by_cases ha0 : a = 0
  · subst ha0
    obtain ⟨ao, c, LA, rfl, hA⟩ := hA
    have hl : LA = [] := hA.nrm.eq_nil B64_pos hA.dig hA.eq
    subst hl
    clear hA
    go_enter Try.func70, Try.ntmps70
    go_wp2
    go_ret
    exact ⟨0, Int.le_refl 0, by decide, by decide, _, rfl, (Nt.nil _).mono (Nat.zero_le _), Below.refl _ _⟩
  · have ha : 0 < a := by have := hA.nonneg; omega
    obtain ⟨ao, c, LA, rfl, hA'⟩ := hA
    have hl0 : LA.length ≠ 0 := by
      intro h
      have e := hA'.eq
      rw [List.eq_nil_of_length_eq_zero h] at e
      exact ha0 e.symm
    obtain ⟨n, hn⟩ : ∃ n, n = LA.length := ⟨_, rfl⟩
    have hNa : Nt w (.slice ao n c) a K := ⟨ao, c, LA, by rw [hn], hA'⟩
    rw [← hn] at hl0 ⊢
    have hn0 : ¬ (n : Int) = 0 := by omega
    have hb0 : Below w.heap.size w (w.alloc (Obj.cells #[Value.int IntKind.u64 1] 105)) := (Below.refl _ _).alloc (Nat.le_refl _) _
    have hbl := bitLength_any _ a K _ (hNa.below hb0 (Nat.le_refl _)) (by omega)
    have HBl := hid hbl; have HNa := hid hNa; have HB0 := hid hb0; have Ha := hid ha
    have HOne := hid (one_row w)
    clear hbl hNa hb0 hA' hn ha ha0
    go_enter Try.func70, Try.ntmps70
    go_wp2_with fail
    refine HBl.out.mono ?_
    rintro e w' ⟨l, rfl, hl, hbits, rfl⟩
    obtain ⟨s, hs⟩ : ∃ s, s = (l + 1) / 2 := ⟨_, rfl⟩
    have e1 : ((l : Int) + 1) / 2 = (s : Int) := by omega
    have e2 : ((l : Int) + 1).tdiv 2 = (s : Int) := by rw [Int.tdiv_eq_ediv_of_nonneg (by omega)]; exact e1
    have hnb := newton_begin hbits Ha.out
    rw [← hs] at hnb
    have hsh := shiftLeft_any _ 1 s 1 _ HOne.out (by decide) (by omega)
    have hs2 : s ≤ 32 * K + 1 := by omega
    have HSh := hid hsh; have HNb := hid hnb
    clear hsh hnb hbits hs
    go_wp2_with fail
    refine HSh.out.mono ?_
    rintro e w1 ⟨gv, rfl, hg, hb1⟩
    rw [Int.one_mul] at hg
    obtain ⟨Kg, hKg⟩ : ∃ Kg, Kg = 1 + s / 64 + 1 := ⟨_, rfl⟩
    rw [← hKg] at hg
    have hKg2 : Kg ≤ K + 3 := by omega
    have HI0 := hid (show RootI w w1 a Kg gv (2 ^ s) from ⟨hg, Int.pow_pos (by decide), HNb.out, HB0.out.trans (hb1.mono HB0.out.size)⟩)
    clear hg hb1 hKg HSh HNb HOne
    go_wp2
    go_loopw [3] (fun gv wr => ∃ g, RootI w wr a Kg gv g) (fun gv wr => natOf wr gv)
    case atStart => exact ⟨_, HI0.out⟩
    case round =>
      obtain ⟨g, H⟩ := hrel
      have hna := HNa.out.below H.low (Nat.le_refl _)
      have hdv := divide_any _ _ a g K Kg wr hna H.nt H.pos (by omega)
      have hup := newton_up (Int.le_of_lt Ha.out) H.pos
      have hstop := newton_stop (a := a) H.pos
      have q0 : 0 ≤ a / g := Int.ediv_nonneg (Int.le_of_lt Ha.out) (Int.le_of_lt H.pos)
      have hn0' : 0 ≤ (g + a / g) / 2 := by have := H.pos; omega
      have hnp := newton_pos Ha.out hup hn0'
      obtain ⟨nx, hnx⟩ : ∃ nx, nx = (g + a / g) / 2 := ⟨_, rfl⟩
      rw [← hnx] at hup hstop hnp hn0'
      have Hnx := hid hnx; have Hup := hid hup; have Hnp := hid hnp; have Hstop := hid hstop
      have HDv := hid hdv; have HH := hid H
      clear hdv hna H HI0 hup hstop q0 hn0' hnp hnx
      go_wp2_with fail
      refine HDv.out.mono ?_
      rintro e w2 ⟨v1, v2, rfl, hv1, _, hb2⟩
      have hlow2 := HH.out.low.trans (hb2.mono HH.out.low.size)
      have had := add_any _ v1 g (a / g) Kg K (K + Kg + 1) w2 (HH.out.nt.below hb2 (Nat.le_refl _)) hv1 (by omega) (by omega) (by omega) (by omega)
      have HAd := hid had; have Hlow2 := hid hlow2; have Hb2 := hid hb2
      clear had hlow2 hb2 hv1
      go_wp2_with fail
      refine HAd.out.mono ?_
      rintro e w3 ⟨vs, rfl, hvs, hb3⟩
      have hsr := shiftRight_any vs (g + a / g) 1 (K + Kg + 1) w3 hvs (by omega) (by decide)
      rw [Int.pow_succ, Int.pow_zero, Int.one_mul, ← Hnx.out] at hsr
      have HSr := hid hsr; have Hlow3 := hid (Hlow2.out.trans (hb3.mono Hlow2.out.size)); have Hb3 := hid (Hb2.out.trans (hb3.mono Hb2.out.size))
      clear hsr hvs hb3
      go_wp2_with fail
      refine HSr.out.mono ?_
      rintro e w4 ⟨vn, rfl, hvn, hb4⟩
      have Hlow4 := hid (Hlow3.out.trans (hb4.mono Hlow3.out.size)); have Hb4 := hid (Hb3.out.trans (hb4.mono Hb3.out.size))
      have hg4 := HH.out.nt.below Hb4.out (Nat.le_refl _)
      have hcp := compare_any vn _ nx g (K + Kg + 1) Kg w4 hvn hg4
      by_cases hge : g ≤ nx
      · have hcv : 0 ≤ cmpI nx g := by unfold cmpI; rw [if_neg (by omega)]; split <;> omega
        obtain ⟨cv, hcve⟩ : ∃ cv, cv = cmpI nx g := ⟨_, rfl⟩
        rw [← hcve] at hcp hcv
        have HCp := hid hcp; have HG4 := hid hg4; have HSt := hid (Hstop.out hge)
        clear hcp hcve hg4 hvn hb4 hge
        go_wp2_with fail
        refine HCp.out.mono ?_
        rintro e w5 ⟨nq, rfl, rfl⟩
        go_wp2
        go_ret
        have hb := below_drewN (Below.refl w4.heap.size w4) nq
        exact ⟨g, Int.le_of_lt HH.out.pos, HSt.out, HH.out.up, _, rfl, (HG4.out.below hb (Nat.le_refl _)).mono (by omega), below_drewN Hlow4.out nq⟩
      · have hlt : nx < g := by omega
        rw [cmpI_lt hlt] at hcp
        have hn5 := hvn.tight (Int.lt_trans hlt HH.out.nt.lt)
        have HCp := hid hcp; have HN5 := hid hn5
        clear hcp hn5 hg4 hvn hb4
        go_wp2_with fail
        refine HCp.out.mono ?_
        rintro e w5 ⟨nq, rfl, rfl⟩
        go_wp2
        have hb := below_drewN (Below.refl w4.heap.size w4) nq
        go_roundw
        case rel => exact ⟨nx, HN5.out.below hb (Nat.le_refl _), Hnp.out, Hup.out, below_drewN Hlow4.out nq⟩
        case measure => rw [natOf_eq (HN5.out.below hb (Nat.le_refl _)), natOf_eq HH.out.nt]; have := Hnp.out; omega

end Go.Proofs.Ytbmdjimfncgomaa

/- The document's own integers: Gcd. -/
namespace Go.Proofs.Ytbmdjimfncgomaa
open Go.RowKit

theorem gcd_ev_ev {X Y : Int} (hx : X % 2 = 0) (hy : Y % 2 = 0) : Int.gcd X Y = 2 * Int.gcd (X / 2) (Y / 2) := by
  have e1 : X = 2 * (X / 2) := by omega
  have e2 : Y = 2 * (Y / 2) := by omega
  have := Int.gcd_mul_left 2 (X / 2) (Y / 2)
  rw [← e1, ← e2] at this
  exact this
theorem gcd_ev_odd {X Y : Int} (hx : X % 2 = 0) (hy : Y % 2 ≠ 0) : Int.gcd (X / 2) Y = Int.gcd X Y := by
  have e1 : X = 2 * (X / 2) := by omega
  have e2 : Y = 2 * (Y / 2) + 1 := by omega
  apply Nat.dvd_antisymm
  · apply Int.dvd_gcd
    · have := Int.gcd_dvd_left (X / 2) Y
      have h := Int.dvd_mul_of_dvd_right this (b := 2)
      rw [← e1] at h; exact h
    · exact Int.gcd_dvd_right (X / 2) Y
  · apply Int.dvd_gcd
    · have h1 := Int.gcd_dvd_left X Y
      have h2 := Int.gcd_dvd_right X Y
      have h := Int.dvd_sub (Int.dvd_mul_of_dvd_right h2 (b := X / 2)) (Int.dvd_mul_of_dvd_right h1 (b := Y / 2))
      have e : X / 2 * Y - Y / 2 * X = X / 2 := by
        generalize X / 2 = a at *
        generalize Y / 2 = b at *
        subst e1; subst e2; grind
      rw [e] at h; exact h
    · exact Int.gcd_dvd_right X Y
theorem gcd_odd_ev {X Y : Int} (hx : X % 2 ≠ 0) (hy : Y % 2 = 0) : Int.gcd X (Y / 2) = Int.gcd X Y := by
  rw [Int.gcd_comm, gcd_ev_odd hy hx, Int.gcd_comm]
theorem gcd_less_l (X Y : Int) : Int.gcd (X - Y) Y = Int.gcd X Y := by
  rw [Int.gcd_comm]; have := gcd_sub_mul X Y 1; rw [Int.one_mul] at this; exact this
theorem gcd_less_r (X Y : Int) : Int.gcd X (Y - X) = Int.gcd X Y := by
  rw [Int.gcd_comm, gcd_less_l, Int.gcd_comm]
theorem gcd_pos {X Y : Int} (h : 0 < X) : 0 < Int.gcd X Y := by
  rcases Nat.eq_zero_or_pos (Int.gcd X Y) with h0 | h0
  · have := Int.gcd_dvd_left X Y
    rw [h0] at this
    have := Int.zero_dvd.1 this; omega
  · exact h0
theorem gcd_le {X Y : Int} (hx : 0 < X) : (Int.gcd X Y : Int) ≤ X := Int.le_of_dvd hx (Int.gcd_dvd_left X Y)
theorem gcd_lt_of {X Y M : Int} (hx : 0 ≤ X) (hy : 0 ≤ Y) (h1 : X < M) (h2 : Y < M) : (Int.gcd X Y : Int) < M := by
  rcases Int.lt_or_eq_of_le hx with h | h
  · exact Int.lt_of_le_of_lt (gcd_le h) h1
  · rw [← h]; simp [Int.gcd]; omega

theorem Md.unique {w : World} {v : Value} {n n' : Int} {K K' : Nat} (h : Md w v n K) (h' : Md w v n' K') : n = n' := by
  obtain ⟨ao, c, L, rfl, h⟩ := h
  obtain ⟨ao', c', L', e, h'⟩ := h'
  obtain ⟨e1, e2, _⟩ := Value.slice.inj e
  subst e1
  rw [← h.eq, ← h'.eq, h.rd.unique h'.rd e2]
open Classical in
/-- The number that digits stand for, 0 if none. -/
noncomputable def mdOf (w : World) (v : Value) : Nat := if h : ∃ n : Int, ∃ K, Md w v n K then (Classical.choose h).toNat else 0
theorem mdOf_eq {w : World} {v : Value} {n : Int} {K : Nat} (h : Md w v n K) : mdOf w v = n.toNat := by
  have hx : ∃ n : Int, ∃ K, Md w v n K := ⟨n, K, h⟩
  unfold mdOf
  rw [dif_pos hx]
  obtain ⟨K', h'⟩ := Classical.choose_spec hx
  rw [h'.unique h]
noncomputable def rgM (w : World) (x y : Value) : Nat := 2 * (mdOf w x + mdOf w y) + if mdOf w x < mdOf w y then 1 else 0

/-- What holds ahead of a round. -/
structure RgI (W0 wr : World) (xv yv : Value) (X Y : Int) (t G K : Nat) : Prop where
  x : Md wr xv X K
  y : Md wr yv Y K
  g : 2 ^ t * Int.gcd X Y = G
  lt : (G : Int) < R16 ^ K
  low : Below W0.heap.size W0 wr

theorem rgM_lt {w w' : World} {xv yv xv' yv' : Value} {X Y X' Y' : Int} {K K' : Nat} (hx : Md w xv X K) (hy : Md w yv Y K) (hx' : Md w' xv' X' K') (hy' : Md w' yv' Y' K') (h : X' + Y' < X + Y ∨ (X' = Y ∧ Y' = X ∧ X < Y)) : rgM w' xv' yv' < rgM w xv yv := by
  unfold rgM
  rw [mdOf_eq hx, mdOf_eq hy, mdOf_eq hx', mdOf_eq hy']
  have a := hx.nonneg; have b := hy.nonneg; have c := hx'.nonneg; have d := hy'.nonneg
  rcases h with h | ⟨h1, h2, h3⟩
  · split <;> split <;> omega
  · subst h1; subst h2; split <;> split <;> omega

theorem RgI.few {W0 wr : World} {xv yv : Value} {X Y : Int} {t G K : Nat} (H : RgI W0 wr xv yv X Y t G K) (hx : 0 < X) : t < 16 * K := by
  have h1 : (2 : Int) ^ t ≤ G := by
    have hg := H.g
    have hp : 0 < Int.gcd X Y := gcd_pos hx
    have hn : 2 ^ t * 1 ≤ 2 ^ t * Int.gcd X Y := Nat.mul_le_mul_left _ hp
    rw [hg] at hn
    have : ((2 ^ t * 1 : Nat) : Int) ≤ (G : Int) := by exact_mod_cast hn
    simpa using this
  have h2 : R16 ^ K = (2 : Int) ^ (16 * K) := by rw [Int.pow_mul]; rfl
  have h3 := H.lt
  rw [h2] at h3
  exact pow_lt_gen (by decide) (Int.lt_of_le_of_lt h1 h3)

theorem Md.few3 {w : World} {ao : Option Addr} {n c : Nat} {x : Int} {K : Nat} (h : Md w (.slice ao n c) x K) (hn : n ≤ 3) : Md w (.slice ao n c) x 3 := by
  obtain ⟨ao', c', L, e, h⟩ := h
  obtain ⟨e1, e2, e3⟩ := Value.slice.inj e
  subst e1; subst e3
  exact ⟨ao, c, L, e, h.rd, h.dig, h.nrm, h.eq, by omega⟩
theorem Md.pos_iff {w : World} {ao : Option Addr} {n c : Nat} {x : Int} {K : Nat} (h : Md w (.slice ao n c) x K) : 0 < n ↔ 0 < x := by
  have h0 := h.nonneg
  obtain ⟨ao', c', L, e, h⟩ := h
  obtain ⟨e1, e2, e3⟩ := Value.slice.inj e
  have := h.zero_iff
  omega
theorem Md.many {w : World} {ao : Option Addr} {n c : Nat} {x : Int} {K : Nat} (h : Md w (.slice ao n c) x K) (hn : ¬ n ≤ 3) : R16 ^ 3 ≤ x := by
  obtain ⟨ao', c', L, e, h⟩ := h
  obtain ⟨e1, e2, e3⟩ := Value.slice.inj e
  have := h.nrm.low R16_pos h.dig (by omega)
  rw [h.eq] at this
  exact Int.le_trans (pow_mono R16_pos (by omega)) this
theorem even_md {w : World} {va : Value} {a : Int} {K : Nat} (hA : Md w va a K) :
    Calls Try.prog 58 #[va] w fun e w' => e = .returned (.bool (decide (a % 2 = 0))) ∧ w' = w := by
  obtain ⟨ao, ca, L, rfl, hA⟩ := hA
  have h := even_any ao ca L w hA.rd hA.dig
  rw [hA.eq] at h
  exact h


theorem mod_dec {X Y : Int} (hx : 0 ≤ X) (hy : 0 < Y) : Y + X % Y < X + Y ∨ (Y = Y ∧ X % Y = X ∧ X < Y) := by
  have h1 := Int.emod_lt_of_pos X hy
  by_cases h : X < Y
  · right; exact ⟨rfl, Int.emod_eq_of_lt hx h, h⟩
  · left; omega
theorem order_same (va vb : Value) (a b : Int) (Ka Kb : Nat) (w : World) (hA : Md w va a Ka) (hB : Md w vb b Kb) :
    Calls Try.prog 53 #[va, vb] w fun e w' => e = .returned (.int .i64 (cmpI a b)) ∧ w = w' :=
  (order_md va vb a b Ka Kb w hA hB).mono fun _ _ h => ⟨h.1, h.2.symm⟩
theorem even_same {w : World} {va : Value} {a : Int} {K : Nat} (hA : Md w va a K) :
    Calls Try.prog 58 #[va] w fun e w' => e = .returned (.bool (decide (a % 2 = 0))) ∧ w = w' :=
  (even_md hA).mono fun _ _ h => ⟨h.1, h.2.symm⟩

theorem few_same (ao : Option Addr) (c n : Nat) (w : World) : Calls Try.prog 56 #[.slice ao n c] w fun e w' => e = .returned (.bool (decide (n ≤ 3))) ∧ w = w' :=
  (few_any ao c n w).mono fun _ _ h => ⟨h.1, h.2.symm⟩

theorem RgI.next {W0 wr w' : World} {xv yv xv' yv' : Value} {X Y X' Y' : Int} {t t' G K : Nat} (H : RgI W0 wr xv yv X Y t G K) (hx : Md w' xv' X' K) (hy : Md w' yv' Y' K) (hg : 2 ^ t' * Int.gcd X' Y' = 2 ^ t * Int.gcd X Y) (hb : Below wr.heap.size wr w') : RgI W0 w' xv' yv' X' Y' t' G K :=
  ⟨hx, hy, by rw [hg]; exact H.g, H.lt, H.low.trans (hb.mono H.low.size)⟩

set_option maxRecDepth 100000 in
set_option maxHeartbeats 16000000 in
theorem rgcd_any (u v : Value) (x y : Int) (K : Nat) (w : World) (hu : Zt w u x K) (hv : Zt w v y K) (hK : K ≤ 67108864) (hK1 : 4 ≤ K) :
    Calls Try.prog 18 #[u, v] w (RetZ w (Int.gcd x y : Int) (K + 1)) := by
  obtain ⟨xb, xo, xm, xc, rfl, Hx, Hxs, Hxb⟩ := Zt.opened hu
  obtain ⟨yb, yo, ym, yc, rfl, Hy, Hys, Hyb⟩ := Zt.opened hv
  clear hu hv
  obtain ⟨G, hG⟩ : ∃ G, Int.gcd (x.natAbs : Int) (y.natAbs : Int) = G := ⟨_, rfl⟩
  have eG : Int.gcd x y = G := by rw [← hG]; simp [Int.gcd]
  rw [eG]
  have HG := hid hG
  clear hG eG
  go_enter Try.func18, Try.ntmps18
  go_upto_region 1 with (fail)
  obtain ⟨W0, hW0⟩ : ∃ W0, W0 = (((w.alloc (.cells #[.bool xb, .slice xo xm xc] 28)).alloc (.cells #[.bool yb, .slice yo ym yc] 28)).alloc (.cells #[.bool false, .slice none 0 0] 28)) := ⟨_, rfl⟩
  have hB0 : Below w.heap.size w W0 := by rw [hW0]; exact (((Below.refl _ _).alloc (Nat.le_refl _) _).alloc (by simp) _).alloc (by simp; omega) _
  have hw0 : W0.heap.size = w.heap.size + 3 := by rw [hW0]; simp
  have HS : Hid (∀ w', Below W0.heap.size W0 w' → w'.cell? ⟨w.heap.size, 0, none⟩ = some (.bool xb) ∧ w'.cell? ⟨w.heap.size, 1, none⟩ = some (.slice xo xm xc) ∧ w'.cell? ⟨w.heap.size + 1, 0, none⟩ = some (.bool yb) ∧ w'.cell? ⟨w.heap.size + 1, 1, none⟩ = some (.slice yo ym yc)) := hid (fun w' hb => by
    refine ⟨?_, ?_, ?_, ?_⟩ <;> (rw [hb.cell (by rw [hw0]; simp <;> omega), hW0]; simp [go_sem]))
  have HT : Hid (∀ w', Below W0.heap.size W0 w' → w'.cell? ⟨w.heap.size + 2, 0, none⟩ = some (.bool false) ∧ w'.cell? ⟨w.heap.size + 2, 1, none⟩ = some (.slice none 0 0) ∧ w'.frozen? ⟨w.heap.size + 2, 0, none⟩ = false ∧ w'.frozen? ⟨w.heap.size + 2, 1, none⟩ = false) := hid (fun w' hb => by
    refine ⟨?_, ?_, ?_, ?_⟩ <;> (first | (rw [hb.cell (by rw [hw0]; simp <;> omega), hW0]; simp [go_sem]; done) | (rw [hb.frozen (by rw [hw0]; simp <;> omega), hW0]; simp [go_sem]; done)))
  rw [← hW0, show w.heap.size + 1 + 1 = w.heap.size + 2 from rfl]
  clear hW0
  obtain ⟨hs0, hs1, hs2, hs3⟩ := HS.out W0 (Below.refl _ _)
  have hlt : (G : Int) < R16 ^ K := by
    have a := (Hxs.out w (Below.refl _ _)); have b := (Hys.out w (Below.refl _ _))
    rw [← HG.out]; exact gcd_lt_of a.nonneg b.nonneg a.lt b.lt
  have HI0 := hid (show RgI W0 W0 (.slice xo xm xc) (.slice yo ym yc) (x.natAbs : Int) (y.natAbs : Int) 0 G K from ⟨Hxs.out _ hB0, Hys.out _ hB0, by rw [HG.out]; omega, hlt, Below.refl _ _⟩)
  have HB0 := hid hB0; have Hw0 := hid hw0; have Hlt := hid hlt
  clear hB0 hw0 hlt
  go_upto_block 0 with (fail)
  go_cut [5, 6, 7] (fun xv yv tv wx => ∃ X Y : Int, ∃ t : Nat, tv = .int .i64 t ∧ t ≤ 16 * K ∧ (X = 0 ∨ Y = 0) ∧ RgI W0 wx xv yv X Y t G K)
  case first =>
    clear hs0 hs1 hs2 hs3
    go_wp2
    go_loopw [5, 6, 7] (fun xv yv tv wr => ∃ X Y : Int, ∃ t : Nat, tv = .int .i64 t ∧ t ≤ 16 * K ∧ RgI W0 wr xv yv X Y t G K) (fun xv yv _ wr => rgM wr xv yv)
    case atStart => exact ⟨_, _, 0, rfl, Nat.zero_le _, HI0.out⟩
    case round =>
      obtain ⟨X, Y, t, rfl, ht, H⟩ := hrel
      have hX := H.x; have hY := H.y
      obtain ⟨xo, xn, xc, rfl, HX⟩ := Md.opened H.x
      obtain ⟨yo, yn, yc, rfl, HY⟩ := Md.opened H.y
      have px := hX.pos_iff; have py := hY.pos_iff
      have HH := hid H; have Ht := hid ht; have HPx := hid px; have HPy := hid py
      clear H HI0 ht hX hY px py
      by_cases hx0 : 0 < xn
      · by_cases hy0 : 0 < yn
        · have hXp : 0 < X := HPx.out.1 hx0
          have hYp : 0 < Y := HPy.out.1 hy0
          have HXp := hid hXp; have HYp := hid hYp
          clear hXp hYp
          by_cases hy3 : yn ≤ 3
          · have ty : decide (yn ≤ 3) = true := decide_eq_true hy3
            rcases (show decide (xn ≤ 3) = true ∨ decide (xn ≤ 3) = false by cases decide (xn ≤ 3) <;> simp) with tx | tx
            all_goals
            have hbf := byFew_any _ _ X Y K wr (HX.out _ (Below.refl _ _)) ((HY.out _ (Below.refl _ _)).few3 hy3) HYp.out (by omega)
            have HBf := hid hbf
            clear hbf
            go_wp2_with (first
              | (go_at_call 56; refine (few_same _ _ _ _).mono ?_; rintro e w1 ⟨rfl, rfl⟩)
              | (go_at_call 57; refine HBf.out.mono ?_; rintro e w2 ⟨_, v2, rfl, _, hv2, hb2⟩))
            have hm0 := Int.emod_nonneg X (show Y ≠ 0 by have := HYp.out; omega)
            have hm1 := Int.emod_lt_of_pos X HYp.out
            have HN := hid (HH.out.next ((HY.out _ hb2)) ((hv2.mono (by omega))) (by rw [gcd_step HH.out.x.nonneg HYp.out]) hb2)
            have HM := hid (show Y + X % Y < X + Y ∨ (Y = Y ∧ X % Y = X ∧ X < Y) from mod_dec HH.out.x.nonneg HYp.out)
            clear hv2 hb2 hm0 hm1
            go_roundw
            case rel => exact ⟨_, _, t, rfl, Ht.out, HN.out⟩
            case measure => exact rgM_lt HH.out.x HH.out.y HN.out.x HN.out.y HM.out
          · have ty : decide (yn ≤ 3) = false := decide_eq_false hy3
            by_cases hx3 : xn ≤ 3
            · have tx : decide (xn ≤ 3) = true := decide_eq_true hx3
              have hbf := byFew_any _ _ Y X K wr (HY.out _ (Below.refl _ _)) ((HX.out _ (Below.refl _ _)).few3 hx3) HXp.out (by omega)
              have HBf := hid hbf
              clear hbf
              go_wp2_with (first
                | (go_at_call 56; refine (few_same _ _ _ _).mono ?_; rintro e w1 ⟨rfl, rfl⟩)
                | (go_at_call 57; refine HBf.out.mono ?_; rintro e w2 ⟨_, v2, rfl, _, hv2, hb2⟩))
              have hm0 := Int.emod_nonneg Y (show X ≠ 0 by have := HXp.out; omega)
              have hm1 := Int.emod_lt_of_pos Y HXp.out
              have HN := hid (HH.out.next ((hv2.mono (by omega))) ((HX.out _ hb2)) (by rw [Int.gcd_comm, gcd_step HH.out.y.nonneg HXp.out, Int.gcd_comm]) hb2)
              have HM := hid (show Y % X + X < X + Y ∨ (Y % X = Y ∧ X = X ∧ X < Y) by (left; have := (HX.out _ (Below.refl _ _)).few3 hx3; have := this.lt; have := (HY.out _ (Below.refl _ _)).many hy3; omega))
              clear hv2 hb2 hm0 hm1
              go_roundw
              case rel => exact ⟨_, _, t, rfl, Ht.out, HN.out⟩
              case measure => exact rgM_lt HH.out.x HH.out.y HN.out.x HN.out.y HM.out
            · have tx : decide (xn ≤ 3) = false := decide_eq_false hx3
              have hex := even_same HH.out.x
              have hey := even_same HH.out.y
              have hhx := half_any _ X K wr HH.out.x (by omega)
              have Hhx := hid hhx
              have hYhalf := fun (w' : World) (hb : Below wr.heap.size wr w') => half_any _ Y K w' (HY.out _ hb) (by omega)
              have Hhy := hid hYhalf
              have hfw := HH.out.few HXp.out
              have Hfw := hid hfw
              clear hhx hYhalf hfw
              by_cases px : X % 2 = 0
              · rw [decide_eq_true px] at hex
                by_cases py : Y % 2 = 0
                · rw [decide_eq_true py] at hey
                  have HEx := hid hex; have HEy := hid hey; have HG2 := hid (gcd_ev_ev px py)
                  have ht1 := Ht.out
                  clear hex hey px py
                  go_wp2_with (first
                    | (go_at_call 56; refine (few_same _ _ _ _).mono ?_; rintro e w1 ⟨rfl, rfl⟩)
                    | (go_at_call_of 58 (xo); refine HEx.out.mono ?_; rintro e w1 ⟨rfl, rfl⟩)
                    | (go_at_call_of 58 (yo); refine HEy.out.mono ?_; rintro e w1 ⟨rfl, rfl⟩)
                    | (go_at_call_of 59 (xo); refine Hhx.out.mono ?_; rintro e w2 ⟨v2, rfl, hv2, hb2⟩)
                    | (go_at_call_of 59 (yo); refine (Hhy.out _ hb2).mono ?_; rintro e w3 ⟨v3, rfl, hv3, hb3⟩))
                  have HN := hid (HH.out.next (t' := t + 1) (hv2.below hb3 (Nat.le_refl _)) hv3 (by rw [HG2.out, Nat.pow_succ, Nat.mul_assoc]) (hb2.trans (hb3.mono hb2.size)))
                  clear hv2 hb2 hv3 hb3
                  go_roundw
                  case rel => exact ⟨_, _, t + 1, by go_num, by have := Hfw.out; omega, HN.out⟩
                  case measure => exact rgM_lt HH.out.x HH.out.y HN.out.x HN.out.y (.inl (by have := HXp.out; have := HYp.out; omega))
                · rw [decide_eq_false py] at hey
                  have HEx := hid hex; have HEy := hid hey; have HG2 := hid (gcd_ev_odd px py)
                  clear hex hey px py
                  go_wp2_with (first
                    | (go_at_call 56; refine (few_same _ _ _ _).mono ?_; rintro e w1 ⟨rfl, rfl⟩)
                    | (go_at_call_of 58 (xo); refine HEx.out.mono ?_; rintro e w1 ⟨rfl, rfl⟩)
                    | (go_at_call_of 58 (yo); refine HEy.out.mono ?_; rintro e w1 ⟨rfl, rfl⟩)
                    | (go_at_call_of 59 (xo); refine Hhx.out.mono ?_; rintro e w2 ⟨v2, rfl, hv2, hb2⟩))
                  have HN := hid (HH.out.next (t' := t) hv2 (HY.out _ hb2) (by rw [HG2.out]) hb2)
                  clear hv2 hb2
                  go_roundw
                  case rel => exact ⟨_, _, t, rfl, Ht.out, HN.out⟩
                  case measure => exact rgM_lt HH.out.x HH.out.y HN.out.x HN.out.y (.inl (by have := HXp.out; have := HYp.out; omega))
              · rw [decide_eq_false px] at hex
                by_cases py : Y % 2 = 0
                · rw [decide_eq_true py] at hey
                  have HEx := hid hex; have HEy := hid hey; have HG2 := hid (gcd_odd_ev px py)
                  clear hex hey px py
                  go_wp2_with (first
                    | (go_at_call 56; refine (few_same _ _ _ _).mono ?_; rintro e w1 ⟨rfl, rfl⟩)
                    | (go_at_call_of 58 (xo); refine HEx.out.mono ?_; rintro e w1 ⟨rfl, rfl⟩)
                    | (go_at_call_of 58 (yo); refine HEy.out.mono ?_; rintro e w1 ⟨rfl, rfl⟩)
                    | (go_at_call_of 59 (yo); refine (Hhy.out _ (Below.refl _ _)).mono ?_; rintro e w3 ⟨v3, rfl, hv3, hb3⟩))
                  have HN := hid (HH.out.next (t' := t) (HX.out _ hb3) hv3 (by rw [HG2.out]) hb3)
                  clear hv3 hb3
                  go_roundw
                  case rel => exact ⟨_, _, t, rfl, Ht.out, HN.out⟩
                  case measure => exact rgM_lt HH.out.x HH.out.y HN.out.x HN.out.y (.inl (by have := HXp.out; have := HYp.out; omega))
                · rw [decide_eq_false py] at hey
                  have hor := order_same _ _ X Y K K wr HH.out.x HH.out.y
                  have HEx := hid hex; have HEy := hid hey
                  clear hex hey px py
                  by_cases hxy : Y ≤ X
                  · have hcv : 0 ≤ cmpI X Y := by unfold cmpI; (repeat split) <;> omega
                    obtain ⟨cv, hcve⟩ : ∃ cv, cmpI X Y = cv := ⟨_, rfl⟩
                    rw [hcve] at hor hcv
                    have hls := less_any _ _ X Y K K wr HH.out.x HH.out.y hxy (by omega)
                    have HOr := hid hor; have HLs := hid hls
                    clear hor hls hcve
                    go_wp2_with (first
                      | (go_at_call 56; refine (few_same _ _ _ _).mono ?_; rintro e w1 ⟨rfl, rfl⟩)
                      | (go_at_call_of 58 (xo); refine HEx.out.mono ?_; rintro e w1 ⟨rfl, rfl⟩)
                      | (go_at_call_of 58 (yo); refine HEy.out.mono ?_; rintro e w1 ⟨rfl, rfl⟩)
                      | (go_at_call 53; refine HOr.out.mono ?_; rintro e w1 ⟨rfl, rfl⟩)
                      | (go_at_call 54; refine HLs.out.mono ?_; rintro e w2 ⟨v2, rfl, hv2, hb2⟩))
                    have HN := hid (HH.out.next (t' := t) hv2 (HY.out _ hb2) (by rw [gcd_less_l]) hb2)
                    clear hv2 hb2
                    go_roundw
                    case rel => exact ⟨_, _, t, rfl, Ht.out, HN.out⟩
                    case measure => exact rgM_lt HH.out.x HH.out.y HN.out.x HN.out.y (.inl (by have := HXp.out; have := HYp.out; omega))
                  · have hcv : ¬ 0 ≤ cmpI X Y := by unfold cmpI; (repeat split) <;> omega
                    obtain ⟨cv, hcve⟩ : ∃ cv, cmpI X Y = cv := ⟨_, rfl⟩
                    rw [hcve] at hor hcv
                    have hls := less_any _ _ Y X K K wr HH.out.y HH.out.x (by omega) (by omega)
                    have HOr := hid hor; have HLs := hid hls
                    clear hor hls hcve
                    go_wp2_with (first
                      | (go_at_call 56; refine (few_same _ _ _ _).mono ?_; rintro e w1 ⟨rfl, rfl⟩)
                      | (go_at_call_of 58 (xo); refine HEx.out.mono ?_; rintro e w1 ⟨rfl, rfl⟩)
                      | (go_at_call_of 58 (yo); refine HEy.out.mono ?_; rintro e w1 ⟨rfl, rfl⟩)
                      | (go_at_call 53; refine HOr.out.mono ?_; rintro e w1 ⟨rfl, rfl⟩)
                      | (go_at_call 54; refine HLs.out.mono ?_; rintro e w2 ⟨v2, rfl, hv2, hb2⟩))
                    have HN := hid (HH.out.next (t' := t) (HX.out _ hb2) hv2 (by rw [gcd_less_r]) hb2)
                    clear hv2 hb2
                    go_roundw
                    case rel => exact ⟨_, _, t, rfl, Ht.out, HN.out⟩
                    case measure => exact rgM_lt HH.out.x HH.out.y HN.out.x HN.out.y (.inl (by have := HXp.out; have := HYp.out; omega))
        · have HF := hid (show X = 0 ∨ Y = 0 from .inr (by have := HPy.out.2; have := HH.out.y.nonneg; omega))
          have hyz : yn = 0 := by omega
          subst hyz
          go_wp2
          go_meet
          exact ⟨X, Y, t, rfl, Ht.out, HF.out, HH.out⟩
      · have HF := hid (show X = 0 ∨ Y = 0 from .inl (by have := HPx.out.2; have := HH.out.x.nonneg; omega))
        have hxz : xn = 0 := by omega
        subst hxz
        go_wp2
        go_meet
        exact ⟨X, Y, t, rfl, Ht.out, HF.out, HH.out⟩
  case rest =>
    obtain ⟨X, Y, t, rfl, ht, hz, H⟩ := hcut
    have hsm := sum_md _ _ X Y K wc H.x H.y (by omega)
    have hXY : ((Int.gcd X Y : Nat) : Int) = X + Y := by
      have a := H.x.nonneg; have b := H.y.nonneg
      rcases hz with h | h
      · rw [h]; simp [Int.gcd]; omega
      · rw [h]; simp [Int.gcd]; omega
    have hGg : (G : Int) = 2 ^ t * (X + Y) := by rw [← H.g, ← hXY]; simp
    have hnn : 0 ≤ X + Y := by have a := H.x.nonneg; have b := H.y.nonneg; omega
    obtain ⟨g0, hg0⟩ : ∃ g0, g0 = X + Y := ⟨_, rfl⟩
    rw [← hg0] at hsm hGg hnn
    have HSm := hid hsm; have HGg := hid hGg; have Hnn := hid hnn; have HLow := hid H.low; have Ht := hid ht
    clear hsm hXY hGg hnn H hz hg0 HI0 ht
    go_wp2_with fail
    refine HSm.out.mono ?_
    rintro e w1 ⟨v1, rfl, hv1, hb1⟩
    have hlow1 : Below W0.heap.size W0 w1 := HLow.out.trans (hb1.mono HLow.out.size)
    have HI1 := hid hv1; have HL1 := hid hlow1
    clear hv1 hb1 hlow1
    have ht30 : t ≤ 1073741824 := by have := Ht.out; omega
    go_wp2
    go_loopw [14, 15] (fun gv iv wr => ∃ i : Nat, i ≤ t ∧ iv = .int .i64 i ∧ Dg wr gv (2 ^ i * g0) (K + 1) ∧ Below W0.heap.size W0 wr) (fun _ iv _ => t - (intOf iv).toNat)
    case atStart => exact ⟨0, Nat.zero_le _, rfl, by rw [Int.pow_zero, Int.one_mul]; exact HI1.out, HL1.out⟩
    case round =>
      obtain ⟨i, hi, rfl, hg, hl⟩ := hrel
      by_cases hlt : i < t
      · have hdb := double_dg _ _ 0 (K + 1) wr hg (Int.le_refl 0) (by decide) (by omega)
        have hbound : 2 * (2 ^ i * g0) + 0 < R16 ^ (K + 1) := by
          have h1 := Hlt.out
          rw [HGg.out] at h1
          have h2 : (2 : Int) ^ (i + 1) ≤ 2 ^ t := pow_mono (by decide) (by omega)
          have h3 : (2 : Int) ^ (i + 1) * g0 ≤ 2 ^ t * g0 := Int.mul_le_mul_of_nonneg_right h2 Hnn.out
          have h4 : R16 ^ K ≤ R16 ^ (K + 1) := pow_mono R16_pos (by omega)
          rw [Int.pow_succ] at h3
          have h5 : 2 * (2 ^ i * g0) = 2 ^ i * 2 * g0 := by grind
          omega
        have HDb := hid hdb; have HBo := hid hbound; have HL := hid hl
        have hi0 : (0 : Int) ≤ (i : Int) := by omega
        clear hdb hbound hg hl HI1
        go_wp2_with fail
        refine HDb.out.mono ?_
        rintro e w2 ⟨v2, rfl, hv2, hb2⟩
        have hv3 := (hv2.tight HBo.out).dg
        have e2 : 2 * (2 ^ i * g0) + 0 = 2 ^ (i + 1) * g0 := by rw [Int.pow_succ]; grind
        rw [e2] at hv3
        have HV := hid hv3; have HL2 := hid (HL.out.trans (hb2.mono HL.out.size))
        clear hv2 hb2 hv3 e2
        go_wp2
        go_roundw
        case rel => exact ⟨i + 1, by omega, by go_num, HV.out, HL2.out⟩
        case measure => simp [intOf]; omega
      · obtain rfl : i = t := by omega
        rw [← HGg.out] at hg
        have hm := made_any false _ _ _ wr hg
        rw [show sgn false (G : Int) = (G : Int) from rfl] at hm
        have HM := hid hm; have HL := hid hl
        clear hm hg hl HI1
        go_wp2_with fail
        refine HM.out.mono ?_
        rintro e w2 ⟨_, rfl, hv1, hb1⟩
        obtain ⟨b1, o1, m1, c1, rfl, H1, H1s, H1b⟩ := Zt.opened hv1
        have hB1 : Below W0.heap.size W0 w2 := HL.out.trans (hb1.mono HL.out.size)
        obtain ⟨hr0, hr1, hr2, hr3⟩ := HT.out _ hB1
        go_wp2
        have hbel : Below w.heap.size w w2 := HB0.out.trans (hB1.mono (by have := Hw0.out; omega))
        refine bodyPost_ret (v := .agg #[.bool b1, .slice o1 m1 c1]) (by simp [results, Try.results18, go_sem, hr0, hr1]) rfl ⟨_, rfl, ?_, (hbel.setCell (by simp <;> omega) _).setCell (by simp <;> omega) _⟩
        exact ((H1.out _ (Below.refl _ _)).set hr0 (fun x h => (by cases h)) _).set (u := .slice none 0 0) (by simp [go_sem, hr1]) (fun x h => (by cases h)) _

end Go.Proofs.Ytbmdjimfncgomaa
