/- exact.bitLength, root. exact.root: its walk. exact.gcd: the greatest common divisor. exact.Gcd. exact.Of: the integer of a number of 64 bits, in normal form and new memory; divideBoth: two naturals divided by one that divides both; divided: the fraction of two integers. -/
import Derived.Test.YtbapeilpkhbbeaaGreatRn12
import Derived.Test.YtbapeilpkhbbeaaGreatRn03
import Derived.Test.YtbapeilpkhbbeaaGreatRn08
import Derived.Test.YtbapeilpkhbbeaaGreatRn04
import Derived.Test.YtbapeilpkhbbeaaGreatRn05
import Derived.Deep.DeepCutAuto
/- exact.bitLength, root. -/
namespace Go.Proofs.YtbapeilpkhbbeaaGreat
open Go.RowKit Go.Shelf

/-- math/bits.Len64 of a number that is not 0. -/
theorem len64 (y : Int) (h0 : 0 < y) (h1 : y < B64) (w : World) : Calls Tryz.prog 140 #[.int .u64 y] w fun e w' => ∃ s : Nat, e = .returned (.int .i64 s) ∧ 1 ≤ s ∧ s ≤ 64 ∧ 2 ^ (s - 1) ≤ y ∧ y < 2 ^ s ∧ w = w' := by
  unfold B64 at h1
  refine (Any.bits_Len64 { lz_lays with } y w (by omega) (by omega)).mono ?_
  rintro e w' ⟨rfl, rfl⟩
  have hb := bitLen_bd y.toNat (by omega) (by omega)
  obtain ⟨a, b, c, d⟩ := hb
  have e : (y.toNat : Int) = y := Int.toNat_of_nonneg (by omega)
  refine ⟨Lib.bitLen y.toNat, rfl, a, d, ?_, ?_, rfl⟩
  · have : ((2 ^ (Lib.bitLen y.toNat - 1) : Nat) : Int) ≤ (y.toNat : Int) := by exact_mod_cast b
    rw [e, Int.natCast_pow] at this; exact this
  · have : (y.toNat : Int) < ((2 ^ Lib.bitLen y.toNat : Nat) : Int) := by exact_mod_cast c
    rw [e, Int.natCast_pow] at this; exact this

/-- How many bits a number has. -/
def Bits (a : Int) (l : Nat) : Prop := (a = 0 ∧ l = 0) ∨ (1 ≤ l ∧ 2 ^ (l - 1) ≤ a ∧ a < 2 ^ l)

theorem bits_top {L : List Int} {k s : Nat} (hd : Dig B64 L) (hl : L.length = k + 1) (h1 : 1 ≤ s) (hlo : 2 ^ (s - 1) ≤ L[k]?.getD 0) (hhi : L[k]?.getD 0 < 2 ^ s) : Bits (val B64 L) (64 * k + s) := by
  have e := take_succ_getD L k (by omega)
  rw [List.take_of_length_le (by omega)] at e
  have hlen : (L.take k).length = k := by rw [List.length_take]; omega
  have ev : val B64 L = val B64 (L.take k) + B64 ^ k * L[k]?.getD 0 := by conv => lhs; rw [e, val_snoc, hlen]
  have hv := val_lt B64_pos (hd.take k)
  have hv0 := val_nonneg B64_pos (hd.take k)
  rw [hlen] at hv
  have hp : 0 < B64 ^ k := Int.pow_pos B64_pos
  have hB : B64 ^ k = 2 ^ (64 * k) := by rw [Int.pow_mul]; rfl
  refine .inr ⟨by omega, ?_, ?_⟩
  · rw [show 64 * k + s - 1 = 64 * k + (s - 1) by omega, Int.pow_add, ← hB]
    have := Int.mul_le_mul_of_nonneg_left hlo (Int.le_of_lt hp)
    omega
  · rw [Int.pow_add, ← hB]
    have := Int.mul_le_mul_of_nonneg_left (show L[k]?.getD 0 + 1 ≤ 2 ^ s from hhi) (Int.le_of_lt hp)
    rw [Int.mul_add, Int.mul_one] at this
    omega

set_option maxRecDepth 100000 in
set_option maxHeartbeats 1000000 in
theorem bitLength_any (va : Value) (a : Int) (K : Nat) (w : World) (hA : Nt w va a K) (hK : K ≤ 1073741824) :
    Calls Tryz.prog 116 #[va] w fun e w' => ∃ l : Nat, e = .returned (.int .i64 l) ∧ l ≤ 64 * K ∧ Bits a l ∧ w' = w := by
  obtain ⟨ao, c, LA, rfl, hA⟩ := hA
  by_cases h0 : LA.length = 0
  · have ha : a = 0 := by rw [← hA.eq, List.eq_nil_of_length_eq_zero h0]; rfl
    have HA0 := hid ha
    rw [h0]
    clear hA h0 ha
    go_enter Tryz.func116, Tryz.ntmps116
    go_wp2
    go_ret
    exact ⟨0, rfl, Nat.zero_le _, .inl ⟨HA0.out, rfl⟩, rfl⟩
  · obtain ⟨k, hk⟩ : ∃ k, LA.length = k + 1 := ⟨LA.length - 1, by omega⟩
    obtain ⟨b, o, rfl⟩ := hA.rd.adr (by omega)
    have hc := hA.rd.cell b o rfl k (by omega)
    have ht := hA.nrm.top hk
    have hd := hA.dig.at B64_pos k
    have hbt := fun (s : Nat) h1 h2 h3 => bits_top (s := s) hA.dig hk h1 h2 h3
    rw [hA.eq] at hbt
    have hkK : k + 1 ≤ K := by have := hA.le; omega
    obtain ⟨y, hy⟩ : ∃ y, y = LA[k]?.getD 0 := ⟨_, rfl⟩
    rw [← hy] at hc ht hd hbt
    have hz := len64 y (by omega) hd.2 w
    have HZ := hid hz; have HBt := hid hbt
    rw [hk]
    clear hz hbt hy ht hd hA h0 hk
    go_enter Tryz.func116, Tryz.ntmps116
    go_wp2_with (go_at_call 140; refine HZ.out.mono ?_; rintro e w' ⟨s, rfl, s1, s64, s2, s3, rfl⟩)
    go_ret
    exact ⟨64 * k + s, by go_num, by omega, HBt.out s s1 s2 s3, rfl⟩

/-- A step of Newton's from above stays above. -/
theorem newton_up {a g : Int} (ha : 0 ≤ a) (hg : 0 < g) : a < ((g + a / g) / 2 + 1) * ((g + a / g) / 2 + 1) := by
  obtain ⟨q, hq⟩ : ∃ q, q = a / g := ⟨_, rfl⟩
  have q0 : 0 ≤ q := by rw [hq]; exact Int.ediv_nonneg ha (Int.le_of_lt hg)
  have e := Int.emod_add_mul_ediv a g
  have r1 := Int.emod_lt_of_pos a hg
  rw [← hq] at e ⊢
  obtain ⟨n, hn⟩ : ∃ n, n = (g + q) / 2 := ⟨_, rfl⟩
  rw [← hn]
  have h1 : g + q ≤ 2 * n + 1 := by omega
  -- a < g (q + 1), and (q + 1) + g ≤ 2 (n + 1)
  have h2 : a < g * (q + 1) := by rw [Int.mul_add, Int.mul_one]; omega
  have h3 : g * (q + 1) ≤ (n + 1) * (n + 1) := by
    obtain ⟨u, hu⟩ : ∃ u, u = q + 1 := ⟨_, rfl⟩
    rw [← hu]
    have hs : g + u ≤ 2 * (n + 1) := by omega
    -- 4 g u = (g + u)^2 - (g - u)^2
    have sq : 0 ≤ (g - u) * (g - u) := by
      rcases Int.le_total 0 (g - u) with h | h
      · exact Int.mul_nonneg h h
      · have := Int.mul_nonneg (show 0 ≤ -(g - u) by omega) (show 0 ≤ -(g - u) by omega); rwa [Int.neg_mul_neg] at this
    have m1 := Int.mul_le_mul hs hs (by omega) (by omega)
    have e1 : (g + u) * (g + u) = (g - u) * (g - u) + 4 * (g * u) := by grind
    have e2 : 2 * (n + 1) * (2 * (n + 1)) = 4 * ((n + 1) * (n + 1)) := by grind
    omega
  omega

theorem newton_stop {a g : Int} (hg : 0 < g) (h : g ≤ (g + a / g) / 2) : g * g ≤ a := by
  have : g ≤ a / g := by omega
  exact (Int.le_ediv_iff_mul_le hg).1 this

theorem newton_pos {a n : Int} (ha : 0 < a) (h : a < (n + 1) * (n + 1)) (hn : 0 ≤ n) : 0 < n := by
  rcases Int.lt_or_le 0 n with k | k
  · exact k
  · have : n = 0 := by omega
    subst this; omega

theorem newton_begin {a : Int} {l : Nat} (h : Bits a l) (ha : 0 < a) : a < (2 ^ ((l + 1) / 2) + 1) * (2 ^ ((l + 1) / 2) + 1) := by
  rcases h with h | h
  · omega
  · have e : (2 : Int) ^ l ≤ 2 ^ ((l + 1) / 2 + (l + 1) / 2) := pow_mono (by decide) (by omega)
    rw [Int.pow_add] at e
    have p : (0 : Int) < 2 ^ ((l + 1) / 2) := Int.pow_pos (by decide)
    have := h.2.2
    rw [Int.mul_add, Int.add_mul]
    omega

end Go.Proofs.YtbapeilpkhbbeaaGreat

/- exact.root: its walk. -/
namespace Go.Proofs.YtbapeilpkhbbeaaGreat
open Go.RowKit

theorem Rd.unique {w : World} {k : IntKind} {ao : Option Addr} {c c' : Nat} {L L' : List Int} (h : Rd w k ao c L) (h' : Rd w k ao c' L') (hl : L.length = L'.length) : L = L' := by
  by_cases h0 : L.length = 0
  · rw [List.eq_nil_of_length_eq_zero h0, List.eq_nil_of_length_eq_zero (l := L') (by omega)]
  · obtain ⟨b, o, rfl⟩ := h.adr (by omega)
    refine List.ext_getElem hl fun i h1 h2 => ?_
    have a := h.cell b o rfl i h1
    rw [h'.cell b o rfl i h2] at a
    have e := Value.int.inj (Option.some.inj a)
    simpa [h1, h2] using e.2.symm
theorem Nt.unique {w : World} {v : Value} {n n' : Int} {K K' : Nat} (h : Nt w v n K) (h' : Nt w v n' K') : n = n' := by
  obtain ⟨ao, c, L, rfl, h⟩ := h
  obtain ⟨ao', c', L', e, h'⟩ := h'
  obtain ⟨e1, e2, _⟩ := Value.slice.inj e
  subst e1
  rw [← h.eq, ← h'.eq, h.rd.unique h'.rd e2]

open Classical in
/-- The number that a value stands for, 0 if none. -/
noncomputable def natOf (w : World) (v : Value) : Nat := if h : ∃ n : Int, ∃ K, Nt w v n K then (Classical.choose h).toNat else 0
theorem natOf_eq {w : World} {v : Value} {n : Int} {K : Nat} (h : Nt w v n K) : natOf w v = n.toNat := by
  have hx : ∃ n : Int, ∃ K, Nt w v n K := ⟨n, K, h⟩
  unfold natOf
  rw [dif_pos hx]
  obtain ⟨K', h'⟩ := Classical.choose_spec hx
  rw [h'.unique h]

theorem one_row (w : World) : Nt (w.alloc (Obj.cells #[Value.int IntKind.u64 1] 106)) (.slice (some ⟨w.heap.size, 0, none⟩) 1 1) 1 1 := by
  have hrow : Row .u64 106 (w.alloc (Obj.cells #[Value.int IntKind.u64 1] 106)) w.heap.size [1] := by unfold Row World.alloc; simp
  have h := nt_row (c := 1) (K := 1) hrow (Dig.cons (by decide) (by decide) (Dig.nil _)) (n := 1) (by simp [val]) (by simp) (by decide) (by simp)
  simpa [trimL] using h

structure RootI (w wr : World) (a : Int) (Kg : Nat) (gv : Value) (g : Int) : Prop where
  nt : Nt wr gv g Kg
  pos : 0 < g
  up : a < (g + 1) * (g + 1)
  low : Below w.heap.size w wr

def RetRoot (w : World) (a : Int) (K : Nat) (e : Ending) (w' : World) : Prop := ∃ r : Int, 0 ≤ r ∧ r * r ≤ a ∧ a < (r + 1) * (r + 1) ∧ RetN w r K e w'

set_option maxRecDepth 100000 in
set_option maxHeartbeats 4000000 in
theorem root_any (va : Value) (a : Int) (K : Nat) (w : World) (hA : Nt w va a K) (hK : K ≤ 10000000) :
    Calls Tryz.prog 83 #[va] w (RetRoot w a (K + 3)) := by
  by_cases ha0 : a = 0
  · subst ha0
    obtain ⟨ao, c, LA, rfl, hA⟩ := hA
    have hl : LA = [] := hA.nrm.eq_nil B64_pos hA.dig hA.eq
    subst hl
    clear hA
    go_enter Tryz.func83, Tryz.ntmps83
    go_wp2
    go_ret
    exact ⟨0, Int.le_refl 0, by decide, by decide, _, rfl, (Nt.nil _).mono (Nat.zero_le _), Below.refl _ _⟩
  · have ha : 0 < a := by have := hA.nonneg; omega
    obtain ⟨ao, c, LA, rfl, hA'⟩ := hA
    have hl0 : LA.length ≠ 0 := by
      intro h
      have e := hA'.eq
      rw [List.eq_nil_of_length_eq_zero h] at e
      exact ha0 e.symm
    obtain ⟨n, hn⟩ : ∃ n, n = LA.length := ⟨_, rfl⟩
    have hNa : Nt w (.slice ao n c) a K := ⟨ao, c, LA, by rw [hn], hA'⟩
    rw [← hn] at hl0 ⊢
    have hn0 : ¬ (n : Int) = 0 := by omega
    have hb0 : Below w.heap.size w (w.alloc (Obj.cells #[Value.int IntKind.u64 1] 106)) := (Below.refl _ _).alloc (Nat.le_refl _) _
    have hbl := bitLength_any _ a K _ (hNa.below hb0 (Nat.le_refl _)) (by omega)
    have HBl := hid hbl; have HNa := hid hNa; have HB0 := hid hb0; have Ha := hid ha
    have HOne := hid (one_row w)
    clear hbl hNa hb0 hA' hn ha ha0
    go_enter Tryz.func83, Tryz.ntmps83
    go_wp2_with fail
    refine HBl.out.mono ?_
    rintro e w' ⟨l, rfl, hl, hbits, rfl⟩
    obtain ⟨s, hs⟩ : ∃ s, s = (l + 1) / 2 := ⟨_, rfl⟩
    have e1 : ((l : Int) + 1) / 2 = (s : Int) := by omega
    have e2 : ((l : Int) + 1).tdiv 2 = (s : Int) := by rw [Int.tdiv_eq_ediv_of_nonneg (by omega)]; exact e1
    have hnb := newton_begin hbits Ha.out
    rw [← hs] at hnb
    have hsh := shiftLeft_any _ 1 s 1 _ HOne.out (by decide) (by omega)
    have hs2 : s ≤ 32 * K + 1 := by omega
    have HSh := hid hsh; have HNb := hid hnb
    clear hsh hnb hbits hs
    go_wp2_with fail
    refine HSh.out.mono ?_
    rintro e w1 ⟨gv, rfl, hg, hb1⟩
    rw [Int.one_mul] at hg
    obtain ⟨Kg, hKg⟩ : ∃ Kg, Kg = 1 + s / 64 + 1 := ⟨_, rfl⟩
    rw [← hKg] at hg
    have hKg2 : Kg ≤ K + 3 := by omega
    have HI0 := hid (show RootI w w1 a Kg gv (2 ^ s) from ⟨hg, Int.pow_pos (by decide), HNb.out, HB0.out.trans (hb1.mono HB0.out.size)⟩)
    clear hg hb1 hKg HSh HNb HOne
    go_wp2
    go_loopw [3] (fun gv wr => ∃ g, RootI w wr a Kg gv g) (fun gv wr => natOf wr gv)
    case atStart => exact ⟨_, HI0.out⟩
    case round =>
      obtain ⟨g, H⟩ := hrel
      have hna := HNa.out.below H.low (Nat.le_refl _)
      have hdv := divide_any _ _ a g K Kg wr hna H.nt H.pos (by omega)
      have hup := newton_up (Int.le_of_lt Ha.out) H.pos
      have hstop := newton_stop (a := a) H.pos
      have q0 : 0 ≤ a / g := Int.ediv_nonneg (Int.le_of_lt Ha.out) (Int.le_of_lt H.pos)
      have hn0' : 0 ≤ (g + a / g) / 2 := by have := H.pos; omega
      have hnp := newton_pos Ha.out hup hn0'
      obtain ⟨nx, hnx⟩ : ∃ nx, nx = (g + a / g) / 2 := ⟨_, rfl⟩
      rw [← hnx] at hup hstop hnp hn0'
      have Hnx := hid hnx; have Hup := hid hup; have Hnp := hid hnp; have Hstop := hid hstop
      have HDv := hid hdv; have HH := hid H
      clear hdv hna H HI0 hup hstop q0 hn0' hnp hnx
      go_wp2_with fail
      refine HDv.out.mono ?_
      rintro e w2 ⟨v1, v2, rfl, hv1, _, hb2⟩
      have hlow2 := HH.out.low.trans (hb2.mono HH.out.low.size)
      have had := add_any _ v1 g (a / g) Kg K (K + Kg + 1) w2 (HH.out.nt.below hb2 (Nat.le_refl _)) hv1 (by omega) (by omega) (by omega) (by omega)
      have HAd := hid had; have Hlow2 := hid hlow2; have Hb2 := hid hb2
      clear had hlow2 hb2 hv1
      go_wp2_with fail
      refine HAd.out.mono ?_
      rintro e w3 ⟨vs, rfl, hvs, hb3⟩
      have hsr := shiftRight_any vs (g + a / g) 1 (K + Kg + 1) w3 hvs (by omega) (by decide)
      rw [Int.pow_succ, Int.pow_zero, Int.one_mul, ← Hnx.out] at hsr
      have HSr := hid hsr; have Hlow3 := hid (Hlow2.out.trans (hb3.mono Hlow2.out.size)); have Hb3 := hid (Hb2.out.trans (hb3.mono Hb2.out.size))
      clear hsr hvs hb3
      go_wp2_with fail
      refine HSr.out.mono ?_
      rintro e w4 ⟨vn, rfl, hvn, hb4⟩
      have Hlow4 := hid (Hlow3.out.trans (hb4.mono Hlow3.out.size)); have Hb4 := hid (Hb3.out.trans (hb4.mono Hb3.out.size))
      have hg4 := HH.out.nt.below Hb4.out (Nat.le_refl _)
      have hcp := compare_any vn _ nx g (K + Kg + 1) Kg w4 hvn hg4
      by_cases hge : g ≤ nx
      · have hcv : 0 ≤ cmpI nx g := by unfold cmpI; rw [if_neg (by omega)]; split <;> omega
        obtain ⟨cv, hcve⟩ : ∃ cv, cv = cmpI nx g := ⟨_, rfl⟩
        rw [← hcve] at hcp hcv
        have HCp := hid hcp; have HG4 := hid hg4; have HSt := hid (Hstop.out hge)
        clear hcp hcve hg4 hvn hb4 hge
        go_wp2_with fail
        refine HCp.out.mono ?_
        rintro e w5 ⟨nq, rfl, rfl⟩
        go_wp2
        go_ret
        have hb := below_drewN (Below.refl w4.heap.size w4) nq
        exact ⟨g, Int.le_of_lt HH.out.pos, HSt.out, HH.out.up, _, rfl, (HG4.out.below hb (Nat.le_refl _)).mono (by omega), below_drewN Hlow4.out nq⟩
      · have hlt : nx < g := by omega
        rw [cmpI_lt hlt] at hcp
        have hn5 := hvn.tight (Int.lt_trans hlt HH.out.nt.lt)
        have HCp := hid hcp; have HN5 := hid hn5
        clear hcp hn5 hg4 hvn hb4
        go_wp2_with fail
        refine HCp.out.mono ?_
        rintro e w5 ⟨nq, rfl, rfl⟩
        go_wp2
        have hb := below_drewN (Below.refl w4.heap.size w4) nq
        go_roundw
        case rel => exact ⟨nx, HN5.out.below hb (Nat.le_refl _), Hnp.out, Hup.out, below_drewN Hlow4.out nq⟩
        case measure => rw [natOf_eq (HN5.out.below hb (Nat.le_refl _)), natOf_eq HH.out.nt]; have := Hnp.out; omega

end Go.Proofs.YtbapeilpkhbbeaaGreat

/- exact.gcd: the greatest common divisor. -/
namespace Go.Proofs.YtbapeilpkhbbeaaGreat
open Go.RowKit

/-- What holds ahead of a round: both numbers lie in rows of their own. -/
structure GcdL (w wr : World) (ga ca : Nat) (LA SA : List Int) (bv : Value) (x y : Int) (G K : Nat) : Prop where
  ox : OwnL wr w.heap.size ga ca LA SA x
  lx : LA.length ≤ K
  oy : OwnV wr w.heap.size bv y K
  ne : ∀ g c n, bv = .slice (some ⟨g, 0, none⟩) n c → g ≠ ga
  le : y ≤ x
  g : Int.gcd x y = G
  low : Below w.heap.size w wr
def GcdI (w wr : World) (av bv : Value) (x y : Int) (G K : Nat) : Prop := ∃ ga ca LA SA, av = .slice (some ⟨ga, 0, none⟩) LA.length ca ∧ GcdL w wr ga ca LA SA bv x y G K

/-- Which of the two is the greater. -/
def GcdS (w wx : World) (av bv : Value) (G K : Nat) : Prop := ∃ x y : Int, Nt wx av x K ∧ Nt wx bv y K ∧ y ≤ x ∧ Int.gcd x y = G ∧ Below w.heap.size w wx

theorem GcdL.next {w wr w' : World} {ga gb ca cb m : Nat} {LA SA LX SX LY SY : List Int} {bv : Value} {x y R0 R1 : Int} {G K : Nat} (H : GcdL w wr ga ca LA SA bv x y G K) (hm : m ≤ K) {wm : World} {e : Ending} (h : RetAp wm w.heap.size ga gb ca cb m x y e w' LX SX LY SY R0 R1) (hne : ga ≠ gb) (hb : Below w.heap.size wr wm) :
    GcdI w w' (.slice (some ⟨ga, 0, none⟩) LX.length ca) (.slice (some ⟨gb, 0, none⟩) LY.length cb) R0 R1 G K :=
  ⟨ga, ca, LX, SX, rfl, h.x, Nat.le_trans h.lx hm, .inl ⟨gb, cb, LY, SY, rfl, h.y, Nat.le_trans h.ly hm⟩, (by intro g c n e; simp at e; omega), (by have := h.p0; omega), (by rw [h.g]; exact H.g), (H.low.trans (hb.trans h.low))⟩

set_option maxRecDepth 100000 in
set_option maxHeartbeats 8000000 in
theorem gcd_any (va vb : Value) (a b : Int) (K : Nat) (w : World) (hA : Nt w va a K) (hB : Nt w vb b K) (hK : K ≤ 1073741823) :
    Calls Tryz.prog 97 #[va, vb] w (RetN w (Int.gcd a b : Int) K) := by
  obtain ⟨G, hG⟩ : ∃ G, Int.gcd a b = G := ⟨_, rfl⟩
  rw [hG]
  have hcp := compare_any va vb a b K K w hA hB
  obtain ⟨ao, am, ac, rfl, HA⟩ := Nt.opened hA
  obtain ⟨bo, bm, bc, rfl, HB⟩ := Nt.opened hB
  have HC := hid hcp; have HG := hid hG
  clear hA hB hcp hG
  go_enter Tryz.func97, Tryz.ntmps97
  go_upto_if 13 with (go_at_call 67; refine HC.out.mono ?_; rintro e w1 ⟨nq, rfl, rfl⟩)
  go_cut [0, 1] (fun av bv wx => GcdS w wx av bv G K)
  case first =>
    have hb := below_drewN (Below.refl w.heap.size w) nq
    by_cases hab : a < b
    · have hgs : GcdS w (w.drewN nq) (.slice bo bm bc) (.slice ao am ac) G K := ⟨b, a, HB.out _ hb, HA.out _ hb, Int.le_of_lt hab, by rw [Int.gcd_comm]; exact HG.out, hb⟩
      have HGs := hid hgs
      rw [cmpI_lt hab]
      clear hgs
      go_wp2
      go_meet
      exact HGs.out
    · have hgs : GcdS w (w.drewN nq) (.slice ao am ac) (.slice bo bm bc) G K := ⟨a, b, HA.out _ hb, HB.out _ hb, by omega, HG.out, hb⟩
      have hcv : ¬ cmpI a b < 0 := by unfold cmpI; rw [if_neg hab]; split <;> omega
      have HGs := hid hgs
      clear hgs hab
      go_wp2
      go_meet
      exact HGs.out
  case rest =>
    obtain ⟨x, y, hx, hy, hyx, hg, hlow⟩ := hcut
    obtain ⟨ao, ac, LA, rfl, hx⟩ := hx
    obtain ⟨bo, bc, LB, rfl, hy⟩ := hy
    have hcx := clone_any ao ac LA x K wc hx (by omega)
    have HCx := hid hcx
    have Hy := hid hy; have Hx := hid hx; have Hyx := hid hyx; have Hg := hid hg; have Hlow := hid hlow
    obtain ⟨n, hn⟩ : ∃ n, LA.length = n := ⟨_, rfl⟩
    obtain ⟨m, hm⟩ : ∃ m, LB.length = m := ⟨_, rfl⟩
    rw [hn] at HCx; rw [hn, hm]
    have Hn := hid hn; have Hm := hid hm
    clear hx hy hyx hg hlow hcx hn hm HA HB HC HG
    go_wp2_with fail
    refine HCx.out.mono ?_
    rintro e w1 ⟨rfl, hr1, hb1⟩
    have hcy := clone_any bo bc LB y K w1 ⟨Hy.out.rd.below hb1 (Nat.le_refl _), Hy.out.dig, Hy.out.nrm, Hy.out.eq, Hy.out.le⟩ (by omega)
    have HCy := hid hcy; have Hr1 := hid hr1; have Hb1 := hid hb1
    rw [Hm.out] at HCy
    clear hcy hr1 hb1
    go_wp2_with fail
    refine HCy.out.mono ?_
    rintro e w2 ⟨rfl, hr2, hb2⟩
    have hlow2 : Below w.heap.size w w2 := (Hlow.out.trans (Hb1.out.mono Hlow.out.size)).trans (hb2.mono (by have := Hlow.out.size; have := Hb1.out.size; omega))
    have hr1' : Row .u64 106 w2 wc.heap.size (LA ++ []) := by rw [List.append_nil]; exact Hr1.out.kept (below_grown hb2) (by simp)
    have hlt := Hr1.out.lt
    have h62 : n ≤ 9223372036854775807 ∧ m ≤ 9223372036854775807 := by have := Hx.out.le; have := Hy.out.le; have := Hn.out; have := Hm.out; omega
    have hI0 : GcdI w w2 (.slice (some ⟨wc.heap.size, 0, none⟩) n n) (.slice (some ⟨w1.heap.size, 0, none⟩) m m) x y G K :=
      ⟨wc.heap.size, n, LA, [], by rw [Hn.out], ⟨hr1', Hx.out.dig, Hx.out.nrm, Hx.out.eq, by rw [Hn.out]; exact Nat.le_refl _, h62.1, Hlow.out.size⟩, Hx.out.le,
        .inl ⟨w1.heap.size, m, LB, [], by rw [Hm.out], ⟨by rw [List.append_nil]; exact hr2, Hy.out.dig, Hy.out.nrm, Hy.out.eq, by rw [Hm.out]; exact Nat.le_refl _, h62.2, by have := Hlow.out.size; omega⟩, Hy.out.le⟩, (by intro g c n e; simp at e; omega), Hyx.out, Hg.out, hlow2⟩
    have HI0 := hid hI0
    clear hI0 hr1' hr2 hb2 hlow2 hlt h62 Hr1 Hb1 HCx HCy
    go_wp2
    go_loopw [0, 1] (fun av bv wr => ∃ x y : Int, GcdI w wr av bv x y G K) (fun _ bv wr => natOf wr bv)
    case atStart => exact ⟨x, y, HI0.out⟩
    case round =>
      obtain ⟨x, y, ga, ca, LA, SA, rfl, H⟩ := hrel
      obtain ⟨n, hn⟩ : ∃ n, LA.length = n := ⟨_, rfl⟩
      rw [hn]
      have hy := H.oy
      rcases hy with ⟨gb, cb, LB, SB, rfl, hy, hly⟩ | ⟨rfl, rfl⟩
      · obtain ⟨m, hm⟩ : ∃ m, LB.length = m := ⟨_, rfl⟩
        rw [hm]
        rcases m with _ | _ | m
        · have hy0 : y = 0 := by rw [← hy.eq, List.eq_nil_of_length_eq_zero hm]; rfl
          subst hy0
          have hres : RetN w (G : Int) K (.returned (.slice (some ⟨ga, 0, none⟩) n ca)) wr := ⟨_, rfl, by
            have hx0 := H.ox.ntl.nonneg
            have e : (G : Int) = x := by rw [← H.g]; simp [Int.gcd]; omega
            rw [e, ← hn]; exact H.ox.nt H.lx, H.low⟩
          have HRes := hid hres
          clear hres H hy hm HI0
          go_wp2
          go_ret
          exact HRes.out
        · obtain ⟨y1, rfl⟩ : ∃ y1, LB = [y1] := List.length_eq_one_iff.1 (by omega)
          have hy1 : y1 = y := by have := hy.eq; simpa [val] using this
          subst hy1
          have hcell := hy.rd.cell gb 0 rfl 0 (by simp)
          have hdg := hy.dig.head
          have hyp : y1 ≠ 0 := by have := hy.nrm.top (k := 0) (by simp); simpa using this
          simp at hcell
          have hdv := divideLimb_any _ x y1 K wr (H.ox.nt H.lx) (by omega) (by omega) hdg.2
          have hx0 := H.ox.ntl.nonneg
          have hm0 := Int.emod_nonneg x hyp
          have hm1 := Int.emod_lt_of_pos x (show 0 < y1 by omega)
          have hgg := fun w => gcdLimb_any y1 (x % y1) w hdg ⟨hm0, by have := hdg.2; omega⟩
          have hG2 : Int.gcd y1 (x % y1) = G := by rw [gcd_step hx0 (by omega)]; exact H.g
          rw [hG2] at hgg
          have hGle : (G : Int) < B64 := by
            have h1 : (G : Int) ∣ y1 := by rw [← hG2]; exact Int.gcd_dvd_left y1 (x % y1)
            have := Int.le_of_dvd (by omega) h1
            have := hdg.2; omega
          rw [hn] at hdv
          have HDv := hid hdv; have HGg := hid hgg; have HGl := hid hGle; have HLow := hid H.low
          have HCell := hid (fun (w' : World) (hb : Below wr.heap.size wr w') => (hb.cell (p := ⟨gb, 0, none⟩) (World.block_lt_of_cell? wr _ hcell)).trans hcell)
          have HK := hid hly
          clear hdv hgg hGle H hy hm hm0 hm1 hdg hx0 hG2 hly HI0
          go_wp2_with fail
          refine HDv.out.mono ?_
          rintro e w1 ⟨v1, rfl, _, hb1⟩
          have hc1 := HCell.out _ hb1
          have Hb1 := hid hb1
          clear hb1 hcell
          go_wp2_with fail
          refine (HGg.out _).mono ?_
          rintro e w2 ⟨rfl, nq, rfl⟩
          go_wp2_with fail
          refine (fromLimb_any (G : Int) _ (by omega) HGl.out).mono ?_
          rintro e w3 ⟨v3, rfl, hv3, hb3⟩
          go_wp2
          go_ret
          exact ⟨_, rfl, hv3.mono (by have := HK.out; simp at this; omega), (below_drewN (HLow.out.trans (Hb1.out.mono HLow.out.size)) nq).trans (hb3.mono (by have := HLow.out.size; have := Hb1.out.size; simp; omega))⟩
        · have hnm : m + 2 ≤ n := by
            have := len_of_le H.ox.dig hy.dig hy.nrm (by rw [H.ox.eq, hy.eq]; exact H.le)
            omega
          have hm2 : LB.length = m + 2 := by omega
          have hne : gb ≠ ga := H.ne gb cb LB.length rfl
          have hfs := foresee_any _ _ ca cb LA LB x y _ _ wr H.ox.ntl hy.ntl H.le (by omega) (by have := H.lx; omega)
          rw [hn, hm] at hfs
          have hyn := hy.ntl.nonneg
          have hyp : 0 < y := by
            have lo := hy.nrm.low B64_pos hy.dig (by omega)
            rw [hy.eq] at lo
            exact Int.lt_of_lt_of_le (Int.pow_pos B64_pos) lo
          have HF := hid hfs; have HH := hid H; have HY := hid hy; have HN := hid hn; have HM := hid hm; have HLy := hid hly; have HM2 := hid hm2; have HYp := hid hyp
          clear hfs H hy hn hm hly hm2 hyn hyp HI0
          go_wp2_with fail
          refine HF.out.mono ?_
          rintro e w1 ⟨cnt, a0, b0, a1, b1, rfl, hS, hb1⟩
          obtain ⟨W1, hW1⟩ : ∃ W1, W1 = w1.alloc (.cells #[.int .i64 cnt, .int .u64 a0, .int .u64 b0, .int .u64 a1, .int .u64 b1] 143) := ⟨_, rfl⟩
          have hbW : Below w.heap.size wr W1 := by rw [hW1]; exact (hb1.mono HH.out.low.size).alloc (by have := HH.out.low.size; have := hb1.size; omega) _
          have hbW2 : Below wr.heap.size wr W1 := by rw [hW1]; exact hb1.alloc hb1.size _
          have hoX := HH.out.ox.below hbW2 (Nat.le_refl _)
          have hoY := HY.out.below hbW2 (Nat.le_refl _)
          by_cases hc : 0 < cnt
          · have hap := apply_any w.heap.size ga gb ca cb LA SA LB SB x y cnt a0 b0 a1 b1 W1 hoX hoY (fun e => hne e.symm) (by have := HN.out; have := HM2.out; omega) hc hS
            rw [HN.out, HM.out] at hap
            rw [hW1] at hap
            have HAp := hid hap; have HbW := hid hbW; have HW1 := hid hW1
            clear hap hbW hbW2 hoX hoY hS hb1 hW1 HF
            go_wp2_with fail
            refine HAp.out.mono ?_
            rintro e w2 ⟨LX, SX, LY, SY, R0, R1, hr⟩
            obtain rfl := hr.e
            rw [← HW1.out] at hr
            have hnx := HH.out.next (show m + 1 + 1 ≤ K by have := HLy.out; have := HM2.out; omega) hr (fun e => hne e.symm) HbW.out
            have hny := hr.y.nt (K := K) (by have := hr.ly; have := HLy.out; have := HM2.out; omega)
            have hlt : R1 < y := by have := hr.p0; have := hr.pb; omega
            have HNx := hid hnx; have HNy := hid hny; have HLt := hid hlt; have HR1 := hid hr.p1
            clear hr hnx hny hlt
            go_wp2
            go_roundw
            case rel => exact ⟨R0, R1, HNx.out⟩
            case measure =>
              have hyo := HY.out.nt (K := K) HLy.out
              rw [HM.out] at hyo
              rw [natOf_eq HNy.out, natOf_eq hyo]
              have := HLt.out; have := HR1.out; omega
          · have hdv := divide_long _ _ ca cb m LA LB x y K K W1 ⟨hoX.rd, hoX.dig, hoX.nrm, hoX.eq, HH.out.lx⟩ ⟨hoY.rd, hoY.dig, hoY.nrm, hoY.eq, HLy.out⟩ HM2.out HH.out.le hK
            rw [HN.out, HM.out] at hdv
            have hsz : gb < W1.heap.size := hoY.row.lt
            rw [hW1] at hdv
            have HDv := hid hdv; have HbW := hid hbW; have HW1 := hid hW1; have HoY := hid hoY; have Hsz := hid hsz
            clear hdv hbW hbW2 hoX hoY hS hb1 hW1 HF hsz
            go_wp2_with fail
            refine HDv.out.mono ?_
            rintro e w2 ⟨v1, v2, rfl, _, hv2, hb2⟩
            rw [← HW1.out] at hv2 hb2
            have hlow2 : Below w.heap.size wr w2 := HbW.out.trans (hb2.mono (by have := HbW.out.size; have := HH.out.low.size; omega))
            have hoY2 := HoY.out.below hb2 (Nat.le_refl _)
            have hm0 := Int.emod_nonneg x (show y ≠ 0 by have := HYp.out; omega)
            have hm1 := Int.emod_lt_of_pos x HYp.out
            have hnx : GcdI w w2 (.slice (some ⟨gb, 0, none⟩) (m + 1 + 1) cb) v2 y (x % y) G K := by
              refine ⟨gb, cb, LB, SB, by rw [HM.out], hoY2, HLy.out, hv2.base_le (by have := HbW.out.size; have := HH.out.low.size; omega), ?_, by omega, ?_, HH.out.low.trans hlow2⟩
              · intro g c n e
                rcases hv2 with ⟨g', c', L', S', rfl, h, _⟩ | ⟨rfl, _⟩
                · simp at e
                  have := h.base; have := Hsz.out; omega
                · simp at e
              · rw [gcd_step HH.out.ox.ntl.nonneg HYp.out]; exact HH.out.g
            have HNx := hid hnx; have HNy := hid hv2.nt; have HLt := hid hm1; have HR1 := hid hm0
            clear hnx hv2 hm0 hm1 hb2 hlow2 hoY2
            go_wp2
            go_roundw
            case rel => exact ⟨y, x % y, HNx.out⟩
            case measure =>
              have hyo := HY.out.nt (K := K) HLy.out
              rw [HM.out] at hyo
              rw [natOf_eq HNy.out, natOf_eq hyo]
              have := HLt.out; have := HR1.out; omega
      · have hres : RetN w (G : Int) K (.returned (.slice (some ⟨ga, 0, none⟩) n ca)) wr := ⟨_, rfl, by
          have hx0 := H.ox.ntl.nonneg
          have e : (G : Int) = x := by rw [← H.g]; simp [Int.gcd]; omega
          rw [e, ← hn]; exact H.ox.nt H.lx, H.low⟩
        have HRes := hid hres
        clear hres H HI0
        go_wp2
        go_ret
        exact HRes.out

end Go.Proofs.YtbapeilpkhbbeaaGreat

/- exact.Gcd. -/
namespace Go.Proofs.YtbapeilpkhbbeaaGreat
open Go.RowKit

end Go.Proofs.YtbapeilpkhbbeaaGreat

/- exact.Of: the integer of a number of 64 bits, in normal form and new memory; divideBoth: two naturals divided by one that divides both; divided: the fraction of two integers. -/
namespace Go.Proofs.YtbapeilpkhbbeaaGreat
open Go.RowKit

set_option maxRecDepth 100000 in
set_option maxHeartbeats 1000000 in
theorem divideBoth_any (va vb vc : Value) (a b c : Int) (K : Nat) (w : World) (hA : Nt w va a K) (hB : Nt w vb b K) (hC : Nt w vc c K) (hc : 0 < c) (hK : K ≤ 1073741823) :
    Calls Tryz.prog 96 #[va, vb, vc] w (RetQR w (a / c) (b / c) K K) := by
  have h1 := isOne_any vc c K w hC
  by_cases h : c = 1
  · subst h
    rw [Int.ediv_one, Int.ediv_one]
    rw [decide_eq_true rfl] at h1
    have H1 := hid h1; have HA := hid hA; have HB := hid hB
    clear h1 hA hB hC
    go_enter Tryz.func96, Tryz.ntmps96
    go_wp2_with fail
    refine H1.out.mono ?_
    rintro e w0 ⟨rfl, h0⟩
    obtain rfl : w = w0 := h0.symm
    go_wp2
    go_ret2
    exact ⟨_, _, rfl, HA.out, HB.out, Below.refl _ _⟩
  · rw [decide_eq_false h] at h1
    have H1 := hid h1; have HA := hid hA; have HB := hid hB; have HC := hid hC
    clear h1 hA hB hC
    go_enter Tryz.func96, Tryz.ntmps96
    go_wp2_with fail
    refine H1.out.mono ?_
    rintro e w0 ⟨rfl, h0⟩
    obtain rfl : w = w0 := h0.symm
    go_wp2_with fail
    refine (divide_any _ _ a c K K w HA.out HC.out hc hK).mono ?_
    rintro e w1 ⟨v1, r1, rfl, hq1, _, hb1⟩
    go_wp2_with fail
    refine (divide_any _ _ b c K K w1 (HB.out.below hb1 (Nat.le_refl _)) (HC.out.below hb1 (Nat.le_refl _)) hc hK).mono ?_
    rintro e w2 ⟨v2, r2, rfl, hq2, _, hb2⟩
    go_wp2
    go_ret2
    exact ⟨_, _, rfl, hq1.below hb2 (Nat.le_refl _), hq2, hb1.trans (hb2.mono hb1.size)⟩
end Go.Proofs.YtbapeilpkhbbeaaGreat
