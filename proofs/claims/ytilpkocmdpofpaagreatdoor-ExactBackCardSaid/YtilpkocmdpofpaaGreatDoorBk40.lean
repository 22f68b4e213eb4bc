/- An api.Ratio argument of a law, opened. Written by gen_fieldrow.py. A ratio argument whose words are known, as a value. What the law ExactForms says of numbers: scaled ratios; Decimal, Lowest by values. exact.Parse of any text; what Parse and ParseRatio make of the texts of numbers. -/
import Derived.Test.YtilpkocmdpofpaaGreatDoorBk39
import Derived.Test.YtilpkocmdpofpaaGreatDoorBk37
import Derived.Test.YtilpkocmdpofpaaGreatDoorBk36
/- An api.Ratio argument of a law, opened. Written by gen_fieldrow.py. -/
namespace Go.Proofs.YtilpkocmdpofpaaGreatDoor
open Go.ChangeShapes Go.WideShapes Go.ChangeAt Go.RowKit Go.Joins

set_option maxRecDepth 100000 in
theorem openIntT {H : Type} {enc : TypeId × Value → H} {W : World} {sp : Nat → Bool} {c0 c1 : Value} {y : DataW H × List MemPlace} {fuel : Nat}
    (h : DataW.trod enc Tryz.prog W 0 sp true fuel 24 [c0, c1] = some y) : ∃ neg L, Lk W (.agg #[c0, c1]) neg L ∧ Dig B32 L := by
  obtain ⟨y0, y1, m, _, _, h0, h1⟩ := trod_struct2 Tryz.underlying24 h
  have k0 : Tryz.prog.cellsOf 4 = 1 := by kernel_rfl
  have k1 : Tryz.prog.cellsOf 22 = 1 := by kernel_rfl
  have hy0 : DataW.trod enc Tryz.prog W 0 sp true m 4 [c0] = some y0 := by simpa [k0] using h0
  have hy1 : DataW.trod enc Tryz.prog W 0 sp true m 22 [c1] = some y1 := by simpa [k1] using h1
  clear h0 h1
  obtain ⟨b, e0, _⟩ := DataW.trod_bool Tryz.underlying4 hy0
  simp at e0
  subst e0
  rcases Go.Deep.open_slice1 Tryz.underlying22 (by kernel_rfl) hy1 with ⟨e1, _⟩ | ⟨a, len, cap, k, n, V, D, Pl, e1, hb, hl, hm, hmm, _, hx⟩
  · simp at e1
    subst e1
    exact ⟨b, [], ⟨none, 0, rfl, Rd.nil _ _⟩, fun x hx => by cases hx⟩
  · simp at e1
    subst e1
    have hk : len ≤ k := by rw [hmm]; split <;> omega
    have hw : ∀ i, i < len → ∃ x, V i = .int .u32 x ∧ 0 ≤ x ∧ x < B32 ∧ W.cell? (a.add i) = some (.int .u32 x) := by
      intro i hi
      obtain ⟨hc, ht⟩ := hx i (by omega)
      obtain ⟨x, ex, _, hwf⟩ := DataW.trod_int Tryz.underlying53 ht
      simp at ex
      simp [Lit.wf, IntKind.min, IntKind.max, IntKind.signed, IntKind.bits] at hwf
      refine ⟨x, ex, by omega, by unfold B32; omega, by rw [hc, ex]⟩
    have hget : ∀ i, i < len → (((List.range len).map fun i => intOf (V i))[i]?.getD 0) = intOf (V i) := by
      intro i hi
      simp [hi]
    refine ⟨b, (List.range len).map fun i => intOf (V i), ⟨some a, cap, by simp, ?_⟩, ?_⟩
    · refine ⟨by simpa using hl, by unfold maxLen at hm; omega, fun hp => ?_, fun b off e i hi => ?_⟩
      · obtain ⟨x, _, _, _, hc⟩ := hw 0 (by simpa using hp)
        have hs := World.cell?_spot hc
        obtain ⟨ab, aoff, asp⟩ := a
        have : asp = none := by simpa [Addr.add] using hs
        exact ⟨ab, aoff, by rw [this]⟩
      · simp at hi
        obtain rfl := Option.some.inj e
        obtain ⟨x, ex, _, _, hc⟩ := hw i hi
        rw [hget i hi, ex]
        have ea : Addr.add ⟨b, off, none⟩ i = ⟨b, off + i, none⟩ := by
          by_cases h0 : i = 0 <;> simp [Addr.add, h0]
        rw [ea] at hc
        simpa [intOf] using hc
    · intro x hx
      obtain ⟨i, hi, rfl⟩ := List.mem_map.1 hx
      obtain ⟨y, ey, y0, y1, _⟩ := hw i (by simpa using hi)
      rw [ey]
      exact ⟨y0, y1⟩


set_option maxRecDepth 100000 in
theorem openRatio {H : Type} {enc : TypeId × Value → H} {r : Reach} {b0 : Nat} {W : World} {sp : Nat → Bool} {v : Value} {d : DataW H} {p : List MemPlace}
    (hv : Value.okWide Tryz.prog W r b0 26 v) (h : DataW.Trod enc Tryz.prog W 0 sp true 26 v d p) : ∃ c0 c1 c2 c3 na LA nb LB, v = .agg #[c0, c1, c2, c3] ∧ Lk W (.agg #[c0, c1]) na LA ∧ Dig B32 LA ∧ Lk W (.agg #[c2, c3]) nb LB ∧ Dig B32 LB := by
  obtain ⟨cs, rfl, hsz⟩ := okWide_struct Tryz.underlying26 hv
  obtain ⟨c0, c1, c2, c3, rfl⟩ := array4 (hsz.trans (show Tryz.prog.cellsOf 26 = 4 by kernel_rfl))
  obtain ⟨fuel, hf⟩ := h
  obtain ⟨y0, y1, n, _, _, h0, h1⟩ := trod_struct2 Tryz.underlying26 hf
  have k : Tryz.prog.cellsOf 24 = 2 := by kernel_rfl
  obtain ⟨na, LA, hA, dA⟩ := openIntT (enc := enc) (c0 := c0) (c1 := c1) (by simpa [k, Value.cells] using h0)
  obtain ⟨nb, LB, hB, dB⟩ := openIntT (enc := enc) (c0 := c2) (c1 := c3) (by simpa [k, Value.cells] using h1)
  exact ⟨c0, c1, c2, c3, na, LA, nb, LB, rfl, hA, dA, hB, dB⟩

/-- The four cells of a ratio whose words are these. -/
def Lr (w : World) (v : Value) (na : Bool) (LA : List Int) (nb : Bool) (LB : List Int) : Prop := ∃ ao ca bo cb, v = .agg #[.bool na, .slice ao LA.length ca, .bool nb, .slice bo LB.length cb] ∧ Rd w .u32 ao ca LA ∧ Rd w .u32 bo cb LB ∧ Dig B32 LA ∧ Dig B32 LB
set_option maxRecDepth 100000 in
theorem openLr {H : Type} {enc : TypeId × Value → H} {r : Reach} {b0 : Nat} {W : World} {sp : Nat → Bool} {v : Value} {d : DataW H} {p : List MemPlace}
    (hv : Value.okWide Tryz.prog W r b0 26 v) (h : DataW.Trod enc Tryz.prog W 0 sp true 26 v d p) : ∃ na LA nb LB, Lr W v na LA nb LB := by
  obtain ⟨c0, c1, c2, c3, na, LA, nb, LB, rfl, ⟨ao, ca, e1, hA⟩, dA, ⟨bo, cb, e2, hB⟩, dB⟩ := openRatio hv h
  simp only [Value.agg.injEq, Array.mk.injEq, List.cons.injEq, and_true] at e1 e2
  obtain ⟨rfl, rfl⟩ := e1
  obtain ⟨rfl, rfl⟩ := e2
  exact ⟨na, LA, nb, LB, ao, ca, bo, cb, rfl, hA, hB, dA, dB⟩
end Go.Proofs.YtilpkocmdpofpaaGreatDoor

/- A ratio argument whose words are known, as a value. -/
namespace Go.Proofs.YtilpkocmdpofpaaGreatDoor
open Go.RowKit

end Go.Proofs.YtilpkocmdpofpaaGreatDoor

/- What the law ExactForms says of numbers: scaled ratios; Decimal, Lowest by values. -/
namespace Go.Proofs.YtilpkocmdpofpaaGreatDoor
open Go.RowKit

theorem raV (x y : Int) (K : Nat) : KeepV (fun w v => Ra w v x y K) := fun w w' v hk h => by
  obtain ⟨b1, o1, m1, c1, b2, o2, m2, c2, rfl, h1, h2⟩ := h
  exact ⟨b1, o1, m1, c1, b2, o2, m2, c2, rfl, aiV _ _ _ _ _ hk h1, aiV _ _ _ _ _ hk h2⟩
theorem low_rv {w : World} {v : Value} {n d : Int} {K : Nat} (h : Ra w v (lowN n d) (lowD n d) K) (hd : 0 < d) : Rv w v n d K := by
  have hl := low_val n hd
  have hp := rn_pos (lowN n d) hl.2
  exact ⟨hd, _, _, h, by rw [hp.1, hp.2]; exact hl.1⟩
theorem Decimal_rv (v : Value) (n d : Int) (K p : Nat) (w : World) (hv : Rv w v n d K) (hK : K ≤ 140) (hp : p ≤ 100) (hT : Tab w) :
    Calls Tryz.prog 13 #[v, .int .i64 (p : Int)] w fun e w' => e = .returned (.tuple #[.string (dcT ((n * 10 ^ p * 2 + d).fdiv (d * 2)) p), .int .i64 0]) ∧ Below w.heap.size w w' := by
  obtain ⟨hd, x, y, hr, he⟩ := hv
  have h := Decimal_ra v x y K p w hr hK hp hT
  rw [fdiv_ratio (c := n * 10 ^ p * 2 + d) (e := d * 2) (by have := rd_pos y; omega) (by omega) (by grind)] at h
  exact h
end Go.Proofs.YtilpkocmdpofpaaGreatDoor

/- exact.Parse of any text; what Parse and ParseRatio make of the texts of numbers. -/
namespace Go.Proofs.YtilpkocmdpofpaaGreatDoor
open Go.RowKit

/-- What Parse hands back. -/
def RetPZ (l : List UInt8) (K : Nat) (w : World) (e : Ending) (w' : World) : Prop :=
  ∃ b1 o1 m1 c1, e = .returned (.tuple #[.agg #[.bool b1, .slice o1 m1 c1], .int .i64 (prsE l)]) ∧ (prsE l = 0 → FrA w w' (.agg #[.bool b1, .slice o1 m1 c1]) (prsZ l) K) ∧ Below w.heap.size w w'

set_option maxRecDepth 100000 in
set_option maxHeartbeats 1000000 in
theorem Parse_any (l : List UInt8) (hl : l.length ≤ 100000) (w : World) :
    Calls Tryz.prog 49 #[.string ⟨l.toArray⟩] w (RetPZ l (2 * (l.length + 1)) w) := by
  have HF := hid (fun w' => parseInteger_any l hl w')
  obtain ⟨K, hK⟩ : ∃ K, K = l.length + 1 := ⟨_, rfl⟩
  rw [← hK] at HF ⊢
  have HK := hid (show K ≤ 200000 by omega)
  clear hK hl
  go_enter Tryz.func49, Tryz.ntmps49
  obtain ⟨W0, hW0⟩ : ∃ W0, W0 = w.alloc (.cells #[.bool false, .slice none 0 0] 24) := ⟨_, rfl⟩
  have hB0 : Below w.heap.size w W0 := by rw [hW0]; exact (Below.refl _ _).alloc (Nat.le_refl _) _
  have hz0 : W0.heap.size = w.heap.size + 1 := by rw [hW0]; simp
  have HT : Hid (∀ w', Below W0.heap.size W0 w' → (w'.cell? ⟨w.heap.size, 0, none⟩ = some (.bool false) ∧ w'.cell? ⟨w.heap.size, 1, none⟩ = some (.slice none 0 0)) ∧ w'.frozen? ⟨w.heap.size, 0, none⟩ = false ∧ w'.frozen? ⟨w.heap.size, 1, none⟩ = false) := hid (fun w' hb => by
    refine ⟨⟨?_, ?_⟩, ?_, ?_⟩ <;> (first | (rw [hb.cell (by rw [hW0]; simp), hW0]; simp [go_sem]; done) | (rw [hb.frozen (by rw [hW0]; simp), hW0]; simp [go_sem]; done)))
  have HB0 := hid hB0; have HW := hid hW0; have Hz0 := hid hz0
  clear hW0 hB0 hz0
  obtain ⟨E, hE⟩ : ∃ E, E = prsE l := ⟨_, rfl⟩
  have HE := hid hE
  have Hbad := hid (show ∀ (w' : World) (E0 : Int), E = E0 → E0 ≠ 0 → Below W0.heap.size W0 w' → RetPZ l (2 * K) w (.returned (.tuple #[.agg #[.bool false, .slice none 0 0], .int .i64 E0])) ((w'.setCell ⟨w.heap.size, 0, none⟩ (.bool false)).setCell ⟨w.heap.size, 1, none⟩ (.slice none 0 0)) from fun w' E0 e1 e2 hb =>
    ⟨false, none, 0, 0, by rw [← e1, hE], (fun h => absurd (by rw [← e1, hE]; exact h) e2), ((HB0.out.trans (hb.mono HB0.out.size)).setCell (p := ⟨w.heap.size, 0, none⟩) (Nat.le_refl _) _).setCell (p := ⟨w.heap.size, 1, none⟩) (Nat.le_refl _) _⟩)
  by_cases hlong : 4096 < l.length
  · have hlI : 4096 < (l.length : Int) := by omega
    have HE3 := hid (show E = 3 by rw [hE]; unfold prsE; rw [if_pos hlong])
    clear hlong hE
    go_upto_region 1 with (fail)
    rw [← HW.out]
    obtain ⟨⟨k0, k1⟩, f0, f1⟩ := HT.out W0 (Below.refl _ _)
    go_wp2
    refine bodyPost_ret (v := .tuple #[.agg #[.bool false, .slice none 0 0], .int .i64 3]) (by simp [results, Tryz.results49, go_sem, k0, k1]) rfl (Hbad.out _ 3 HE3.out (by decide) (Below.refl _ _))
  · have hlI : ¬ 4096 < (l.length : Int) := by omega
    obtain ⟨b, hb⟩ : ∃ b, b = prsB l := ⟨_, rfl⟩
    have hEb : E = if b then 0 else 5 := by rw [hE, hb]; unfold prsE; rw [if_neg hlong]
    have HEB := hid hEb
    have HF2 := hid (fun w' => show Calls Tryz.prog 101 #[.string ⟨l.toArray⟩] w' (RetPI b (prsZ l) K w') by rw [hb]; exact HF.out w')
    obtain ⟨N, hN⟩ : ∃ N, N = prsZ l := ⟨_, rfl⟩
    rw [← hN] at HF2
    have HN := hid hN
    clear hlong hE hEb hb HF hN
    go_upto_region 1 with (fail)
    rw [← HW.out]
    go_wp2_with fail
    refine (HF2.out _).mono ?_
    rintro e w2 ⟨v2, x, rfl, hf, he, hb2⟩
    obtain ⟨g5, o5, m5, c5, rfl, HF1, _, _⟩ := It.opened hf
    have HX2 := hid hb2; have HEq := hid he; have HFt := hid hf
    clear hb2 he hf
    go_upto_region 4 with (fail)
    obtain ⟨W3, hW3⟩ : ∃ W3, W3 = w2.alloc (.cells #[.bool g5, .slice o5 m5 c5] 84) := ⟨_, rfl⟩
    have HA3 := hid (show Below w2.heap.size w2 W3 by rw [hW3]; exact (Below.refl _ _).alloc (Nat.le_refl _) _)
    have hq0 : W3.cell? ⟨w2.heap.size, 0, none⟩ = some (.bool g5) := by rw [hW3]; simp [go_sem]
    have hq1 : W3.cell? ⟨w2.heap.size, 1, none⟩ = some (.slice o5 m5 c5) := by rw [hW3]; simp [go_sem]
    rw [← hW3]
    have HX3 := hid (show Below W0.heap.size W0 W3 from HX2.out.trans (HA3.out.mono HX2.out.size))
    clear hW3
    cases hbb : b with
    | false =>
      subst hbb
      have HE5 := hid (show E = 5 by rw [HEB.out]; rfl)
      clear HEB
      obtain ⟨⟨k0, k1⟩, f0, f1⟩ := HT.out W3 HX3.out
      go_wp2
      refine bodyPost_ret (v := .tuple #[.agg #[.bool false, .slice none 0 0], .int .i64 5]) (by simp [results, Tryz.results49, go_sem, k0, k1]) rfl (Hbad.out _ 5 HE5.out (by decide) HX3.out)
    | true =>
      subst hbb
      have HE0 := hid (show E = 0 by rw [HEB.out]; rfl)
      clear HEB
      have HXY := hid (show x = N from HEq.out rfl)
      have HV := hid (value_any _ x K W3 (HFt.out.below HA3.out (Nat.le_refl _)) (by have := HK.out; omega))
      go_wp2_with fail
      refine HV.out.mono ?_
      rintro e w4 ⟨v4, rfl, hv4, hb4⟩
      obtain ⟨z1, o7, m7, c7, rfl, H6⟩ := FrA.opened hv4
      have HX4 := hid (show Below W0.heap.size W0 w4 from HX3.out.trans (hb4.mono HX3.out.size))
      have hlt : w.heap.size < W3.heap.size := by have := HX3.out.size; have := Hz0.out; omega
      obtain ⟨⟨k0, k1⟩, f0, f1⟩ := HT.out w4 HX4.out
      have Hlt := hid hlt
      clear hv4 hb4 hlt
      go_wp2
      refine bodyPost_ret (v := .tuple #[.agg #[.bool z1, .slice o7 m7 c7], .int .i64 0]) (by simp [results, Tryz.results49, go_sem, k0, k1]) rfl ⟨z1, o7, m7, c7, by rw [← HE.out, HE0.out], (fun _ => ?_), ((HB0.out.trans (HX4.out.mono HB0.out.size)).setCell (p := ⟨w.heap.size, 0, none⟩) (Nat.le_refl _) _).setCell (p := ⟨w.heap.size, 1, none⟩) (Nat.le_refl _) _⟩
      have hsz : w.heap.size ≤ W3.heap.size := Nat.le_of_lt Hlt.out
      rw [← HN.out, ← HXY.out]
      exact ((H6.out.set Hlt.out _).set Hlt.out _).base hsz

/-- A value in normal form fits in as many words as its number does. -/
theorem FrA.fits {w0 w : World} {v : Value} {z : Int} {K k : Nat} (h : FrA w0 w v z K) (hz : z.natAbs < 10 ^ (9 * k)) : Ai w v z k := by
  obtain ⟨s, rfl, L, ho, hd, hn, hv, hl⟩ := h
  have hB : (0 : Int) < B32 := by unfold B32; decide
  have h9 : ((10 ^ (9 * k) : Nat) : Int) ≤ B32 ^ k := by
    rw [Nat.pow_mul, Int.natCast_pow]
    have : ((10 ^ 9 : Nat) : Int) ≤ B32 := by unfold B32; decide
    clear hz
    induction k with
    | zero => simp
    | succ k ih =>
      rw [Int.pow_succ, Int.pow_succ]
      exact Int.mul_le_mul ih this (by decide) (Int.le_of_lt (Int.pow_pos hB))
  have hlen : L.length ≤ k := by
    by_cases h : L.length ≤ k
    · exact h
    · have h1 := Nrm.low hB hd hn (by omega)
      have h2 := pow_le (B := B32) (by unfold B32; decide) (show k ≤ L.length - 1 by omega)
      omega
  exact FrA.ai ⟨s, rfl, L, ho, hd, hn, hv, hlen⟩
theorem FrR.fits {w0 w : World} {v : Value} {x y : Int} {K k : Nat} (h : FrR w0 w v x y K) (hx : x.natAbs < 10 ^ (9 * k)) (hy : y.natAbs < 10 ^ (9 * k)) : Ra w v x y k := by
  obtain ⟨b1, o1, m1, c1, b2, o2, m2, c2, rfl, h1, h2⟩ := FrR.opened h
  exact ⟨_, _, _, _, _, _, _, _, rfl, h1.out.fits hx, h2.out.fits hy⟩
theorem rvV (n d : Int) (K : Nat) : KeepV (fun w v => Rv w v n d K) := fun w w' v hk h => by
  obtain ⟨h0, x, y, h1, h2⟩ := h
  exact ⟨h0, x, y, raV x y K w w' v hk h1, h2⟩

/-- An integer and the error. -/
def RetZE (w : World) (z : Int) (R : Nat) (err : Int) (e : Ending) (w' : World) : Prop := ∃ b1 o1 m1 c1, e = .returned (.tuple #[.agg #[.bool b1, .slice o1 m1 c1], .int .i64 err]) ∧ Hid (Ai w' (.agg #[.bool b1, .slice o1 m1 c1]) z R) ∧ Below w.heap.size w w'
/-- Parse of the text of an integer. -/
theorem Parse_tx (z : Int) (m : Nat) (w : World) (hz : z.natAbs < 10 ^ m) (hm : m ≤ 4000) (k : Nat) (hk : m ≤ 9 * k) : Calls Tryz.prog 49 #[.string (tx z)] w (RetZE w z k 0) := by
  have hlen := txL_len hz
  rw [tx_eq]
  refine (Parse_any (txL z) (by omega) w).mono ?_
  rintro e w' ⟨b1, o1, m1, c1, rfl, hf, hb⟩
  have hE : prsE (txL z) = 0 := by
    unfold prsE
    rw [if_neg (by omega), (prs_tx z).1]; rfl
  have h := hf hE
  rw [(prs_tx z).2] at h
  exact ⟨b1, o1, m1, c1, by rw [hE], hid (h.fits (Nat.lt_of_lt_of_le hz (Nat.pow_le_pow_right (by decide) hk))), hb⟩
theorem ParseRatio_rv (l : List UInt8) (w : World) (hm : Mx w) (hl : l.length ≤ 4096) (hb : prfB l = true) (k : Nat) (hN : (prfN l).natAbs < 10 ^ (9 * k)) (hD : (prfD l).natAbs < 10 ^ (9 * k)) :
    Calls Tryz.prog 15 #[.string ⟨l.toArray⟩] w (RetVE w (prfN l) (prfD l) k 0) := by
  refine (ParseRatio_any l (by omega) w hm).mono ?_
  rintro e w' ⟨b1, o1, m1, c1, b2, o2, m2, c2, rfl, hf, hbel⟩
  have hE : prfE l = 0 := by
    unfold prfE
    rw [if_neg (by omega), hb]; rfl
  have hp := prf_pos hb
  have h := hf hE
  have hlv := low_val (prfN l) hp
  have h1 : (lowD (prfN l) (prfD l)).natAbs ≤ (prfD l).natAbs := by
    have := (low_small (prfN l) hp).1
    have := hlv.2
    omega
  exact ⟨b1, o1, m1, c1, b2, o2, m2, c2, by rw [hE], hid (low_rv (h.fits (Nat.lt_of_le_of_lt (lowN_abs _ _) hN) (Nat.lt_of_le_of_lt h1 hD)) hp), hbel⟩
/-- ParseRatio of any other text. -/
theorem ParseRatio_bad (l : List UInt8) (hl : l.length ≤ 500) (w : World) (hm : Mx w) (hb : prfB l = false) :
    Calls Tryz.prog 15 #[.string ⟨l.toArray⟩] w fun e w' => ∃ b1 o1 m1 c1 b2 o2 m2 c2, e = .returned (.tuple #[.agg #[.bool b1, .slice o1 m1 c1, .bool b2, .slice o2 m2 c2], .int .i64 5]) ∧ Below w.heap.size w w' := by
  refine (ParseRatio_any l (by omega) w hm).mono ?_
  rintro e w' ⟨b1, o1, m1, c1, b2, o2, m2, c2, rfl, hf, hbel⟩
  have hE : prfE l = 5 := by
    unfold prfE
    rw [if_neg (by omega), hb]; rfl
  exact ⟨b1, o1, m1, c1, b2, o2, m2, c2, by rw [hE], hbel⟩
/-- ParseRatio of the text of a ratio. -/
theorem ParseRatio_sh (N D : Int) (hD : 0 < D) (m : Nat) (hN : N.natAbs < 10 ^ m) (hDm : D.natAbs < 10 ^ m) (hm2 : m ≤ 2000) (k : Nat) (hk : m ≤ 9 * k) (w : World) (hm : Mx w) :
    Calls Tryz.prog 15 #[.string (shT N D)] w (RetVE w N D k 0) := by
  obtain ⟨p1, p2, p3⟩ := prf_sh N hD
  have hlen := shL_len hN hDm
  have hpk : 10 ^ m ≤ 10 ^ (9 * k) := Nat.pow_le_pow_right (by decide) hk
  have h := ParseRatio_rv (shL N D) w hm (by omega) p1 k (by rw [p2]; omega) (by rw [p3]; omega)
  rw [p2, p3] at h
  rw [sh_eq N hD]
  exact h
/-- ParseRatio of decimals. -/
theorem ParseRatio_dc (N : Int) (p : Nat) (hp : p ≤ 100) (m : Nat) (hN : N.natAbs < 10 ^ m) (hpm : p < m) (hm2 : m ≤ 2000) (k : Nat) (hk : m ≤ 9 * k) (w : World) (hm : Mx w) :
    Calls Tryz.prog 15 #[.string (dcT N p)] w (RetVE w N (10 ^ p) k 0) := by
  obtain ⟨p1, p2, p3⟩ := prf_dc N p hp
  have hlen := dcS_len (p := p) hN
  have hpk : 10 ^ m ≤ 10 ^ (9 * k) := Nat.pow_le_pow_right (by decide) hk
  have h10 : ((10 : Int) ^ p).natAbs < 10 ^ (9 * k) := by
    have e : ((10 : Int) ^ p).natAbs = 10 ^ p := by rw [Int.natAbs_pow]; rfl
    rw [e]
    have : 10 ^ p < 10 ^ m := Nat.pow_lt_pow_right (by decide) hpm
    omega
  have h := ParseRatio_rv (dcS N p) w hm (by omega) p1 k (by rw [p2]; omega) (by rw [p3]; exact h10)
  rw [p2, p3] at h
  rw [dc_eq]
  exact h
/-- A power of ten. -/
theorem Power_ten (u : Value) (p : Nat) (w : World) (hu : Ai w u 10 2) (hp : p ≤ 100) : Calls Tryz.prog 32 #[u, .int .i64 (p : Int)] w (RetZE w (10 ^ p) 12 0) := by
  refine (Power_any u 10 2 p 200 w (by omega) (by omega) (by omega) (by omega) hu (by omega)).mono ?_
  rintro e w' ⟨v, rfl, hf, hb⟩
  obtain ⟨b1, o1, m1, c1, rfl, _⟩ := FrA.opened hf
  have e : ((10 : Int) ^ p).natAbs = 10 ^ p := by rw [Int.natAbs_pow]; rfl
  exact ⟨b1, o1, m1, c1, rfl, hid (hf.fits (by rw [e]; exact Nat.pow_lt_pow_right (by decide) (by omega))), hb⟩
theorem fdiv_abs {a d : Int} (hd : 0 < d) : ((a * 2 + d).fdiv (d * 2)).natAbs ≤ a.natAbs + 1 := by
  have h := fdiv_le (a * 2 + d) (show 0 < d * 2 by omega)
  generalize (a * 2 + d).fdiv (d * 2) = q at h
  by_cases hq : 0 ≤ q
  · have h1 : q * 2 ≤ q * (d * 2) := Int.mul_le_mul_of_nonneg_left (by omega) hq
    by_cases h2 : q ≤ a.natAbs + 1
    · omega
    · exfalso
      have h3 : ((a.natAbs : Int) + 2) * d ≤ q * d := Int.mul_le_mul_of_nonneg_right (by omega) (by omega)
      have h4 : (a.natAbs : Int) * 1 ≤ (a.natAbs : Int) * d := Int.mul_le_mul_of_nonneg_left (by omega) (by omega)
      have e1 : q * (d * 2) = 2 * (q * d) := by rw [← Int.mul_assoc, Int.mul_comm]
      rw [Int.add_mul] at h3
      omega
  · by_cases h2 : -(a.natAbs : Int) - 1 ≤ q
    · omega
    · exfalso
      have h3 : (q + 1) * d ≤ (-(a.natAbs : Int) - 1) * d := Int.mul_le_mul_of_nonneg_right (by omega) (by omega)
      have h4 : (a.natAbs : Int) * 1 ≤ (a.natAbs : Int) * d := Int.mul_le_mul_of_nonneg_left (by omega) (by omega)
      have e1 : (q + 1) * (d * 2) = 2 * ((q + 1) * d) := by rw [← Int.mul_assoc, Int.mul_comm]
      rw [Int.sub_mul, Int.neg_mul] at h3
      omega
end Go.Proofs.YtilpkocmdpofpaaGreatDoor
