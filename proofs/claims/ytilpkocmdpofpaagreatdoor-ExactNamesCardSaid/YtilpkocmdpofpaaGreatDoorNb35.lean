/- exact.parseDecimal of any two texts: what stands before the point, and behind it. exact.parseFraction and exact.ParseRatio, exact.Parse of any text. exact.Parse and exact.ParseRatio of any text. The texts of numbers, read again, are these numbers. -/
import Derived.Test.YtilpkocmdpofpaaGreatDoorNb26
import Derived.Test.YtilpkocmdpofpaaGreatDoorNb34
import Derived.Test.YtilpkocmdpofpaaGreatDoorNb17
import Derived.Test.YtilpkocmdpofpaaGreatDoorNb27
/- exact.parseDecimal of any two texts: what stands before the point, and behind it. -/
namespace Go.Proofs.YtilpkocmdpofpaaGreatDoor
open Go.RowKit

/-- The text of a decimal fraction. -/
def decB (t u : List UInt8) : Bool := !(bodyL t).isEmpty && !u.isEmpty && decide (u.length ≤ 100) && leadB (bodyL t) && digB (bodyL t ++ u)
/-- Its digits' number, with the sign. -/
def decZ (t u : List UInt8) : Int := sgn (negB t) ((dv (bodyL t ++ u) : Nat) : Int)

set_option maxRecDepth 100000 in
set_option maxHeartbeats 1000000 in
theorem parseDecimal_any (t u : List UInt8) (ht : t.length + u.length ≤ 100000) (K : Nat) (hK : t.length + u.length + 1 ≤ K) (hK6 : 6 ≤ K) (w : World) :
    Calls Tryz.prog 121 #[.string ⟨t.toArray⟩, .string ⟨u.toArray⟩] w (RetPF (decB t u) (decZ t u) (10 ^ u.length) K w) := by
  have hlen := bodyL_len t
  have HC := hid (fun w' => Tryz.strings_CutPrefix ⟨t.toArray⟩ ⟨#[45]⟩ w')
  obtain ⟨B, hB⟩ : ∃ B, B = decB t u := ⟨_, rfl⟩
  obtain ⟨Z, hZ⟩ : ∃ z, z = decZ t u := ⟨_, rfl⟩
  obtain ⟨ds, hds⟩ : ∃ ds, ds = bodyL t := ⟨_, rfl⟩
  obtain ⟨neg, hneg⟩ : ∃ b, b = negB t := ⟨_, rfl⟩
  have HC2 : Hid (∀ w', Calls Tryz.prog 146 #[.string ⟨t.toArray⟩, .string ⟨#[45]⟩] w' fun e w2 => e = .returned (.tuple #[.string ⟨ds.toArray⟩, .bool neg]) ∧ w2 = w') := hid (fun w' => by rw [hds, hneg]; exact HC.out w')
  have HP0 := fun w' => parseDigits_any (ds ++ u) (by rw [List.length_append, hds]; omega) w'
  obtain ⟨b, hb⟩ : ∃ b, b = digB (ds ++ u) := ⟨_, rfl⟩
  have hsum : (⟨(ds ++ u).toArray⟩ : ByteArray) = ⟨ds.toArray⟩ ++ ⟨u.toArray⟩ := by
    apply ByteArray.ext
    simp [ByteArray.data_append]
  have HP : Hid (∀ w', Calls Tryz.prog 147 #[.string (⟨ds.toArray⟩ ++ ⟨u.toArray⟩)] w' fun e w2 => ∃ v y, e = .returned (.tuple #[v, .bool b]) ∧ Nt w2 v y K ∧ (b = true → y = ((dv (ds ++ u) : Nat) : Int)) ∧ Below w'.heap.size w' w2) := hid (fun w' => by
    rw [← hsum]
    refine (HP0 w').mono ?_
    rintro e w2 ⟨v, y, rfl, h1, h2, h3⟩
    refine ⟨v, y, by rw [hb]; rfl, h1.mono (by rw [List.length_append, hds]; omega), fun h => h2 ?_, h3⟩
    rw [hb] at h
    unfold digB at h
    rw [Bool.and_eq_true, decide_eq_true_eq] at h
    exact h)
  obtain ⟨ld, hld⟩ : ∃ b, b = leadB ds := ⟨_, rfl⟩
  have HL : Hid (∀ w', Calls Tryz.prog 148 #[.string ⟨ds.toArray⟩] w' fun e w2 => e = .returned (.bool ld) ∧ w2 = w') := hid (fun w' => by rw [hld]; exact leading_any ds w')
  obtain ⟨e1, he1⟩ : ∃ e, e = ds.isEmpty := ⟨_, rfl⟩
  obtain ⟨e2, he2⟩ : ∃ e, e = u.isEmpty := ⟨_, rfl⟩
  have HBB := hid (show B = (!e1 && !e2 && decide (u.length ≤ 100) && ld && b) by rw [hB, he1, he2, hld, hb, hds]; rfl)
  have HZZ := hid (show Z = sgn neg ((dv (ds ++ u) : Nat) : Int) by rw [hZ, hneg, hds]; rfl)
  rw [← hB, ← hZ]
  have hE1 := he1.symm
  have hE2 := he2.symm
  have hsz : ds.length + u.length ≤ 100000 := by rw [hds]; omega
  clear HP0 HC hB hZ hds hneg hb hld he1 he2 hlen ht hK hsum
  have hbld : ∀ (b : Bool) (o o2 : Option Addr) (m c m2 c2 : Nat) (w : World), (Instr.build 86 #[(0, .agg #[.bool b, .slice o m c]), (1, .slice o2 m2 c2)]).run Tryz.prog w = .ok (.agg #[.bool b, .slice o m c, .slice o2 m2 c2]) w := fun b o o2 m c m2 c2 w => by kernel_rfl
  go_enter Tryz.func121, Tryz.ntmps121
  obtain ⟨W0, hW0⟩ : ∃ W0, W0 = w.alloc (.cells #[.bool false, .slice none 0 0, .slice none 0 0] 86) := ⟨_, rfl⟩
  have hB0 : Below w.heap.size w W0 := by rw [hW0]; exact (Below.refl _ _).alloc (Nat.le_refl _) _
  have HT : Hid (∀ w', Below W0.heap.size W0 w' → (w'.cell? ⟨w.heap.size, 0, none⟩ = some (.bool false) ∧ w'.cell? ⟨w.heap.size, 1, none⟩ = some (.slice none 0 0) ∧ w'.cell? ⟨w.heap.size, 2, none⟩ = some (.slice none 0 0)) ∧ w'.frozen? ⟨w.heap.size, 0, none⟩ = false ∧ w'.frozen? ⟨w.heap.size, 1, none⟩ = false ∧ w'.frozen? ⟨w.heap.size, 2, none⟩ = false) := hid (fun w' hb => by
    refine ⟨⟨?_, ?_, ?_⟩, ?_, ?_, ?_⟩ <;> (first | (rw [hb.cell (by rw [hW0]; simp), hW0]; simp [go_sem]; done) | (rw [hb.frozen (by rw [hW0]; simp), hW0]; simp [go_sem]; done)))
  have HB0 := hid hB0; have HW := hid hW0
  clear hW0 hB0
  have HBad := hid (show B = false → ∀ w', Below w.heap.size w w' → RetPF B Z (10 ^ u.length) K w (.returned (.tuple #[.agg #[.bool false, .slice none 0 0, .slice none 0 0], .bool false])) w' from fun hb w' hbel => by
    refine ⟨_, 0, 0, by rw [hb], ⟨.slice none 0 0, .slice none 0 0, by rw [show decide ((0 : Int) < 0) = false from rfl], (Nt.nil _).mono (Nat.zero_le _), (Nt.nil _).mono (Nat.zero_le _)⟩, (fun h => by rw [hb] at h; cases h), hbel⟩)
  obtain ⟨D, hD⟩ : ∃ D : Int, D = 10 ^ u.length := ⟨_, rfl⟩
  have HD := hid hD
  rw [← hD] at HBad ⊢
  clear hD
  go_upto_region 2 with (go_at_call 146; refine (HC2.out _).mono ?_; rintro e w1 ⟨rfl, rfl⟩)
  rw [← HW.out]
  have hbel0 := HB0.out
  cases he1 : e1 with
  | true =>
    subst he1
    have HB00 := hid (show B = false by rw [HBB.out]; rfl)
    clear HBB
    obtain ⟨⟨k0, k1, k2⟩, f0, f1, f2⟩ := HT.out _ (Below.refl _ _)
    go_wp2
    refine bodyPost_ret (v := .tuple #[.agg #[.bool false, .slice none 0 0, .slice none 0 0], .bool false]) (by simp [results, Tryz.results121, go_sem, k0, k1, k2]) rfl (HBad.out HB00.out _ ((Below.setCell (p := ⟨w.heap.size, 0, none⟩) (HB0.out) (Nat.le_refl _) _).setCell (p := ⟨w.heap.size, 1, none⟩) (Nat.le_refl _) _ |>.setCell (p := ⟨w.heap.size, 2, none⟩) (Nat.le_refl _) _))
  | false =>
    subst he1
    cases he2 : e2 with
    | true =>
      subst he2
      have HB00 := hid (show B = false by rw [HBB.out]; rfl)
      clear HBB
      obtain ⟨⟨k0, k1, k2⟩, f0, f1, f2⟩ := HT.out _ (Below.refl _ _)
      go_wp2
      refine bodyPost_ret (v := .tuple #[.agg #[.bool false, .slice none 0 0, .slice none 0 0], .bool false]) (by simp [results, Tryz.results121, go_sem, k0, k1, k2]) rfl (HBad.out HB00.out _ ((Below.setCell (p := ⟨w.heap.size, 0, none⟩) (HB0.out) (Nat.le_refl _) _).setCell (p := ⟨w.heap.size, 1, none⟩) (Nat.le_refl _) _ |>.setCell (p := ⟨w.heap.size, 2, none⟩) (Nat.le_refl _) _))
    | false =>
      subst he2
      by_cases hl : u.length ≤ 100
      · have hlI : ¬ 100 < (u.length : Int) := by omega
        cases hld : ld with
        | false =>
          subst hld
          have HB00 := hid (show B = false by rw [HBB.out, decide_eq_true hl]; rfl)
          clear HBB hl
          obtain ⟨⟨k0, k1, k2⟩, f0, f1, f2⟩ := HT.out _ (Below.refl _ _)
          go_wp2_with (go_at_call 148; refine (HL.out _).mono ?_; rintro e w3 ⟨rfl, rfl⟩)
          refine bodyPost_ret (v := .tuple #[.agg #[.bool false, .slice none 0 0, .slice none 0 0], .bool false]) (by simp [results, Tryz.results121, go_sem, k0, k1, k2]) rfl (HBad.out HB00.out _ ((Below.setCell (p := ⟨w.heap.size, 0, none⟩) (HB0.out) (Nat.le_refl _) _).setCell (p := ⟨w.heap.size, 1, none⟩) (Nat.le_refl _) _ |>.setCell (p := ⟨w.heap.size, 2, none⟩) (Nat.le_refl _) _))
        | true =>
          subst hld
          go_upto_region 5 with (first | (go_at_call 148; refine (HL.out _).mono ?_; rintro e w3 ⟨rfl, rfl⟩) | (go_at_call 147; refine (HP.out _).mono ?_; rintro e w4 ⟨v4, y4, rfl, hv4, hy4, hb4⟩; obtain ⟨o4, m4, c4, rfl, HV4⟩ := Nt.opened hv4))
          have HX4 := hid hb4
          have HY4 := hid hy4
          have hyn := hv4.nonneg
          clear hb4 hy4 hv4
          cases hbb : b with
          | false =>
            subst hbb
            have HB00 := hid (show B = false by rw [HBB.out, decide_eq_true hl]; rfl)
            clear HBB hl
            obtain ⟨⟨k0, k1, k2⟩, f0, f1, f2⟩ := HT.out _ (HX4.out)
            go_wp2
            refine bodyPost_ret (v := .tuple #[.agg #[.bool false, .slice none 0 0, .slice none 0 0], .bool false]) (by simp [results, Tryz.results121, go_sem, k0, k1, k2]) rfl (HBad.out HB00.out _ ((Below.setCell (p := ⟨w.heap.size, 0, none⟩) (HB0.out.trans (HX4.out.mono HB0.out.size)) (Nat.le_refl _) _).setCell (p := ⟨w.heap.size, 1, none⟩) (Nat.le_refl _) _ |>.setCell (p := ⟨w.heap.size, 2, none⟩) (Nat.le_refl _) _))
          | true =>
            subst hbb
            have HB11 := hid (show B = true by rw [HBB.out, decide_eq_true hl]; rfl)
            have hy : y4 = ((dv (ds ++ u) : Nat) : Int) := HY4.out rfl
            have HS := hid (fun w' (hb : Below w4.heap.size w4 w') => signed_any neg _ y4 K w' (HV4.out w' hb))
            have HRt := hid (fun (v : Value) (w' : World) (h : Nt w' v 10 1) => (raise_ten v u.length w' h hl).mono (fun e w2 (h2 : RetN w' (10 ^ u.length) 6 e w2) => show RetN w' D 6 e w2 by rw [HD.out]; exact h2))
            have HZ2 := hid (show sgn neg y4 = Z by rw [HZZ.out, hy])
            clear HBB hl hy
            go_wp2_with (go_at_call 55; refine (HS.out _ (Below.refl _ _)).mono ?_; rintro e w5 ⟨v5, rfl, hv5, hb5⟩; obtain ⟨g5, o5, m5, c5, rfl, H5, _, _⟩ := It.opened hv5)
            refine (HRt.out _ _ (ten_row w5)).mono ?_
            rintro e w6 ⟨v6, rfl, hv6, hb6⟩
            obtain ⟨o6, m6, c6, rfl, _⟩ := Nt.opened hv6
            have hb46 : Below w4.heap.size w4 w6 := (hb5.trans (((Below.refl w5.heap.size w5).alloc (Nat.le_refl _) _).mono hb5.size)).trans (hb6.mono (by have := hb5.size; simp; omega))
            have hb56 : Below w5.heap.size w5 w6 := ((Below.refl w5.heap.size w5).alloc (Nat.le_refl _) _).trans (hb6.mono (by simp))
            obtain ⟨⟨k0, k1, k2⟩, f0, f1, f2⟩ := HT.out w6 (HX4.out.trans (hb46.mono HX4.out.size))
            have H56 := hid hb56; have H46 := hid hb46; have H5' := hid hv5; have H6' := hid hv6
            clear hb5 hb6 hb46 hb56 hv5 hv6
            go_wp2
            refine bodyPost_ret (v := .tuple #[.agg #[.bool g5, .slice o5 m5 c5, .slice o6 m6 c6], .bool true]) (by simp [results, Tryz.results121, go_sem, k0, k1, k2]) rfl ⟨_, Z, D, by rw [HB11.out], ?_, (fun _ => ⟨rfl, rfl⟩), ((HB0.out.trans ((HX4.out.trans (H46.out.mono HX4.out.size)).mono HB0.out.size)).setCell (p := ⟨w.heap.size, 0, none⟩) (Nat.le_refl _) _).setCell (p := ⟨w.heap.size, 1, none⟩) (Nat.le_refl _) _ |>.setCell (p := ⟨w.heap.size, 2, none⟩) (Nat.le_refl _) _⟩
            have hk := (((Keeps.refl .u64 w6).setCell (a := ⟨w.heap.size, 0, none⟩) (u := .bool false) k0 (fun x h => (by cases h)) (.bool g5)).setCell (a := ⟨w.heap.size, 1, none⟩) (u := .slice none 0 0) (by simp [go_sem, k1]) (fun x h => (by cases h)) (.slice o5 m5 c5)).setCell (a := ⟨w.heap.size, 2, none⟩) (u := .slice none 0 0) (by simp [go_sem, k2]) (fun x h => (by cases h)) (.slice o6 m6 c6)
            obtain ⟨s5, he5, hn5⟩ := H5'.out
            rw [HZ2.out] at he5 hn5
            injection he5 with he5
            have hg : g5 = decide (Z < 0) := by have := congrArg (fun a => a[0]?) he5; simpa using this
            have hs : (Value.slice o5 m5 c5) = s5 := by have := congrArg (fun a => a[1]?) he5; simpa using this
            exact ⟨.slice o5 m5 c5, .slice o6 m6 c6, by rw [hg], nt_keeps hk ((by rw [hs]; exact hn5 : Nt w5 (.slice o5 m5 c5) (Z.natAbs : Int) K).below H56.out (Nat.le_refl _)), nt_keeps hk (H6'.out.mono hK6)⟩
      · have hlI : 100 < (u.length : Int) := by omega
        have HB00 := hid (show B = false by rw [HBB.out, decide_eq_false hl]; rfl)
        clear HBB hl
        obtain ⟨⟨k0, k1, k2⟩, f0, f1, f2⟩ := HT.out _ (Below.refl _ _)
        go_wp2
        refine bodyPost_ret (v := .tuple #[.agg #[.bool false, .slice none 0 0, .slice none 0 0], .bool false]) (by simp [results, Tryz.results121, go_sem, k0, k1, k2]) rfl (HBad.out HB00.out _ ((Below.setCell (p := ⟨w.heap.size, 0, none⟩) (HB0.out) (Nat.le_refl _) _).setCell (p := ⟨w.heap.size, 1, none⟩) (Nat.le_refl _) _ |>.setCell (p := ⟨w.heap.size, 2, none⟩) (Nat.le_refl _) _))
end Go.Proofs.YtilpkocmdpofpaaGreatDoor

/- exact.parseFraction and exact.ParseRatio, exact.Parse of any text. -/
namespace Go.Proofs.YtilpkocmdpofpaaGreatDoor
open Go.RowKit

/-- The package variable of strings' search holds a number. -/
def Mx (w : World) : Prop := ∃ m : Int, w.cell? ⟨3, 0, none⟩ = some (.int .i64 m)
theorem Mx.below {w w' : World} (h : Mx w) (hb : Below w.heap.size w w') : Mx w' := by
  obtain ⟨m, h⟩ := h
  exact ⟨m, (hb.cell (p := ⟨3, 0, none⟩) (World.block_lt_of_cell? w _ h)).trans h⟩

/-- A text around the first one of a byte. -/
abbrev cutA (c : UInt8) (l : List UInt8) : List UInt8 := (Lib.cut l [c]).1
abbrev cutZ (c : UInt8) (l : List UInt8) : List UInt8 := (Lib.cut l [c]).2.1
abbrev cutB (c : UInt8) (l : List UInt8) : Bool := (Lib.cut l [c]).2.2
theorem cut_len (c : UInt8) (l : List UInt8) : (cutA c l).length + (cutZ c l).length ≤ l.length := by
  unfold cutA cutZ Lib.cut
  split
  · simp; omega
  · simp
/-- The texts of numbers, their numerators and denominators. -/
def prfB (l : List UInt8) : Bool := if cutB 47 l then quoB (cutA 47 l) (cutZ 47 l) else if cutB 46 l then decB (cutA 46 l) (cutZ 46 l) else prsB l
def prfN (l : List UInt8) : Int := if cutB 47 l then prsZ (cutA 47 l) else if cutB 46 l then decZ (cutA 46 l) (cutZ 46 l) else prsZ l
def prfD (l : List UInt8) : Int := if cutB 47 l then prsZ (cutZ 47 l) else if cutB 46 l then 10 ^ (cutZ 46 l).length else 1

theorem Cut_any (c : UInt8) (l : List UInt8) (hl : l.length ≤ 100000) (w : World) (hm : Mx w) :
    Calls Tryz.prog 119 #[.string ⟨l.toArray⟩, .string ⟨#[c]⟩] w fun e w' => e = .returned (.tuple #[.string ⟨(cutA c l).toArray⟩, .string ⟨(cutZ c l).toArray⟩, .bool (cutB c l)]) ∧ Below w.heap.size w w' := by
  obtain ⟨m, hm⟩ := hm
  refine (Tryz.strings_Cut ⟨l.toArray⟩ ⟨#[c]⟩ m w (by simp [ByteArray.size]; omega) hm).mono ?_
  rintro e w' ⟨rfl, n, rfl⟩
  exact ⟨by simp, below_drewN (Below.refl _ _) n⟩

set_option maxRecDepth 100000 in
set_option maxHeartbeats 1000000 in
theorem parseFraction_any (l : List UInt8) (hl : l.length ≤ 100000) (w : World) (hm : Mx w) :
    Calls Tryz.prog 66 #[.string ⟨l.toArray⟩] w (RetPF (prfB l) (prfN l) (prfD l) (l.length + 6) w) := by
  have l1 := cut_len 47 l
  have l2 := cut_len 46 l
  obtain ⟨K, hK⟩ : ∃ K, K = l.length + 6 := ⟨_, rfl⟩
  rw [← hK]
  have HC1 := hid (fun w' (h : Mx w') => Cut_any 47 l hl w' h)
  have HC2 := hid (fun w' (h : Mx w') => Cut_any 46 l hl w' h)
  have HQ := hid (fun w' => parseQuotient_any (cutA 47 l) (cutZ 47 l) (by omega) (by omega) K (by omega) (by omega) w')
  have HD := hid (fun w' => parseDecimal_any (cutA 46 l) (cutZ 46 l) (by omega) K (by omega) (by omega) w')
  have HI : Hid (∀ w', Calls Tryz.prog 101 #[.string ⟨l.toArray⟩] w' (RetPI (prsB l) (prsZ l) K w')) := hid (fun w' => (parseInteger_any l hl w').mono (by rintro e w2 ⟨v, y, rfl, h, h2⟩; exact ⟨v, y, rfl, h.mono' (by omega), h2⟩))
  have HK1 : 1 ≤ K := by omega
  have HM := hid hm
  clear hK l1 l2 hl hm
  obtain ⟨B, hB⟩ : ∃ B, B = prfB l := ⟨_, rfl⟩
  obtain ⟨N, hN⟩ : ∃ N, N = prfN l := ⟨_, rfl⟩
  obtain ⟨D, hD⟩ : ∃ D, D = prfD l := ⟨_, rfl⟩
  rw [← hB, ← hN, ← hD]
  have HB := hid hB; have HN := hid hN; have HDD := hid hD
  clear hB hN hD
  go_enter Tryz.func66, Tryz.ntmps66
  obtain ⟨W0, hW0⟩ : ∃ W0, W0 = w.alloc (.cells #[.bool false, .slice none 0 0, .slice none 0 0] 86) := ⟨_, rfl⟩
  have hB0 : Below w.heap.size w W0 := by rw [hW0]; exact (Below.refl _ _).alloc (Nat.le_refl _) _
  have HT : Hid (∀ w', Below W0.heap.size W0 w' → (w'.cell? ⟨w.heap.size, 0, none⟩ = some (.bool false) ∧ w'.cell? ⟨w.heap.size, 1, none⟩ = some (.slice none 0 0) ∧ w'.cell? ⟨w.heap.size, 2, none⟩ = some (.slice none 0 0)) ∧ w'.frozen? ⟨w.heap.size, 0, none⟩ = false ∧ w'.frozen? ⟨w.heap.size, 1, none⟩ = false ∧ w'.frozen? ⟨w.heap.size, 2, none⟩ = false) := hid (fun w' hb => by
    refine ⟨⟨?_, ?_, ?_⟩, ?_, ?_, ?_⟩ <;> (first | (rw [hb.cell (by rw [hW0]; simp), hW0]; simp [go_sem]; done) | (rw [hb.frozen (by rw [hW0]; simp), hW0]; simp [go_sem]; done)))
  have HB0 := hid hB0; have HW := hid hW0
  have HM0 := hid (HM.out.below hB0)
  clear hW0 hB0
  have Hend := hid (show ∀ (w' : World) (b : Bool) (s1 s2 : Value) (g : Bool) (bq : Bool) (n d x y : Int), Below W0.heap.size W0 w' → Ft w' (.agg #[.bool g, s1, s2]) x y K → (bq = true → x = n ∧ y = d) → B = bq → N = n → D = d →
      RetPF B N D K w (.returned (.tuple #[.agg #[.bool g, s1, s2], .bool bq])) (((w'.setCell ⟨w.heap.size, 0, none⟩ (.bool g)).setCell ⟨w.heap.size, 1, none⟩ s1).setCell ⟨w.heap.size, 2, none⟩ s2) from fun w' b s1 s2 g bq n d x y hb hf he eB eN eD => by
    obtain ⟨⟨k0, k1, k2⟩, _, _, _⟩ := HT.out w' hb
    have hk := (((Keeps.refl .u64 w').setCell (a := ⟨w.heap.size, 0, none⟩) (u := .bool false) k0 (fun x h => (by cases h)) (.bool g)).setCell (a := ⟨w.heap.size, 1, none⟩) (u := .slice none 0 0) (by simp [go_sem, k1]) (fun x h => (by cases h)) s1).setCell (a := ⟨w.heap.size, 2, none⟩) (u := .slice none 0 0) (by simp [go_sem, k2]) (fun x h => (by cases h)) s2
    obtain ⟨s5, s6, he5, hn5, hn6⟩ := hf
    exact ⟨_, x, y, by rw [eB], ⟨s5, s6, he5, nt_keeps hk hn5, nt_keeps hk hn6⟩, (fun h => by rw [eN, eD]; exact he (by rw [← eB]; exact h)), ((HB0.out.trans (hb.mono HB0.out.size)).setCell (p := ⟨w.heap.size, 0, none⟩) (Nat.le_refl _) _).setCell (p := ⟨w.heap.size, 1, none⟩) (Nat.le_refl _) _ |>.setCell (p := ⟨w.heap.size, 2, none⟩) (Nat.le_refl _) _⟩)
  go_wp2_with fail
  rw [← HW.out]
  refine (HC1.out W0 HM0.out).mono ?_
  rintro e w1 ⟨rfl, hb1⟩
  have HX1 := hid hb1
  have HM1 := hid (HM0.out.below hb1)
  clear hb1
  obtain ⟨f1, hf1⟩ : ∃ f, f = cutB 47 l := ⟨_, rfl⟩
  rw [← hf1]
  cases hc1 : f1 with
  | true =>
    rw [hc1] at hf1
    have hB1 := hid (show B = quoB (cutA 47 l) (cutZ 47 l) by rw [HB.out]; unfold prfB; rw [if_pos hf1.symm])
    have hN1 := hid (show N = prsZ (cutA 47 l) by rw [HN.out]; unfold prfN; rw [if_pos hf1.symm])
    have hD1 := hid (show D = prsZ (cutZ 47 l) by rw [HDD.out]; unfold prfD; rw [if_pos hf1.symm])
    clear hf1 hc1
    go_wp2_with (go_at_call 120; refine (HQ.out _).mono ?_; rintro e w2 ⟨v2, x, y, rfl, hf, he, hb2⟩; obtain ⟨g5, o5, m5, c5, o6, m6, c6, rfl, HF1, HF2, HFb⟩ := Ft.opened hf; obtain ⟨⟨k0, k1, k2⟩, f0, f1, f2⟩ := HT.out w2 (HX1.out.trans (hb2.mono HX1.out.size)); have HX2 := hid hb2; have HE := hid he; have HF := hid hf; clear hb2 he hf)
    refine bodyPost_ret (v := .tuple #[.agg #[.bool g5, .slice o5 m5 c5, .slice o6 m6 c6], .bool (quoB (cutA 47 l) (cutZ 47 l))]) (by simp [results, Tryz.results66, go_sem, k0, k1, k2]) rfl (Hend.out _ true _ _ _ _ _ _ _ _ (HX1.out.trans (HX2.out.mono HX1.out.size)) HF.out HE.out hB1.out hN1.out hD1.out)
  | false =>
    rw [hc1] at hf1
    have hne1 : ¬ cutB 47 l = true := by rw [← hf1]; exact Bool.false_ne_true
    have HNE1 := hid hne1
    clear hf1 hc1 hne1
    go_wp2_with fail
    refine (HC2.out _ HM1.out).mono ?_
    rintro e w2 ⟨rfl, hb2⟩
    have HX2 := hid (show Below W0.heap.size W0 w2 from HX1.out.trans (hb2.mono HX1.out.size))
    clear hb2
    obtain ⟨f2, hf2⟩ : ∃ f, f = cutB 46 l := ⟨_, rfl⟩
    rw [← hf2]
    cases hc2 : f2 with
    | true =>
      rw [hc2] at hf2
      have hB1 := hid (show B = decB (cutA 46 l) (cutZ 46 l) by rw [HB.out]; unfold prfB; rw [if_neg HNE1.out, if_pos hf2.symm])
      have hN1 := hid (show N = decZ (cutA 46 l) (cutZ 46 l) by rw [HN.out]; unfold prfN; rw [if_neg HNE1.out, if_pos hf2.symm])
      have hD1 := hid (show D = 10 ^ (cutZ 46 l).length by rw [HDD.out]; unfold prfD; rw [if_neg HNE1.out, if_pos hf2.symm])
      clear hf2 hc2
      go_wp2_with (go_at_call 121; refine (HD.out _).mono ?_; rintro e w3 ⟨v2, x, y, rfl, hf, he, hb3⟩; obtain ⟨g5, o5, m5, c5, o6, m6, c6, rfl, HF1, HF2, HFb⟩ := Ft.opened hf; obtain ⟨⟨k0, k1, k2⟩, f0, f1, f2⟩ := HT.out w3 (HX2.out.trans (hb3.mono HX2.out.size)); have HX3 := hid hb3; have HE := hid he; have HF := hid hf; clear hb3 he hf)
      refine bodyPost_ret (v := .tuple #[.agg #[.bool g5, .slice o5 m5 c5, .slice o6 m6 c6], .bool (decB (cutA 46 l) (cutZ 46 l))]) (by simp [results, Tryz.results66, go_sem, k0, k1, k2]) rfl (Hend.out _ true _ _ _ _ _ _ _ _ (HX2.out.trans (HX3.out.mono HX2.out.size)) HF.out HE.out hB1.out hN1.out hD1.out)
    | false =>
      rw [hc2] at hf2
      have hne2 : ¬ cutB 46 l = true := by rw [← hf2]; exact Bool.false_ne_true
      have hB1 := hid (show B = prsB l by rw [HB.out]; unfold prfB; rw [if_neg HNE1.out, if_neg hne2])
      have hN1 := hid (show N = prsZ l by rw [HN.out]; unfold prfN; rw [if_neg HNE1.out, if_neg hne2])
      have hD1 := hid (show D = 1 by rw [HDD.out]; unfold prfD; rw [if_neg HNE1.out, if_neg hne2])
      clear hf2 hc2 hne2
      go_wp2_with fail
      refine (HI.out _).mono ?_
      rintro e w3 ⟨v3, y3, rfl, hv3, hy3, hb3⟩
      obtain ⟨g3, o3, m3, c3, rfl, H3, _, _⟩ := It.opened hv3
      have HX3 := hid (show Below W0.heap.size W0 w3 from HX2.out.trans (hb3.mono HX2.out.size))
      have HY3 := hid hy3
      clear hv3 hy3 hb3
      go_wp2_with fail
      refine (whole_any _ y3 K _ (H3.out _ ((Below.refl _ _).alloc (Nat.le_refl _) _)) HK1).mono ?_
      rintro e w4 ⟨v4, rfl, hf, hb4⟩
      obtain ⟨g5, o5, m5, c5, o6, m6, c6, rfl, HF1, HF2, HFb⟩ := Ft.opened hf
      have HX4 := hid (show Below W0.heap.size W0 w4 from (HX3.out.alloc HX3.out.size _).trans (hb4.mono (by have := HX3.out.size; simp; omega)))
      obtain ⟨⟨k0, k1, k2⟩, f0, f1, f2⟩ := HT.out w4 HX4.out
      have HF := hid hf
      clear hb4 hf
      go_wp2
      refine bodyPost_ret (v := .tuple #[.agg #[.bool g5, .slice o5 m5 c5, .slice o6 m6 c6], .bool (prsB l)]) (by simp [results, Tryz.results66, go_sem, k0, k1, k2]) rfl (Hend.out _ true _ _ _ _ _ _ _ _ (HX4.out) HF.out (fun h => ⟨HY3.out h, rfl⟩) hB1.out hN1.out hD1.out)
end Go.Proofs.YtilpkocmdpofpaaGreatDoor

/- exact.Parse and exact.ParseRatio of any text. -/
namespace Go.Proofs.YtilpkocmdpofpaaGreatDoor
open Go.RowKit

def prfE (l : List UInt8) : Int := if 4096 < l.length then 3 else if prfB l then 0 else 5
theorem prf_pos {l : List UInt8} (h : prfB l = true) : 0 < prfD l := by
  unfold prfB at h
  unfold prfD
  split
  · rename_i hc
    rw [if_pos hc] at h
    unfold quoB at h
    simp only [Bool.and_eq_true, decide_eq_true_eq] at h
    exact h.2
  · split
    · exact Int.pow_pos (by decide)
    · decide
/-- What ParseRatio hands back. -/
def RetPR (l : List UInt8) (K : Nat) (w : World) (e : Ending) (w' : World) : Prop :=
  ∃ b1 o1 m1 c1 b2 o2 m2 c2, e = .returned (.tuple #[.agg #[.bool b1, .slice o1 m1 c1, .bool b2, .slice o2 m2 c2], .int .i64 (prfE l)]) ∧ (prfE l = 0 → FrR w w' (.agg #[.bool b1, .slice o1 m1 c1, .bool b2, .slice o2 m2 c2]) (lowN (prfN l) (prfD l)) (lowD (prfN l) (prfD l)) K) ∧ Below w.heap.size w w'

set_option maxRecDepth 100000 in
set_option maxHeartbeats 1000000 in
theorem ParseRatio_any (l : List UInt8) (hl : l.length ≤ 100000) (w : World) (hm : Mx w) :
    Calls Tryz.prog 15 #[.string ⟨l.toArray⟩] w (RetPR l (2 * (l.length + 6)) w) := by
  have HF := hid (fun w' (h : Mx w') => parseFraction_any l hl w' h)
  obtain ⟨K, hK⟩ : ∃ K, K = l.length + 6 := ⟨_, rfl⟩
  rw [← hK] at HF ⊢
  have HK := hid (show K ≤ 200000 by omega)
  have HM := hid hm
  have Hpos := hid (fun h : prfB l = true => prf_pos h)
  clear hK hl hm
  go_enter Tryz.func15, Tryz.ntmps15
  obtain ⟨W0, hW0⟩ : ∃ W0, W0 = w.alloc (.cells #[.bool false, .slice none 0 0, .bool false, .slice none 0 0] 26) := ⟨_, rfl⟩
  have hB0 : Below w.heap.size w W0 := by rw [hW0]; exact (Below.refl _ _).alloc (Nat.le_refl _) _
  have hz0 : W0.heap.size = w.heap.size + 1 := by rw [hW0]; simp
  have HT : Hid (∀ w', Below W0.heap.size W0 w' → (w'.cell? ⟨w.heap.size, 0, none⟩ = some (.bool false) ∧ w'.cell? ⟨w.heap.size, 1, none⟩ = some (.slice none 0 0) ∧ w'.cell? ⟨w.heap.size, 2, none⟩ = some (.bool false) ∧ w'.cell? ⟨w.heap.size, 3, none⟩ = some (.slice none 0 0)) ∧ w'.frozen? ⟨w.heap.size, 0, none⟩ = false ∧ w'.frozen? ⟨w.heap.size, 1, none⟩ = false ∧ w'.frozen? ⟨w.heap.size, 2, none⟩ = false ∧ w'.frozen? ⟨w.heap.size, 3, none⟩ = false) := hid (fun w' hb => by
    refine ⟨⟨?_, ?_, ?_, ?_⟩, ?_, ?_, ?_, ?_⟩ <;> (first | (rw [hb.cell (by rw [hW0]; simp), hW0]; simp [go_sem]; done) | (rw [hb.frozen (by rw [hW0]; simp), hW0]; simp [go_sem]; done)))
  have HB0 := hid hB0; have HW := hid hW0; have Hz0 := hid hz0
  have HM0 := hid (HM.out.below hB0)
  clear hW0 hB0 hz0
  obtain ⟨E, hE⟩ : ∃ E, E = prfE l := ⟨_, rfl⟩
  have HE := hid hE
  have Hbad := hid (show ∀ (w' : World) (E0 : Int), E = E0 → E0 ≠ 0 → Below W0.heap.size W0 w' → RetPR l (2 * K) w (.returned (.tuple #[.agg #[.bool false, .slice none 0 0, .bool false, .slice none 0 0], .int .i64 E0])) ((((w'.setCell ⟨w.heap.size, 0, none⟩ (.bool false)).setCell ⟨w.heap.size, 1, none⟩ (.slice none 0 0)).setCell ⟨w.heap.size, 2, none⟩ (.bool false)).setCell ⟨w.heap.size, 3, none⟩ (.slice none 0 0)) from fun w' E0 e1 e2 hb =>
    ⟨false, none, 0, 0, false, none, 0, 0, by rw [← e1, hE], (fun h => absurd (by rw [← e1, hE]; exact h) e2), (((HB0.out.trans (hb.mono HB0.out.size)).setCell (p := ⟨w.heap.size, 0, none⟩) (Nat.le_refl _) _).setCell (p := ⟨w.heap.size, 1, none⟩) (Nat.le_refl _) _ |>.setCell (p := ⟨w.heap.size, 2, none⟩) (Nat.le_refl _) _ |>.setCell (p := ⟨w.heap.size, 3, none⟩) (Nat.le_refl _) _)⟩)
  by_cases hlong : 4096 < l.length
  · have hlI : 4096 < (l.length : Int) := by omega
    have HE3 := hid (show E = 3 by rw [hE]; unfold prfE; rw [if_pos hlong])
    clear hlong hE
    go_upto_region 1 with (fail)
    rw [← HW.out]
    obtain ⟨⟨k0, k1, k2, k3⟩, f0, f1, f2, f3⟩ := HT.out W0 (Below.refl _ _)
    go_wp2
    refine bodyPost_ret (v := .tuple #[.agg #[.bool false, .slice none 0 0, .bool false, .slice none 0 0], .int .i64 3]) (by simp [results, Tryz.results15, go_sem, k0, k1, k2, k3]) rfl (Hbad.out _ 3 HE3.out (by decide) (Below.refl _ _))
  · have hlI : ¬ 4096 < (l.length : Int) := by omega
    obtain ⟨b, hb⟩ : ∃ b, b = prfB l := ⟨_, rfl⟩
    have hEb : E = if b then 0 else 5 := by rw [hE, hb]; unfold prfE; rw [if_neg hlong]
    have HEB := hid hEb
    have HP2 := hid (fun h : b = true => Hpos.out (by rw [← hb]; exact h))
    have HF2 := hid (fun w' (h : Mx w') => show Calls Tryz.prog 66 #[.string ⟨l.toArray⟩] w' (RetPF b (prfN l) (prfD l) K w') by rw [hb]; exact HF.out w' h)
    obtain ⟨N, hN⟩ : ∃ N, N = prfN l := ⟨_, rfl⟩
    obtain ⟨D, hD⟩ : ∃ D, D = prfD l := ⟨_, rfl⟩
    rw [← hN, ← hD] at HF2
    rw [← hD] at HP2
    have HN := hid hN; have HD := hid hD
    clear hlong hE hEb hb HF Hpos hN hD
    go_upto_region 1 with (fail)
    rw [← HW.out]
    go_wp2_with fail
    refine (HF2.out _ HM0.out).mono ?_
    rintro e w2 ⟨v2, x, y, rfl, hf, he, hb2⟩
    obtain ⟨g5, o5, m5, c5, o6, m6, c6, rfl, HF1, _, _⟩ := Ft.opened hf
    have HX2 := hid hb2; have HEq := hid he; have HFt := hid hf
    clear hb2 he hf
    go_upto_region 4 with (fail)
    obtain ⟨W3, hW3⟩ : ∃ W3, W3 = w2.alloc (.cells #[.bool g5, .slice o5 m5 c5, .slice o6 m6 c6] 86) := ⟨_, rfl⟩
    have HA3 := hid (show Below w2.heap.size w2 W3 by rw [hW3]; exact (Below.refl _ _).alloc (Nat.le_refl _) _)
    have hq0 : W3.cell? ⟨w2.heap.size, 0, none⟩ = some (.bool g5) := by rw [hW3]; simp [go_sem]
    have hq1 : W3.cell? ⟨w2.heap.size, 1, none⟩ = some (.slice o5 m5 c5) := by rw [hW3]; simp [go_sem]
    have hq2 : W3.cell? ⟨w2.heap.size, 2, none⟩ = some (.slice o6 m6 c6) := by rw [hW3]; simp [go_sem]
    rw [← hW3]
    have HX3 := hid (show Below W0.heap.size W0 W3 from HX2.out.trans (HA3.out.mono HX2.out.size))
    clear hW3
    cases hbb : b with
    | false =>
      subst hbb
      have HE5 := hid (show E = 5 by rw [HEB.out]; rfl)
      clear HEB
      obtain ⟨⟨k0, k1, k2, k3⟩, f0, f1, f2, f3⟩ := HT.out W3 HX3.out
      go_wp2
      refine bodyPost_ret (v := .tuple #[.agg #[.bool false, .slice none 0 0, .bool false, .slice none 0 0], .int .i64 5]) (by simp [results, Tryz.results15, go_sem, k0, k1, k2, k3]) rfl (Hbad.out _ 5 HE5.out (by decide) HX3.out)
    | true =>
      subst hbb
      have HE0 := hid (show E = 0 by rw [HEB.out]; rfl)
      clear HEB
      obtain ⟨hx, hy⟩ := HEq.out rfl
      have HV := hid (fracValue_any _ x y K W3 (HFt.out.below HA3.out (Nat.le_refl _)) (by rw [hy]; exact HP2.out rfl) (by have := HK.out; omega))
      have HXY := hid (show x = N ∧ y = D from ⟨hx, hy⟩)
      clear hx hy
      go_wp2_with fail
      refine HV.out.mono ?_
      rintro e w4 ⟨v4, rfl, hv4, hb4⟩
      obtain ⟨z1, o7, m7, c7, z2, o8, m8, c8, rfl, H6, H7⟩ := FrR.opened hv4
      have HX4 := hid (show Below W0.heap.size W0 w4 from HX3.out.trans (hb4.mono HX3.out.size))
      have hlt : w.heap.size < W3.heap.size := by have := HX3.out.size; have := Hz0.out; omega
      obtain ⟨⟨k0, k1, k2, k3⟩, f0, f1, f2, f3⟩ := HT.out w4 HX4.out
      have Hlt := hid hlt
      clear hv4 hb4 hlt
      go_wp2
      refine bodyPost_ret (v := .tuple #[.agg #[.bool z1, .slice o7 m7 c7, .bool z2, .slice o8 m8 c8], .int .i64 0]) (by simp [results, Tryz.results15, go_sem, k0, k1, k2, k3]) rfl ⟨z1, o7, m7, c7, z2, o8, m8, c8, by rw [← HE.out, HE0.out], (fun _ => ?_), (((HB0.out.trans (HX4.out.mono HB0.out.size)).setCell (p := ⟨w.heap.size, 0, none⟩) (Nat.le_refl _) _).setCell (p := ⟨w.heap.size, 1, none⟩) (Nat.le_refl _) _ |>.setCell (p := ⟨w.heap.size, 2, none⟩) (Nat.le_refl _) _ |>.setCell (p := ⟨w.heap.size, 3, none⟩) (Nat.le_refl _) _)⟩
      have hsz : w.heap.size ≤ W3.heap.size := Nat.le_of_lt Hlt.out
      rw [← HN.out, ← HD.out, ← HXY.out.1, ← HXY.out.2]
      refine ⟨_, _, _, _, rfl, ?_, ?_⟩
      · exact ((((H6.out.set Hlt.out _).set Hlt.out _).set Hlt.out _).set Hlt.out _).base hsz
      · exact ((((H7.out.set Hlt.out _).set Hlt.out _).set Hlt.out _).set Hlt.out _).base hsz
end Go.Proofs.YtilpkocmdpofpaaGreatDoor

/- The texts of numbers, read again, are these numbers. -/
namespace Go.Proofs.YtilpkocmdpofpaaGreatDoor
open Go.RowKit

/-- A sign ahead of digits. -/
def sgL (b : Bool) (l : List UInt8) : List UInt8 := if b then 45 :: l else l
/-- The text of an integer, as a list. -/
def txL (z : Int) : List UInt8 := sgL (decide (z < 0)) (Lib.decDigits z.natAbs)
theorem tx_eq (z : Int) : tx z = ⟨(txL z).toArray⟩ := by
  unfold tx txL sgL
  by_cases h : z < 0
  · rw [if_pos h, decide_eq_true h]
    apply ByteArray.ext
    simp [ByteArray.data_append]
  · rw [if_neg h, decide_eq_false h]
    rfl
/-- The text of a ratio, as a list. -/
def shL (N D : Int) : List UInt8 := if D = 1 then txL N else txL N ++ 47 :: txL D
theorem sh_eq (N : Int) {D : Int} (hD : 0 < D) : shT N D = ⟨(shL N D).toArray⟩ := by
  unfold shT shL
  by_cases h : D = 1
  · rw [if_pos h, if_pos h]; exact tx_eq N
  · rw [if_neg h, if_neg h, tx_eq]
    have e : txL D = Lib.decDigits D.natAbs := by unfold txL sgL; rw [decide_eq_false (by omega : ¬ D < 0)]; rfl
    rw [e]
    apply ByteArray.ext
    simp [ByteArray.data_append]
/-- The decimals, as a list. -/
def dcS (N : Int) (p : Nat) : List UInt8 := sgL (decide (N < 0)) ((dcL N p).take ((dcL N p).length - p) ++ if 0 < p then 46 :: (dcL N p).drop ((dcL N p).length - p) else [])
theorem dc_eq (N : Int) (p : Nat) : dcT N p = ⟨(dcS N p).toArray⟩ := by
  have hb : dcB ⟨(dcL N p).toArray⟩ p = ⟨((dcL N p).take ((dcL N p).length - p) ++ if 0 < p then 46 :: (dcL N p).drop ((dcL N p).length - p) else []).toArray⟩ := by
    unfold dcB
    have e : (⟨(dcL N p).toArray⟩ : ByteArray).size = (dcL N p).length := rfl
    have e2 := ba_drop (dcL N p) ((dcL N p).length - p)
    rw [e] at e2
    rw [e, e2, ba_take]
    by_cases h : 0 < p
    · rw [if_pos h, if_pos h]
      apply ByteArray.ext
      simp [ByteArray.data_append]
    · rw [if_neg h, if_neg h, List.append_nil]
  unfold dcT dcS sgL
  rw [hb]
  by_cases h : N < 0
  · rw [if_pos h, decide_eq_true h]
    apply ByteArray.ext
    simp [ByteArray.data_append]
  · rw [if_neg h, decide_eq_false h]
    rfl
end Go.Proofs.YtilpkocmdpofpaaGreatDoor
