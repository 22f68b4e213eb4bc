/- exact.parseDecimal of any two texts: what stands before the point, and behind it. exact.parseFraction and exact.ParseRatio, exact.Parse of any text. exact.Parse and exact.ParseRatio of any text. The texts of numbers, read again, are these numbers. -/
import Derived.Test.YtbapeilpkhbbeaaGreatDoorYn28
import Derived.Test.YtbapeilpkhbbeaaGreatDoorYn32
import Derived.Lib.IndexMore
import Derived.Test.YtbapeilpkhbbeaaGreatDoorYn16
import Derived.Test.YtbapeilpkhbbeaaGreatDoorYn29
/- exact.parseDecimal of any two texts: what stands before the point, and behind it. -/
namespace Go.Proofs.YtbapeilpkhbbeaaGreatDoor
open Go.RowKit

/-- The text of a decimal fraction. -/
def decB (t u : List UInt8) : Bool := !(bodyL t).isEmpty && !u.isEmpty && decide (u.length ≤ 100) && leadB (bodyL t) && digB (bodyL t ++ u)
/-- Its digits' number, with the sign. -/
def decZ (t u : List UInt8) : Int := sgn (negB t) ((dv (bodyL t ++ u) : Nat) : Int)

set_option maxRecDepth 100000 in
set_option maxHeartbeats 1000000 in
theorem parseDecimal_any (t u : List UInt8) (ht : t.length + u.length ≤ 100000) (K : Nat) (hK : t.length + u.length + 1 ≤ K) (hK6 : 6 ≤ K) (w : World) :
    Calls Tryz.prog 70 #[.string ⟨t.toArray⟩, .string ⟨u.toArray⟩] w (RetPF (decB t u) (decZ t u) (10 ^ u.length) K w) := by
  have hlen := bodyL_len t
  have HC := hid (fun w' => Tryz.strings_CutPrefix ⟨t.toArray⟩ ⟨#[45]⟩ w')
  obtain ⟨B, hB⟩ : ∃ B, B = decB t u := ⟨_, rfl⟩
  obtain ⟨Z, hZ⟩ : ∃ z, z = decZ t u := ⟨_, rfl⟩
  obtain ⟨ds, hds⟩ : ∃ ds, ds = bodyL t := ⟨_, rfl⟩
  obtain ⟨neg, hneg⟩ : ∃ b, b = negB t := ⟨_, rfl⟩
  have HC2 : Hid (∀ w', Calls Tryz.prog 112 #[.string ⟨t.toArray⟩, .string ⟨#[45]⟩] w' fun e w2 => e = .returned (.tuple #[.string ⟨ds.toArray⟩, .bool neg]) ∧ w2 = w') := hid (fun w' => by rw [hds, hneg]; exact HC.out w')
  have HP0 := fun w' => parseDigits_any (ds ++ u) (by rw [List.length_append, hds]; omega) w'
  obtain ⟨b, hb⟩ : ∃ b, b = digB (ds ++ u) := ⟨_, rfl⟩
  have hsum : (⟨(ds ++ u).toArray⟩ : ByteArray) = ⟨ds.toArray⟩ ++ ⟨u.toArray⟩ := by
    apply ByteArray.ext
    simp [ByteArray.data_append]
  have HP : Hid (∀ w', Calls Tryz.prog 114 #[.string (⟨ds.toArray⟩ ++ ⟨u.toArray⟩)] w' fun e w2 => ∃ v y, e = .returned (.tuple #[v, .bool b]) ∧ Nt w2 v y K ∧ (b = true → y = ((dv (ds ++ u) : Nat) : Int)) ∧ Below w'.heap.size w' w2) := hid (fun w' => by
    rw [← hsum]
    refine (HP0 w').mono ?_
    rintro e w2 ⟨v, y, rfl, h1, h2, h3⟩
    refine ⟨v, y, by rw [hb]; rfl, h1.mono (by rw [List.length_append, hds]; omega), fun h => h2 ?_, h3⟩
    rw [hb] at h
    unfold digB at h
    rw [Bool.and_eq_true, decide_eq_true_eq] at h
    exact h)
  obtain ⟨ld, hld⟩ : ∃ b, b = leadB ds := ⟨_, rfl⟩
  have HL : Hid (∀ w', Calls Tryz.prog 113 #[.string ⟨ds.toArray⟩] w' fun e w2 => e = .returned (.bool ld) ∧ w2 = w') := hid (fun w' => by rw [hld]; exact leading_any ds w')
  obtain ⟨e1, he1⟩ : ∃ e, e = ds.isEmpty := ⟨_, rfl⟩
  obtain ⟨e2, he2⟩ : ∃ e, e = u.isEmpty := ⟨_, rfl⟩
  have HBB := hid (show B = (!e1 && !e2 && decide (u.length ≤ 100) && ld && b) by rw [hB, he1, he2, hld, hb, hds]; rfl)
  have HZZ := hid (show Z = sgn neg ((dv (ds ++ u) : Nat) : Int) by rw [hZ, hneg, hds]; rfl)
  rw [← hB, ← hZ]
  have hE1 := he1.symm
  have hE2 := he2.symm
  have hsz : ds.length + u.length ≤ 100000 := by rw [hds]; omega
  clear HP0 HC hB hZ hds hneg hb hld he1 he2 hlen ht hK hsum
  have hbld : ∀ (b : Bool) (o o2 : Option Addr) (m c m2 c2 : Nat) (w : World), (Instr.build 58 #[(0, .agg #[.bool b, .slice o m c]), (1, .slice o2 m2 c2)]).run Tryz.prog w = .ok (.agg #[.bool b, .slice o m c, .slice o2 m2 c2]) w := fun b o o2 m c m2 c2 w => by kernel_rfl
  go_enter Tryz.func70, Tryz.ntmps70
  obtain ⟨W0, hW0⟩ : ∃ W0, W0 = w.alloc (.cells #[.bool false, .slice none 0 0, .slice none 0 0] 58) := ⟨_, rfl⟩
  have hB0 : Below w.heap.size w W0 := by rw [hW0]; exact (Below.refl _ _).alloc (Nat.le_refl _) _
  have HT : Hid (∀ w', Below W0.heap.size W0 w' → (w'.cell? ⟨w.heap.size, 0, none⟩ = some (.bool false) ∧ w'.cell? ⟨w.heap.size, 1, none⟩ = some (.slice none 0 0) ∧ w'.cell? ⟨w.heap.size, 2, none⟩ = some (.slice none 0 0)) ∧ w'.frozen? ⟨w.heap.size, 0, none⟩ = false ∧ w'.frozen? ⟨w.heap.size, 1, none⟩ = false ∧ w'.frozen? ⟨w.heap.size, 2, none⟩ = false) := hid (fun w' hb => by
    refine ⟨⟨?_, ?_, ?_⟩, ?_, ?_, ?_⟩ <;> (first | (rw [hb.cell (by rw [hW0]; simp), hW0]; simp [go_sem]; done) | (rw [hb.frozen (by rw [hW0]; simp), hW0]; simp [go_sem]; done)))
  have HB0 := hid hB0; have HW := hid hW0
  clear hW0 hB0
  have HBad := hid (show B = false → ∀ w', Below w.heap.size w w' → RetPF B Z (10 ^ u.length) K w (.returned (.tuple #[.agg #[.bool false, .slice none 0 0, .slice none 0 0], .bool false])) w' from fun hb w' hbel => by
    refine ⟨_, 0, 0, by rw [hb], ⟨.slice none 0 0, .slice none 0 0, by rw [show decide ((0 : Int) < 0) = false from rfl], (Nt.nil _).mono (Nat.zero_le _), (Nt.nil _).mono (Nat.zero_le _)⟩, (fun h => by rw [hb] at h; cases h), hbel⟩)
  obtain ⟨D, hD⟩ : ∃ D : Int, D = 10 ^ u.length := ⟨_, rfl⟩
  have HD := hid hD
  rw [← hD] at HBad ⊢
  clear hD
  go_upto_region 2 with (go_at_call 112; refine (HC2.out _).mono ?_; rintro e w1 ⟨rfl, rfl⟩)
  rw [← HW.out]
  have hbel0 := HB0.out
  cases he1 : e1 with
  | true =>
    subst he1
    have HB00 := hid (show B = false by rw [HBB.out]; rfl)
    clear HBB
    obtain ⟨⟨k0, k1, k2⟩, f0, f1, f2⟩ := HT.out _ (Below.refl _ _)
    go_wp2
    refine bodyPost_ret (v := .tuple #[.agg #[.bool false, .slice none 0 0, .slice none 0 0], .bool false]) (by simp [results, Tryz.results70, go_sem, k0, k1, k2]) rfl (HBad.out HB00.out _ ((Below.setCell (p := ⟨w.heap.size, 0, none⟩) (HB0.out) (Nat.le_refl _) _).setCell (p := ⟨w.heap.size, 1, none⟩) (Nat.le_refl _) _ |>.setCell (p := ⟨w.heap.size, 2, none⟩) (Nat.le_refl _) _))
  | false =>
    subst he1
    cases he2 : e2 with
    | true =>
      subst he2
      have HB00 := hid (show B = false by rw [HBB.out]; rfl)
      clear HBB
      obtain ⟨⟨k0, k1, k2⟩, f0, f1, f2⟩ := HT.out _ (Below.refl _ _)
      go_wp2
      refine bodyPost_ret (v := .tuple #[.agg #[.bool false, .slice none 0 0, .slice none 0 0], .bool false]) (by simp [results, Tryz.results70, go_sem, k0, k1, k2]) rfl (HBad.out HB00.out _ ((Below.setCell (p := ⟨w.heap.size, 0, none⟩) (HB0.out) (Nat.le_refl _) _).setCell (p := ⟨w.heap.size, 1, none⟩) (Nat.le_refl _) _ |>.setCell (p := ⟨w.heap.size, 2, none⟩) (Nat.le_refl _) _))
    | false =>
      subst he2
      by_cases hl : u.length ≤ 100
      · have hlI : ¬ 100 < (u.length : Int) := by omega
        cases hld : ld with
        | false =>
          subst hld
          have HB00 := hid (show B = false by rw [HBB.out, decide_eq_true hl]; rfl)
          clear HBB hl
          obtain ⟨⟨k0, k1, k2⟩, f0, f1, f2⟩ := HT.out _ (Below.refl _ _)
          go_wp2_with (go_at_call 113; refine (HL.out _).mono ?_; rintro e w3 ⟨rfl, rfl⟩)
          refine bodyPost_ret (v := .tuple #[.agg #[.bool false, .slice none 0 0, .slice none 0 0], .bool false]) (by simp [results, Tryz.results70, go_sem, k0, k1, k2]) rfl (HBad.out HB00.out _ ((Below.setCell (p := ⟨w.heap.size, 0, none⟩) (HB0.out) (Nat.le_refl _) _).setCell (p := ⟨w.heap.size, 1, none⟩) (Nat.le_refl _) _ |>.setCell (p := ⟨w.heap.size, 2, none⟩) (Nat.le_refl _) _))
        | true =>
          subst hld
          go_upto_region 5 with (first | (go_at_call 113; refine (HL.out _).mono ?_; rintro e w3 ⟨rfl, rfl⟩) | (go_at_call 114; refine (HP.out _).mono ?_; rintro e w4 ⟨v4, y4, rfl, hv4, hy4, hb4⟩; obtain ⟨o4, m4, c4, rfl, HV4⟩ := Nt.opened hv4))
          have HX4 := hid hb4
          have HY4 := hid hy4
          have hyn := hv4.nonneg
          clear hb4 hy4 hv4
          cases hbb : b with
          | false =>
            subst hbb
            have HB00 := hid (show B = false by rw [HBB.out, decide_eq_true hl]; rfl)
            clear HBB hl
            obtain ⟨⟨k0, k1, k2⟩, f0, f1, f2⟩ := HT.out _ (HX4.out)
            go_wp2
            refine bodyPost_ret (v := .tuple #[.agg #[.bool false, .slice none 0 0, .slice none 0 0], .bool false]) (by simp [results, Tryz.results70, go_sem, k0, k1, k2]) rfl (HBad.out HB00.out _ ((Below.setCell (p := ⟨w.heap.size, 0, none⟩) (HB0.out.trans (HX4.out.mono HB0.out.size)) (Nat.le_refl _) _).setCell (p := ⟨w.heap.size, 1, none⟩) (Nat.le_refl _) _ |>.setCell (p := ⟨w.heap.size, 2, none⟩) (Nat.le_refl _) _))
          | true =>
            subst hbb
            have HB11 := hid (show B = true by rw [HBB.out, decide_eq_true hl]; rfl)
            have hy : y4 = ((dv (ds ++ u) : Nat) : Int) := HY4.out rfl
            have HS := hid (fun w' (hb : Below w4.heap.size w4 w') => signed_any neg _ y4 K w' (HV4.out w' hb))
            have HRt := hid (fun (v : Value) (w' : World) (h : Nt w' v 10 1) => (raise_ten v u.length w' h hl).mono (fun e w2 (h2 : RetN w' (10 ^ u.length) 6 e w2) => show RetN w' D 6 e w2 by rw [HD.out]; exact h2))
            have HZ2 := hid (show sgn neg y4 = Z by rw [HZZ.out, hy])
            clear HBB hl hy
            go_wp2_with (go_at_call 21; refine (HS.out _ (Below.refl _ _)).mono ?_; rintro e w5 ⟨v5, rfl, hv5, hb5⟩; obtain ⟨g5, o5, m5, c5, rfl, H5, _, _⟩ := It.opened hv5)
            refine (HRt.out _ _ (ten_row w5)).mono ?_
            rintro e w6 ⟨v6, rfl, hv6, hb6⟩
            obtain ⟨o6, m6, c6, rfl, _⟩ := Nt.opened hv6
            have hb46 : Below w4.heap.size w4 w6 := (hb5.trans (((Below.refl w5.heap.size w5).alloc (Nat.le_refl _) _).mono hb5.size)).trans (hb6.mono (by have := hb5.size; simp; omega))
            have hb56 : Below w5.heap.size w5 w6 := ((Below.refl w5.heap.size w5).alloc (Nat.le_refl _) _).trans (hb6.mono (by simp))
            obtain ⟨⟨k0, k1, k2⟩, f0, f1, f2⟩ := HT.out w6 (HX4.out.trans (hb46.mono HX4.out.size))
            have H56 := hid hb56; have H46 := hid hb46; have H5' := hid hv5; have H6' := hid hv6
            clear hb5 hb6 hb46 hb56 hv5 hv6
            go_wp2
            refine bodyPost_ret (v := .tuple #[.agg #[.bool g5, .slice o5 m5 c5, .slice o6 m6 c6], .bool true]) (by simp [results, Tryz.results70, go_sem, k0, k1, k2]) rfl ⟨_, Z, D, by rw [HB11.out], ?_, (fun _ => ⟨rfl, rfl⟩), ((HB0.out.trans ((HX4.out.trans (H46.out.mono HX4.out.size)).mono HB0.out.size)).setCell (p := ⟨w.heap.size, 0, none⟩) (Nat.le_refl _) _).setCell (p := ⟨w.heap.size, 1, none⟩) (Nat.le_refl _) _ |>.setCell (p := ⟨w.heap.size, 2, none⟩) (Nat.le_refl _) _⟩
            have hk := (((Keeps.refl .u64 w6).setCell (a := ⟨w.heap.size, 0, none⟩) (u := .bool false) k0 (fun x h => (by cases h)) (.bool g5)).setCell (a := ⟨w.heap.size, 1, none⟩) (u := .slice none 0 0) (by simp [go_sem, k1]) (fun x h => (by cases h)) (.slice o5 m5 c5)).setCell (a := ⟨w.heap.size, 2, none⟩) (u := .slice none 0 0) (by simp [go_sem, k2]) (fun x h => (by cases h)) (.slice o6 m6 c6)
            obtain ⟨s5, he5, hn5⟩ := H5'.out
            rw [HZ2.out] at he5 hn5
            injection he5 with he5
            have hg : g5 = decide (Z < 0) := by have := congrArg (fun a => a[0]?) he5; simpa using this
            have hs : (Value.slice o5 m5 c5) = s5 := by have := congrArg (fun a => a[1]?) he5; simpa using this
            exact ⟨.slice o5 m5 c5, .slice o6 m6 c6, by rw [hg], nt_keeps hk ((by rw [hs]; exact hn5 : Nt w5 (.slice o5 m5 c5) (Z.natAbs : Int) K).below H56.out (Nat.le_refl _)), nt_keeps hk (H6'.out.mono hK6)⟩
      · have hlI : 100 < (u.length : Int) := by omega
        have HB00 := hid (show B = false by rw [HBB.out, decide_eq_false hl]; rfl)
        clear HBB hl
        obtain ⟨⟨k0, k1, k2⟩, f0, f1, f2⟩ := HT.out _ (Below.refl _ _)
        go_wp2
        refine bodyPost_ret (v := .tuple #[.agg #[.bool false, .slice none 0 0, .slice none 0 0], .bool false]) (by simp [results, Tryz.results70, go_sem, k0, k1, k2]) rfl (HBad.out HB00.out _ ((Below.setCell (p := ⟨w.heap.size, 0, none⟩) (HB0.out) (Nat.le_refl _) _).setCell (p := ⟨w.heap.size, 1, none⟩) (Nat.le_refl _) _ |>.setCell (p := ⟨w.heap.size, 2, none⟩) (Nat.le_refl _) _))
end Go.Proofs.YtbapeilpkhbbeaaGreatDoor

/- exact.parseFraction and exact.ParseRatio, exact.Parse of any text. -/
namespace Go.Proofs.YtbapeilpkhbbeaaGreatDoor
open Go.RowKit

/-- The package variable of strings' search holds a number. -/
def Mx (w : World) : Prop := ∃ m : Int, w.cell? ⟨3, 0, none⟩ = some (.int .i64 m)
theorem Mx.below {w w' : World} (h : Mx w) (hb : Below w.heap.size w w') : Mx w' := by
  obtain ⟨m, h⟩ := h
  exact ⟨m, (hb.cell (p := ⟨3, 0, none⟩) (World.block_lt_of_cell? w _ h)).trans h⟩

/-- A text around the first one of a byte. -/
abbrev cutA (c : UInt8) (l : List UInt8) : List UInt8 := (Lib.cut l [c]).1
abbrev cutZ (c : UInt8) (l : List UInt8) : List UInt8 := (Lib.cut l [c]).2.1
abbrev cutB (c : UInt8) (l : List UInt8) : Bool := (Lib.cut l [c]).2.2
theorem cut_len (c : UInt8) (l : List UInt8) : (cutA c l).length + (cutZ c l).length ≤ l.length := by
  unfold cutA cutZ Lib.cut
  split
  · simp; omega
  · simp
/-- The texts of numbers, their numerators and denominators. -/
def prfB (l : List UInt8) : Bool := if cutB 47 l then quoB (cutA 47 l) (cutZ 47 l) else if cutB 46 l then decB (cutA 46 l) (cutZ 46 l) else prsB l
def prfN (l : List UInt8) : Int := if cutB 47 l then prsZ (cutA 47 l) else if cutB 46 l then decZ (cutA 46 l) (cutZ 46 l) else prsZ l
def prfD (l : List UInt8) : Int := if cutB 47 l then prsZ (cutZ 47 l) else if cutB 46 l then 10 ^ (cutZ 46 l).length else 1

theorem Cut_any (c : UInt8) (l : List UInt8) (hl : l.length ≤ 100000) (w : World) (hm : Mx w) :
    Calls Tryz.prog 68 #[.string ⟨l.toArray⟩, .string ⟨#[c]⟩] w fun e w' => e = .returned (.tuple #[.string ⟨(cutA c l).toArray⟩, .string ⟨(cutZ c l).toArray⟩, .bool (cutB c l)]) ∧ Below w.heap.size w w' := by
  obtain ⟨m, hm⟩ := hm
  refine (Tryz.strings_Cut ⟨l.toArray⟩ ⟨#[c]⟩ m w (by simp [ByteArray.size]; omega) hm).mono ?_
  rintro e w' ⟨rfl, n, rfl⟩
  exact ⟨by simp, below_drewN (Below.refl _ _) n⟩

set_option maxRecDepth 100000 in
set_option maxHeartbeats 1000000 in
theorem parseFraction_any (l : List UInt8) (hl : l.length ≤ 100000) (w : World) (hm : Mx w) :
    Calls Tryz.prog 32 #[.string ⟨l.toArray⟩] w (RetPF (prfB l) (prfN l) (prfD l) (l.length + 6) w) := by
  have l1 := cut_len 47 l
  have l2 := cut_len 46 l
  obtain ⟨K, hK⟩ : ∃ K, K = l.length + 6 := ⟨_, rfl⟩
  rw [← hK]
  have HC1 := hid (fun w' (h : Mx w') => Cut_any 47 l hl w' h)
  have HC2 := hid (fun w' (h : Mx w') => Cut_any 46 l hl w' h)
  have HQ := hid (fun w' => parseQuotient_any (cutA 47 l) (cutZ 47 l) (by omega) (by omega) K (by omega) (by omega) w')
  have HD := hid (fun w' => parseDecimal_any (cutA 46 l) (cutZ 46 l) (by omega) K (by omega) (by omega) w')
  have HI : Hid (∀ w', Calls Tryz.prog 71 #[.string ⟨l.toArray⟩] w' (RetPI (prsB l) (prsZ l) K w')) := hid (fun w' => (parseInteger_any l hl w').mono (by rintro e w2 ⟨v, y, rfl, h, h2⟩; exact ⟨v, y, rfl, h.mono' (by omega), h2⟩))
  have HK1 : 1 ≤ K := by omega
  have HM := hid hm
  clear hK l1 l2 hl hm
  obtain ⟨B, hB⟩ : ∃ B, B = prfB l := ⟨_, rfl⟩
  obtain ⟨N, hN⟩ : ∃ N, N = prfN l := ⟨_, rfl⟩
  obtain ⟨D, hD⟩ : ∃ D, D = prfD l := ⟨_, rfl⟩
  rw [← hB, ← hN, ← hD]
  have HB := hid hB; have HN := hid hN; have HDD := hid hD
  clear hB hN hD
  go_enter Tryz.func32, Tryz.ntmps32
  obtain ⟨W0, hW0⟩ : ∃ W0, W0 = w.alloc (.cells #[.bool false, .slice none 0 0, .slice none 0 0] 58) := ⟨_, rfl⟩
  have hB0 : Below w.heap.size w W0 := by rw [hW0]; exact (Below.refl _ _).alloc (Nat.le_refl _) _
  have HT : Hid (∀ w', Below W0.heap.size W0 w' → (w'.cell? ⟨w.heap.size, 0, none⟩ = some (.bool false) ∧ w'.cell? ⟨w.heap.size, 1, none⟩ = some (.slice none 0 0) ∧ w'.cell? ⟨w.heap.size, 2, none⟩ = some (.slice none 0 0)) ∧ w'.frozen? ⟨w.heap.size, 0, none⟩ = false ∧ w'.frozen? ⟨w.heap.size, 1, none⟩ = false ∧ w'.frozen? ⟨w.heap.size, 2, none⟩ = false) := hid (fun w' hb => by
    refine ⟨⟨?_, ?_, ?_⟩, ?_, ?_, ?_⟩ <;> (first | (rw [hb.cell (by rw [hW0]; simp), hW0]; simp [go_sem]; done) | (rw [hb.frozen (by rw [hW0]; simp), hW0]; simp [go_sem]; done)))
  have HB0 := hid hB0; have HW := hid hW0
  have HM0 := hid (HM.out.below hB0)
  clear hW0 hB0
  have Hend := hid (show ∀ (w' : World) (b : Bool) (s1 s2 : Value) (g : Bool) (bq : Bool) (n d x y : Int), Below W0.heap.size W0 w' → Ft w' (.agg #[.bool g, s1, s2]) x y K → (bq = true → x = n ∧ y = d) → B = bq → N = n → D = d →
      RetPF B N D K w (.returned (.tuple #[.agg #[.bool g, s1, s2], .bool bq])) (((w'.setCell ⟨w.heap.size, 0, none⟩ (.bool g)).setCell ⟨w.heap.size, 1, none⟩ s1).setCell ⟨w.heap.size, 2, none⟩ s2) from fun w' b s1 s2 g bq n d x y hb hf he eB eN eD => by
    obtain ⟨⟨k0, k1, k2⟩, _, _, _⟩ := HT.out w' hb
    have hk := (((Keeps.refl .u64 w').setCell (a := ⟨w.heap.size, 0, none⟩) (u := .bool false) k0 (fun x h => (by cases h)) (.bool g)).setCell (a := ⟨w.heap.size, 1, none⟩) (u := .slice none 0 0) (by simp [go_sem, k1]) (fun x h => (by cases h)) s1).setCell (a := ⟨w.heap.size, 2, none⟩) (u := .slice none 0 0) (by simp [go_sem, k2]) (fun x h => (by cases h)) s2
    obtain ⟨s5, s6, he5, hn5, hn6⟩ := hf
    exact ⟨_, x, y, by rw [eB], ⟨s5, s6, he5, nt_keeps hk hn5, nt_keeps hk hn6⟩, (fun h => by rw [eN, eD]; exact he (by rw [← eB]; exact h)), ((HB0.out.trans (hb.mono HB0.out.size)).setCell (p := ⟨w.heap.size, 0, none⟩) (Nat.le_refl _) _).setCell (p := ⟨w.heap.size, 1, none⟩) (Nat.le_refl _) _ |>.setCell (p := ⟨w.heap.size, 2, none⟩) (Nat.le_refl _) _⟩)
  go_wp2_with fail
  rw [← HW.out]
  refine (HC1.out W0 HM0.out).mono ?_
  rintro e w1 ⟨rfl, hb1⟩
  have HX1 := hid hb1
  have HM1 := hid (HM0.out.below hb1)
  clear hb1
  obtain ⟨f1, hf1⟩ : ∃ f, f = cutB 47 l := ⟨_, rfl⟩
  rw [← hf1]
  cases hc1 : f1 with
  | true =>
    rw [hc1] at hf1
    have hB1 := hid (show B = quoB (cutA 47 l) (cutZ 47 l) by rw [HB.out]; unfold prfB; rw [if_pos hf1.symm])
    have hN1 := hid (show N = prsZ (cutA 47 l) by rw [HN.out]; unfold prfN; rw [if_pos hf1.symm])
    have hD1 := hid (show D = prsZ (cutZ 47 l) by rw [HDD.out]; unfold prfD; rw [if_pos hf1.symm])
    clear hf1 hc1
    go_wp2_with (go_at_call 69; refine (HQ.out _).mono ?_; rintro e w2 ⟨v2, x, y, rfl, hf, he, hb2⟩; obtain ⟨g5, o5, m5, c5, o6, m6, c6, rfl, HF1, HF2, HFb⟩ := Ft.opened hf; obtain ⟨⟨k0, k1, k2⟩, f0, f1, f2⟩ := HT.out w2 (HX1.out.trans (hb2.mono HX1.out.size)); have HX2 := hid hb2; have HE := hid he; have HF := hid hf; clear hb2 he hf)
    refine bodyPost_ret (v := .tuple #[.agg #[.bool g5, .slice o5 m5 c5, .slice o6 m6 c6], .bool (quoB (cutA 47 l) (cutZ 47 l))]) (by simp [results, Tryz.results32, go_sem, k0, k1, k2]) rfl (Hend.out _ true _ _ _ _ _ _ _ _ (HX1.out.trans (HX2.out.mono HX1.out.size)) HF.out HE.out hB1.out hN1.out hD1.out)
  | false =>
    rw [hc1] at hf1
    have hne1 : ¬ cutB 47 l = true := by rw [← hf1]; exact Bool.false_ne_true
    have HNE1 := hid hne1
    clear hf1 hc1 hne1
    go_wp2_with fail
    refine (HC2.out _ HM1.out).mono ?_
    rintro e w2 ⟨rfl, hb2⟩
    have HX2 := hid (show Below W0.heap.size W0 w2 from HX1.out.trans (hb2.mono HX1.out.size))
    clear hb2
    obtain ⟨f2, hf2⟩ : ∃ f, f = cutB 46 l := ⟨_, rfl⟩
    rw [← hf2]
    cases hc2 : f2 with
    | true =>
      rw [hc2] at hf2
      have hB1 := hid (show B = decB (cutA 46 l) (cutZ 46 l) by rw [HB.out]; unfold prfB; rw [if_neg HNE1.out, if_pos hf2.symm])
      have hN1 := hid (show N = decZ (cutA 46 l) (cutZ 46 l) by rw [HN.out]; unfold prfN; rw [if_neg HNE1.out, if_pos hf2.symm])
      have hD1 := hid (show D = 10 ^ (cutZ 46 l).length by rw [HDD.out]; unfold prfD; rw [if_neg HNE1.out, if_pos hf2.symm])
      clear hf2 hc2
      go_wp2_with (go_at_call 70; refine (HD.out _).mono ?_; rintro e w3 ⟨v2, x, y, rfl, hf, he, hb3⟩; obtain ⟨g5, o5, m5, c5, o6, m6, c6, rfl, HF1, HF2, HFb⟩ := Ft.opened hf; obtain ⟨⟨k0, k1, k2⟩, f0, f1, f2⟩ := HT.out w3 (HX2.out.trans (hb3.mono HX2.out.size)); have HX3 := hid hb3; have HE := hid he; have HF := hid hf; clear hb3 he hf)
      refine bodyPost_ret (v := .tuple #[.agg #[.bool g5, .slice o5 m5 c5, .slice o6 m6 c6], .bool (decB (cutA 46 l) (cutZ 46 l))]) (by simp [results, Tryz.results32, go_sem, k0, k1, k2]) rfl (Hend.out _ true _ _ _ _ _ _ _ _ (HX2.out.trans (HX3.out.mono HX2.out.size)) HF.out HE.out hB1.out hN1.out hD1.out)
    | false =>
      rw [hc2] at hf2
      have hne2 : ¬ cutB 46 l = true := by rw [← hf2]; exact Bool.false_ne_true
      have hB1 := hid (show B = prsB l by rw [HB.out]; unfold prfB; rw [if_neg HNE1.out, if_neg hne2])
      have hN1 := hid (show N = prsZ l by rw [HN.out]; unfold prfN; rw [if_neg HNE1.out, if_neg hne2])
      have hD1 := hid (show D = 1 by rw [HDD.out]; unfold prfD; rw [if_neg HNE1.out, if_neg hne2])
      clear hf2 hc2 hne2
      go_wp2_with fail
      refine (HI.out _).mono ?_
      rintro e w3 ⟨v3, y3, rfl, hv3, hy3, hb3⟩
      obtain ⟨g3, o3, m3, c3, rfl, H3, _, _⟩ := It.opened hv3
      have HX3 := hid (show Below W0.heap.size W0 w3 from HX2.out.trans (hb3.mono HX2.out.size))
      have HY3 := hid hy3
      clear hv3 hy3 hb3
      go_wp2_with fail
      refine (whole_any _ y3 K _ (H3.out _ ((Below.refl _ _).alloc (Nat.le_refl _) _)) HK1).mono ?_
      rintro e w4 ⟨v4, rfl, hf, hb4⟩
      obtain ⟨g5, o5, m5, c5, o6, m6, c6, rfl, HF1, HF2, HFb⟩ := Ft.opened hf
      have HX4 := hid (show Below W0.heap.size W0 w4 from (HX3.out.alloc HX3.out.size _).trans (hb4.mono (by have := HX3.out.size; simp; omega)))
      obtain ⟨⟨k0, k1, k2⟩, f0, f1, f2⟩ := HT.out w4 HX4.out
      have HF := hid hf
      clear hb4 hf
      go_wp2
      refine bodyPost_ret (v := .tuple #[.agg #[.bool g5, .slice o5 m5 c5, .slice o6 m6 c6], .bool (prsB l)]) (by simp [results, Tryz.results32, go_sem, k0, k1, k2]) rfl (Hend.out _ true _ _ _ _ _ _ _ _ (HX4.out) HF.out (fun h => ⟨HY3.out h, rfl⟩) hB1.out hN1.out hD1.out)
end Go.Proofs.YtbapeilpkhbbeaaGreatDoor

/- exact.Parse and exact.ParseRatio of any text. -/
namespace Go.Proofs.YtbapeilpkhbbeaaGreatDoor
open Go.RowKit

/-- A number, or the error ErrLong or ErrForm. -/
def prsE (l : List UInt8) : Int := if 4096 < l.length then 3 else if prsB l then 0 else 5
def prfE (l : List UInt8) : Int := if 4096 < l.length then 3 else if prfB l then 0 else 5
theorem prf_pos {l : List UInt8} (h : prfB l = true) : 0 < prfD l := by
  unfold prfB at h
  unfold prfD
  split
  · rename_i hc
    rw [if_pos hc] at h
    unfold quoB at h
    simp only [Bool.and_eq_true, decide_eq_true_eq] at h
    exact h.2
  · split
    · exact Int.pow_pos (by decide)
    · decide
end Go.Proofs.YtbapeilpkhbbeaaGreatDoor

/- The texts of numbers, read again, are these numbers. -/
namespace Go.Proofs.YtbapeilpkhbbeaaGreatDoor
open Go.RowKit

theorem cut_no {c : UInt8} {l : List UInt8} (h : c ∉ l) : Lib.cut l [c] = (l, [], false) := by
  have h1 : Lib.index l [c] = -1 := Lib.index_none (fun j hj => by
    rw [← Bool.not_eq_true]
    intro ho
    have := Lib.occAt_head (c := c) (t := []) rfl ho
    exact h (List.mem_of_getElem? this))
  unfold Lib.cut
  rw [h1]
  rfl
theorem cut_yes {c : UInt8} {a b : List UInt8} (h : c ∉ a) : Lib.cut (a ++ c :: b) [c] = (a, b, true) := by
  have h1 : Lib.index (a ++ c :: b) [c] = (a.length : Int) := Lib.index_first (by simp) (by simp [Lib.occAt]) (fun j hj => by
    rw [← Bool.not_eq_true]
    intro ho
    have h2 := Lib.occAt_head (c := c) (t := []) rfl ho
    rw [List.getElem?_append_left hj] at h2
    exact h (List.mem_of_getElem? h2))
  unfold Lib.cut
  rw [h1, if_pos (by omega)]
  simp
theorem digits_no {l : List UInt8} (h : l.all isD = true) {c : UInt8} (hc : isD c = false) : c ∉ l := fun hm => by
  rw [List.all_eq_true] at h
  rw [h c hm] at hc
  cases hc
theorem pre_no {c : UInt8} {l : List UInt8} (h : c ∉ l) : Lib.hasPrefix l [c] = false := by
  cases l with
  | nil => rfl
  | cons d l =>
    have hne : c ≠ d := fun e => h (by rw [e]; exact List.mem_cons_self)
    simp [Lib.hasPrefix, List.isPrefixOf, hne]
theorem pre_yes (c : UInt8) (l : List UInt8) : Lib.hasPrefix (c :: l) [c] = true := by simp [Lib.hasPrefix, List.isPrefixOf]
theorem neg_yes (l : List UInt8) : negB (45 :: l) = true ∧ bodyL (45 :: l) = l := by
  refine ⟨pre_yes 45 l, ?_⟩
  unfold bodyL Lib.trimPrefix
  rw [if_pos (pre_yes 45 l)]
  rfl
theorem neg_no {l : List UInt8} (h : l.all isD = true) : negB l = false ∧ bodyL l = l := by
  have h1 := pre_no (digits_no h (c := 45) (by decide))
  refine ⟨h1, ?_⟩
  unfold bodyL Lib.trimPrefix
  rw [if_neg (by rw [h1]; exact Bool.false_ne_true)]
/-- A sign ahead of digits. -/
def sgL (b : Bool) (l : List UInt8) : List UInt8 := if b then 45 :: l else l
theorem dec_ne (n : Nat) : Lib.decDigits n ≠ [] := by
  intro e
  by_cases hn : n < 10
  · rw [dec_small hn] at e; cases e
  · rw [dec_big hn] at e; simp at e
theorem dec_ok (n : Nat) : (Lib.decDigits n).all isD = true ∧ digB (Lib.decDigits n) = true ∧ leadB (Lib.decDigits n) = true ∧ dv (Lib.decDigits n) = n := by
  obtain ⟨h1, h2⟩ := dec_digits n n (Nat.le_refl _)
  refine ⟨h1, ?_, ?_, h2⟩
  · unfold digB
    rw [h1, decide_eq_true (dec_ne n)]; rfl
  · by_cases h0 : n = 0
    · subst h0; rw [dec_small (by decide)]; rfl
    · obtain ⟨c, l, e, hc⟩ := dec_head n n (Nat.le_refl _) (by omega)
      unfold leadB
      rw [e]
      have : Lib.hasPrefix (c :: l) [48] = false := by simp [Lib.hasPrefix, List.isPrefixOf, Ne.symm hc]
      rw [this]
      simp

/-- The text of an integer, as a list. -/
def txL (z : Int) : List UInt8 := sgL (decide (z < 0)) (Lib.decDigits z.natAbs)
theorem tx_eq (z : Int) : tx z = ⟨(txL z).toArray⟩ := by
  unfold tx txL sgL
  by_cases h : z < 0
  · rw [if_pos h, decide_eq_true h]
    apply ByteArray.ext
    simp [ByteArray.data_append]
  · rw [if_neg h, decide_eq_false h]
    rfl
theorem txL_len {z : Int} {m : Nat} (h : z.natAbs < 10 ^ m) : (txL z).length ≤ m + 2 := by
  have := decs_len _ _ h
  unfold txL sgL
  split
  · rw [List.length_cons]; omega
  · omega
theorem sgn_nat (b : Bool) (n : Nat) : (sgn b (n : Int)).natAbs = n := by unfold sgn; cases b <;> simp
end Go.Proofs.YtbapeilpkhbbeaaGreatDoor
