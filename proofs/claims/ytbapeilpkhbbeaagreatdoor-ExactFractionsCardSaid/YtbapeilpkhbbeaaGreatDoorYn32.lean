/- exact.Plus of two ratios whose denominators have the same size; over and shows of the laws. alive of the outright laws: true. The law ExactRing, its walk. Written by gen_ring.py. Contracts of Div, Gcd and Of in one form; the numbers of the law ExactDivision. Floors of ratios. exact.Decimal of any ratio. -/
import Derived.Test.YtbapeilpkhbbeaaGreatDoorYn26
import Derived.Test.YtbapeilpkhbbeaaGreatDoorYn29
import Derived.Test.YtbapeilpkhbbeaaGreatDoorYn30
import Derived.Test.YtbapeilpkhbbeaaGreatDoorYn15
import Derived.Test.YtbapeilpkhbbeaaGreatDoorYn31
/- exact.Plus of two ratios whose denominators have the same size; over and shows of the laws. -/
namespace Go.Proofs.YtbapeilpkhbbeaaGreatDoor
open Go.RowKit

theorem FrA.laid {w1 w w' : World} {v : Value} {z : Int} {K B : Nat} (h : FrA w1 w v z K) (hb : Below B w w') (hB : w.heap.size ≤ B) : FrA w1 w' v z K := by
  obtain ⟨s, rfl, h⟩ := h
  exact ⟨s, rfl, h.below hb hB⟩

end Go.Proofs.YtbapeilpkhbbeaaGreatDoor

/- alive of the outright laws: true. -/
namespace Go.Proofs.YtbapeilpkhbbeaaGreatDoor
open Go.RowKit

end Go.Proofs.YtbapeilpkhbbeaaGreatDoor

/- The law ExactRing, its walk. Written by gen_ring.py. -/
namespace Go.Proofs.YtbapeilpkhbbeaaGreatDoor
open Go.RowKit

theorem cmp_lt' {x y : Int} (h : x < y) : cmpI x y = -1 := by unfold cmpI; (repeat' split) <;> omega
theorem cmp_gt' {x y : Int} (h : y < x) : cmpI x y = 1 := by unfold cmpI; (repeat' split) <;> omega
theorem cmp_eq' (x : Int) : cmpI x x = 0 := by unfold cmpI; simp
end Go.Proofs.YtbapeilpkhbbeaaGreatDoor

/- Contracts of Div, Gcd and Of in one form; the numbers of the law ExactDivision. -/
namespace Go.Proofs.YtbapeilpkhbbeaaGreatDoor
open Go.RowKit

theorem fmod_pos {x y : Int} (h : 0 < y) : 0 ≤ x.fmod y ∧ x.fmod y < y := by
  rw [Int.fmod_eq_emod_of_nonneg x (by omega)]
  exact ⟨Int.emod_nonneg _ (by omega), Int.emod_lt_of_pos _ h⟩
theorem fmod_neg' {x y : Int} (h : y < 0) : x.fmod y ≤ 0 ∧ y < x.fmod y := by
  have e := Int.neg_fmod_neg x y
  have := fmod_pos (x := -x) (y := -y) (by omega)
  omega

/-- The numbers of the law where the divisor is not 0. -/
structure DivN (x y z q r s t4 X Y g : Int) : Prop where
  dq : x.fdiv y = q
  dr : x.fmod y = r
  s0 : cmpI y 0 = s
  s1 : -1 ≤ s
  s2 : s ≤ 1
  back : q * y + r = x
  rs : cmpI (r * s) 0 = t4
  t0 : 0 ≤ t4
  lt : cmpI (r * s) (y * s) = -1
  X0 : x * z = X
  Y0 : y * z = Y
  g0 : (Int.gcd X Y : Int) = g
theorem divN (x y z : Int) (hy : y ≠ 0) : ∃ q r s t4 X Y g, DivN x y z q r s t4 X Y g := by
  refine ⟨x.fdiv y, x.fmod y, cmpI y 0, cmpI (x.fmod y * cmpI y 0) 0, x * z, y * z, _, rfl, rfl, rfl, (cmpI_bd y 0).1, (cmpI_bd y 0).2, ?_, rfl, ?_, ?_, rfl, rfl, rfl⟩
  · have := Int.mul_fdiv_add_fmod x y
    rw [Int.mul_comm] at this
    exact this
  · rcases Int.lt_or_lt_of_ne hy with h | h
    · have h1 := (fmod_neg' (x := x) h).1
      rw [cmp_lt' h]
      have h2 : 0 ≤ x.fmod y * -1 := by omega
      rcases Int.lt_or_eq_of_le h2 with h3 | h3
      · rw [cmp_gt' h3]; decide
      · rw [← h3, cmp_eq']; decide
    · have h1 := (fmod_pos (x := x) h).1
      rw [cmp_gt' h]
      have h2 : 0 ≤ x.fmod y * 1 := by omega
      rcases Int.lt_or_eq_of_le h2 with h3 | h3
      · rw [cmp_gt' h3]; decide
      · rw [← h3, cmp_eq']; decide
  · rcases Int.lt_or_lt_of_ne hy with h | h
    · have h1 := (fmod_neg' (x := x) h).2
      rw [cmp_lt' h]
      exact cmp_lt' (by omega)
    · have h1 := (fmod_pos (x := x) h).2
      rw [cmp_gt' h]
      exact cmp_lt' (by omega)
end Go.Proofs.YtbapeilpkhbbeaaGreatDoor

/- Floors of ratios. -/
namespace Go.Proofs.YtbapeilpkhbbeaaGreatDoor
open Go.RowKit

theorem fdiv_le (x : Int) {y : Int} (hy : 0 < y) : x.fdiv y * y ≤ x ∧ x < (x.fdiv y + 1) * y := by
  rw [Int.fdiv_eq_ediv_of_nonneg _ (Int.le_of_lt hy)]
  exact ⟨Int.ediv_mul_le _ (by omega), Int.lt_ediv_add_one_mul_self _ hy⟩
theorem fdiv_is {x y q : Int} (h1 : q * y ≤ x) (h2 : x < (q + 1) * y) : x.fdiv y = q := by
  have e : (q + 1) * y = q * y + y := by rw [Int.add_mul, Int.one_mul]
  exact (fdiv_uniq (r := x - q * y) (by omega) (Or.inl ⟨by omega, by omega⟩)).1
theorem fdiv_ratio {a b c e : Int} (hb : 0 < b) (he : 0 < e) (h : a * e = c * b) : a.fdiv b = c.fdiv e := by
  obtain ⟨h1, h2⟩ := fdiv_le c he
  refine fdiv_is ?_ ?_
  · refine Int.le_of_mul_le_mul_right (a := e) ?_ he
    have := Int.mul_le_mul_of_nonneg_right h1 (Int.le_of_lt hb)
    rw [h]; grind
  · refine Int.lt_of_mul_lt_mul_right (a := e) ?_ (Int.le_of_lt he)
    have := Int.mul_lt_mul_of_pos_right h2 hb
    rw [h]; grind
end Go.Proofs.YtbapeilpkhbbeaaGreatDoor

/- exact.Decimal of any ratio. -/
namespace Go.Proofs.YtbapeilpkhbbeaaGreatDoor
open Go.RowKit

theorem Nrm.fits {L : List Int} {k : Nat} (hd : Dig B64 L) (hn : Nrm L) (h : val B64 L < B64 ^ k) : L.length ≤ k := by
  by_cases hl : L.length ≤ k
  · exact hl
  · have h1 := Nrm.low B64_pos hd hn (by omega)
    have h2 := pow_le (B := B64) (by unfold B64; decide) (show k ≤ L.length - 1 by omega)
    omega
theorem Nt.fits {w : World} {v : Value} {n : Int} {M k : Nat} (h : Nt w v n M) (hk : n < B64 ^ k) : Nt w v n k := by
  obtain ⟨ao, c, L, rfl, h⟩ := h
  exact ⟨ao, c, L, rfl, h.rd, h.dig, h.nrm, h.eq, Nrm.fits h.dig h.nrm (by rw [h.eq]; exact hk)⟩
theorem ten_row (w : World) : Nt (w.alloc (Obj.cells #[Value.int IntKind.u64 10] 63)) (.slice (some ⟨w.heap.size, 0, none⟩) 1 1) 10 1 := by
  have hrow : Row .u64 63 (w.alloc (Obj.cells #[Value.int IntKind.u64 10] 63)) w.heap.size [10] := by unfold Row World.alloc; simp
  have h := nt_row (c := 1) (K := 1) hrow (Dig.cons (by decide) (by decide) (Dig.nil _)) (n := 10) (by simp [val]) (by simp) (by decide) (by simp)
  simpa [trimL] using h
theorem ten_pow (p : Nat) (hp : p ≤ 100) : (10 : Int) ^ p < B64 ^ 6 := by
  have h := pow_le (B := 10) (by decide) hp
  have : (10 : Int) ^ 100 < B64 ^ 6 := by decide
  omega
theorem raise_ten (v : Value) (p : Nat) (w : World) (h : Nt w v 10 1) (hp : p ≤ 100) : Calls Tryz.prog 22 #[v, .int .i64 (p : Int)] w (RetN w (10 ^ p) 6) :=
  (raise_any v 10 1 p 200 w h (by omega) (by omega) (by omega) (by omega)).mono (by
    rintro e w' ⟨u, rfl, hu, hb⟩
    exact ⟨u, rfl, hu.fits (ten_pow p hp), hb⟩)

/-- The digits that a decimal shows. -/
def dcL (N : Int) (p : Nat) : List UInt8 := List.replicate (p + 1 - (Lib.decDigits N.natAbs).length) 48 ++ Lib.decDigits N.natAbs
def dcB (t : ByteArray) (p : Nat) : ByteArray := if 0 < p then t.extract 0 (t.size - p) ++ (⟨#[46]⟩ ++ t.extract (t.size - p) t.size) else t.extract 0 (t.size - p)
/-- The decimals of N over 10 ^ p. -/
def dcT (N : Int) (p : Nat) : ByteArray := if N < 0 then ⟨#[45]⟩ ++ dcB ⟨(dcL N p).toArray⟩ p else dcB ⟨(dcL N p).toArray⟩ p

theorem dcT_np {N : Int} {p q : Nat} {t : ByteArray} (ht : t = ⟨(dcL N p).toArray⟩) (hq : q = t.size - p) (h : N < 0) (hp : 0 < p) : dcT N p = ⟨#[45]⟩ ++ (t.extract 0 q ++ (⟨#[46]⟩ ++ t.extract q t.size)) := by
  unfold dcT dcB; rw [if_pos h, if_pos hp, ← ht, ← hq]
theorem dcT_nz {N : Int} {p q : Nat} {t : ByteArray} (ht : t = ⟨(dcL N p).toArray⟩) (hq : q = t.size - p) (h : N < 0) (hp : ¬ 0 < p) : dcT N p = ⟨#[45]⟩ ++ t.extract 0 q := by
  unfold dcT dcB; rw [if_pos h, if_neg hp, ← ht, ← hq]
theorem dcT_pp {N : Int} {p q : Nat} {t : ByteArray} (ht : t = ⟨(dcL N p).toArray⟩) (hq : q = t.size - p) (h : ¬ N < 0) (hp : 0 < p) : dcT N p = t.extract 0 q ++ (⟨#[46]⟩ ++ t.extract q t.size) := by
  unfold dcT dcB; rw [if_neg h, if_pos hp, ← ht, ← hq]
theorem dcT_pz {N : Int} {p q : Nat} {t : ByteArray} (ht : t = ⟨(dcL N p).toArray⟩) (hq : q = t.size - p) (h : ¬ N < 0) (hp : ¬ 0 < p) : dcT N p = t.extract 0 q := by
  unfold dcT dcB; rw [if_neg h, if_neg hp, ← ht, ← hq]
theorem it_len {w : World} {v : Value} {z : Int} {K : Nat} (h : It w v z K) : (Lib.decDigits z.natAbs).length ≤ 38 * K + 1 := by
  obtain ⟨s, rfl, ao, c, L, rfl, h⟩ := h
  have h1 := val_lt B64_pos h.dig
  have h2 := pow_le (B := B64) (by unfold B64; decide) h.le
  have h3 := b64_pow K
  rw [h.eq] at h1
  refine decs_len _ _ ?_
  rw [show 38 * K = 19 * (2 * K) by omega, Nat.pow_mul, show (10 : Nat) ^ 19 = 10000000000000000000 by decide]
  omega

set_option maxRecDepth 100000 in
set_option maxHeartbeats 1000000 in
theorem Decimal_ra (v : Value) (x y : Int) (K p : Nat) (w : World) (hv : Ra w v x y K) (hK : K ≤ 140) (hp : p ≤ 100) (hT : Tab w) :
    Calls Tryz.prog 7 #[v, .int .i64 (p : Int)] w fun e w' => e = .returned (.tuple #[.string (dcT ((rn x y * 10 ^ p * 2 + rd y).fdiv (rd y * 2)) p), .int .i64 0]) ∧ Below w.heap.size w w' := by
  have hRR := fun (w' : World) (hb : Below w.heap.size w w') => readRatio_any v x y K w' (hv.below hb (Nat.le_refl _)) (by omega)
  obtain ⟨xb, xo, xm, xc, yb, yo, ym, yc, rfl, _, _⟩ := Ra.opened hv
  have HRR := hid hRR; have HT := hid hT
  have hp0 : (0 : Int) ≤ (p : Int) := by omega
  have hp1 : (p : Int) ≤ 100 := by omega
  clear hRR hv hT
  have hB0 : Below w.heap.size w (w.alloc (.cells #[.bool xb, .slice xo xm xc, .bool yb, .slice yo ym yc] 26)) := (Below.refl _ _).alloc (Nat.le_refl _) _
  have HB0 := hid hB0
  clear hB0
  go_enter Tryz.func7, Tryz.ntmps7
  go_wp2_with fail
  refine (HRR.out _ HB0.out).mono ?_
  rintro e w1 ⟨f, rfl, hf, hb1⟩
  obtain ⟨zb, zo, zm, zc, po, pm, pc, rfl, Hx, HP, Hxb⟩ := Ft.opened hf
  have HB1 := hid (show Below w.heap.size w w1 from HB0.out.trans (hb1.mono (by simp)))
  clear hb1 hf
  have hbld : ∀ (b : Bool) (o o2 : Option Addr) (m c m2 c2 : Nat) (w : World), (Instr.build 58 #[(0, .agg #[.bool b, .slice o m c]), (1, .slice o2 m2 c2)]).run Tryz.prog w = .ok (.agg #[.bool b, .slice o m c, .slice o2 m2 c2]) w := fun b o o2 m c m2 c2 w => by kernel_rfl
  go_upto_region 4 with (fail)
  obtain ⟨W2, hW2⟩ : ∃ W2, W2 = w1.alloc (.cells #[.bool zb, .slice zo zm zc, .slice po pm pc] 58) := ⟨_, rfl⟩
  rw [← hW2]
  have HW12 := hid (show Below w1.heap.size w1 W2 by rw [hW2]; exact (Below.refl _ _).alloc (Nat.le_refl _) _)
  have HS : Hid (∀ w', Below W2.heap.size W2 w' → w'.cell? ⟨w1.heap.size, 0, none⟩ = some (.bool zb) ∧ w'.cell? ⟨w1.heap.size, 1, none⟩ = some (.slice zo zm zc) ∧ w'.cell? ⟨w1.heap.size, 2, none⟩ = some (.slice po pm pc)) := hid (fun w' hb => by
    refine ⟨?_, ?_, ?_⟩ <;> (rw [hb.cell (by rw [hW2]; simp), hW2]; simp [go_sem]))
  have hX0 := Below.refl W2.heap.size W2
  have Hp := hid hp
  clear hW2 hp
  have HKG : Hid (AllKeep [(false, (fun wq vq => vq = .pointer (some ⟨w1.heap.size, 0, none⟩)), undef), (false, (fun wq vq => vq = .agg #[.bool zb, .slice zo zm zc]), undef), (false, (fun wq vq => Nt wq vq (10) (1)), undef), (false, (fun wq vq => vq = .int .i64 (p : Int)), undef), (false, (fun wq vq => Nt wq vq ((10 ^ p : Int)) (6)), undef), (false, (fun wq vq => It wq vq ((10 ^ p : Int)) (6)), undef), (false, (fun wq vq => It wq vq (rn x y * 10 ^ p) (((K + 1) / 2 + 1) + 6)), undef), (false, (fun wq vq => vq = .pointer (some ⟨w1.heap.size, 2, none⟩)), undef), (false, (fun wq vq => vq = .slice po pm pc), undef), (false, (fun wq vq => Ft wq vq (rn x y * 10 ^ p) (rd y) (((K + 1) / 2 + 1) + 6)), undef)]) := hid ⟨kcV _, kcV _, ntV _ _, kcV _, ntV _ _, itV _ _, itV _ _, kcV _, kcV _, ftV _ _ _, trivial⟩
  refine region_inv (by kernel_rfl) (fun L act w' => ∃ f0 f1 f2 f3 f4 f5 f6 f7 f8 f9 f10 f11, L = #[f0, f1, f2, f3, f4, f5, f6, f7, f8, f9, f10, f11] ∧ (f11 = true → f10 = true ∧ f9 = true) ∧ ∃ s20 s21 s22 s23 s24 s25 s26 s27 s28 s29 s7, act = { tmps := #[.agg #[.bool xb, .slice xo xm xc, .bool yb, .slice yo ym yc], .int .i64 (p : Int), .pointer (some ⟨w.heap.size, 0, none⟩), undef, .string ⟨#[]⟩, .int .i64 0, .pointer (some ⟨w1.heap.size, 0, none⟩), s7, undef, undef, undef, undef, .int .i64 (p : Int), .bool (decide ((p : Int) < 0)), .bool (decide ((p : Int) < 0)), .int .i64 (p : Int), .bool (decide (100 < (p : Int))), .bool (decide ((p : Int) < 0) || decide (100 < (p : Int))), .agg #[.bool xb, .slice xo xm xc, .bool yb, .slice yo ym yc], .agg #[.bool zb, .slice zo zm zc, .slice po pm pc], s20, s21, s22, s23, s24, s25, s26, s27, s28, s29, undef, undef, undef, undef, undef, undef, undef, undef, undef, undef, undef, undef, undef, undef, undef, undef, undef, undef, undef, undef, undef, undef, undef, undef, undef, undef, undef, undef], defers := [] } ∧ RX W2.heap.size W2 [(f0, (fun wq vq => vq = .pointer (some ⟨w1.heap.size, 0, none⟩)), s20), (f1, (fun wq vq => vq = .agg #[.bool zb, .slice zo zm zc]), s21), (f2, (fun wq vq => Nt wq vq (10) (1)), s22), (f3, (fun wq vq => vq = .int .i64 (p : Int)), s23), (f4, (fun wq vq => Nt wq vq ((10 ^ p : Int)) (6)), s24), (f5, (fun wq vq => It wq vq ((10 ^ p : Int)) (6)), s25), (f6, (fun wq vq => It wq vq (rn x y * 10 ^ p) (((K + 1) / 2 + 1) + 6)), s26), (f7, (fun wq vq => vq = .pointer (some ⟨w1.heap.size, 2, none⟩)), s27), (f8, (fun wq vq => vq = .slice po pm pc), s28), (f9, (fun wq vq => Ft wq vq (rn x y * 10 ^ p) (rd y) (((K + 1) / 2 + 1) + 6)), s29)] [(3, f10, f11, s7, s29)] w') ?_ ?_ ?_
  · exact ⟨_, _, _, _, _, _, _, _, _, _, _, _, rfl, nofun, _, _, _, _, _, _, _, _, _, _, _, rfl, hX0.drew, hX0.size, ⟨nofun, nofun, nofun, nofun, nofun, nofun, nofun, nofun, nofun, nofun, trivial⟩, ⟨nofun, trivial⟩, ⟨trivial, trivial⟩⟩
  · rintro L act w' i hs ⟨f0, f1, f2, f3, f4, f5, f6, f7, f8, f9, f10, f11, rfl, d0, s20, s21, s22, s23, s24, s25, s26, s27, s28, s29, s7, rfl, J⟩ hi
    obtain ⟨hi, hn, hd⟩ := waits_spec (dep := [[], [0], [], [], [2, 3], [4], [1, 5], [], [7], [6, 8], [], [10, 9, 6]]) (by kernel_rfl) hi
    have hiN : i < 12 := hi
    obtain ⟨k0, k1, k2⟩ := HS.out w' J.bel
    have HJ := hid J
    rcases (show i = 0 ∨ i = 1 ∨ i = 2 ∨ i = 3 ∨ i = 4 ∨ i = 5 ∨ i = 6 ∨ i = 7 ∨ i = 8 ∨ i = 9 ∨ i = 10 ∨ i = 11 by omega) with rfl | rfl | rfl | rfl | rfl | rfl | rfl | rfl | rfl | rfl | rfl | rfl
    · clear J hd hi hiN hn
      refine wpOp_step rfl (fun kq hKq => ?_)
      go_simp
      exact hKq _ _ ⟨true, f1, f2, f3, f4, f5, f6, f7, f8, f9, f10, f11, rfl, d0, _, _, _, _, _, _, _, _, _, _, _, rfl, HJ.out.bel, HJ.out.siz, ⟨fun _ => rfl, HJ.out.vals.2.1, HJ.out.vals.2.2.1, HJ.out.vals.2.2.2.1, HJ.out.vals.2.2.2.2.1, HJ.out.vals.2.2.2.2.2.1, HJ.out.vals.2.2.2.2.2.2.1, HJ.out.vals.2.2.2.2.2.2.2.1, HJ.out.vals.2.2.2.2.2.2.2.2.1, HJ.out.vals.2.2.2.2.2.2.2.2.2.1, trivial⟩, ⟨HJ.out.boxes.1, trivial⟩, HJ.out.ne⟩
    · have e20 : s20 = .pointer (some ⟨w1.heap.size, 0, none⟩) := J.vals.1 (hd 0 (by simp))
      subst e20
      clear J hd hi hiN hn
      refine wpOp_step rfl (fun kq hKq => ?_)
      go_simp
      exact hKq _ _ ⟨f0, true, f2, f3, f4, f5, f6, f7, f8, f9, f10, f11, rfl, d0, _, _, _, _, _, _, _, _, _, _, _, rfl, HJ.out.bel, HJ.out.siz, ⟨HJ.out.vals.1, fun _ => rfl, HJ.out.vals.2.2.1, HJ.out.vals.2.2.2.1, HJ.out.vals.2.2.2.2.1, HJ.out.vals.2.2.2.2.2.1, HJ.out.vals.2.2.2.2.2.2.1, HJ.out.vals.2.2.2.2.2.2.2.1, HJ.out.vals.2.2.2.2.2.2.2.2.1, HJ.out.vals.2.2.2.2.2.2.2.2.2.1, trivial⟩, ⟨HJ.out.boxes.1, trivial⟩, HJ.out.ne⟩
    · obtain rfl : f2 = false := hn
      clear J hd hi hiN
      refine wpOp_step rfl (fun kq hKq => ?_)
      go_simp
      have J2 := RX.step HJ.out HKG.out (bl_new (w := w') (.cells #[.int .u64 10] 63))
      exact hKq _ _ ⟨f0, f1, true, f3, f4, f5, f6, f7, f8, f9, f10, f11, rfl, d0, _, _, _, _, _, _, _, _, _, _, _, rfl, J2.bel, J2.siz, ⟨J2.vals.1, J2.vals.2.1, fun _ => ten_row w', J2.vals.2.2.2.1, J2.vals.2.2.2.2.1, J2.vals.2.2.2.2.2.1, J2.vals.2.2.2.2.2.2.1, J2.vals.2.2.2.2.2.2.2.1, J2.vals.2.2.2.2.2.2.2.2.1, J2.vals.2.2.2.2.2.2.2.2.2.1, trivial⟩, ⟨J2.boxes.1, trivial⟩, J2.ne⟩
    · clear J hd hi hiN hn
      refine wpOp_step rfl (fun kq hKq => ?_)
      go_simp
      exact hKq _ _ ⟨f0, f1, f2, true, f4, f5, f6, f7, f8, f9, f10, f11, rfl, d0, _, _, _, _, _, _, _, _, _, _, _, rfl, HJ.out.bel, HJ.out.siz, ⟨HJ.out.vals.1, HJ.out.vals.2.1, HJ.out.vals.2.2.1, fun _ => rfl, HJ.out.vals.2.2.2.2.1, HJ.out.vals.2.2.2.2.2.1, HJ.out.vals.2.2.2.2.2.2.1, HJ.out.vals.2.2.2.2.2.2.2.1, HJ.out.vals.2.2.2.2.2.2.2.2.1, HJ.out.vals.2.2.2.2.2.2.2.2.2.1, trivial⟩, ⟨HJ.out.boxes.1, trivial⟩, HJ.out.ne⟩
    · obtain rfl : f4 = false := hn
      have h22 : (fun wq vq => Nt wq vq (10) (1)) w' s22 := J.vals.2.2.1 (hd 2 (by simp))
      have e23 : s23 = .int .i64 (p : Int) := J.vals.2.2.2.1 (hd 3 (by simp))
      subst e23
      have hw := J.bel
      clear J hd hi hiN
      refine wpOp_step rfl (fun kq hKq => ?_)
      go_simp
      refine (raise_ten _ p _ h22 Hp.out).mono ?_
      rintro e wz ⟨zv, rfl, HZ, hb⟩
      have J2 := RX.step HJ.out HKG.out hb
      exact hKq _ _ ⟨f0, f1, f2, f3, true, f5, f6, f7, f8, f9, f10, f11, rfl, d0, _, _, _, _, _, _, _, _, _, _, _, rfl, J2.bel, J2.siz, ⟨J2.vals.1, J2.vals.2.1, J2.vals.2.2.1, J2.vals.2.2.2.1, fun _ => HZ, J2.vals.2.2.2.2.2.1, J2.vals.2.2.2.2.2.2.1, J2.vals.2.2.2.2.2.2.2.1, J2.vals.2.2.2.2.2.2.2.2.1, J2.vals.2.2.2.2.2.2.2.2.2.1, trivial⟩, ⟨J2.boxes.1, trivial⟩, J2.ne⟩
    · obtain rfl : f5 = false := hn
      have h24 : (fun wq vq => Nt wq vq ((10 ^ p : Int)) (6)) w' s24 := J.vals.2.2.2.2.1 (hd 4 (by simp))
      have hw := J.bel
      clear J hd hi hiN
      refine wpOp_step rfl (fun kq hKq => ?_)
      go_simp
      refine (signed_eq false _ _ _ 6 _ h24 rfl).mono ?_
      rintro e wz ⟨zv, rfl, HZ, hb⟩
      have J2 := RX.step HJ.out HKG.out hb
      exact hKq _ _ ⟨f0, f1, f2, f3, f4, true, f6, f7, f8, f9, f10, f11, rfl, d0, _, _, _, _, _, _, _, _, _, _, _, rfl, J2.bel, J2.siz, ⟨J2.vals.1, J2.vals.2.1, J2.vals.2.2.1, J2.vals.2.2.2.1, J2.vals.2.2.2.2.1, fun _ => HZ, J2.vals.2.2.2.2.2.2.1, J2.vals.2.2.2.2.2.2.2.1, J2.vals.2.2.2.2.2.2.2.2.1, J2.vals.2.2.2.2.2.2.2.2.2.1, trivial⟩, ⟨J2.boxes.1, trivial⟩, J2.ne⟩
    · obtain rfl : f6 = false := hn
      have e21 : s21 = .agg #[.bool zb, .slice zo zm zc] := J.vals.2.1 (hd 1 (by simp))
      subst e21
      have h25 : (fun wq vq => It wq vq ((10 ^ p : Int)) (6)) w' s25 := J.vals.2.2.2.2.2.1 (hd 5 (by simp))
      have hw := J.bel
      clear J hd hi hiN
      refine wpOp_step rfl (fun kq hKq => ?_)
      go_simp
      refine (times_short _ _ (rn x y) (10 ^ p) ((K + 1) / 2 + 1) 6 _ (Hx.out _ (HW12.out.trans (hw.mono HW12.out.size))) h25 (by omega) (by decide)).mono ?_
      rintro e wz ⟨zv, rfl, HZ, hb⟩
      have J2 := RX.step HJ.out HKG.out hb
      exact hKq _ _ ⟨f0, f1, f2, f3, f4, f5, true, f7, f8, f9, f10, f11, rfl, d0, _, _, _, _, _, _, _, _, _, _, _, rfl, J2.bel, J2.siz, ⟨J2.vals.1, J2.vals.2.1, J2.vals.2.2.1, J2.vals.2.2.2.1, J2.vals.2.2.2.2.1, J2.vals.2.2.2.2.2.1, fun _ => HZ, J2.vals.2.2.2.2.2.2.2.1, J2.vals.2.2.2.2.2.2.2.2.1, J2.vals.2.2.2.2.2.2.2.2.2.1, trivial⟩, ⟨J2.boxes.1, trivial⟩, J2.ne⟩
    · clear J hd hi hiN hn
      refine wpOp_step rfl (fun kq hKq => ?_)
      go_simp
      exact hKq _ _ ⟨f0, f1, f2, f3, f4, f5, f6, true, f8, f9, f10, f11, rfl, d0, _, _, _, _, _, _, _, _, _, _, _, rfl, HJ.out.bel, HJ.out.siz, ⟨HJ.out.vals.1, HJ.out.vals.2.1, HJ.out.vals.2.2.1, HJ.out.vals.2.2.2.1, HJ.out.vals.2.2.2.2.1, HJ.out.vals.2.2.2.2.2.1, HJ.out.vals.2.2.2.2.2.2.1, fun _ => rfl, HJ.out.vals.2.2.2.2.2.2.2.2.1, HJ.out.vals.2.2.2.2.2.2.2.2.2.1, trivial⟩, ⟨HJ.out.boxes.1, trivial⟩, HJ.out.ne⟩
    · have e27 : s27 = .pointer (some ⟨w1.heap.size, 2, none⟩) := J.vals.2.2.2.2.2.2.2.1 (hd 7 (by simp))
      subst e27
      clear J hd hi hiN hn
      refine wpOp_step rfl (fun kq hKq => ?_)
      go_simp
      exact hKq _ _ ⟨f0, f1, f2, f3, f4, f5, f6, f7, true, f9, f10, f11, rfl, d0, _, _, _, _, _, _, _, _, _, _, _, rfl, HJ.out.bel, HJ.out.siz, ⟨HJ.out.vals.1, HJ.out.vals.2.1, HJ.out.vals.2.2.1, HJ.out.vals.2.2.2.1, HJ.out.vals.2.2.2.2.1, HJ.out.vals.2.2.2.2.2.1, HJ.out.vals.2.2.2.2.2.2.1, HJ.out.vals.2.2.2.2.2.2.2.1, fun _ => rfl, HJ.out.vals.2.2.2.2.2.2.2.2.2.1, trivial⟩, ⟨HJ.out.boxes.1, trivial⟩, HJ.out.ne⟩
    · obtain rfl : f9 = false := hn
      obtain rfl : f11 = false := by cases f11 with | false => rfl | true => exact absurd (d0 rfl).2 (by simp)
      have h26 : (fun wq vq => It wq vq (rn x y * 10 ^ p) (((K + 1) / 2 + 1) + 6)) w' s26 := J.vals.2.2.2.2.2.2.1 (hd 6 (by simp))
      have e28 : s28 = .slice po pm pc := J.vals.2.2.2.2.2.2.2.2.1 (hd 8 (by simp))
      subst e28
      clear J hd hi hiN d0
      obtain ⟨b26, o26, m26, c26, rfl, H26, H26s, H26b⟩ := It.opened h26
      refine wpOp_step rfl (fun kq hKq => ?_)
      go_simp
      exact hKq _ _ ⟨f0, f1, f2, f3, f4, f5, f6, f7, f8, true, f10, false, rfl, nofun, _, _, _, _, _, _, _, _, _, _, _, rfl, HJ.out.bel, HJ.out.siz, ⟨HJ.out.vals.1, HJ.out.vals.2.1, HJ.out.vals.2.2.1, HJ.out.vals.2.2.2.1, HJ.out.vals.2.2.2.2.1, HJ.out.vals.2.2.2.2.2.1, HJ.out.vals.2.2.2.2.2.2.1, HJ.out.vals.2.2.2.2.2.2.2.1, HJ.out.vals.2.2.2.2.2.2.2.2.1, fun _ => ⟨_, _, by rw [H26b.out], H26s.out _ (Below.refl _ _), (HP.out _ (HW12.out.trans (HJ.out.bel.mono HW12.out.size))).mono (by omega)⟩, trivial⟩, ⟨fun e => (HJ.out.boxes.1 e).fresh, trivial⟩, HJ.out.ne⟩
    · obtain rfl : f10 = false := hn
      obtain rfl : f11 = false := by cases f11 with | false => rfl | true => exact absurd (d0 rfl).1 (by simp)
      clear J hd hi hiN d0
      refine wpOp_step rfl (fun kq hKq => ?_)
      go_simp
      have J2 := RX.step HJ.out HKG.out (bl_new (w := w') (.cells #[.bool false, .slice none 0 0, .slice none 0 0] 58))
      exact hKq _ _ ⟨f0, f1, f2, f3, f4, f5, f6, f7, f8, f9, true, false, rfl, nofun, _, _, _, _, _, _, _, _, _, _, _, rfl, J2.bel, J2.siz, J2.vals, ⟨fun _ => boxn_new _ w' _ _ [.bool false, .slice none 0 0, .slice none 0 0] (by intro i k x hi; match i, hi with | 0, _ => nofun | 1, _ => nofun | 2, _ => nofun) HJ.out.siz, trivial⟩, ⟨trivial, trivial⟩⟩
    · obtain rfl : f10 = true := hd 10 (by simp)
      obtain rfl : f9 = true := hd 9 (by simp)
      obtain ⟨bq, oq, mq, cq, ooq, mmq, ccq, rfl, _⟩ := Ft.opened (J.vals.2.2.2.2.2.2.2.2.2.1 rfl)
      have HBX : Hid _ := hid (J.boxes.1 rfl)
      obtain ⟨p, vs, rfl, hp, hl, hnn, hc, hf, _⟩ := J.boxes.1 rfl
      have cc0 := hc 0 (by decide)
      have ff0 := hf 0 (by decide)
      have cc1 := hc 1 (by decide)
      have ff1 := hf 1 (by decide)
      have cc2 := hc 2 (by decide)
      have ff2 := hf 2 (by decide)
      clear J hd hi hiN hn hc hf hnn hl
      refine wpOp_step rfl (fun kq hKq => ?_)
      go_simp
      exact hKq _ _ ⟨f0, f1, f2, f3, f4, f5, f6, f7, f8, true, true, true, rfl, fun _ => ⟨rfl, rfl⟩, _, _, _, _, _, _, _, _, _, _, _, rfl, below_setCells hp [.bool bq, .slice oq mq cq, .slice ooq mmq ccq] 0 HJ.out.bel, Nat.le_trans HJ.out.siz (Nat.le_of_eq (size_setCells p [.bool bq, .slice oq mq cq, .slice ooq mmq ccq] 0 w').symm), Vals.keep HKG.out (BoxN.keeps HBX.out (us := [.bool bq, .slice oq mq cq, .slice ooq mmq ccq]) rfl) HJ.out.vals, ⟨fun _ => BoxN.store HBX.out [.bool bq, .slice oq mq cq, .slice ooq mmq ccq] rfl (by intro i k x hi; match i, hi with | 0, _ => nofun | 1, _ => nofun | 2, _ => nofun), trivial⟩, HJ.out.ne⟩
  rintro L act w' hs ⟨f0, f1, f2, f3, f4, f5, f6, f7, f8, f9, f10, f11, rfl, _, s20, s21, s22, s23, s24, s25, s26, s27, s28, s29, s7, rfl, J⟩ hr
  have hd := early_done (by kernel_rfl) hs hr 12
  obtain rfl : f0 = true := hd 0 (by omega) (by simp)
  obtain rfl : f1 = true := hd 1 (by omega) (by simp)
  obtain rfl : f2 = true := hd 2 (by omega) (by simp)
  obtain rfl : f3 = true := hd 3 (by omega) (by simp)
  obtain rfl : f4 = true := hd 4 (by omega) (by simp)
  obtain rfl : f5 = true := hd 5 (by omega) (by simp)
  obtain rfl : f6 = true := hd 6 (by omega) (by simp)
  obtain rfl : f7 = true := hd 7 (by omega) (by simp)
  obtain rfl : f8 = true := hd 8 (by omega) (by simp)
  obtain rfl : f9 = true := hd 9 (by omega) (by simp)
  obtain rfl : f10 = true := hd 10 (by omega) (by simp)
  obtain rfl : f11 = true := hd 11 (by omega) (by simp)
  have e20 : s20 = .pointer (some ⟨w1.heap.size, 0, none⟩) := J.vals.1 rfl
  subst e20
  have e21 : s21 = .agg #[.bool zb, .slice zo zm zc] := J.vals.2.1 rfl
  subst e21
  have e23 : s23 = .int .i64 (p : Int) := J.vals.2.2.2.1 rfl
  subst e23
  have e27 : s27 = .pointer (some ⟨w1.heap.size, 2, none⟩) := J.vals.2.2.2.2.2.2.2.1 rfl
  subst e27
  have e28 : s28 = .slice po pm pc := J.vals.2.2.2.2.2.2.2.2.1 rfl
  subst e28
  have hg7 : (fun wq vq => Ft wq vq (rn x y * 10 ^ p) (rd y) (((K + 1) / 2 + 1) + 6)) w' s29 := J.vals.2.2.2.2.2.2.2.2.2.1 rfl
  obtain ⟨bx7, ox7, mx7, cx7, oox7, mmx7, ccx7, rfl, _⟩ := Ft.opened hg7
  obtain ⟨p7, rfl, hp7, hl7, hc7⟩ := BoxN.done (us := [.bool bx7, .slice ox7 mx7 cx7, .slice oox7 mmx7 ccx7]) (J.boxes.1 rfl)
  have k7_0 : w'.cell? ⟨p7, 0, none⟩ = some (.bool bx7) := (hc7 0 (by decide)).1
  have k7_1 : w'.cell? ⟨p7, 1, none⟩ = some (.slice ox7 mx7 cx7) := (hc7 1 (by decide)).1
  have k7_2 : w'.cell? ⟨p7, 2, none⟩ = some (.slice oox7 mmx7 ccx7) := (hc7 2 (by decide)).1
  clear hc7
  have hbel := J.bel
  have hsiz := J.siz
  have hv22 : (fun wq vq => Nt wq vq (10) (1)) w' s22 := J.vals.2.2.1 rfl
  have hv24 : (fun wq vq => Nt wq vq ((10 ^ p : Int)) (6)) w' s24 := J.vals.2.2.2.2.1 rfl
  have hv25 : (fun wq vq => It wq vq ((10 ^ p : Int)) (6)) w' s25 := J.vals.2.2.2.2.2.1 rfl
  have hv26 : (fun wq vq => It wq vq (rn x y * 10 ^ p) (((K + 1) / 2 + 1) + 6)) w' s26 := J.vals.2.2.2.2.2.2.1 rfl
  clear hd hr hs J
  have hz := rd_pos y
  obtain ⟨N, hN⟩ : ∃ N, N = (rn x y * 10 ^ p * 2 + rd y).fdiv (rd y * 2) := ⟨_, rfl⟩
  have HNr := hid (nearest_any _ (rn x y * 10 ^ p) (rd y) (((K + 1) / 2 + 1) + 6) w' hg7 hz (by omega))
  rw [← hN] at HNr
  have HB2 := hid (show Below w.heap.size w w' from HB1.out.trans ((HW12.out.trans (hbel.mono HW12.out.size)).mono HB1.out.size))
  have HN := hid hN
  clear hN hz hg7 hbel hsiz hp7 hl7
  go_wp2_with fail
  refine HNr.out.mono ?_
  rintro e w3 ⟨v3, rfl, hv3, hb3⟩
  have HL := hid (show (Lib.decDigits N.natAbs).length ≤ 1000000 by have := it_len hv3; omega)
  obtain ⟨t, ht⟩ : ∃ t : ByteArray, t = ⟨(dcL N p).toArray⟩ := ⟨_, rfl⟩
  obtain ⟨q, hq⟩ : ∃ q, q = t.size - p := ⟨_, rfl⟩
  have hts : t.size = q + p ∧ 0 < q := by
    have h1 : p + 1 ≤ t.size := by rw [ht, size_mk, dcL]; simp; omega
    omega
  have Htz := hid (show t.size ≤ 2000000 by rw [ht, size_mk, dcL]; have := HL.out; simp; omega)
  have hHt := hid ht; have Hq := hid hq; have Hts := hid hts
  obtain ⟨b8, o8, m8, c8, rfl, H8, H8s, H8b⟩ := It.opened hv3
  have HB3 := hid (show Below w.heap.size w w3 from HB2.out.trans (hb3.mono HB2.out.size))
  obtain ⟨W4, hW4⟩ : ∃ W4, W4 = w3.alloc (.cells #[.bool b8, .slice o8 m8 c8] 56) := ⟨_, rfl⟩
  have h34 : Below w3.heap.size w3 W4 := by rw [hW4]; exact (Below.refl _ _).alloc (Nat.le_refl _) _
  have HS8 : Hid (∀ wz, Below W4.heap.size W4 wz → wz.cell? ⟨w3.heap.size, 0, none⟩ = some (.bool b8)) := hid (fun wz hb => by rw [hb.cell (by rw [hW4]; simp), hW4]; simp [go_sem])
  have HB4 := hid (show Below w.heap.size w W4 from HB3.out.trans (h34.mono HB3.out.size))
  obtain ⟨s1, hs1⟩ : ∃ s1 : ByteArray, s1 = ⟨(Lib.decDigits N.natAbs).toArray⟩ := ⟨_, rfl⟩
  have HD1 : Hid (Calls Tryz.prog 25 #[.slice o8 m8 c8] W4 fun e w' => e = .returned (.string s1) ∧ Below W4.heap.size W4 w') := hid (by
    rw [hs1]
    exact decimals_nt N.natAbs _ _ W4 ((H8s.out _ (Below.refl _ _)).below h34 (Nat.le_refl _)) (by omega) (HT.out.below HB4.out))
  have HD2 := hid (fun wz => show Calls Tryz.prog 24 #[.string s1, .int .i64 ((p : Int) + 1)] wz fun e w' => e = .returned (.string t) ∧ Below wz.heap.size wz w' by
    have h := padded_any (Lib.decDigits N.natAbs) (p + 1) wz HL.out (by have := Hp.out; omega)
    rw [Int.natCast_succ] at h
    rw [hs1, hHt.out, dcL]
    exact h)
  have HW4 := hid hW4
  clear hv3 hb3 hW4 h34 hs1 ht hq hts
  go_wp2_with fail
  rw [← HW4.out]
  refine HD1.out.mono ?_
  rintro e w5 ⟨rfl, hb5⟩
  go_wp2_with fail
  refine (HD2.out _).mono ?_
  rintro e w6 ⟨rfl, hb6⟩
  have h46 : Below W4.heap.size W4 w6 := hb5.trans (hb6.mono hb5.size)
  have hk8 := HS8.out _ h46
  have HB6 := hid (show Below w.heap.size w w6 from HB4.out.trans (h46.mono HB4.out.size))
  have hqp : (t.size : Int) - (p : Int) = (q : Int) := by have := Hts.out; omega
  have hq1 : (q : Int) ≤ (t.size : Int) := by omega
  have hq0 : (0 : Int) ≤ (q : Int) := by omega
  have hq2 : (q : Int) ≤ 2000000 := by have := Htz.out; omega
  have hwq : wrap64 (q : Int) = (q : Int) := by unfold wrap64; omega
  clear hb5 hb6 h46
  by_cases hN0 : N < 0
  · obtain rfl : b8 = true := by rw [H8b.out]; exact decide_eq_true hN0
    by_cases hp2 : 0 < (p : Int)
    · go_wp2
      go_ret2
      exact ⟨by rw [← HN.out, dcT_np hHt.out Hq.out hN0 (by omega)]; rfl, HB6.out⟩
    · go_wp2
      go_ret2
      exact ⟨by rw [← HN.out, dcT_nz hHt.out Hq.out hN0 (by omega)]; rfl, HB6.out⟩
  · obtain rfl : b8 = false := by rw [H8b.out]; exact decide_eq_false hN0
    by_cases hp2 : 0 < (p : Int)
    · go_wp2
      go_ret2
      exact ⟨by rw [← HN.out, dcT_pp hHt.out Hq.out (by omega) (by omega)]; rfl, HB6.out⟩
    · go_wp2
      go_ret2
      exact ⟨by rw [← HN.out, dcT_pz hHt.out Hq.out (by omega) (by omega)]; rfl, HB6.out⟩
end Go.Proofs.YtbapeilpkhbbeaaGreatDoor
