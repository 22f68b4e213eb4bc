/- The document's Between: one Den after the other. Written by gen_rbtw.py. -/
import Derived.Test.YtbapeilpkhbbeaaGreatBn35
/- The document's Between: one Den after the other. Written by gen_rbtw.py. -/
namespace Go.Proofs.YtbapeilpkhbbeaaGreat
open Go.RowKit

/-- The least integer that is not below n k over d. -/
def upI (n d k : Int) : Int := -((-n * k).fdiv d)
theorem upI_le {n d k p : Int} (hd : 0 < d) : upI n d k ≤ p ↔ n * k ≤ p * d := by
  unfold upI
  have h := fdiv_le (-n * k) hd
  constructor
  · intro hp
    have h2 : -p * d ≤ (-n * k).fdiv d * d := Int.mul_le_mul_of_nonneg_right (by omega) (Int.le_of_lt hd)
    have e1 : -p * d = -(p * d) := Int.neg_mul _ _
    have e2 : -n * k = -(n * k) := Int.neg_mul _ _
    omega
  · intro hp
    rcases Int.lt_or_le p (-((-n * k).fdiv d)) with hl | hl
    · exfalso
      have h2 : ((-n * k).fdiv d + 1) * d ≤ -p * d := Int.mul_le_mul_of_nonneg_right (by omega) (Int.le_of_lt hd)
      have e1 : -p * d = -(p * d) := Int.neg_mul _ _
      have e2 : -n * k = -(n * k) := Int.neg_mul _ _
      omega
    · exact hl
theorem le_dn {n d k p : Int} (hd : 0 < d) : p ≤ (n * k).fdiv d ↔ p * d ≤ n * k := by
  have h := fdiv_le (n * k) hd
  constructor
  · intro hp
    have h2 : p * d ≤ (n * k).fdiv d * d := Int.mul_le_mul_of_nonneg_right hp (Int.le_of_lt hd)
    omega
  · intro hp
    rcases Int.lt_or_le ((n * k).fdiv d) p with hl | hl
    · exfalso
      have h2 : ((n * k).fdiv d + 1) * d ≤ p * d := Int.mul_le_mul_of_nonneg_right (by omega) (Int.le_of_lt hd)
      omega
    · exact hl
theorem btw_stop {n1 d1 n2 d2 N E k : Int} (h1 : 0 < d1) (h2 : 0 < d2) (hb : Btw n1 d1 n2 d2 N E) (hk : 0 < k) (hE : k ≤ E) (h : upI n1 d1 k ≤ (n2 * k).fdiv d2) : k = E := by
  have a := (upI_le (n := n1) (k := k) (p := upI n1 d1 k) h1).1 (Int.le_refl _)
  have b := (le_dn (n := n2) (k := k) (p := upI n1 d1 k) h2).1 h
  have := (hb.least _ k hk a b).1
  omega
theorem btw_go {n1 d1 n2 d2 N E k : Int} (h1 : 0 < d1) (h2 : 0 < d2) (hb : Btw n1 d1 n2 d2 N E) (hE : k ≤ E) (h : ¬ upI n1 d1 k ≤ (n2 * k).fdiv d2) : k + 1 ≤ E := by
  rcases Int.lt_or_le k E with hl | hl
  · omega
  · exfalso
    obtain rfl : k = E := by omega
    have a := (upI_le (n := n1) (k := k) (p := N) h1).2 hb.lo
    have b := (le_dn (n := n2) (k := k) (p := N) h2).2 hb.hi
    omega
theorem sq_mono {a b : Int} (ha : 0 ≤ a) (hb : 0 ≤ b) (h : a * a ≤ b * b) : a ≤ b := by
  rcases Int.lt_or_le b a with hl | hl
  · have := Int.mul_le_mul (show b + 1 ≤ a by omega) (show b + 1 ≤ a by omega) (by omega) ha
    have e : (b + 1) * (b + 1) = b * b + 2 * b + 1 := by grind
    omega
  · exact hl
theorem btw_val {n1 d1 n2 d2 N E n : Int} (h1 : 0 < d1) (h2 : 0 < d2) (hb : Btw n1 d1 n2 d2 N E) (h : upI n1 d1 E ≤ (n2 * E).fdiv d2)
    (hn : (0 < upI n1 d1 E ∧ n = upI n1 d1 E) ∨ ((n2 * E).fdiv d2 < 0 ∧ n = (n2 * E).fdiv d2) ∨ (upI n1 d1 E ≤ 0 ∧ 0 ≤ (n2 * E).fdiv d2 ∧ n = 0)) : n = N := by
  have a := (upI_le (n := n1) (k := E) (p := N) h1).2 hb.lo
  have b := (le_dn (n := n2) (k := E) (p := N) h2).2 hb.hi
  have hs : N * N ≤ n * n := by
    have hb1 : upI n1 d1 E ≤ n ∧ n ≤ (n2 * E).fdiv d2 := by omega
    exact (hb.least n E hb.pos ((upI_le h1).1 hb1.1) ((le_dn h2).1 hb1.2)).2
  rcases hn with ⟨p, rfl⟩ | ⟨p, rfl⟩ | ⟨p, q, rfl⟩
  · have := sq_mono (a := N) (b := upI n1 d1 E) (by omega) (by omega) hs
    omega
  · have := sq_mono (a := -N) (b := -(n2 * E).fdiv d2) (by omega) (by omega) (by rw [Int.neg_mul_neg, Int.neg_mul_neg]; exact hs)
    omega
  · have h0 : N * N ≤ 0 := by simpa using hs
    rcases Int.lt_trichotomy N 0 with hN | hN | hN
    · have := Int.mul_pos_of_neg_of_neg hN hN; omega
    · exact hN.symm
    · have := Int.mul_pos hN hN; omega

/-- The number of the block that a value points to. -/
def blkOf : Value → Nat | .pointer (some a) => a.block | _ => 0
theorem Zt.fits {w : World} {v : Value} {z : Int} {K m : Nat} (h : Zt w v z K) (hz : (z.natAbs : Int) < R16 ^ m) : Zt w v z m := by
  obtain ⟨s, rfl, ao, c, L, rfl, hL⟩ := h
  refine ⟨_, rfl, ao, c, L, rfl, hL.rd, hL.dig, hL.nrm, hL.eq, ?_⟩
  by_cases hl : L.length ≤ m
  · exact hl
  · exfalso
    have hlo := hL.nrm.low R16_pos hL.dig (by omega)
    have hp := pow_mono R16_pos (show m ≤ L.length - 1 by omega)
    rw [hL.eq] at hlo
    omega
structure BwI (W0 wr : World) (g k : Nat) : Prop where
  cel : CellZ wr g (k : Int) 4
  low : Below W0.heap.size W0 wr
  ge : W0.heap.size ≤ g

set_option maxRecDepth 100000 in
set_option maxHeartbeats 8000000 in
theorem rBetween_err (u v : Value) (n1 d1 n2 d2 : Int) (w : World) (hu : Qv w u n1 d1 11) (hv : Qv w v n2 d2 11) (hlt : n2 * d1 < n1 * d2) :
    Calls Tryz.prog 49 #[u, v] w fun e w' => e = .returned (.tuple #[.agg #[.bool false, .slice none 0 0, .bool false, .slice none 0 0], .int .i64 2]) ∧ Below w.heap.size w w' := by
  obtain ⟨t, ht⟩ : ∃ t, cmpI (n1 * d2) (n2 * d1) = t := ⟨_, rfl⟩
  have htp : 0 < t := by rw [← ht]; exact cmpI_gt0.2 hlt
  have HCm := hid (fun (w' : World) (x y : Value) (h1 : Qv w' x n1 d1 11) (h2 : Qv w' y n2 d2 11) => rcompare_v x y n1 d1 n2 d2 t 11 w' h1 h2 ht (by decide))
  obtain ⟨b1, o1, m1, c1, bb1, oo1, mm1, cc1, rfl, _⟩ := Qv.opened hu
  obtain ⟨b2, o2, m2, c2, bb2, oo2, mm2, cc2, rfl, _⟩ := Qv.opened hv
  obtain ⟨W0, hW0⟩ : ∃ W0, W0 = (((w.alloc (.cells #[.bool b1, .slice o1 m1 c1, .bool bb1, .slice oo1 mm1 cc1] 35)).alloc (.cells #[.bool b2, .slice o2 m2 c2, .bool bb2, .slice oo2 mm2 cc2] 35)).alloc (.cells #[.bool false, .slice none 0 0, .bool false, .slice none 0 0] 35)) := ⟨_, rfl⟩
  have hB0 : Below w.heap.size w W0 := by rw [hW0]; exact (((Below.refl _ _).alloc (Nat.le_refl _) _).alloc (by simp <;> omega) _).alloc (by simp <;> omega) _
  have hz0 : W0.heap.size = w.heap.size + 3 := by rw [hW0]; simp
  have HN0 := hid (show w.heap.size + 2 < W0.heap.size by rw [hz0]; omega)
  have HS0 : Hid (∀ w', Kp W0.heap.size (w.heap.size + 2) W0 w' → w'.cell? ⟨w.heap.size, 0, none⟩ = some (.bool b1) ∧ w'.cell? ⟨w.heap.size, 1, none⟩ = some (.slice o1 m1 c1) ∧ w'.cell? ⟨w.heap.size, 2, none⟩ = some (.bool bb1) ∧ w'.cell? ⟨w.heap.size, 3, none⟩ = some (.slice oo1 mm1 cc1) ∧ w'.cell? ⟨w.heap.size + 1, 0, none⟩ = some (.bool b2) ∧ w'.cell? ⟨w.heap.size + 1, 1, none⟩ = some (.slice o2 m2 c2) ∧ w'.cell? ⟨w.heap.size + 1, 2, none⟩ = some (.bool bb2) ∧ w'.cell? ⟨w.heap.size + 1, 3, none⟩ = some (.slice oo2 mm2 cc2)) := hid (fun w' hb => by
    refine ⟨?_, ?_, ?_, ?_, ?_, ?_, ?_, ?_⟩ <;> (rw [hb.cell _ (by rw [hz0]; simp <;> omega) (by simp <;> omega), hW0]; simp [go_sem]))
  have HT : Hid (∀ w', Below W0.heap.size W0 w' → (w'.cell? ⟨w.heap.size + 2, 0, none⟩ = some (.bool false) ∧ w'.cell? ⟨w.heap.size + 2, 1, none⟩ = some (.slice none 0 0) ∧ w'.cell? ⟨w.heap.size + 2, 2, none⟩ = some (.bool false) ∧ w'.cell? ⟨w.heap.size + 2, 3, none⟩ = some (.slice none 0 0)) ∧ (w'.frozen? ⟨w.heap.size + 2, 0, none⟩ = false ∧ w'.frozen? ⟨w.heap.size + 2, 1, none⟩ = false ∧ w'.frozen? ⟨w.heap.size + 2, 2, none⟩ = false ∧ w'.frozen? ⟨w.heap.size + 2, 3, none⟩ = false)) := hid (fun w' hb => by
    refine ⟨⟨?_, ?_, ?_, ?_⟩, ?_, ?_, ?_, ?_⟩ <;> (first | (rw [hb.cell (by rw [hz0]; simp), hW0]; simp [go_sem]; done) | (rw [hb.frozen (by rw [hz0]; simp), hW0]; simp [go_sem]; done)))
  have VU : Hid (∀ w', Below W0.heap.size W0 w' → Qv w' (.agg #[.bool b1, .slice o1 m1 c1, .bool bb1, .slice oo1 mm1 cc1]) n1 d1 11) := hid (fun w' hb => (hu.below hB0 (Nat.le_refl _)).below hb (Nat.le_refl _))
  have VV : Hid (∀ w', Below W0.heap.size W0 w' → Qv w' (.agg #[.bool b2, .slice o2 m2 c2, .bool bb2, .slice oo2 mm2 cc2]) n2 d2 11) := hid (fun w' hb => (hv.below hB0 (Nat.le_refl _)).below hb (Nat.le_refl _))
  have hbld : ∀ w : World, (Instr.build 35 #[]).run Tryz.prog w = .ok (.agg #[.bool false, .slice none 0 0, .bool false, .slice none 0 0]) w := fun w => by kernel_rfl
  have HB0 := hid hB0; have HW0 := hid hW0
  clear hW0 hB0 hz0 hu hv hlt ht
  go_enter Tryz.func49, Tryz.ntmps49
  go_upto_region 1 with (fail)
  rw [← HW0.out]
  obtain ⟨k0, k1, k2, k3, k4, k5, k6, k7⟩ := HS0.out _ (Kp.of_below (Below.refl _ _))
  go_wp2_with fail
  refine (HCm.out _ _ _ (VU.out _ (Below.refl _ _)) (VV.out _ (Below.refl _ _))).mono ?_
  rintro e wc ⟨rfl, hXc⟩
  obtain ⟨⟨hr0, hr1, hr2, hr3⟩, hf0, hf1, hf2, hf3⟩ := HT.out _ hXc
  clear k0 k1 k2 k3 k4 k5 k6 k7
  have hn0 := HN0.out
  have hbel : Below w.heap.size w wc := HB0.out.trans (hXc.mono HB0.out.size)
  go_wp2
  refine bodyPost_ret (v := .tuple #[.agg #[.bool false, .slice none 0 0, .bool false, .slice none 0 0], .int .i64 2]) (by simp [results, Tryz.results49, go_sem, hr0, hr1, hr2, hr3]) rfl ⟨rfl, ((((hbel.setCell (by simp <;> omega) _).setCell (by simp <;> omega) _).setCell (by simp <;> omega) _).setCell (by simp <;> omega) _)⟩

set_option maxRecDepth 100000 in
set_option maxHeartbeats 8000000 in
theorem rBetween_v (u v : Value) (n1 d1 n2 d2 N E : Int) (w : World) (hu : Qv w u n1 d1 11) (hv : Qv w v n2 d2 11) (hle : n1 * d2 ≤ n2 * d1) (hB : Btw n1 d1 n2 d2 N E) (hE : E ≤ 2047) :
    Calls Tryz.prog 49 #[u, v] w (RetQvE w 0 N E) := by
  obtain ⟨t, ht⟩ : ∃ t, cmpI (n1 * d2) (n2 * d1) = t := ⟨_, rfl⟩
  have htp : ¬ 0 < t := by rw [← ht, cmpI_gt0]; omega
  obtain ⟨N1, E1, hN1, hE1, _, _⟩ := low_open n1 hu.1
  have pd1 := hu.1; have pd2 := hv.1
  have HCm := hid (fun (w' : World) (x y : Value) (h1 : Qv w' x n1 d1 11) (h2 : Qv w' y n2 d2 11) => rcompare_v x y n1 d1 n2 d2 t 11 w' h1 h2 ht (by decide))
  obtain ⟨b1, o1, m1, c1, bb1, oo1, mm1, cc1, rfl, _⟩ := Qv.opened hu
  obtain ⟨b2, o2, m2, c2, bb2, oo2, mm2, cc2, rfl, _⟩ := Qv.opened hv
  obtain ⟨W0, hW0⟩ : ∃ W0, W0 = (((w.alloc (.cells #[.bool b1, .slice o1 m1 c1, .bool bb1, .slice oo1 mm1 cc1] 35)).alloc (.cells #[.bool b2, .slice o2 m2 c2, .bool bb2, .slice oo2 mm2 cc2] 35)).alloc (.cells #[.bool false, .slice none 0 0, .bool false, .slice none 0 0] 35)) := ⟨_, rfl⟩
  have hB0 : Below w.heap.size w W0 := by rw [hW0]; exact (((Below.refl _ _).alloc (Nat.le_refl _) _).alloc (by simp <;> omega) _).alloc (by simp <;> omega) _
  have hz0 : W0.heap.size = w.heap.size + 3 := by rw [hW0]; simp
  have HN0 := hid (show w.heap.size + 2 < W0.heap.size by rw [hz0]; omega)
  have HS0 : Hid (∀ w', Kp W0.heap.size (w.heap.size + 2) W0 w' → w'.cell? ⟨w.heap.size, 0, none⟩ = some (.bool b1) ∧ w'.cell? ⟨w.heap.size, 1, none⟩ = some (.slice o1 m1 c1) ∧ w'.cell? ⟨w.heap.size, 2, none⟩ = some (.bool bb1) ∧ w'.cell? ⟨w.heap.size, 3, none⟩ = some (.slice oo1 mm1 cc1) ∧ w'.cell? ⟨w.heap.size + 1, 0, none⟩ = some (.bool b2) ∧ w'.cell? ⟨w.heap.size + 1, 1, none⟩ = some (.slice o2 m2 c2) ∧ w'.cell? ⟨w.heap.size + 1, 2, none⟩ = some (.bool bb2) ∧ w'.cell? ⟨w.heap.size + 1, 3, none⟩ = some (.slice oo2 mm2 cc2)) := hid (fun w' hb => by
    refine ⟨?_, ?_, ?_, ?_, ?_, ?_, ?_, ?_⟩ <;> (rw [hb.cell _ (by rw [hz0]; simp <;> omega) (by simp <;> omega), hW0]; simp [go_sem]))
  have HT : Hid (∀ w', Below W0.heap.size W0 w' → (w'.cell? ⟨w.heap.size + 2, 0, none⟩ = some (.bool false) ∧ w'.cell? ⟨w.heap.size + 2, 1, none⟩ = some (.slice none 0 0) ∧ w'.cell? ⟨w.heap.size + 2, 2, none⟩ = some (.bool false) ∧ w'.cell? ⟨w.heap.size + 2, 3, none⟩ = some (.slice none 0 0)) ∧ (w'.frozen? ⟨w.heap.size + 2, 0, none⟩ = false ∧ w'.frozen? ⟨w.heap.size + 2, 1, none⟩ = false ∧ w'.frozen? ⟨w.heap.size + 2, 2, none⟩ = false ∧ w'.frozen? ⟨w.heap.size + 2, 3, none⟩ = false)) := hid (fun w' hb => by
    refine ⟨⟨?_, ?_, ?_, ?_⟩, ?_, ?_, ?_, ?_⟩ <;> (first | (rw [hb.cell (by rw [hz0]; simp), hW0]; simp [go_sem]; done) | (rw [hb.frozen (by rw [hz0]; simp), hW0]; simp [go_sem]; done)))
  have VU : Hid (∀ w', Below W0.heap.size W0 w' → Qv w' (.agg #[.bool b1, .slice o1 m1 c1, .bool bb1, .slice oo1 mm1 cc1]) n1 d1 11) := hid (fun w' hb => (hu.below hB0 (Nat.le_refl _)).below hb (Nat.le_refl _))
  have VV : Hid (∀ w', Below W0.heap.size W0 w' → Qv w' (.agg #[.bool b2, .slice o2 m2 c2, .bool bb2, .slice oo2 mm2 cc2]) n2 d2 11) := hid (fun w' hb => (hv.below hB0 (Nat.le_refl _)).below hb (Nat.le_refl _))
  have HP1 := hid pd1; have HP2 := hid pd2; have HBt := hid hB; have HEm := hid hE; have HN1x := hid hN1; have HE1x := hid hE1
  have hbld : ∀ (b b2 : Bool) (o o2 : Option Addr) (m c m2 c2 : Nat) (w : World), (Instr.build 35 #[(0, .agg #[.bool b, .slice o m c]), (1, .agg #[.bool b2, .slice o2 m2 c2])]).run Tryz.prog w = .ok (.agg #[.bool b, .slice o m c, .bool b2, .slice o2 m2 c2]) w := fun b b2 o o2 m c m2 c2 w => by kernel_rfl
  have hbz : ∀ w : World, (Instr.build 33 #[]).run Tryz.prog w = .ok (.agg #[.bool false, .slice none 0 0]) w := fun w => by kernel_rfl
  have HB0 := hid hB0; have HW0 := hid hW0
  clear hW0 hB0 hz0 hu hv hle hB hE ht pd1 pd2 hN1 hE1
  go_enter Tryz.func49, Tryz.ntmps49
  go_upto_region 1 with (fail)
  rw [← HW0.out]
  obtain ⟨k0, k1, k2, k3, k4, k5, k6, k7⟩ := HS0.out _ (Kp.of_below (Below.refl _ _))
  go_wp2_with fail
  refine (HCm.out _ _ _ (VU.out _ (Below.refl _ _)) (VV.out _ (Below.refl _ _))).mono ?_
  rintro e wc ⟨rfl, hXc⟩
  clear k0 k1 k2 k3 k4 k5 k6 k7 HCm
  go_upto_region 3 with (fail)
  go_wp2_with fail
  refine (rof_o 1 _ (by decide) (by decide)).mono ?_
  rintro e wd ⟨bd, od, md, cd, rfl, Hd, hbq⟩
  obtain ⟨W2, hW2⟩ : ∃ W2, W2 = wd.alloc (.cells #[.bool bd, .slice od md cd] 33) := ⟨_, rfl⟩
  have hlow : Below W0.heap.size W0 W2 := by rw [hW2]; exact bl_tr hXc (bl_tr hbq (bl_new _))
  have hge : W0.heap.size ≤ wd.heap.size := Nat.le_trans hXc.size hbq.size
  have HI0 : Hid (BwI W0 W2 wd.heap.size 1) := hid ⟨by rw [hW2]; exact CellZ.new Hd.out, hlow, hge⟩
  obtain ⟨g0, hg0⟩ : ∃ g, g = wd.heap.size := ⟨_, rfl⟩
  rw [← hg0] at HI0
  go_wp2_with fail
  rw [← hW2, ← hg0]
  clear hW2 hg0 hlow hge hbq Hd hXc
  go_loopw [6] (fun iv wr => ∃ k g : Nat, iv = .pointer (some ⟨g, 0, none⟩) ∧ 1 ≤ k ∧ (k : Int) ≤ E ∧ BwI W0 wr g k) (fun iv wr => 3000 - cellNat wr (blkOf iv))
  case atStart => exact ⟨1, g0, rfl, Nat.le_refl _, by have := HBt.out.pos; omega, HI0.out⟩
  case round =>
    obtain ⟨k, g, rfl, hk1, hkE, H⟩ := hrel
    clear HI0
    have HH := hid H; have Hk1 := hid hk1; have HkE := hid hkE
    obtain ⟨bk, ok, mk, ck, HC, HZ, _, _⟩ := H.cel.opened
    have hHN := HN0.out
    obtain ⟨W1, hW1⟩ : ∃ W, W = wr := ⟨_, rfl⟩
    have hlow : Below W0.heap.size W0 W1 := by rw [hW1]; exact H.low
    rw [← hW1] at HC HZ HH
    have HS1 : Hid (∀ w', Kp W1.heap.size (w.heap.size + 2) W1 w' → (w'.cell? ⟨w.heap.size, 0, none⟩ = some (.bool b1) ∧ w'.cell? ⟨w.heap.size, 1, none⟩ = some (.slice o1 m1 c1) ∧ w'.cell? ⟨w.heap.size, 2, none⟩ = some (.bool bb1) ∧ w'.cell? ⟨w.heap.size, 3, none⟩ = some (.slice oo1 mm1 cc1) ∧ w'.cell? ⟨w.heap.size + 1, 0, none⟩ = some (.bool b2) ∧ w'.cell? ⟨w.heap.size + 1, 1, none⟩ = some (.slice o2 m2 c2) ∧ w'.cell? ⟨w.heap.size + 1, 2, none⟩ = some (.bool bb2) ∧ w'.cell? ⟨w.heap.size + 1, 3, none⟩ = some (.slice oo2 mm2 cc2)) ∧ w'.cell? ⟨g, 0, none⟩ = some (.bool bk) ∧ w'.cell? ⟨g, 1, none⟩ = some (.slice ok mk ck)) := hid (fun w' hb => by
      have hgl := HH.out.cel.lt; have hgg := HH.out.ge; have hc := HC.out _ (Below.refl _ _)
      exact ⟨HS0.out _ (hb.trans_below hlow), (hb.cell _ (by simpa using hgl) (by simp; omega)).trans hc.1, (hb.cell _ (by simpa using hgl) (by simp; omega)).trans hc.2.1⟩)
    have HT := hid (fun w' hb => HT.out w' (bl_tr hlow hb))
    have VU := hid (fun w' hb => VU.out w' (bl_tr hlow hb))
    have VV := hid (fun w' hb => VV.out w' (bl_tr hlow hb))
    have V6 : Hid (∀ w', Below W1.heap.size W1 w' → Zt w' (.agg #[.bool bk, .slice ok mk ck]) (k : Int) 3000) := hid (fun w' hb => (HZ.out w' hb).mono (by decide))
    have HN1 := hid (show w.heap.size + 2 < W1.heap.size from Nat.lt_of_lt_of_le hHN hlow.size)
    have HB1 := hid (HB0.out.trans (hlow.mono HB0.out.size)); have HW1 := hid hW1
    have HWr := hid hW1
    have VL : Hid (∀ w', Below W1.heap.size W1 w' → Below W0.heap.size W0 w') := hid (fun w' hb => hlow.trans (hb.mono hlow.size))
    clear hW1 hlow H hk1 hkE hHN
    go_upto_region 5 with (fail)
    rw [← HW1.out]
    obtain ⟨⟨k0, k1, k2, k3, k4, k5, k6, k7⟩, k8, k9⟩ := HS1.out _ (Kp.of_below (Below.refl _ _))
    go_wp2_with fail
    refine (rwhole_v _ (k : Int) 3000 _ (V6.out _ (Below.refl _ _)) (by decide)).mono ?_
    rintro e wq7 ⟨b7, o7, m7, c7, bb7, oo7, mm7, cc7, rfl, H7, hbq⟩
    have hXq : Below W1.heap.size W1 wq7 := hbq
    clear k0 k1 k2 k3 k4 k5 k6 k7 k8 k9
    obtain ⟨W2, hW2⟩ : ∃ W, W = wq7.alloc (.cells #[.bool b7, .slice o7 m7 c7, .bool bb7, .slice oo7 mm7 cc7] 35) := ⟨_, rfl⟩
    have hal2 : Below wq7.heap.size wq7 W2 := by rw [hW2]; exact bl_new _
    have hXn2 : Below W1.heap.size W1 W2 := bl_tr hXq hal2
    have hsz2 : w.heap.size + 2 < wq7.heap.size := Nat.lt_of_lt_of_le HN1.out hXq.size
    have HS2 : Hid (∀ w', Kp W2.heap.size (w.heap.size + 2) W2 w' → ((w'.cell? ⟨w.heap.size, 0, none⟩ = some (.bool b1) ∧ w'.cell? ⟨w.heap.size, 1, none⟩ = some (.slice o1 m1 c1) ∧ w'.cell? ⟨w.heap.size, 2, none⟩ = some (.bool bb1) ∧ w'.cell? ⟨w.heap.size, 3, none⟩ = some (.slice oo1 mm1 cc1) ∧ w'.cell? ⟨w.heap.size + 1, 0, none⟩ = some (.bool b2) ∧ w'.cell? ⟨w.heap.size + 1, 1, none⟩ = some (.slice o2 m2 c2) ∧ w'.cell? ⟨w.heap.size + 1, 2, none⟩ = some (.bool bb2) ∧ w'.cell? ⟨w.heap.size + 1, 3, none⟩ = some (.slice oo2 mm2 cc2)) ∧ w'.cell? ⟨g, 0, none⟩ = some (.bool bk) ∧ w'.cell? ⟨g, 1, none⟩ = some (.slice ok mk ck)) ∧ w'.cell? ⟨wq7.heap.size, 0, none⟩ = some (.bool b7) ∧ w'.cell? ⟨wq7.heap.size, 1, none⟩ = some (.slice o7 m7 c7) ∧ w'.cell? ⟨wq7.heap.size, 2, none⟩ = some (.bool bb7) ∧ w'.cell? ⟨wq7.heap.size, 3, none⟩ = some (.slice oo7 mm7 cc7)) := hid (fun w' hb => by
      refine ⟨HS1.out _ (hb.trans_below hXn2), ?_, ?_, ?_, ?_⟩ <;> (rw [hb.cell _ (by rw [hW2]; simp) (by simp <;> omega), hW2]; simp [go_sem]))
    replace HT := hid (fun w' hb => HT.out w' (bl_tr hXn2 hb))
    replace VU := hid (fun w' hb => VU.out w' (bl_tr hXn2 hb))
    replace VV := hid (fun w' hb => VV.out w' (bl_tr hXn2 hb))
    replace V6 := hid (fun w' hb => V6.out w' (bl_tr hXn2 hb))
    replace VL := hid (fun w' hb => VL.out w' (bl_tr hXn2 hb))
    have V7 : Hid (∀ w', Below W2.heap.size W2 w' → Qv w' (.agg #[.bool b7, .slice o7 m7 c7, .bool bb7, .slice oo7 mm7 cc7]) (k : Int) 1 3000) := hid (fun w' hb => H7.out.below (bl_tr hal2 hb) (Nat.le_refl _))
    have HN2 := hid (show w.heap.size + 2 < W2.heap.size from Nat.lt_of_lt_of_le HN1.out hXn2.size)
    have HB2 := hid (HB1.out.trans (hXn2.mono HB1.out.size)); have HW2 := hid hW2
    clear hW2 hal2 hXn2 hsz2 HS1 HB1 HW1 HN1 hXq
    clear hbq H7
    go_upto_region 6 with (fail)
    rw [← HW2.out]
    have hX0 := Below.refl W2.heap.size W2
    have HKG : Hid (AllKeep [(false, (fun wq vq => vq = .pointer (some ⟨w.heap.size, 0, none⟩)), undef), (false, (fun wq vq => vq = (.agg #[.bool b1, .slice o1 m1 c1])), undef), (false, (fun wq vq => Zt wq vq (-N1) (11)), undef), (false, (fun wq vq => vq = .pointer (some ⟨w.heap.size, 2, none⟩)), undef), (false, (fun wq vq => vq = (.agg #[.bool bb1, .slice oo1 mm1 cc1])), undef), (false, (fun wq vq => Qv wq vq (-n1) d1 3000), undef), (false, (fun wq vq => vq = (.agg #[.bool b7, .slice o7 m7 c7, .bool bb7, .slice oo7 mm7 cc7])), undef), (false, (fun wq vq => Qv wq vq (-n1 * (k : Int)) (d1) (6005)), undef), (false, (fun wq vq => Zt wq vq ((-n1 * (k : Int)).fdiv d1) (6007)), undef), (false, (fun wq vq => Zt wq vq (upI n1 d1 (k : Int)) 6007), undef)]) := hid ⟨kcV _, kcV _, ztV _ _, kcV _, kcV _, qvV _ _ _, kcV _, qvV _ _ _, ztV _ _, ztV _ _, trivial⟩
    refine region_inv (by kernel_rfl) (fun L act w' => ∃ f0 f1 f2 f3 f4 f5 f6 f7 f8 f9 f10 f11, L = #[f0, f1, f2, f3, f4, f5, f6, f7, f8, f9, f10, f11] ∧ (f11 = true → f10 = true ∧ f9 = true) ∧ ∃ s22 s23 s24 s25 s26 s27 s28 s29 s30 s31 s8, act = { tmps := #[(.agg #[.bool b1, .slice o1 m1 c1, .bool bb1, .slice oo1 mm1 cc1]), (.agg #[.bool b2, .slice o2 m2 c2, .bool bb2, .slice oo2 mm2 cc2]), .pointer (some ⟨w.heap.size, 0, none⟩), .pointer (some ⟨w.heap.size + 1, 0, none⟩), .pointer (some ⟨w.heap.size + 1 + 1, 0, none⟩), u5, .pointer (some ⟨g, 0, none⟩), .pointer (some ⟨wq7.heap.size, 0, none⟩), s8, u9, u10, (.agg #[.bool b1, .slice o1 m1 c1, .bool bb1, .slice oo1 mm1 cc1]), (.agg #[.bool b2, .slice o2 m2 c2, .bool bb2, .slice oo2 mm2 cc2]), .int .i64 t, .bool (decide (0 < t)), undef, (.agg #[.bool bd, .slice od md cd]), u17, u18, u19, (.agg #[.bool bk, .slice ok mk ck]), (.agg #[.bool b7, .slice o7 m7 c7, .bool bb7, .slice oo7 mm7 cc7]), s22, s23, s24, s25, s26, s27, s28, s29, s30, s31, u32, u33, u34, u35, u36, u37, u38, u39, u40, u41, u42, u43, u44, u45, u46, u47, u48, u49, u50, u51, u52], defers := [] } ∧ RX W2.heap.size W2 [(f0, (fun wq vq => vq = .pointer (some ⟨w.heap.size, 0, none⟩)), s22), (f1, (fun wq vq => vq = (.agg #[.bool b1, .slice o1 m1 c1])), s23), (f2, (fun wq vq => Zt wq vq (-N1) (11)), s24), (f3, (fun wq vq => vq = .pointer (some ⟨w.heap.size, 2, none⟩)), s25), (f4, (fun wq vq => vq = (.agg #[.bool bb1, .slice oo1 mm1 cc1])), s26), (f5, (fun wq vq => Qv wq vq (-n1) d1 3000), s27), (f6, (fun wq vq => vq = (.agg #[.bool b7, .slice o7 m7 c7, .bool bb7, .slice oo7 mm7 cc7])), s28), (f7, (fun wq vq => Qv wq vq (-n1 * (k : Int)) (d1) (6005)), s29), (f8, (fun wq vq => Zt wq vq ((-n1 * (k : Int)).fdiv d1) (6007)), s30), (f9, (fun wq vq => Zt wq vq (upI n1 d1 (k : Int)) 6007), s31)] [(2, f10, f11, s8, s31)] w') ?_ ?_ ?_
    · exact ⟨_, _, _, _, _, _, _, _, _, _, _, _, rfl, nofun, _, _, _, _, _, _, _, _, _, _, _, rfl, hX0.drew, hX0.size, ⟨nofun, nofun, nofun, nofun, nofun, nofun, nofun, nofun, nofun, nofun, trivial⟩, ⟨nofun, trivial⟩, ⟨trivial, trivial⟩⟩
    · rintro L act w' i hs ⟨f0, f1, f2, f3, f4, f5, f6, f7, f8, f9, f10, f11, rfl, d0, s22, s23, s24, s25, s26, s27, s28, s29, s30, s31, s8, rfl, J⟩ hi
      obtain ⟨hi, hn, hd⟩ := waits_spec (dep := [[], [0], [1], [], [3], [2, 4], [], [5, 6, 2], [7], [8], [], [10, 9]]) (by kernel_rfl) hi
      have hiN : i < 12 := hi
      obtain ⟨⟨⟨k0, k1, k2, k3, k4, k5, k6, k7⟩, k8, k9⟩, k10, k11, k12, k13⟩ := (hid (fun w' hb => HS2.out w' (Kp.of_below hb))).out w' J.bel
      have HJ := hid J
      rcases (show i = 0 ∨ i = 1 ∨ i = 2 ∨ i = 3 ∨ i = 4 ∨ i = 5 ∨ i = 6 ∨ i = 7 ∨ i = 8 ∨ i = 9 ∨ i = 10 ∨ i = 11 by omega) with rfl | rfl | rfl | rfl | rfl | rfl | rfl | rfl | rfl | rfl | rfl | rfl
      · clear J hd hi hiN hn
        refine wpOp_step rfl (fun kq hKq => ?_)
        go_simp
        exact hKq _ _ ⟨true, f1, f2, f3, f4, f5, f6, f7, f8, f9, f10, f11, rfl, d0, _, _, _, _, _, _, _, _, _, _, _, rfl, HJ.out.bel, HJ.out.siz, ⟨fun _ => rfl, HJ.out.vals.2.1, HJ.out.vals.2.2.1, HJ.out.vals.2.2.2.1, HJ.out.vals.2.2.2.2.1, HJ.out.vals.2.2.2.2.2.1, HJ.out.vals.2.2.2.2.2.2.1, HJ.out.vals.2.2.2.2.2.2.2.1, HJ.out.vals.2.2.2.2.2.2.2.2.1, HJ.out.vals.2.2.2.2.2.2.2.2.2.1, trivial⟩, ⟨HJ.out.boxes.1, trivial⟩, HJ.out.ne⟩
      · have e22 : s22 = .pointer (some ⟨w.heap.size, 0, none⟩) := J.vals.1 (hd 0 (by simp))
        subst e22
        clear J hd hi hiN hn
        refine wpOp_step rfl (fun kq hKq => ?_)
        go_simp
        exact hKq _ _ ⟨f0, true, f2, f3, f4, f5, f6, f7, f8, f9, f10, f11, rfl, d0, _, _, _, _, _, _, _, _, _, _, _, rfl, HJ.out.bel, HJ.out.siz, ⟨HJ.out.vals.1, fun _ => rfl, HJ.out.vals.2.2.1, HJ.out.vals.2.2.2.1, HJ.out.vals.2.2.2.2.1, HJ.out.vals.2.2.2.2.2.1, HJ.out.vals.2.2.2.2.2.2.1, HJ.out.vals.2.2.2.2.2.2.2.1, HJ.out.vals.2.2.2.2.2.2.2.2.1, HJ.out.vals.2.2.2.2.2.2.2.2.2.1, trivial⟩, ⟨HJ.out.boxes.1, trivial⟩, HJ.out.ne⟩
      · obtain rfl : f2 = false := hn
        have e23 : s23 = (.agg #[.bool b1, .slice o1 m1 c1]) := J.vals.2.1 (hd 1 (by simp))
        subst e23
        have hw := J.bel
        clear J hd hi hiN
        refine wpOp_step rfl (fun kq hKq => ?_)
        go_simp
        refine (rneg_o _ N1 11 _ (by rw [HN1x.out]; exact (VU.out _ hw).num.1)).mono ?_
        rintro e wz ⟨ub, uo, um, uc, rfl, HZq, hb⟩
        have J2 := RX.step HJ.out HKG.out hb
        exact hKq _ _ ⟨f0, f1, true, f3, f4, f5, f6, f7, f8, f9, f10, f11, rfl, d0, _, _, _, _, _, _, _, _, _, _, _, rfl, J2.bel, J2.siz, ⟨J2.vals.1, J2.vals.2.1, fun _ => HZq.out, J2.vals.2.2.2.1, J2.vals.2.2.2.2.1, J2.vals.2.2.2.2.2.1, J2.vals.2.2.2.2.2.2.1, J2.vals.2.2.2.2.2.2.2.1, J2.vals.2.2.2.2.2.2.2.2.1, J2.vals.2.2.2.2.2.2.2.2.2.1, trivial⟩, ⟨J2.boxes.1, trivial⟩, J2.ne⟩
      · clear J hd hi hiN hn
        refine wpOp_step rfl (fun kq hKq => ?_)
        go_simp
        exact hKq _ _ ⟨f0, f1, f2, true, f4, f5, f6, f7, f8, f9, f10, f11, rfl, d0, _, _, _, _, _, _, _, _, _, _, _, rfl, HJ.out.bel, HJ.out.siz, ⟨HJ.out.vals.1, HJ.out.vals.2.1, HJ.out.vals.2.2.1, fun _ => rfl, HJ.out.vals.2.2.2.2.1, HJ.out.vals.2.2.2.2.2.1, HJ.out.vals.2.2.2.2.2.2.1, HJ.out.vals.2.2.2.2.2.2.2.1, HJ.out.vals.2.2.2.2.2.2.2.2.1, HJ.out.vals.2.2.2.2.2.2.2.2.2.1, trivial⟩, ⟨HJ.out.boxes.1, trivial⟩, HJ.out.ne⟩
      · have e25 : s25 = .pointer (some ⟨w.heap.size, 2, none⟩) := J.vals.2.2.2.1 (hd 3 (by simp))
        subst e25
        clear J hd hi hiN hn
        refine wpOp_step rfl (fun kq hKq => ?_)
        go_simp
        exact hKq _ _ ⟨f0, f1, f2, f3, true, f5, f6, f7, f8, f9, f10, f11, rfl, d0, _, _, _, _, _, _, _, _, _, _, _, rfl, HJ.out.bel, HJ.out.siz, ⟨HJ.out.vals.1, HJ.out.vals.2.1, HJ.out.vals.2.2.1, HJ.out.vals.2.2.2.1, fun _ => rfl, HJ.out.vals.2.2.2.2.2.1, HJ.out.vals.2.2.2.2.2.2.1, HJ.out.vals.2.2.2.2.2.2.2.1, HJ.out.vals.2.2.2.2.2.2.2.2.1, HJ.out.vals.2.2.2.2.2.2.2.2.2.1, trivial⟩, ⟨HJ.out.boxes.1, trivial⟩, HJ.out.ne⟩
      · have h24 : (fun wq vq => Zt wq vq (-N1) (11)) w' s24 := J.vals.2.2.1 (hd 2 (by simp))
        have e26 : s26 = (.agg #[.bool bb1, .slice oo1 mm1 cc1]) := J.vals.2.2.2.2.1 (hd 4 (by simp))
        subst e26
        clear J hd hi hiN hn
        obtain ⟨nb, no, nm, nc, rfl, H24⟩ := Zt.opened h24
        have hq27 : Qv w' (.agg #[.bool nb, .slice no nm nc, .bool bb1, .slice oo1 mm1 cc1]) (-n1) d1 3000 := ⟨HP1.out, _, _, _, _, _, _, _, _, rfl, by rw [(low_neg n1 d1).1, ← HN1x.out]; exact h24.mono (by decide), by rw [(low_neg n1 d1).2]; exact (VU.out _ HJ.out.bel).num.2.mono (by decide)⟩
        refine wpOp_step rfl (fun kq hKq => ?_)
        go_simp
        exact hKq _ _ ⟨f0, f1, f2, f3, f4, true, f6, f7, f8, f9, f10, f11, rfl, d0, _, _, _, _, _, _, _, _, _, _, _, rfl, HJ.out.bel, HJ.out.siz, ⟨HJ.out.vals.1, HJ.out.vals.2.1, HJ.out.vals.2.2.1, HJ.out.vals.2.2.2.1, HJ.out.vals.2.2.2.2.1, fun _ => hq27, HJ.out.vals.2.2.2.2.2.2.1, HJ.out.vals.2.2.2.2.2.2.2.1, HJ.out.vals.2.2.2.2.2.2.2.2.1, HJ.out.vals.2.2.2.2.2.2.2.2.2.1, trivial⟩, ⟨HJ.out.boxes.1, trivial⟩, HJ.out.ne⟩
      · clear J hd hi hiN hn
        refine wpOp_step rfl (fun kq hKq => ?_)
        go_simp
        exact hKq _ _ ⟨f0, f1, f2, f3, f4, f5, true, f7, f8, f9, f10, f11, rfl, d0, _, _, _, _, _, _, _, _, _, _, _, rfl, HJ.out.bel, HJ.out.siz, ⟨HJ.out.vals.1, HJ.out.vals.2.1, HJ.out.vals.2.2.1, HJ.out.vals.2.2.2.1, HJ.out.vals.2.2.2.2.1, HJ.out.vals.2.2.2.2.2.1, fun _ => rfl, HJ.out.vals.2.2.2.2.2.2.2.1, HJ.out.vals.2.2.2.2.2.2.2.2.1, HJ.out.vals.2.2.2.2.2.2.2.2.2.1, trivial⟩, ⟨HJ.out.boxes.1, trivial⟩, HJ.out.ne⟩
      · obtain rfl : f7 = false := hn
        have h27 : (fun wq vq => Qv wq vq (-n1) d1 3000) w' s27 := J.vals.2.2.2.2.2.1 (hd 5 (by simp))
        have e28 : s28 = (.agg #[.bool b7, .slice o7 m7 c7, .bool bb7, .slice oo7 mm7 cc7]) := J.vals.2.2.2.2.2.2.1 (hd 6 (by simp))
        subst e28
        have hw := J.bel
        clear J hd hi hiN
        refine wpOp_step rfl (fun kq hKq => ?_)
        go_simp
        refine (rtimes_w _ _ (-n1) d1 (k : Int) 3000 6005 _ h27 (V7.out _ hw) (by decide) (by decide) (by decide)).mono ?_
        rintro e wz ⟨ub, uo, um, uc, vb, vo, vm, vc, rfl, HZq, hb⟩
        have J2 := RX.step HJ.out HKG.out hb
        exact hKq _ _ ⟨f0, f1, f2, f3, f4, f5, f6, true, f8, f9, f10, f11, rfl, d0, _, _, _, _, _, _, _, _, _, _, _, rfl, J2.bel, J2.siz, ⟨J2.vals.1, J2.vals.2.1, J2.vals.2.2.1, J2.vals.2.2.2.1, J2.vals.2.2.2.2.1, J2.vals.2.2.2.2.2.1, J2.vals.2.2.2.2.2.2.1, fun _ => HZq.out, J2.vals.2.2.2.2.2.2.2.2.1, J2.vals.2.2.2.2.2.2.2.2.2.1, trivial⟩, ⟨J2.boxes.1, trivial⟩, J2.ne⟩
      · obtain rfl : f8 = false := hn
        have h29 : (fun wq vq => Qv wq vq (-n1 * (k : Int)) (d1) (6005)) w' s29 := J.vals.2.2.2.2.2.2.2.1 (hd 7 (by simp))
        have hw := J.bel
        clear J hd hi hiN
        refine wpOp_step rfl (fun kq hKq => ?_)
        go_simp
        refine (rfloor_v _ _ _ 6005 6007 _ h29 (by decide) (by decide)).mono ?_
        rintro e wz ⟨ub, uo, um, uc, rfl, HZq, hb⟩
        have J2 := RX.step HJ.out HKG.out hb
        exact hKq _ _ ⟨f0, f1, f2, f3, f4, f5, f6, f7, true, f9, f10, f11, rfl, d0, _, _, _, _, _, _, _, _, _, _, _, rfl, J2.bel, J2.siz, ⟨J2.vals.1, J2.vals.2.1, J2.vals.2.2.1, J2.vals.2.2.2.1, J2.vals.2.2.2.2.1, J2.vals.2.2.2.2.2.1, J2.vals.2.2.2.2.2.2.1, J2.vals.2.2.2.2.2.2.2.1, fun _ => HZq.out, J2.vals.2.2.2.2.2.2.2.2.2.1, trivial⟩, ⟨J2.boxes.1, trivial⟩, J2.ne⟩
      · obtain rfl : f9 = false := hn
        obtain rfl : f11 = false := by cases f11 with | false => rfl | true => exact absurd (d0 rfl).2 (by simp)
        have h30 : (fun wq vq => Zt wq vq ((-n1 * (k : Int)).fdiv d1) (6007)) w' s30 := J.vals.2.2.2.2.2.2.2.2.1 (hd 8 (by simp))
        have hw := J.bel
        clear J hd hi hiN d0
        refine wpOp_step rfl (fun kq hKq => ?_)
        go_simp
        refine (rneg_o _ _ 6007 _ h30).mono ?_
        rintro e wz ⟨ub, uo, um, uc, rfl, HZq, hb⟩
        have J2 := RX.step HJ.out HKG.out hb
        exact hKq _ _ ⟨f0, f1, f2, f3, f4, f5, f6, f7, f8, true, f10, false, rfl, nofun, _, _, _, _, _, _, _, _, _, _, _, rfl, J2.bel, J2.siz, ⟨J2.vals.1, J2.vals.2.1, J2.vals.2.2.1, J2.vals.2.2.2.1, J2.vals.2.2.2.2.1, J2.vals.2.2.2.2.2.1, J2.vals.2.2.2.2.2.2.1, J2.vals.2.2.2.2.2.2.2.1, J2.vals.2.2.2.2.2.2.2.2.1, fun _ => HZq.out, trivial⟩, ⟨fun e => (J2.boxes.1 e).fresh, trivial⟩, J2.ne⟩
      · obtain rfl : f10 = false := hn
        obtain rfl : f11 = false := by cases f11 with | false => rfl | true => exact absurd (d0 rfl).1 (by simp)
        clear J hd hi hiN d0
        refine wpOp_step rfl (fun kq hKq => ?_)
        go_simp
        have J2 := RX.step HJ.out HKG.out (bl_new (w := w') (.cells #[.bool false, .slice none 0 0] 33))
        exact hKq _ _ ⟨f0, f1, f2, f3, f4, f5, f6, f7, f8, f9, true, false, rfl, nofun, _, _, _, _, _, _, _, _, _, _, _, rfl, J2.bel, J2.siz, J2.vals, ⟨fun _ => boxn_new _ w' _ _ [.bool false, .slice none 0 0] (by intro i k x hi; match i, hi with | 0, _ => nofun | 1, _ => nofun) HJ.out.siz, trivial⟩, ⟨trivial, trivial⟩⟩
      · obtain rfl : f10 = true := hd 10 (by simp)
        obtain rfl : f9 = true := hd 9 (by simp)
        obtain ⟨fb, fo, fm, fc, rfl, _⟩ := Zt.opened (J.vals.2.2.2.2.2.2.2.2.2.1 rfl)
        have HBX : Hid _ := hid (J.boxes.1 rfl)
        obtain ⟨p, vs, rfl, hp, hl, hnn, hc, hf, _⟩ := J.boxes.1 rfl
        have cc0 := hc 0 (by decide)
        have ff0 := hf 0 (by decide)
        have cc1 := hc 1 (by decide)
        have ff1 := hf 1 (by decide)
        clear J hd hi hiN hn hc hf hnn hl
        refine wpOp_step rfl (fun kq hKq => ?_)
        go_simp
        exact hKq _ _ ⟨f0, f1, f2, f3, f4, f5, f6, f7, f8, true, true, true, rfl, fun _ => ⟨rfl, rfl⟩, _, _, _, _, _, _, _, _, _, _, _, rfl, below_setCells hp [.bool fb, .slice fo fm fc] 0 HJ.out.bel, Nat.le_trans HJ.out.siz (Nat.le_of_eq (size_setCells p [.bool fb, .slice fo fm fc] 0 w').symm), Vals.keep HKG.out (BoxN.keeps HBX.out (us := [.bool fb, .slice fo fm fc]) rfl) HJ.out.vals, ⟨fun _ => BoxN.store HBX.out [.bool fb, .slice fo fm fc] rfl (by intro i k x hi; match i, hi with | 0, _ => nofun | 1, _ => nofun), trivial⟩, HJ.out.ne⟩
    rintro L act w' hs ⟨f0, f1, f2, f3, f4, f5, f6, f7, f8, f9, f10, f11, rfl, _, s22, s23, s24, s25, s26, s27, s28, s29, s30, s31, s8, rfl, J⟩ hr
    have hd := early_done (by kernel_rfl) hs hr 12
    obtain rfl : f0 = true := hd 0 (by omega) (by simp)
    obtain rfl : f1 = true := hd 1 (by omega) (by simp)
    obtain rfl : f2 = true := hd 2 (by omega) (by simp)
    obtain rfl : f3 = true := hd 3 (by omega) (by simp)
    obtain rfl : f4 = true := hd 4 (by omega) (by simp)
    obtain rfl : f5 = true := hd 5 (by omega) (by simp)
    obtain rfl : f6 = true := hd 6 (by omega) (by simp)
    obtain rfl : f7 = true := hd 7 (by omega) (by simp)
    obtain rfl : f8 = true := hd 8 (by omega) (by simp)
    obtain rfl : f9 = true := hd 9 (by omega) (by simp)
    obtain rfl : f10 = true := hd 10 (by omega) (by simp)
    obtain rfl : f11 = true := hd 11 (by omega) (by simp)
    have e22 : s22 = .pointer (some ⟨w.heap.size, 0, none⟩) := J.vals.1 rfl
    subst e22
    have e23 : s23 = (.agg #[.bool b1, .slice o1 m1 c1]) := J.vals.2.1 rfl
    subst e23
    have e25 : s25 = .pointer (some ⟨w.heap.size, 2, none⟩) := J.vals.2.2.2.1 rfl
    subst e25
    have e26 : s26 = (.agg #[.bool bb1, .slice oo1 mm1 cc1]) := J.vals.2.2.2.2.1 rfl
    subst e26
    have e28 : s28 = (.agg #[.bool b7, .slice o7 m7 c7, .bool bb7, .slice oo7 mm7 cc7]) := J.vals.2.2.2.2.2.2.1 rfl
    subst e28
    have hg8 : (fun wq vq => Zt wq vq (upI n1 d1 (k : Int)) 6007) w' s31 := J.vals.2.2.2.2.2.2.2.2.2.1 rfl
    obtain ⟨fb, fo, fm, fc, rfl, _⟩ := Zt.opened hg8
    obtain ⟨p8, rfl, hp8, hl8, hc8⟩ := BoxN.done (us := [.bool fb, .slice fo fm fc]) (J.boxes.1 rfl)
    have k8_0 : w'.cell? ⟨p8, 0, none⟩ = some (.bool fb) := (hc8 0 (by decide)).1
    have k8_1 : w'.cell? ⟨p8, 1, none⟩ = some (.slice fo fm fc) := (hc8 1 (by decide)).1
    clear hc8
    have hbel := J.bel
    have hsiz := J.siz
    have hv24 : (fun wq vq => Zt wq vq (-N1) (11)) w' s24 := J.vals.2.2.1 rfl
    have hv27 : (fun wq vq => Qv wq vq (-n1) d1 3000) w' s27 := J.vals.2.2.2.2.2.1 rfl
    have hv29 : (fun wq vq => Qv wq vq (-n1 * (k : Int)) (d1) (6005)) w' s29 := J.vals.2.2.2.2.2.2.2.1 rfl
    have hv30 : (fun wq vq => Zt wq vq ((-n1 * (k : Int)).fdiv d1) (6007)) w' s30 := J.vals.2.2.2.2.2.2.2.2.1 rfl
    clear hd hr hs J
    obtain ⟨W3, hW3⟩ : ∃ W, W = w' := ⟨_, rfl⟩
    rw [← hW3] at hbel hg8 hl8 k8_0 k8_1
    have hsz3 : w.heap.size + 2 < p8 := Nat.lt_of_lt_of_le HN2.out hp8
    have HS3 : Hid (∀ w', Kp W3.heap.size (w.heap.size + 2) W3 w' → (((w'.cell? ⟨w.heap.size, 0, none⟩ = some (.bool b1) ∧ w'.cell? ⟨w.heap.size, 1, none⟩ = some (.slice o1 m1 c1) ∧ w'.cell? ⟨w.heap.size, 2, none⟩ = some (.bool bb1) ∧ w'.cell? ⟨w.heap.size, 3, none⟩ = some (.slice oo1 mm1 cc1) ∧ w'.cell? ⟨w.heap.size + 1, 0, none⟩ = some (.bool b2) ∧ w'.cell? ⟨w.heap.size + 1, 1, none⟩ = some (.slice o2 m2 c2) ∧ w'.cell? ⟨w.heap.size + 1, 2, none⟩ = some (.bool bb2) ∧ w'.cell? ⟨w.heap.size + 1, 3, none⟩ = some (.slice oo2 mm2 cc2)) ∧ w'.cell? ⟨g, 0, none⟩ = some (.bool bk) ∧ w'.cell? ⟨g, 1, none⟩ = some (.slice ok mk ck)) ∧ w'.cell? ⟨wq7.heap.size, 0, none⟩ = some (.bool b7) ∧ w'.cell? ⟨wq7.heap.size, 1, none⟩ = some (.slice o7 m7 c7) ∧ w'.cell? ⟨wq7.heap.size, 2, none⟩ = some (.bool bb7) ∧ w'.cell? ⟨wq7.heap.size, 3, none⟩ = some (.slice oo7 mm7 cc7)) ∧ w'.cell? ⟨p8, 0, none⟩ = some (.bool fb) ∧ w'.cell? ⟨p8, 1, none⟩ = some (.slice fo fm fc)) := hid (fun w' hb => by
      refine ⟨HS2.out _ (hb.trans_below hbel), (hb.cell _ (by simpa using hl8) (by simp <;> omega)).trans k8_0, (hb.cell _ (by simpa using hl8) (by simp <;> omega)).trans k8_1⟩)
    replace HT := hid (fun w' hb => HT.out w' (bl_tr hbel hb))
    replace VU := hid (fun w' hb => VU.out w' (bl_tr hbel hb))
    replace VV := hid (fun w' hb => VV.out w' (bl_tr hbel hb))
    replace V6 := hid (fun w' hb => V6.out w' (bl_tr hbel hb))
    replace VL := hid (fun w' hb => VL.out w' (bl_tr hbel hb))
    replace V7 := hid (fun w' hb => V7.out w' (bl_tr hbel hb))
    have V8 : Hid (∀ w', Below W3.heap.size W3 w' → Zt w' (.agg #[.bool fb, .slice fo fm fc]) (upI n1 d1 (k : Int)) 6007) := hid (fun w' hb => hg8.below hb (Nat.le_refl _))
    have HN3 := hid (show w.heap.size + 2 < W3.heap.size from Nat.lt_of_lt_of_le HN2.out hbel.size)
    have HB3 := hid (HB2.out.trans (hbel.mono HB2.out.size)); have HW3 := hid hW3
    clear hW3 hsz3 HS2 HB2 HW2 HN2 hbel hsiz hX0 hg8 hl8 hp8 k8_0 k8_1
    go_upto_region 7 with (fail)
    rw [← HW3.out]
    obtain ⟨⟨⟨⟨k0, k1, k2, k3, k4, k5, k6, k7⟩, k8, k9⟩, k10, k11, k12, k13⟩, k14, k15⟩ := HS3.out _ (Kp.of_below (Below.refl _ _))
    go_wp2_with fail
    refine (rtimes_w _ _ n2 d2 (k : Int) 3000 6005 _ ((VV.out _ (Below.refl _ _)).mono (by decide)) (V7.out _ (Below.refl _ _)) (by decide) (by decide) (by decide)).mono ?_
    rintro e wt ⟨bt, ot, mt, ct, bbt, oot, mmt, cct, rfl, Ht, hbq⟩
    have hXq : Below W3.heap.size W3 wt := hbq
    clear k0 k1 k2 k3 k4 k5 k6 k7 k8 k9 k10 k11 k12 k13 k14 k15
    go_wp2_with fail
    refine (rfloor_v _ _ _ 6005 6007 _ Ht.out (by decide) (by decide)).mono ?_
    rintro e wq9 ⟨b9, o9, m9, c9, rfl, H9, hbz2⟩
    replace hXq : Below W3.heap.size W3 wq9 := bl_tr hXq hbz2
    obtain ⟨W4, hW4⟩ : ∃ W, W = wq9.alloc (.cells #[.bool b9, .slice o9 m9 c9] 33) := ⟨_, rfl⟩
    have hal4 : Below wq9.heap.size wq9 W4 := by rw [hW4]; exact bl_new _
    have hXn4 : Below W3.heap.size W3 W4 := bl_tr hXq hal4
    have hsz4 : w.heap.size + 2 < wq9.heap.size := Nat.lt_of_lt_of_le HN3.out hXq.size
    have HS4 : Hid (∀ w', Kp W4.heap.size (w.heap.size + 2) W4 w' → ((((w'.cell? ⟨w.heap.size, 0, none⟩ = some (.bool b1) ∧ w'.cell? ⟨w.heap.size, 1, none⟩ = some (.slice o1 m1 c1) ∧ w'.cell? ⟨w.heap.size, 2, none⟩ = some (.bool bb1) ∧ w'.cell? ⟨w.heap.size, 3, none⟩ = some (.slice oo1 mm1 cc1) ∧ w'.cell? ⟨w.heap.size + 1, 0, none⟩ = some (.bool b2) ∧ w'.cell? ⟨w.heap.size + 1, 1, none⟩ = some (.slice o2 m2 c2) ∧ w'.cell? ⟨w.heap.size + 1, 2, none⟩ = some (.bool bb2) ∧ w'.cell? ⟨w.heap.size + 1, 3, none⟩ = some (.slice oo2 mm2 cc2)) ∧ w'.cell? ⟨g, 0, none⟩ = some (.bool bk) ∧ w'.cell? ⟨g, 1, none⟩ = some (.slice ok mk ck)) ∧ w'.cell? ⟨wq7.heap.size, 0, none⟩ = some (.bool b7) ∧ w'.cell? ⟨wq7.heap.size, 1, none⟩ = some (.slice o7 m7 c7) ∧ w'.cell? ⟨wq7.heap.size, 2, none⟩ = some (.bool bb7) ∧ w'.cell? ⟨wq7.heap.size, 3, none⟩ = some (.slice oo7 mm7 cc7)) ∧ w'.cell? ⟨p8, 0, none⟩ = some (.bool fb) ∧ w'.cell? ⟨p8, 1, none⟩ = some (.slice fo fm fc)) ∧ w'.cell? ⟨wq9.heap.size, 0, none⟩ = some (.bool b9) ∧ w'.cell? ⟨wq9.heap.size, 1, none⟩ = some (.slice o9 m9 c9)) := hid (fun w' hb => by
      refine ⟨HS3.out _ (hb.trans_below hXn4), ?_, ?_⟩ <;> (rw [hb.cell _ (by rw [hW4]; simp) (by simp <;> omega), hW4]; simp [go_sem]))
    replace HT := hid (fun w' hb => HT.out w' (bl_tr hXn4 hb))
    replace VU := hid (fun w' hb => VU.out w' (bl_tr hXn4 hb))
    replace VV := hid (fun w' hb => VV.out w' (bl_tr hXn4 hb))
    replace V6 := hid (fun w' hb => V6.out w' (bl_tr hXn4 hb))
    replace VL := hid (fun w' hb => VL.out w' (bl_tr hXn4 hb))
    replace V7 := hid (fun w' hb => V7.out w' (bl_tr hXn4 hb))
    replace V8 := hid (fun w' hb => V8.out w' (bl_tr hXn4 hb))
    have V9 : Hid (∀ w', Below W4.heap.size W4 w' → Zt w' (.agg #[.bool b9, .slice o9 m9 c9]) ((n2 * (k : Int)).fdiv d2) 6007) := hid (fun w' hb => H9.out.below (bl_tr hal4 hb) (Nat.le_refl _))
    have HN4 := hid (show w.heap.size + 2 < W4.heap.size from Nat.lt_of_lt_of_le HN3.out hXn4.size)
    have HB4 := hid (HB3.out.trans (hXn4.mono HB3.out.size)); have HW4 := hid hW4
    clear hW4 hal4 hXn4 hsz4 HS3 HB3 HW3 HN3 hXq
    clear hbq hbz2 Ht H9
    obtain ⟨fs, hfs⟩ : ∃ x, x = upI n1 d1 (k : Int) := ⟨_, rfl⟩
    obtain ⟨ls, hls⟩ : ∃ x, x = (n2 * (k : Int)).fdiv d2 := ⟨_, rfl⟩
    rw [← hfs] at V8
    rw [← hls] at V9
    obtain ⟨x1, hx1⟩ : ∃ x, cmpI fs ls = x := ⟨_, rfl⟩
    obtain ⟨x2, hx2⟩ : ∃ x, cmpI fs 0 = x := ⟨_, rfl⟩
    obtain ⟨x3, hx3⟩ : ∃ x, cmpI ls 0 = x := ⟨_, rfl⟩
    have Y1 : 0 < x1 ↔ ls < fs := by rw [← hx1]; exact cmpI_gt0
    have Y2 : 0 < x2 ↔ 0 < fs := by rw [← hx2]; exact cmpI_gt0
    have Y3 : x3 < 0 ↔ ls < 0 := by rw [← hx3]; exact cmpI_lt0
    have HX1 := hid hx1; have HX2 := hid hx2; have HX3 := hid hx3; have HFs := hid hfs; have HLs := hid hls; have HY1 := hid Y1; have HY2 := hid Y2; have HY3 := hid Y3
    clear hx1 hx2 hx3 hfs hls Y1 Y2 Y3
    go_upto_region 8 with (fail)
    rw [← HW4.out]
    obtain ⟨⟨⟨⟨⟨k0, k1, k2, k3, k4, k5, k6, k7⟩, k8, k9⟩, k10, k11, k12, k13⟩, k14, k15⟩, k16, k17⟩ := HS4.out _ (Kp.of_below (Below.refl _ _))
    go_wp2_with fail
    refine (rcmp_t _ _ fs ls x1 6007 _ (V8.out _ (Below.refl _ _)) (V9.out _ (Below.refl _ _)) HX1.out (by decide)).mono ?_
    rintro e wc2 ⟨rfl, hXc⟩
    clear k0 k1 k2 k3 k4 k5 k6 k7 k8 k9 k10 k11 k12 k13 k14 k15 k16 k17
    by_cases hgo : 0 < x1
    · have HGo := hid hgo
      have HkN := hid (show ((k + 1 : Nat) : Int) ≤ E by have := btw_go HP1.out HP2.out HBt.out HkE.out (by rw [← HFs.out, ← HLs.out]; have := HY1.out; omega); omega)
      obtain ⟨⟨⟨⟨⟨k0, k1, k2, k3, k4, k5, k6, k7⟩, k8, k9⟩, k10, k11, k12, k13⟩, k14, k15⟩, k16, k17⟩ := HS4.out _ (Kp.of_below hXc)
      go_upto_region 4 with (fail)
      clear k0 k1 k2 k3 k4 k5 k6 k7 k8 k9 k10 k11 k12 k13 k14 k15 k16 k17
      obtain ⟨W9, hW9⟩ : ∃ W, W = wc2.alloc (.cells #[.bool bk, .slice ok mk ck] 33) := ⟨_, rfl⟩
      have h19 : Below W4.heap.size W4 W9 := by rw [hW9]; exact bl_tr hXc (bl_new _)
      have hc9 : CellZ W9 wc2.heap.size (k : Int) 3000 := by rw [hW9]; exact CellZ.new (V6.out _ hXc)
      have hcb : ∀ w', Below W9.heap.size W9 w' → (w'.cell? ⟨wc2.heap.size, 0, none⟩ = some (.bool bk) ∧ w'.cell? ⟨wc2.heap.size, 1, none⟩ = some (.slice ok mk ck)) ∧ w'.frozen? ⟨wc2.heap.size, 0, none⟩ = false ∧ w'.frozen? ⟨wc2.heap.size, 1, none⟩ = false := fun w' hb => by
        refine ⟨⟨?_, ?_⟩, ?_, ?_⟩ <;> (first | (rw [hb.cell (by rw [hW9]; simp), hW9]; simp [go_sem]; done) | (rw [hb.frozen (by rw [hW9]; simp), hW9]; simp [go_sem]; done))
      have hg9 : W0.heap.size ≤ wc2.heap.size := (VL.out _ hXc).size
      have HCb := hid hcb; have HC9 := hid hc9; have HG9 := hid hg9
      have HL9 := hid (show Below W0.heap.size W0 W9 from VL.out _ h19)
      have HV6 := hid (fun w' (hb : Below W9.heap.size W9 w') => V6.out w' (bl_tr h19 hb))
      obtain ⟨g9, hgg⟩ : ∃ g9, g9 = wc2.heap.size := ⟨_, rfl⟩
      rw [← hgg] at HCb HC9 HG9
      rw [← hW9, ← hgg]
      clear hW9 hcb hc9 hg9 h19 hgg hXc HX1 HX2 HX3 HY1 HY2 HY3
      obtain ⟨⟨c0, c1⟩, f0, f1⟩ := HCb.out _ (Below.refl _ _)
      have hX0 := Below.refl W9.heap.size W9
      have hmx : Tryz.prog.follows .mixedOrders = true := by kernel_rfl
      go_region_with (first
        | (go_at_call 50; refine (rof_o 1 _ (by decide) (by decide)).mono ?_; rintro e v1 ⟨b41, o41, m41, c41, rfl, H41, hbq⟩; have hY1 : Below W9.heap.size W9 v1 := hX0.drew.trans hbq; obtain ⟨⟨c0', c1'⟩, _, _⟩ := HCb.out _ hY1)
        | (go_at_call 58; refine (radd_o _ _ (k : Int) 1 3000 3001 _ (HV6.out _ hY1) (H41.out.mono (by decide)) (by decide) (by decide)).mono ?_; rintro e v2 ⟨b42, o42, m42, c42, rfl, H42, hbq⟩; have hY2 : Below W9.heap.size W9 v2 := hY1.trans (hbq.mono hY1.size); obtain ⟨⟨r0, r1⟩, g0', g1'⟩ := HCb.out _ hY2))
      all_goals
        have hN : BwI W0 ((v2.setCell ⟨g9, 0, none⟩ (.bool b42)).setCell ⟨g9, 1, none⟩ (.slice o42 m42 c42)) g9 (k + 1) := ⟨by
            have hz := (HC9.out.below hY2 (Nat.le_refl _)).store (H42.out.fits (m := 4) (by have h1 := HkN.out; have h2 := HEm.out; have h3 : R16 ^ 4 = 18446744073709551616 := (by decide); omega))
            exact hz, ((HL9.out.trans (hY2.mono HL9.out.size)).setCell HG9.out _).setCell HG9.out _, HG9.out⟩
        have HN := hid hN
        have Hme : Hid (3000 - cellNat ((v2.setCell ⟨g9, 0, none⟩ (.bool b42)).setCell ⟨g9, 1, none⟩ (.slice o42 m42 c42)) g9 < 3000 - cellNat W1 g) := hid (by
          rw [cellNat_eq hN.cel, cellNat_eq HH.out.cel]; have := HkE.out; have := HEm.out; omega)
        clear hN
        go_wp2
        go_roundw
        case rel => exact ⟨k + 1, g9, rfl, by omega, HkN.out, HN.out⟩
        case measure => first | exact Hme.out | (have h := Hme.out; rw [HWr.out] at h; exact h)
    · have HkE2 := hid (show (k : Int) = E from btw_stop HP1.out HP2.out HBt.out (by have := Hk1.out; omega) HkE.out (by rw [← HFs.out, ← HLs.out]; have := HY1.out; omega))
      have HVl := hid (fun (n : Int) (hn : (0 < fs ∧ n = fs) ∨ (ls < 0 ∧ n = ls) ∨ (fs ≤ 0 ∧ 0 ≤ ls ∧ n = 0)) => show n = N from btw_val HP1.out HP2.out HBt.out (by rw [← HkE2.out, ← HFs.out, ← HLs.out]; have := HY1.out; omega) (by rw [← HkE2.out, ← HFs.out, ← HLs.out]; exact hn))
      have hle : fs ≤ ls := by have := HY1.out; omega
      have HLe := hid hle
      clear hle
      by_cases h2 : 0 < x2
      · have h3 : ¬ x3 < 0 := by have := HY3.out; have := HY2.out; have := HLe.out; omega
        obtain ⟨⟨⟨⟨⟨k0, k1, k2, k3, k4, k5, k6, k7⟩, k8, k9⟩, k10, k11, k12, k13⟩, k14, k15⟩, k16, k17⟩ := HS4.out _ (Kp.of_below hXc)
        go_upto_region 10 with (fail)
        clear k0 k1 k2 k3 k4 k5 k6 k7 k8 k9 k10 k11 k12 k13 k14 k15 k16 k17
        obtain ⟨Wn, hWn⟩ : ∃ W, W = wc2.alloc (.cells #[.bool false, .slice none 0 0] 33) := ⟨_, rfl⟩
        rw [← hWn]
        have hXn : Below W4.heap.size W4 Wn := by rw [hWn]; exact bl_tr hXc (bl_new _)
        have hcn : CellZ Wn wc2.heap.size 0 6007 := by rw [hWn]; exact (CellZ.new (zt_zero _)).mono (by decide)
        have HCn := hid (fun w' (hb : Below Wn.heap.size Wn w') => show (w'.cell? ⟨wc2.heap.size, 0, none⟩ = some (.bool false) ∧ w'.cell? ⟨wc2.heap.size, 1, none⟩ = some (.slice none 0 0)) ∧ w'.frozen? ⟨wc2.heap.size, 0, none⟩ = false ∧ w'.frozen? ⟨wc2.heap.size, 1, none⟩ = false by
          refine ⟨⟨?_, ?_⟩, ?_, ?_⟩ <;> (first | (rw [hb.cell (by rw [hWn]; simp), hWn]; simp [go_sem]; done) | (rw [hb.frozen (by rw [hWn]; simp), hWn]; simp [go_sem]; done)))
        obtain ⟨gn, hgn⟩ : ∃ gn, gn = wc2.heap.size := ⟨_, rfl⟩
        have hgW : W4.heap.size ≤ gn := by rw [hgn]; exact hXc.size
        rw [← hgn] at HCn hcn
        rw [← hgn]
        have HCnn := hid hcn; have HXn := hid hXn; have HgW := hid hgW
        clear hWn hgn hcn hXn hgW
        obtain ⟨⟨⟨⟨⟨k0, k1, k2, k3, k4, k5, k6, k7⟩, k8, k9⟩, k10, k11, k12, k13⟩, k14, k15⟩, k16, k17⟩ := HS4.out _ (Kp.of_below HXn.out)
        obtain ⟨⟨e0, e1⟩, f0, f1⟩ := HCn.out _ (Below.refl _ _)
        go_wp2_with fail
        refine (rsign_t _ fs x2 6007 _ (V8.out _ HXn.out) HX2.out).mono ?_
        rintro e ws ⟨rfl, hbs⟩
        have hXs : Below W4.heap.size W4 ws := bl_tr HXn.out hbs
        clear k0 k1 k2 k3 k4 k5 k6 k7 k8 k9 k10 k11 k12 k13 k14 k15 k16 k17 e0 e1 f0 f1
        obtain ⟨⟨⟨⟨⟨k0, k1, k2, k3, k4, k5, k6, k7⟩, k8, k9⟩, k10, k11, k12, k13⟩, k14, k15⟩, k16, k17⟩ := HS4.out _ (Kp.of_below hXs)
        obtain ⟨⟨e0, e1⟩, f0, f1⟩ := HCn.out _ hbs
        have hcs := HCnn.out.below hbs (Nat.le_refl _)
        have hcs2 := hcs.store (V8.out _ hXs)
        go_upto_region 12 with (fail)
        obtain ⟨Wx, hWx⟩ : ∃ W, W = ((ws.setCell ⟨gn, 0, none⟩ (.bool fb)).setCell ⟨gn, 1, none⟩ (.slice fo fm fc)) := ⟨_, rfl⟩
        have hXx : Below W4.heap.size W4 Wx := by rw [hWx]; exact (hXs.setCell HgW.out _).setCell HgW.out _
        have hcx : CellZ Wx gn fs 6007 := by rw [hWx]; exact hcs2
        rw [← hWx]
        obtain ⟨nb, no, nm, nc, HCx, HZx, _, _⟩ := hcx.opened
        have hx0 := (HCx.out _ (Below.refl _ _)).1
        have hx1 := (HCx.out _ (Below.refl _ _)).2.1
        rw [hWx] at hx0 hx1
        simp [go_sem, e0, e1] at hx0 hx1
        clear k0 k1 k2 k3 k4 k5 k6 k7 k8 k9 k10 k11 k12 k13 k14 k15 k16 k17 e0 e1 f0 f1
        have HXx := hid hXx; have HCxx := hid hcx
        clear hWx hXx hcx hcs hcs2 hXs hbs
        obtain ⟨⟨⟨⟨⟨k0, k1, k2, k3, k4, k5, k6, k7⟩, k8, k9⟩, k10, k11, k12, k13⟩, k14, k15⟩, k16, k17⟩ := HS4.out _ (Kp.of_below HXx.out)
        obtain ⟨e0, e1, f0, f1⟩ := HCx.out _ (Below.refl _ _)
        go_wp2_with fail
        refine (rsign_t _ ls x3 6007 _ (V9.out _ HXx.out) HX3.out).mono ?_
        rintro e wt2 ⟨rfl, hbt⟩
        have hXt : Below W4.heap.size W4 wt2 := bl_tr HXx.out hbt
        clear k0 k1 k2 k3 k4 k5 k6 k7 k8 k9 k10 k11 k12 k13 k14 k15 k16 k17 e0 e1 f0 f1
        obtain ⟨⟨⟨⟨⟨k0, k1, k2, k3, k4, k5, k6, k7⟩, k8, k9⟩, k10, k11, k12, k13⟩, k14, k15⟩, k16, k17⟩ := HS4.out _ (Kp.of_below hXt)
        obtain ⟨e0, e1, f0, f1⟩ := HCx.out _ hbt
        have hct := HCxx.out.below hbt (Nat.le_refl _)
        go_upto_region 14 with (fail)
        obtain ⟨Wy, hWy⟩ : ∃ W, W = wt2 := ⟨_, rfl⟩
        have hXy : Below W4.heap.size W4 Wy := by rw [hWy]; exact hXt
        have hcy : CellZ Wy gn fs 6007 := by rw [hWy]; exact hct
        rw [← hWy]
        obtain ⟨yb, yo, ym, yc, HCy, HZy, _, _⟩ := hcy.opened
        clear k0 k1 k2 k3 k4 k5 k6 k7 k8 k9 k10 k11 k12 k13 k14 k15 k16 k17 e0 e1 f0 f1
        have HXy := hid hXy
        clear hWy hXy hcy hct hXt hbt
        obtain ⟨⟨⟨⟨⟨k0, k1, k2, k3, k4, k5, k6, k7⟩, k8, k9⟩, k10, k11, k12, k13⟩, k14, k15⟩, k16, k17⟩ := HS4.out _ (Kp.of_below HXy.out)
        obtain ⟨e0, e1, f0, f1⟩ := HCy.out _ (Below.refl _ _)
        have HEp := hid HBt.out.pos
        have hnN : fs = N := HVl.out fs (by have := HY2.out; have := HY3.out; have := HLe.out; exact Or.inl ⟨by omega, rfl⟩)
        have HnN := hid hnN
        clear hnN
        go_wp2_with fail
        refine (rlowest_v _ _ N E 6007 6010 _ (by rw [← HnN.out]; exact HZy.out _ (Below.refl _ _)) (by rw [← HkE2.out]; exact (V6.out _ HXy.out).mono (by decide)) HEp.out (by decide) (by decide) (by decide)).mono ?_
        rintro e wz ⟨bz, oz, mz, cz, bbz, ooz, mmz, ccz, rfl, Hz, hbq⟩
        have hXz : Below W4.heap.size W4 wz := bl_tr HXy.out hbq
        obtain ⟨⟨hr0, hr1, hr2, hr3⟩, hf0, hf1, hf2, hf3⟩ := HT.out _ hXz
        clear k0 k1 k2 k3 k4 k5 k6 k7 k8 k9 k10 k11 k12 k13 k14 k15 k16 k17 e0 e1 f0 f1
        have hn0 := HN4.out
        have hbel : Below w.heap.size w wz := HB4.out.trans (hXz.mono HB4.out.size)
        go_wp2
        refine bodyPost_ret (v := .tuple #[(.agg #[.bool bz, .slice oz mz cz, .bool bbz, .slice ooz mmz ccz]), .int .i64 0]) (by simp [results, Tryz.results49, go_sem, hr0, hr1, hr2, hr3]) rfl ⟨_, _, _, _, _, _, _, _, rfl, hid ⟨_, _, _, _, _, _, _, _, rfl, Or.inl ⟨rfl, 6010, by decide, Qv.keeps (((((Keeps.refl _ _).setCell (u := .bool false) hr0 (fun x h => (by cases h)) _).setCell (u := .slice none 0 0) (by simp [go_sem, hr1]) (fun x h => (by cases h)) _).setCell (u := .bool false) (by simp [go_sem, hr2]) (fun x h => (by cases h)) _).setCell (u := .slice none 0 0) (by simp [go_sem, hr3]) (fun x h => (by cases h)) _) Hz.out⟩⟩, ((((hbel.setCell (by simp <;> omega) _).setCell (by simp <;> omega) _).setCell (by simp <;> omega) _).setCell (by simp <;> omega) _)⟩
      · by_cases h3 : x3 < 0
        · have hz := 0
          obtain ⟨⟨⟨⟨⟨k0, k1, k2, k3, k4, k5, k6, k7⟩, k8, k9⟩, k10, k11, k12, k13⟩, k14, k15⟩, k16, k17⟩ := HS4.out _ (Kp.of_below hXc)
          go_upto_region 10 with (fail)
          clear k0 k1 k2 k3 k4 k5 k6 k7 k8 k9 k10 k11 k12 k13 k14 k15 k16 k17
          obtain ⟨Wn, hWn⟩ : ∃ W, W = wc2.alloc (.cells #[.bool false, .slice none 0 0] 33) := ⟨_, rfl⟩
          rw [← hWn]
          have hXn : Below W4.heap.size W4 Wn := by rw [hWn]; exact bl_tr hXc (bl_new _)
          have hcn : CellZ Wn wc2.heap.size 0 6007 := by rw [hWn]; exact (CellZ.new (zt_zero _)).mono (by decide)
          have HCn := hid (fun w' (hb : Below Wn.heap.size Wn w') => show (w'.cell? ⟨wc2.heap.size, 0, none⟩ = some (.bool false) ∧ w'.cell? ⟨wc2.heap.size, 1, none⟩ = some (.slice none 0 0)) ∧ w'.frozen? ⟨wc2.heap.size, 0, none⟩ = false ∧ w'.frozen? ⟨wc2.heap.size, 1, none⟩ = false by
            refine ⟨⟨?_, ?_⟩, ?_, ?_⟩ <;> (first | (rw [hb.cell (by rw [hWn]; simp), hWn]; simp [go_sem]; done) | (rw [hb.frozen (by rw [hWn]; simp), hWn]; simp [go_sem]; done)))
          obtain ⟨gn, hgn⟩ : ∃ gn, gn = wc2.heap.size := ⟨_, rfl⟩
          have hgW : W4.heap.size ≤ gn := by rw [hgn]; exact hXc.size
          rw [← hgn] at HCn hcn
          rw [← hgn]
          have HCnn := hid hcn; have HXn := hid hXn; have HgW := hid hgW
          clear hWn hgn hcn hXn hgW
          obtain ⟨⟨⟨⟨⟨k0, k1, k2, k3, k4, k5, k6, k7⟩, k8, k9⟩, k10, k11, k12, k13⟩, k14, k15⟩, k16, k17⟩ := HS4.out _ (Kp.of_below HXn.out)
          obtain ⟨⟨e0, e1⟩, f0, f1⟩ := HCn.out _ (Below.refl _ _)
          go_wp2_with fail
          refine (rsign_t _ fs x2 6007 _ (V8.out _ HXn.out) HX2.out).mono ?_
          rintro e ws ⟨rfl, hbs⟩
          have hXs : Below W4.heap.size W4 ws := bl_tr HXn.out hbs
          clear k0 k1 k2 k3 k4 k5 k6 k7 k8 k9 k10 k11 k12 k13 k14 k15 k16 k17 e0 e1 f0 f1
          obtain ⟨⟨⟨⟨⟨k0, k1, k2, k3, k4, k5, k6, k7⟩, k8, k9⟩, k10, k11, k12, k13⟩, k14, k15⟩, k16, k17⟩ := HS4.out _ (Kp.of_below hXs)
          obtain ⟨⟨e0, e1⟩, f0, f1⟩ := HCn.out _ hbs
          have hcs := HCnn.out.below hbs (Nat.le_refl _)
          go_upto_region 12 with (fail)
          obtain ⟨Wx, hWx⟩ : ∃ W, W = ws := ⟨_, rfl⟩
          have hXx : Below W4.heap.size W4 Wx := by rw [hWx]; exact hXs
          have hcx : CellZ Wx gn 0 6007 := by rw [hWx]; exact hcs
          rw [← hWx]
          obtain ⟨nb, no, nm, nc, HCx, HZx, _, _⟩ := hcx.opened
          clear k0 k1 k2 k3 k4 k5 k6 k7 k8 k9 k10 k11 k12 k13 k14 k15 k16 k17 e0 e1 f0 f1
          have HXx := hid hXx; have HCxx := hid hcx
          clear hWx hXx hcx hcs hXs hbs
          obtain ⟨⟨⟨⟨⟨k0, k1, k2, k3, k4, k5, k6, k7⟩, k8, k9⟩, k10, k11, k12, k13⟩, k14, k15⟩, k16, k17⟩ := HS4.out _ (Kp.of_below HXx.out)
          obtain ⟨e0, e1, f0, f1⟩ := HCx.out _ (Below.refl _ _)
          go_wp2_with fail
          refine (rsign_t _ ls x3 6007 _ (V9.out _ HXx.out) HX3.out).mono ?_
          rintro e wt2 ⟨rfl, hbt⟩
          have hXt : Below W4.heap.size W4 wt2 := bl_tr HXx.out hbt
          clear k0 k1 k2 k3 k4 k5 k6 k7 k8 k9 k10 k11 k12 k13 k14 k15 k16 k17 e0 e1 f0 f1
          obtain ⟨⟨⟨⟨⟨k0, k1, k2, k3, k4, k5, k6, k7⟩, k8, k9⟩, k10, k11, k12, k13⟩, k14, k15⟩, k16, k17⟩ := HS4.out _ (Kp.of_below hXt)
          obtain ⟨e0, e1, f0, f1⟩ := HCx.out _ hbt
          have hct := HCxx.out.below hbt (Nat.le_refl _)
          have hct2 := hct.store (V9.out _ hXt)
          go_upto_region 14 with (fail)
          obtain ⟨Wy, hWy⟩ : ∃ W, W = ((wt2.setCell ⟨gn, 0, none⟩ (.bool b9)).setCell ⟨gn, 1, none⟩ (.slice o9 m9 c9)) := ⟨_, rfl⟩
          have hXy : Below W4.heap.size W4 Wy := by rw [hWy]; exact (hXt.setCell HgW.out _).setCell HgW.out _
          have hcy : CellZ Wy gn ls 6007 := by rw [hWy]; exact hct2
          rw [← hWy]
          obtain ⟨yb, yo, ym, yc, HCy, HZy, _, _⟩ := hcy.opened
          clear k0 k1 k2 k3 k4 k5 k6 k7 k8 k9 k10 k11 k12 k13 k14 k15 k16 k17 e0 e1 f0 f1
          have HXy := hid hXy
          clear hWy hXy hcy hct hct2 hXt hbt
          obtain ⟨⟨⟨⟨⟨k0, k1, k2, k3, k4, k5, k6, k7⟩, k8, k9⟩, k10, k11, k12, k13⟩, k14, k15⟩, k16, k17⟩ := HS4.out _ (Kp.of_below HXy.out)
          obtain ⟨e0, e1, f0, f1⟩ := HCy.out _ (Below.refl _ _)
          have HEp := hid HBt.out.pos
          have hnN : ls = N := HVl.out ls (by have := HY2.out; have := HY3.out; have := HLe.out; exact Or.inr (Or.inl ⟨by omega, rfl⟩))
          have HnN := hid hnN
          clear hnN
          go_wp2_with fail
          refine (rlowest_v _ _ N E 6007 6010 _ (by rw [← HnN.out]; exact HZy.out _ (Below.refl _ _)) (by rw [← HkE2.out]; exact (V6.out _ HXy.out).mono (by decide)) HEp.out (by decide) (by decide) (by decide)).mono ?_
          rintro e wz ⟨bz, oz, mz, cz, bbz, ooz, mmz, ccz, rfl, Hz, hbq⟩
          have hXz : Below W4.heap.size W4 wz := bl_tr HXy.out hbq
          obtain ⟨⟨hr0, hr1, hr2, hr3⟩, hf0, hf1, hf2, hf3⟩ := HT.out _ hXz
          clear k0 k1 k2 k3 k4 k5 k6 k7 k8 k9 k10 k11 k12 k13 k14 k15 k16 k17 e0 e1 f0 f1
          have hn0 := HN4.out
          have hbel : Below w.heap.size w wz := HB4.out.trans (hXz.mono HB4.out.size)
          go_wp2
          refine bodyPost_ret (v := .tuple #[(.agg #[.bool bz, .slice oz mz cz, .bool bbz, .slice ooz mmz ccz]), .int .i64 0]) (by simp [results, Tryz.results49, go_sem, hr0, hr1, hr2, hr3]) rfl ⟨_, _, _, _, _, _, _, _, rfl, hid ⟨_, _, _, _, _, _, _, _, rfl, Or.inl ⟨rfl, 6010, by decide, Qv.keeps (((((Keeps.refl _ _).setCell (u := .bool false) hr0 (fun x h => (by cases h)) _).setCell (u := .slice none 0 0) (by simp [go_sem, hr1]) (fun x h => (by cases h)) _).setCell (u := .bool false) (by simp [go_sem, hr2]) (fun x h => (by cases h)) _).setCell (u := .slice none 0 0) (by simp [go_sem, hr3]) (fun x h => (by cases h)) _) Hz.out⟩⟩, ((((hbel.setCell (by simp <;> omega) _).setCell (by simp <;> omega) _).setCell (by simp <;> omega) _).setCell (by simp <;> omega) _)⟩
        · have hz := 0
          obtain ⟨⟨⟨⟨⟨k0, k1, k2, k3, k4, k5, k6, k7⟩, k8, k9⟩, k10, k11, k12, k13⟩, k14, k15⟩, k16, k17⟩ := HS4.out _ (Kp.of_below hXc)
          go_upto_region 10 with (fail)
          clear k0 k1 k2 k3 k4 k5 k6 k7 k8 k9 k10 k11 k12 k13 k14 k15 k16 k17
          obtain ⟨Wn, hWn⟩ : ∃ W, W = wc2.alloc (.cells #[.bool false, .slice none 0 0] 33) := ⟨_, rfl⟩
          rw [← hWn]
          have hXn : Below W4.heap.size W4 Wn := by rw [hWn]; exact bl_tr hXc (bl_new _)
          have hcn : CellZ Wn wc2.heap.size 0 6007 := by rw [hWn]; exact (CellZ.new (zt_zero _)).mono (by decide)
          have HCn := hid (fun w' (hb : Below Wn.heap.size Wn w') => show (w'.cell? ⟨wc2.heap.size, 0, none⟩ = some (.bool false) ∧ w'.cell? ⟨wc2.heap.size, 1, none⟩ = some (.slice none 0 0)) ∧ w'.frozen? ⟨wc2.heap.size, 0, none⟩ = false ∧ w'.frozen? ⟨wc2.heap.size, 1, none⟩ = false by
            refine ⟨⟨?_, ?_⟩, ?_, ?_⟩ <;> (first | (rw [hb.cell (by rw [hWn]; simp), hWn]; simp [go_sem]; done) | (rw [hb.frozen (by rw [hWn]; simp), hWn]; simp [go_sem]; done)))
          obtain ⟨gn, hgn⟩ : ∃ gn, gn = wc2.heap.size := ⟨_, rfl⟩
          have hgW : W4.heap.size ≤ gn := by rw [hgn]; exact hXc.size
          rw [← hgn] at HCn hcn
          rw [← hgn]
          have HCnn := hid hcn; have HXn := hid hXn; have HgW := hid hgW
          clear hWn hgn hcn hXn hgW
          obtain ⟨⟨⟨⟨⟨k0, k1, k2, k3, k4, k5, k6, k7⟩, k8, k9⟩, k10, k11, k12, k13⟩, k14, k15⟩, k16, k17⟩ := HS4.out _ (Kp.of_below HXn.out)
          obtain ⟨⟨e0, e1⟩, f0, f1⟩ := HCn.out _ (Below.refl _ _)
          go_wp2_with fail
          refine (rsign_t _ fs x2 6007 _ (V8.out _ HXn.out) HX2.out).mono ?_
          rintro e ws ⟨rfl, hbs⟩
          have hXs : Below W4.heap.size W4 ws := bl_tr HXn.out hbs
          clear k0 k1 k2 k3 k4 k5 k6 k7 k8 k9 k10 k11 k12 k13 k14 k15 k16 k17 e0 e1 f0 f1
          obtain ⟨⟨⟨⟨⟨k0, k1, k2, k3, k4, k5, k6, k7⟩, k8, k9⟩, k10, k11, k12, k13⟩, k14, k15⟩, k16, k17⟩ := HS4.out _ (Kp.of_below hXs)
          obtain ⟨⟨e0, e1⟩, f0, f1⟩ := HCn.out _ hbs
          have hcs := HCnn.out.below hbs (Nat.le_refl _)
          go_upto_region 12 with (fail)
          obtain ⟨Wx, hWx⟩ : ∃ W, W = ws := ⟨_, rfl⟩
          have hXx : Below W4.heap.size W4 Wx := by rw [hWx]; exact hXs
          have hcx : CellZ Wx gn 0 6007 := by rw [hWx]; exact hcs
          rw [← hWx]
          obtain ⟨nb, no, nm, nc, HCx, HZx, _, _⟩ := hcx.opened
          clear k0 k1 k2 k3 k4 k5 k6 k7 k8 k9 k10 k11 k12 k13 k14 k15 k16 k17 e0 e1 f0 f1
          have HXx := hid hXx; have HCxx := hid hcx
          clear hWx hXx hcx hcs hXs hbs
          obtain ⟨⟨⟨⟨⟨k0, k1, k2, k3, k4, k5, k6, k7⟩, k8, k9⟩, k10, k11, k12, k13⟩, k14, k15⟩, k16, k17⟩ := HS4.out _ (Kp.of_below HXx.out)
          obtain ⟨e0, e1, f0, f1⟩ := HCx.out _ (Below.refl _ _)
          go_wp2_with fail
          refine (rsign_t _ ls x3 6007 _ (V9.out _ HXx.out) HX3.out).mono ?_
          rintro e wt2 ⟨rfl, hbt⟩
          have hXt : Below W4.heap.size W4 wt2 := bl_tr HXx.out hbt
          clear k0 k1 k2 k3 k4 k5 k6 k7 k8 k9 k10 k11 k12 k13 k14 k15 k16 k17 e0 e1 f0 f1
          obtain ⟨⟨⟨⟨⟨k0, k1, k2, k3, k4, k5, k6, k7⟩, k8, k9⟩, k10, k11, k12, k13⟩, k14, k15⟩, k16, k17⟩ := HS4.out _ (Kp.of_below hXt)
          obtain ⟨e0, e1, f0, f1⟩ := HCx.out _ hbt
          have hct := HCxx.out.below hbt (Nat.le_refl _)
          go_upto_region 14 with (fail)
          obtain ⟨Wy, hWy⟩ : ∃ W, W = wt2 := ⟨_, rfl⟩
          have hXy : Below W4.heap.size W4 Wy := by rw [hWy]; exact hXt
          have hcy : CellZ Wy gn 0 6007 := by rw [hWy]; exact hct
          rw [← hWy]
          obtain ⟨yb, yo, ym, yc, HCy, HZy, _, _⟩ := hcy.opened
          clear k0 k1 k2 k3 k4 k5 k6 k7 k8 k9 k10 k11 k12 k13 k14 k15 k16 k17 e0 e1 f0 f1
          have HXy := hid hXy
          clear hWy hXy hcy hct hXt hbt
          obtain ⟨⟨⟨⟨⟨k0, k1, k2, k3, k4, k5, k6, k7⟩, k8, k9⟩, k10, k11, k12, k13⟩, k14, k15⟩, k16, k17⟩ := HS4.out _ (Kp.of_below HXy.out)
          obtain ⟨e0, e1, f0, f1⟩ := HCy.out _ (Below.refl _ _)
          have HEp := hid HBt.out.pos
          have hnN : 0 = N := HVl.out 0 (by have := HY2.out; have := HY3.out; have := HLe.out; exact Or.inr (Or.inr ⟨by omega, by omega, rfl⟩))
          have HnN := hid hnN
          clear hnN
          go_wp2_with fail
          refine (rlowest_v _ _ N E 6007 6010 _ (by rw [← HnN.out]; exact HZy.out _ (Below.refl _ _)) (by rw [← HkE2.out]; exact (V6.out _ HXy.out).mono (by decide)) HEp.out (by decide) (by decide) (by decide)).mono ?_
          rintro e wz ⟨bz, oz, mz, cz, bbz, ooz, mmz, ccz, rfl, Hz, hbq⟩
          have hXz : Below W4.heap.size W4 wz := bl_tr HXy.out hbq
          obtain ⟨⟨hr0, hr1, hr2, hr3⟩, hf0, hf1, hf2, hf3⟩ := HT.out _ hXz
          clear k0 k1 k2 k3 k4 k5 k6 k7 k8 k9 k10 k11 k12 k13 k14 k15 k16 k17 e0 e1 f0 f1
          have hn0 := HN4.out
          have hbel : Below w.heap.size w wz := HB4.out.trans (hXz.mono HB4.out.size)
          go_wp2
          refine bodyPost_ret (v := .tuple #[(.agg #[.bool bz, .slice oz mz cz, .bool bbz, .slice ooz mmz ccz]), .int .i64 0]) (by simp [results, Tryz.results49, go_sem, hr0, hr1, hr2, hr3]) rfl ⟨_, _, _, _, _, _, _, _, rfl, hid ⟨_, _, _, _, _, _, _, _, rfl, Or.inl ⟨rfl, 6010, by decide, Qv.keeps (((((Keeps.refl _ _).setCell (u := .bool false) hr0 (fun x h => (by cases h)) _).setCell (u := .slice none 0 0) (by simp [go_sem, hr1]) (fun x h => (by cases h)) _).setCell (u := .bool false) (by simp [go_sem, hr2]) (fun x h => (by cases h)) _).setCell (u := .slice none 0 0) (by simp [go_sem, hr3]) (fun x h => (by cases h)) _) Hz.out⟩⟩, ((((hbel.setCell (by simp <;> omega) _).setCell (by simp <;> omega) _).setCell (by simp <;> omega) _).setCell (by simp <;> omega) _)⟩

end Go.Proofs.YtbapeilpkhbbeaaGreat
