/- What the law ExactNames calls, at its closed examples. -/
import Derived.Test.YtilpkocmdpofpaaGreatDoorNb36
import Derived.Test.YtilpkocmdpofpaaGreatDoorNb37
import Derived.Test.YtilpkocmdpofpaaGreatDoorNb30
import Derived.Test.YtilpkocmdpofpaaGreatDoorNb39
/- What the law ExactNames calls, at its closed examples. -/
namespace Go.Proofs.YtilpkocmdpofpaaGreatDoor
open Go.RowKit

set_option maxRecDepth 100000 in
set_option maxHeartbeats 1000000 in
theorem Nearest_rv (v : Value) (n d : Int) (K R : Nat) (w : World) (hv : Rv w v n d K) (hK : K ≤ 1000) (hR : 2 * ((K + 1) / 2 + 1 + 4) ≤ R) :
    Calls Tryz.prog 26 #[v] w (RetZI w ((n * 2 + d).fdiv (d * 2)) R) := by
  obtain ⟨pd, x, y, hv, h⟩ := hv
  have HRR := hid (fun (w' : World) (hb : Below w.heap.size w w') => readRatio_any v x y K w' (hv.below hb (Nat.le_refl _)) (by omega))
  obtain ⟨xb, xo, xm, xc, yb, yo, ym, yc, rfl, _, _⟩ := Ra.opened hv
  have hD := rd_pos y
  obtain ⟨z, hz⟩ : ∃ z, z = rn x y := ⟨_, rfl⟩
  obtain ⟨q, hq'⟩ : ∃ q, q = rd y := ⟨_, rfl⟩
  rw [← hz, ← hq'] at h HRR
  rw [← hq'] at hD
  clear hz hq' hv
  rw [show (n * 2 + d).fdiv (d * 2) = (z * 2 + q).fdiv (q * 2) from (fdiv_ratio (by omega) (by omega) (by grind)).symm]
  have HD0 := hid hD; have HR := hid hR; have HK := hid hK
  clear h hD hR pd
  obtain ⟨W0, hW0⟩ : ∃ W0, W0 = ((w.alloc (.cells #[.bool xb, .slice xo xm xc, .bool yb, .slice yo ym yc] 26)).alloc (.cells #[.bool false, .slice none 0 0] 24)) := ⟨_, rfl⟩
  have hB0 : Below w.heap.size w W0 := by rw [hW0]; exact ((Below.refl _ _).alloc (Nat.le_refl _) _).alloc (by simp <;> omega) _
  have hz0 : W0.heap.size = w.heap.size + 2 := by rw [hW0]; simp
  have HS : Hid (∀ w', Below (w.heap.size + 1) W0 w' → w'.cell? ⟨w.heap.size, 0, none⟩ = some (.bool xb) ∧ w'.cell? ⟨w.heap.size, 1, none⟩ = some (.slice xo xm xc) ∧ w'.cell? ⟨w.heap.size, 2, none⟩ = some (.bool yb) ∧ w'.cell? ⟨w.heap.size, 3, none⟩ = some (.slice yo ym yc)) := hid (fun w' hb => by
    refine ⟨?_, ?_, ?_, ?_⟩ <;> (first | (rw [hb.cell (by simp <;> omega), hW0]; simp [go_sem]; done) | (rw [hb.frozen (by simp <;> omega), hW0]; simp [go_sem]; done)))
  have HT : Hid (∀ w', Below (w.heap.size + 2) W0 w' → (w'.cell? ⟨w.heap.size + 1, 0, none⟩ = some (.bool false) ∧ w'.cell? ⟨w.heap.size + 1, 1, none⟩ = some (.slice none 0 0)) ∧ (w'.frozen? ⟨w.heap.size + 1, 0, none⟩ = false ∧ w'.frozen? ⟨w.heap.size + 1, 1, none⟩ = false)) := hid (fun w' hb => by
    refine ⟨⟨?_, ?_⟩, ?_, ?_⟩ <;> (first | (rw [hb.cell (by simp <;> omega), hW0]; simp [go_sem]; done) | (rw [hb.frozen (by simp <;> omega), hW0]; simp [go_sem]; done)))
  have HB0 := hid hB0; have Hz0 := hid hz0; have HW := hid hW0
  clear hW0 hB0 hz0
  go_enter Tryz.func26, Tryz.ntmps26
  go_upto_region 1 with (fail)
  rw [← HW.out]
  obtain ⟨k0, k1, k2, k3⟩ := HS.out W0 (Below.refl _ _)
  go_wp2_with fail
  refine (HRR.out _ HB0.out).mono ?_
  rintro e w1 ⟨f1, rfl, hf1, hb1⟩
  clear k0 k1 k2 k3
  go_wp2_with fail
  refine (nearest_any _ z q _ _ hf1 HD0.out (by have := HK.out; omega)).mono ?_
  rintro e w3 ⟨v3, rfl, hv3, hb3⟩
  have hX3 : Below W0.heap.size W0 w3 := bl_tr hb1 hb3
  go_wp2_with fail
  refine (value_any _ _ _ _ hv3 (by have := HK.out;  omega)).mono ?_
  rintro e w4 ⟨_, rfl, hv4, hb4⟩
  obtain ⟨b4, o4, m4, c4, rfl, H4⟩ := FrA.opened hv4
  have hX4 : Below W0.heap.size W0 w4 := bl_tr hX3 hb4
  obtain ⟨⟨hr0, hr1⟩, hf0, hf1⟩ := HT.out _ (hX4.mono (by have := Hz0.out; omega))
  go_wp2
  have hz0 := Hz0.out; have hs3 := hX3.size
  have hw4 : Below w.heap.size w w4 := HB0.out.trans (hX4.mono HB0.out.size)
  have hlt : w.heap.size + 1 < w3.heap.size := by omega
  refine bodyPost_ret (v := .agg #[.bool b4, .slice o4 m4 c4]) (by simp [results, Tryz.results26, go_sem, hr0, hr1]) rfl ⟨b4, o4, m4, c4, rfl, hid ((((H4.out.set hlt _).set hlt _).ai).mono (by have := HR.out; omega)), ((hw4.setCell (by simp <;> omega) _).setCell (by simp <;> omega) _)⟩

/-- exact.Lowest of a ratio without a denominator: 0 over one word, 1. -/
theorem one_words {w0 w : World} {v : Value} {K : Nat} (h : FrA w0 w v 1 K) : ∃ gb go c, v = .agg #[.bool false, .slice (some ⟨gb, go, none⟩) 1 c] ∧ w.cell? ⟨gb, go, none⟩ = some (.int .u32 1) := by
  obtain ⟨s, rfl, L, ho, hd, hn, hv, hl⟩ := h
  have hL : L = [1] := by
    match L, hv, hd, hn with
    | [], hv, _, _ => simp [val] at hv
    | [a], hv, _, _ => simp [val] at hv; rw [hv]
    | a :: b :: l, hv, hd, hn =>
      have h1 := Nrm.low (by unfold B32; decide) hd hn (by simp)
      have h2 := pow_le (B := B32) (by unfold B32; decide) (show 1 ≤ (a :: b :: l).length - 1 by simp)
      rw [hv] at h1
      have : (1 : Int) < B32 ^ 1 := by unfold B32; decide
      simp at hv
      omega
  subst hL
  obtain ⟨ao, c, rfl⟩ := owns_slice ho
  have hr := owns_any (L := [1]) ho rfl
  obtain ⟨b, o, rfl⟩ := hr.adr (by simp)
  exact ⟨b, o, c, rfl, hr.cell b o rfl 0 (by simp)⟩

set_option maxRecDepth 100000 in
set_option maxHeartbeats 1000000 in
theorem Lowest_fr (v : Value) (x y : Int) (K : Nat) (w : World) (hv : Ra w v x y K) (hK : K ≤ 1000) :
    Calls Tryz.prog 24 #[v] w (RetR w (lowN (rn x y) (rd y)) (lowD (rn x y) (rd y)) (2 * ((K + 1) / 2 + 1))) := by
  have HRR := hid (fun (w' : World) (hb : Below w.heap.size w w') => readRatio_any v x y K w' (hv.below hb (Nat.le_refl _)) (by omega))
  obtain ⟨xb, xo, xm, xc, yb, yo, ym, yc, rfl, _, _⟩ := Ra.opened hv
  have hD := rd_pos y
  obtain ⟨z, hz⟩ : ∃ z, z = rn x y := ⟨_, rfl⟩
  obtain ⟨q, hq'⟩ : ∃ q, q = rd y := ⟨_, rfl⟩
  rw [← hz, ← hq'] at HRR ⊢
  rw [← hq'] at hD
  have HD0 := hid hD; have HK := hid hK
  clear hz hq' hv hD hK
  obtain ⟨W0, hW0⟩ : ∃ W0, W0 = ((w.alloc (.cells #[.bool xb, .slice xo xm xc, .bool yb, .slice yo ym yc] 26)).alloc (.cells #[.bool false, .slice none 0 0, .bool false, .slice none 0 0] 26)) := ⟨_, rfl⟩
  have hB0 : Below w.heap.size w W0 := by rw [hW0]; exact ((Below.refl _ _).alloc (Nat.le_refl _) _).alloc (by simp <;> omega) _
  have hz0 : W0.heap.size = w.heap.size + 2 := by rw [hW0]; simp
  have HS : Hid (∀ w', Below (w.heap.size + 1) W0 w' → w'.cell? ⟨w.heap.size, 0, none⟩ = some (.bool xb) ∧ w'.cell? ⟨w.heap.size, 1, none⟩ = some (.slice xo xm xc) ∧ w'.cell? ⟨w.heap.size, 2, none⟩ = some (.bool yb) ∧ w'.cell? ⟨w.heap.size, 3, none⟩ = some (.slice yo ym yc)) := hid (fun w' hb => by
    refine ⟨?_, ?_, ?_, ?_⟩ <;> (first | (rw [hb.cell (by simp <;> omega), hW0]; simp [go_sem]; done) | (rw [hb.frozen (by simp <;> omega), hW0]; simp [go_sem]; done)))
  have HT : Hid (∀ w', Below (w.heap.size + 2) W0 w' → (w'.cell? ⟨w.heap.size + 1, 0, none⟩ = some (.bool false) ∧ w'.cell? ⟨w.heap.size + 1, 1, none⟩ = some (.slice none 0 0) ∧ w'.cell? ⟨w.heap.size + 1, 2, none⟩ = some (.bool false) ∧ w'.cell? ⟨w.heap.size + 1, 3, none⟩ = some (.slice none 0 0)) ∧ (w'.frozen? ⟨w.heap.size + 1, 0, none⟩ = false ∧ w'.frozen? ⟨w.heap.size + 1, 1, none⟩ = false ∧ w'.frozen? ⟨w.heap.size + 1, 2, none⟩ = false ∧ w'.frozen? ⟨w.heap.size + 1, 3, none⟩ = false)) := hid (fun w' hb => by
    refine ⟨⟨?_, ?_, ?_, ?_⟩, ?_, ?_, ?_, ?_⟩ <;> (first | (rw [hb.cell (by simp <;> omega), hW0]; simp [go_sem]; done) | (rw [hb.frozen (by simp <;> omega), hW0]; simp [go_sem]; done)))
  have HB0 := hid hB0; have Hz0 := hid hz0; have HW := hid hW0
  clear hW0 hB0 hz0
  go_enter Tryz.func24, Tryz.ntmps24
  go_upto_region 1 with (fail)
  rw [← HW.out]
  obtain ⟨k0, k1, k2, k3⟩ := HS.out W0 (Below.refl _ _)
  go_wp2_with fail
  refine (HRR.out _ HB0.out).mono ?_
  rintro e w1 ⟨f1, rfl, hf1, hb1⟩
  clear k0 k1 k2 k3
  go_wp2_with fail
  refine (fracValue_any _ z q _ _ hf1 HD0.out (by have := HK.out; omega)).mono ?_
  rintro e w4 ⟨_, rfl, hr4, hb4⟩
  obtain ⟨b4, o4, m4, c4, b5, o5, m5, c5, rfl, H4, H5⟩ := FrR.opened hr4
  have hX4 : Below W0.heap.size W0 w4 := bl_tr hb1 hb4
  obtain ⟨⟨hr0, hr1, hr2, hr3⟩, hf0, hf1, hf2, hf3⟩ := HT.out _ (hX4.mono (by have := Hz0.out; omega))
  go_wp2
  have hz0 := Hz0.out; have hs3 := hb1.size
  have hw4 : Below w.heap.size w w4 := HB0.out.trans (hX4.mono HB0.out.size)
  have hlt : w.heap.size + 1 < w1.heap.size := by omega
  refine bodyPost_ret (v := .agg #[.bool b4, .slice o4 m4 c4, .bool b5, .slice o5 m5 c5]) (by simp [results, Tryz.results24, go_sem, hr0, hr1, hr2, hr3]) rfl ⟨_, rfl, ⟨.bool b4, .slice o4 m4 c4, .bool b5, .slice o5 m5 c5, rfl, ?_, ?_⟩, ((((hw4.setCell (by simp <;> omega) _).setCell (by simp <;> omega) _).setCell (by simp <;> omega) _).setCell (by simp <;> omega) _)⟩
  · exact ((((H4.out.set hlt _).set hlt _).set hlt _).set hlt _).base (by omega)
  · exact ((((H5.out.set hlt _).set hlt _).set hlt _).set hlt _).base (by omega)

theorem sq_le {N b : Int} (hb : 0 ≤ b) (h : N * N ≤ b * b) : -b ≤ N ∧ N ≤ b := by
  refine ⟨?_, ?_⟩
  · by_cases h1 : -b ≤ N
    · exact h1
    · exfalso
      have h2 := Int.mul_le_mul (show b + 1 ≤ -N by omega) (show b + 1 ≤ -N by omega) (by omega) (by omega)
      rw [Int.neg_mul_neg] at h2
      have e : (b + 1) * (b + 1) = b * b + 2 * b + 1 := by grind
      omega
  · by_cases h1 : N ≤ b
    · exact h1
    · exfalso
      have h2 := Int.mul_le_mul (show b + 1 ≤ N by omega) (show b + 1 ≤ N by omega) (by omega) (by omega)
      have e : (b + 1) * (b + 1) = b * b + 2 * b + 1 := by grind
      omega
theorem btw_a {N D : Int} (h : Btw 1 3 1 2 N D) : N = 1 ∧ D = 2 := by
  have h1 := h.least 1 2 (by decide) (by decide) (by decide)
  have h2 := sq_le (b := 1) (by decide) (by simpa using h1.2)
  have := h.pos; have := h.lo; have := h.hi
  omega
theorem btw_b {N D : Int} (h : Btw 31 100 32 100 N D) : N = 5 ∧ D = 16 := by
  have h1 := h.least 5 16 (by decide) (by decide) (by decide)
  have h2 := sq_le (b := 5) (by decide) (by simpa using h1.2)
  have h3 := h.pos; have h4 := h.lo; have h5 := h.hi
  have h6 := h1.1
  rcases (show N = 1 ∨ N = 2 ∨ N = 3 ∨ N = 4 ∨ N = 5 by omega) with rfl | rfl | rfl | rfl | rfl <;> omega
theorem btw_c {N D : Int} (h : Btw (-2) 1 3 1 N D) : N = 0 ∧ D = 1 := by
  have h1 := h.least 0 1 (by decide) (by decide) (by decide)
  have h2 := sq_le (b := 0) (by decide) (by simpa using h1.2)
  have := h.pos; have := h.lo; have := h.hi
  omega
theorem lover_nd (n d : Int) (w : World) (h0 : -100 ≤ n) (h1 : n ≤ 100) (d0 : 0 < d) (d1 : d ≤ 100) : Calls Tryz.prog 27 #[.int .i64 n, .int .i64 d] w (RetV w n d 4) := by
  refine (lover_any n d w (by omega) (by omega) (by omega) (by omega) (by omega)).mono ?_
  rintro e w' ⟨f, rfl, hf, hb⟩
  rw [sgn_pos_den d0, show ((d.natAbs : Nat) : Int) = d by omega] at hf
  exact retV hf d0 d0 rfl (by decide) hb
theorem of_s2 (t : Int) (w : World) (h0 : -100 ≤ t) (h1 : t ≤ 100) : Calls Tryz.prog 22 #[.int .i64 t] w (RetZI w t 2) :=
  (of_any t w (by omega) (by omega)).mono fun e w' h => h.zi (Nat.le_refl _)
theorem Between_is (u v : Value) (n1 d1 n2 d2 N D : Int) (w : World) (hu : Rv w u n1 d1 4) (hv : Rv w v n2 d2 4) (hle : n1 * d2 ≤ n2 * d1) (hD : 0 < D) (h : ∀ N' D', Btw n1 d1 n2 d2 N' D' → N' = N ∧ D' = D) :
    Calls Tryz.prog 29 #[u, v] w (RetVE w N D 8 0) := by
  refine (Between_rv u v n1 d1 n2 d2 4 8 w hu hv (by omega) hle (by omega)).mono ?_
  rintro e w' ⟨N', D', b1, o1, m1, c1, b2, o2, m2, c2, hB, rfl, hr, hb⟩
  obtain ⟨rfl, rfl⟩ := h _ _ hB
  exact ⟨b1, o1, m1, c1, b2, o2, m2, c2, rfl, hid (hr.out.rv hD), hb⟩
set_option maxRecDepth 100000 in
set_option maxHeartbeats 1000000 in
theorem shows_any (v : Value) (n d : Int) (K : Nat) (w : World) (hv : Rv w v n d K) (hK : K ≤ 5000) (hT : Tab w) (s : ByteArray) (hs : shT (lowN n d) (lowD n d) = s) :
    Calls Tryz.prog 25 #[v, .string s] w fun e w' => e = .returned (.bool true) ∧ Below w.heap.size w w' := by
  have HS := hid (fun (w' : World) (hb : Below w.heap.size w w') => by have := Show_rv v n d K w' (hv.below hb (Nat.le_refl _)) hK (hT.below hb); rw [hs] at this; exact this)
  obtain ⟨b1, o1, m1, c1, b2, o2, m2, c2, rfl, _⟩ := Rv.opened hv
  clear hs hv hT
  go_enter Tryz.func25, Tryz.ntmps25
  go_wp2_with fail
  have hal : Below w.heap.size w (w.alloc (.cells #[.bool b1, .slice o1 m1 c1, .bool b2, .slice o2 m2 c2] 26)) := (Below.refl _ _).alloc (Nat.le_refl _) _
  refine (HS.out _ hal).mono ?_
  rintro e w2 ⟨rfl, hb2⟩
  have hbel := hal.trans (hb2.mono hal.size)
  go_wp2
  go_ret
  exact ⟨by simp, hbel⟩
set_option maxRecDepth 100000 in
set_option maxHeartbeats 1000000 in
theorem Decimal_bad (v : Value) (n d : Int) (K : Nat) (w : World) (hv : Rv w v n d K) :
    Calls Tryz.prog 13 #[v, .int .i64 101] w fun e w' => e = .returned (.tuple #[.string ⟨#[]⟩, .int .i64 2]) ∧ Below w.heap.size w w' := by
  obtain ⟨b1, o1, m1, c1, b2, o2, m2, c2, rfl, _⟩ := Rv.opened hv
  clear hv
  go_enter Tryz.func13, Tryz.ntmps13
  go_wp2
  go_ret2
  exact ⟨rfl, (Below.refl _ _).alloc (Nat.le_refl _) _⟩

theorem Text_is (z : Int) (K : Nat) (v : Value) (w : World) (h : Ai w v z K) (hK : K ≤ 40000) (hT : Tab w) (s : ByteArray) (hs : tx z = s) :
    Calls Tryz.prog 23 #[v] w fun e w' => e = .returned (.string s) ∧ Below w.heap.size w w' := by
  rw [← hs]; exact Text_all z K v w h hK hT
theorem Decimal_is (v : Value) (n d N : Int) (K p : Nat) (q : Int) (w : World) (hv : Rv w v n d K) (hK : K ≤ 140) (hp : p ≤ 100) (hq : q = (p : Int)) (hT : Tab w) (hN : (n * 10 ^ p * 2 + d).fdiv (d * 2) = N) (s : ByteArray) (hs : dcT N p = s) :
    Calls Tryz.prog 13 #[v, .int .i64 q] w fun e w' => e = .returned (.tuple #[.string s, .int .i64 0]) ∧ Below w.heap.size w w' := by
  subst hN; subst hs; subst hq; exact Decimal_rv v n d K p w hv hK hp hT
theorem root_is {r x q : Int} (hq : 0 ≤ q) (h0 : 0 ≤ r) (h1 : r * r ≤ x) (h2 : x < (r + 1) * (r + 1)) (h3 : q * q ≤ x) (h4 : x < (q + 1) * (q + 1)) : r = q := by
  rcases Int.lt_trichotomy r q with h | h | h
  · have := Int.mul_le_mul (show r + 1 ≤ q by omega) (show r + 1 ≤ q by omega) (by omega) (by omega)
    omega
  · exact h
  · have := Int.mul_le_mul (show q + 1 ≤ r by omega) (show q + 1 ≤ r by omega) (by omega) (by omega)
    omega
theorem Root_is (u : Value) (x q : Int) (w : World) (hx : 0 ≤ x) (hu : Ai w u x 2) (hq : 0 ≤ q) (h3 : q * q ≤ x) (h4 : x < (q + 1) * (q + 1)) :
    Calls Tryz.prog 31 #[u] w (RetZE w q 8 0) := by
  refine (Root_any u x 2 w hx hu (by omega)).mono ?_
  rintro e w' ⟨r, r0, r1, r2, v, rfl, hf, hb⟩
  obtain rfl := root_is hq r0 r1 r2 h3 h4
  obtain ⟨b1, o1, m1, c1, rfl, H⟩ := FrA.opened hf
  exact ⟨b1, o1, m1, c1, rfl, hid H.out.ai, hb⟩
theorem RootFixed_is (v : Value) (n d q : Int) (k : Nat) (j : Int) (w : World) (hv : Rv w v n d 4) (hn : 0 ≤ n) (hk : k ≤ 256) (hj : j = (k : Int)) (hq : 0 ≤ q) (h3 : q * q ≤ (n * 2 ^ (2 * k)).fdiv d) (h4 : (n * 2 ^ (2 * k)).fdiv d < (q + 1) * (q + 1)) :
    Calls Tryz.prog 30 #[v, .int .i64 j] w (RetZE w q 14 0) := by
  subst hj
  refine (RootFixed_rv v n d k 4 14 w hv hn hk (by omega) (by omega)).mono ?_
  rintro e w' ⟨r, ⟨r0, r1, r2⟩, b1, o1, m1, c1, rfl, H, hb⟩
  obtain rfl := root_is hq r0 r1 r2 h3 h4
  exact ⟨b1, o1, m1, c1, rfl, H, hb⟩
theorem five_none (w : World) : Ra (w.alloc (.cells #[.int .u32 5] 53)) (.agg #[.bool false, .slice (some ⟨w.heap.size, 0, none⟩) 1 1, .bool false, .slice none 0 0]) 5 0 1 := by
  refine ⟨_, _, _, _, _, _, _, _, rfl, ⟨false, _, _, [5], rfl, ?_, by intro u hu; simp at hu; subst hu; decide, by simp, by simp [val, sgn]⟩, ⟨false, none, 0, [], rfl, Rd.nil _ _, Dig.nil _, by simp, by simp [val, sgn]⟩⟩
  exact owns_any (L := [5]) (World.ownsRow_lit (base := w.heap.size) (size := 1) w #[.int .u32 5] 1 (Nat.le_refl _) (by unfold maxLen; omega) rfl) rfl

/-- The closed texts. -/
theorem nt_dec : Lib.decDigits 1 = [49] ∧ Lib.decDigits 2 = [50] ∧ Lib.decDigits 3 = [51] ∧ Lib.decDigits 4 = [52] ∧ Lib.decDigits 5 = [53] ∧ Lib.decDigits 0 = [48] ∧ Lib.decDigits 22 = [50, 50] ∧ Lib.decDigits 16 = [49, 54] ∧ Lib.decDigits 667 = [54, 54, 55] := by
  refine ⟨dec_small (by decide), dec_small (by decide), dec_small (by decide), dec_small (by decide), dec_small (by decide), dec_small (by decide), ?_, ?_, ?_⟩
  · rw [dec_big (by decide), dec_small (by decide)]; rfl
  · rw [dec_big (by decide), dec_small (by decide)]; rfl
  · rw [dec_big (by decide), dec_big (by decide), dec_small (by decide)]; rfl
theorem nt_m4 : tx (-4) = ⟨#[45, 52]⟩ := by rw [tx_eq]; unfold txL; rw [show (-4 : Int).natAbs = 4 from rfl, nt_dec.2.2.2.1]; rfl
theorem nt_1 : tx 1 = ⟨#[49]⟩ := by rw [tx_eq]; unfold txL; rw [show (1 : Int).natAbs = 1 from rfl, nt_dec.1]; rfl
theorem nt_3 : tx 3 = ⟨#[51]⟩ := by rw [tx_eq]; unfold txL; rw [show (3 : Int).natAbs = 3 from rfl, nt_dec.2.2.1]; rfl
theorem nt_m2 : tx (-2) = ⟨#[45, 50]⟩ := by rw [tx_eq]; unfold txL; rw [show (-2 : Int).natAbs = 2 from rfl, nt_dec.2.1]; rfl
theorem nt_m3 : tx (-3) = ⟨#[45, 51]⟩ := by rw [tx_eq]; unfold txL; rw [show (-3 : Int).natAbs = 3 from rfl, nt_dec.2.2.1]; rfl
theorem nt_22 : tx 22 = ⟨#[50, 50]⟩ := by rw [tx_eq]; unfold txL; rw [show (22 : Int).natAbs = 22 from rfl, nt_dec.2.2.2.2.2.2.1]; rfl
theorem ns_zero : shT 0 1 = ⟨#[48]⟩ := by rw [sh_eq 0 (by decide)]; unfold shL txL; rw [show (0 : Int).natAbs = 0 from rfl, nt_dec.2.2.2.2.2.1]; rfl
theorem ns_half : shT 1 2 = ⟨#[49, 47, 50]⟩ := by
  rw [sh_eq 1 (by decide)]; unfold shL txL
  rw [show (1 : Int).natAbs = 1 from rfl, show (2 : Int).natAbs = 2 from rfl, nt_dec.1, nt_dec.2.1]; rfl
theorem ns_five : shT 5 16 = ⟨#[53, 47, 49, 54]⟩ := by
  rw [sh_eq 5 (by decide)]; unfold shL txL
  rw [show (5 : Int).natAbs = 5 from rfl, show (16 : Int).natAbs = 16 from rfl, nt_dec.2.2.2.2.1, nt_dec.2.2.2.2.2.2.2.1]; rfl
theorem ns_three : shT (-3) 2 = ⟨#[45, 51, 47, 50]⟩ := by
  rw [sh_eq (-3) (by decide)]; unfold shL txL
  rw [show (-3 : Int).natAbs = 3 from rfl, show (2 : Int).natAbs = 2 from rfl, nt_dec.2.2.1, nt_dec.2.1]; rfl
theorem nd_a : dcT (-2) 1 = ⟨#[45, 48, 46, 50]⟩ := by
  rw [dc_eq]; unfold dcS dcL; rw [show (-2 : Int).natAbs = 2 from rfl, nt_dec.2.1]; rfl
theorem nd_b : dcT 667 3 = ⟨#[48, 46, 54, 54, 55]⟩ := by
  rw [dc_eq]; unfold dcS dcL; rw [show (667 : Int).natAbs = 667 from rfl, nt_dec.2.2.2.2.2.2.2.2]; rfl
theorem nd_c : dcT 0 0 = ⟨#[48]⟩ := by
  rw [dc_eq]; unfold dcS dcL; rw [show (0 : Int).natAbs = 0 from rfl, nt_dec.2.2.2.2.2.1]; rfl
theorem np_a : prfB [45, 54, 47, 52] = true ∧ prfN [45, 54, 47, 52] = -6 ∧ prfD [45, 54, 47, 52] = 4 := by decide +kernel
theorem np_b : prfB [49, 47, 48] = false ∧ prfB [45, 48] = false ∧ prfB [48, 48, 46, 53] = false := by decide +kernel
theorem np_e : prfB [45, 48, 46, 48] = true ∧ prfN [45, 48, 46, 48] = 0 ∧ prfD [45, 48, 46, 48] = 10 := by decide +kernel
theorem nl_a : lowN (-6) 4 = -3 ∧ lowD (-6) 4 = 2 ∧ lowN 0 10 = 0 ∧ lowD 0 10 = 1 ∧ lowN 1 2 = 1 ∧ lowD 1 2 = 2 ∧ lowN 5 16 = 5 ∧ lowD 5 16 = 16 ∧ lowN 0 1 = 0 ∧ lowD 0 1 = 1 := by decide +kernel
theorem PR_is (l : List UInt8) (w : World) (hm : Mx w) (hl : l.length ≤ 500) (hb : prfB l = true) (N D : Int) (hN : prfN l = N) (hD : prfD l = D) (h1 : N.natAbs < 10 ^ 9) (h2 : D.natAbs < 10 ^ 9) :
    Calls Tryz.prog 15 #[.string ⟨l.toArray⟩] w (RetVE w N D 1 0) := by
  subst hN; subst hD
  exact ParseRatio_rv l w hm (by omega) hb 1 h1 h2
theorem sh_zero : shT (lowN 0 1) (lowD 0 1) = ⟨#[48]⟩ := by rw [nl_a.2.2.2.2.2.2.2.2.1, nl_a.2.2.2.2.2.2.2.2.2]; exact ns_zero
theorem sh_zero10 : shT (lowN 0 10) (lowD 0 10) = ⟨#[48]⟩ := by rw [nl_a.2.2.1, nl_a.2.2.2.1]; exact ns_zero
theorem sh_half : shT (lowN 1 2) (lowD 1 2) = ⟨#[49, 47, 50]⟩ := by rw [nl_a.2.2.2.2.1, nl_a.2.2.2.2.2.1]; exact ns_half
theorem sh_five : shT (lowN 5 16) (lowD 5 16) = ⟨#[53, 47, 49, 54]⟩ := by rw [nl_a.2.2.2.2.2.2.1, nl_a.2.2.2.2.2.2.2.1]; exact ns_five
theorem sh_three : shT (lowN (-6) 4) (lowD (-6) 4) = ⟨#[45, 51, 47, 50]⟩ := by rw [nl_a.1, nl_a.2.1]; exact ns_three
/-- A word 1 lies there. -/
def One (w : World) (gb go : Nat) : Prop := w.cell? ⟨gb, go, none⟩ = some (.int .u32 1)
theorem One.below {w w' : World} {gb go B : Nat} (h : One w gb go) (hb : Below B w w') (hB : w.heap.size ≤ B) : One w' gb go :=
  (hb.cell (p := ⟨gb, go, none⟩) (Nat.lt_of_lt_of_le (World.block_lt_of_cell? w _ h) hB)).trans h
end Go.Proofs.YtilpkocmdpofpaaGreatDoor
