/- The document's texts of ratios: zeros, tens, Show, Decimal. Written by gen_rfr.py. -/
import Derived.Test.YtbapeilpkhbbeaaGreatDoorYn45
import Derived.Test.YtbapeilpkhbbeaaGreatDoorYn35
import Derived.Test.YtbapeilpkhbbeaaGreatDoorYn32
/- The document's texts of ratios: zeros, tens, Show, Decimal. Written by gen_rfr.py. -/
namespace Go.Proofs.YtbapeilpkhbbeaaGreatDoor
open Go.RowKit

theorem b16_pow (K : Nat) : R16 ^ K ≤ ((10 ^ (5 * K) : Nat) : Int) := by
  induction K with
  | zero => simp
  | succ K ih =>
    have e1 : R16 ^ (K + 1) = R16 ^ K * 65536 := by rw [Int.pow_succ]; rfl
    have e2 : (10 : Nat) ^ (5 * (K + 1)) = 10 ^ (5 * K) * 100000 := by rw [Nat.mul_add, Nat.pow_add]
    rw [e1, e2, Int.natCast_mul]
    have : (0 : Int) ≤ R16 ^ K := Int.pow_nonneg (by decide)
    omega
theorem zt_lt {w : World} {v : Value} {z : Int} {K : Nat} (h : Zt w v z K) : z.natAbs < 10 ^ (5 * K) := by
  obtain ⟨s, rfl, ao, c, L, rfl, h⟩ := h
  have h1 := val_lt R16_pos h.dig
  have h2 := pow_le (B := R16) (by decide) h.le
  have h3 := b16_pow K
  rw [h.eq] at h1
  omega
theorem rtext_t (v : Value) (z : Int) (K : Nat) (t : ByteArray) (w : World) (h : Zt w v z K) (hK : K ≤ 10000) (ht : tx z = t) :
    Calls Tryz.prog 42 #[v] w fun e w' => e = .returned (.string t) ∧ Below w.heap.size w w' := by
  rw [← ht, tx_eq]
  exact rText_any v z K w h (by omega) (by have := txL_len (zt_lt h); omega)
theorem rdecimals_t (b : Bool) (o : Option Addr) (m c : Nat) (z : Int) (K : Nat) (t : ByteArray) (w : World) (h : Zt w (.agg #[.bool b, .slice o m c]) z K) (hK : K ≤ 20000) (ht : ⟨(Lib.decDigits z.natAbs).toArray⟩ = t) :
    Calls Tryz.prog 30 #[.slice o m c] w fun e w' => e = .returned (.string t) ∧ Below w.heap.size w w' := by
  rw [← ht]
  have hl := decs_len _ _ (zt_lt h)
  obtain ⟨s, e, hm⟩ := h
  simp only [Value.agg.injEq, Array.mk.injEq, List.cons.injEq, and_true] at e
  rw [e.2]
  exact rdecimals_any s z.natAbs K w hm (by omega) (by omega)

set_option maxHeartbeats 1000000 in
theorem rzeros_any (n : Int) (t : ByteArray) (w : World) (hn : n ≤ 1000) (ht : ⟨(List.replicate n.toNat 48).toArray⟩ = t) :
    Calls Tryz.prog 31 #[.int .i64 n] w fun e w' => e = .returned (.string t) ∧ w' = w := by
  obtain ⟨Z, hZ⟩ : ∃ Z : Nat → ByteArray, ∀ k, Z k = ⟨(List.replicate k 48).toArray⟩ := ⟨fun k => ⟨(List.replicate k 48).toArray⟩, fun _ => rfl⟩
  have hZ0 : Z 0 = ⟨#[]⟩ := hZ 0
  have hZs : ∀ k, Z k ++ ⟨#[48]⟩ = Z (k + 1) := fun k => by
    rw [hZ, hZ, List.replicate_succ']
    apply ByteArray.ext
    rw [ByteArray.data_append]
    exact List.append_toArray _ _
  have hZl : ∀ k, (Z k).size = k := fun k => by rw [hZ]; show (List.replicate k (48 : UInt8)).toArray.size = k; simp
  rw [← hZ] at ht
  have HZs := hid hZs; have HZl := hid hZl; have HT := hid ht; have HN := hid hn
  clear hZ hZs hZl ht hn
  go_enter Tryz.func31, Tryz.ntmps31
  go_wp2
  go_loop [3, 4] (fun sv iv => ∃ i : Nat, sv = .string (Z i) ∧ iv = .int .i64 (i : Int) ∧ i ≤ n.toNat) (fun _ iv => n.toNat - (intOf iv).toNat)
  case atStart => exact ⟨0, by rw [hZ0], rfl, Nat.zero_le _⟩
  case round =>
    obtain ⟨i, rfl, rfl, hi⟩ := hrel
    by_cases hlt : (i : Int) < n
    · have h1 := HZl.out i
      have hs : ¬ 9223372036854775807 < (Z i).size + (⟨#[48]⟩ : ByteArray).size := by rw [h1]; have := HN.out; show ¬ _ < i + 1; omega
      have he := HZs.out i
      have hb9 : (i : Int) ≤ 1000 := by have := HN.out; omega
      clear h1
      go_wp2
      go_round
      case rel => exact ⟨i + 1, rfl, by go_num, by omega⟩
      case measure => simp [intOf]; omega
    · go_wp2
      go_ret
      have e : i = n.toNat := by omega
      rw [e, HT.out]
      exact ⟨rfl, rfl⟩

set_option maxRecDepth 100000 in
set_option maxHeartbeats 4000000 in
theorem rtens_v (k : Nat) (P : Int) (R : Nat) (w : World) (hk : k ≤ 1024) (hP : (10 : Int) ^ k = P) (hR : 4 + k * 5 ≤ R) : Calls Tryz.prog 29 #[.int .i64 (k : Int)] w (RetZo w P R) := by
  have HPW := hid (fun (w' : World) (u : Value) (hu : Zt w' u 10 4) => rpow_t u 10 P k 4 R w' hk hu (by decide) hP hR)
  clear hk hP hR
  obtain ⟨W0, hW0⟩ : ∃ W0, W0 = (w.alloc (.cells #[.bool false, .slice none 0 0] 31)) := ⟨_, rfl⟩
  have hB0 : Below w.heap.size w W0 := by rw [hW0]; exact (Below.refl _ _).alloc (Nat.le_refl _) _
  have hz0 : W0.heap.size = w.heap.size + 1 := by rw [hW0]; simp
  have HN0 := hid (show w.heap.size < W0.heap.size by rw [hz0]; omega)
  have HS0 : Hid (∀ w', Kp W0.heap.size (w.heap.size) W0 w' → True) := hid (fun _ _ => trivial)
  have HT : Hid (∀ w', Below W0.heap.size W0 w' → (w'.cell? ⟨w.heap.size, 0, none⟩ = some (.bool false) ∧ w'.cell? ⟨w.heap.size, 1, none⟩ = some (.slice none 0 0)) ∧ (w'.frozen? ⟨w.heap.size, 0, none⟩ = false ∧ w'.frozen? ⟨w.heap.size, 1, none⟩ = false)) := hid (fun w' hb => by
    refine ⟨⟨?_, ?_⟩, ?_, ?_⟩ <;> (first | (rw [hb.cell (by rw [hz0]; simp), hW0]; simp [go_sem]; done) | (rw [hb.frozen (by rw [hz0]; simp), hW0]; simp [go_sem]; done)))
  have HB0 := hid hB0; have HW0 := hid hW0
  clear hW0 hB0 hz0 
  go_enter Tryz.func29, Tryz.ntmps29
  go_upto_region 1 with (fail)
  rw [← HW0.out]
  go_wp2_with fail
  refine (rof_o 10 _ (by decide) (by decide)).mono ?_
  rintro e wq1 ⟨b1, o1, m1, c1, rfl, H1, hbq⟩
  have hY1 : Below W0.heap.size W0 wq1 := hbq
  go_wp2_with fail
  refine (HPW.out _ _ H1.out).mono ?_
  rintro e wq2 ⟨b2, o2, m2, c2, rfl, H2, hbq⟩
  have hY2 : Below W0.heap.size W0 wq2 := bl_tr hY1 hbq
  have hY3 : Below W0.heap.size W0 (wq2.alloc (.cells #[.bool b2, .slice o2 m2 c2] 31)) := bl_tr hY2 (bl_new _)
  obtain ⟨⟨hr0, hr1⟩, hf0, hf1⟩ := HT.out _ hY3
  have hn0 := HN0.out; have hs2 := hY2.size
  have hbel : Below w.heap.size w (wq2.alloc (.cells #[.bool b2, .slice o2 m2 c2] 31)) := HB0.out.trans (hY3.mono HB0.out.size)
  have h3b := H2.out.below (show Below wq2.heap.size wq2 (wq2.alloc (.cells #[.bool b2, .slice o2 m2 c2] 31)) from bl_new _) (Nat.le_refl _)
  go_wp2
  refine bodyPost_ret (v := .agg #[.bool b2, .slice o2 m2 c2]) (by simp [results, Tryz.results29, go_sem, hr0, hr1]) rfl ⟨b2, o2, m2, c2, rfl, hid (zt_keeps (((Keeps.refl _ _).setCell (u := .bool false) hr0 (fun x h => (by cases h)) _).setCell (u := .slice none 0 0) (by simp [go_sem, hr1]) (fun x h => (by cases h)) _) h3b), ((hbel.setCell (by simp <;> omega) _).setCell (by simp <;> omega) _)⟩

set_option maxRecDepth 100000 in
set_option maxHeartbeats 4000000 in
theorem rshow_v (u : Value) (n d : Int) (K : Nat) (w : World) (hu : Qv w u n d K) (hK : K ≤ 1000) (hK4 : 4 ≤ K) :
    Calls Tryz.prog 12 #[u] w fun e w' => e = .returned (.string (shT (lowN n d) (lowD n d))) ∧ Below w.heap.size w w' := by
  obtain ⟨N, E, hN, hE, p, _⟩ := low_open n hu.1
  rw [← hN, ← hE]
  obtain ⟨b1, o1, m1, c1, bb1, oo1, mm1, cc1, rfl, Hu⟩ := Qv.opened hu
  obtain ⟨tn, htn⟩ : ∃ t, tx N = t := ⟨_, rfl⟩
  obtain ⟨te, hte⟩ : ∃ t, tx E = t := ⟨_, rfl⟩
  have hsn : tn.size ≤ 100000 := by rw [← htn, tx_eq]; have h := txL_len (zt_lt hu.num.1); rw [hN]; show (txL (lowN n d)).toArray.size ≤ _; simp; omega
  have hse : te.size ≤ 100000 := by rw [← hte, tx_eq]; have h := txL_len (zt_lt hu.num.2); rw [hE]; show (txL (lowD n d)).toArray.size ≤ _; simp; omega
  have hst : shT N E = if E = 1 then tn else tn ++ ⟨#[47]⟩ ++ te := by
    have e2 : ¬ E < 0 := by omega
    have e3 : tx E = ⟨(Lib.decDigits E.natAbs).toArray⟩ := by unfold tx; rw [if_neg e2]
    unfold shT
    rw [htn, ← e3, hte]
  obtain ⟨ST, hSTe⟩ : ∃ s, s = shT N E := ⟨_, rfl⟩
  rw [← hSTe]
  rw [← hSTe] at hst
  have HSt := hid hst
  clear hSTe
  obtain ⟨W0, hW0⟩ : ∃ W0, W0 = (w.alloc (.cells #[.bool b1, .slice o1 m1 c1, .bool bb1, .slice oo1 mm1 cc1] 33)) := ⟨_, rfl⟩
  have hB0 : Below w.heap.size w W0 := by rw [hW0]; exact (Below.refl _ _).alloc (Nat.le_refl _) _
  have hz0 : W0.heap.size = w.heap.size + 1 := by rw [hW0]; simp
  have HS0 : Hid (∀ w', Below W0.heap.size W0 w' → w'.cell? ⟨w.heap.size, 0, none⟩ = some (.bool b1) ∧ w'.cell? ⟨w.heap.size, 1, none⟩ = some (.slice o1 m1 c1) ∧ w'.cell? ⟨w.heap.size, 2, none⟩ = some (.bool bb1) ∧ w'.cell? ⟨w.heap.size, 3, none⟩ = some (.slice oo1 mm1 cc1)) := hid (fun w' hb => by
    refine ⟨?_, ?_, ?_, ?_⟩ <;> (rw [hb.cell (by rw [hz0]; simp <;> omega), hW0]; simp [go_sem]))
  have A1 : Hid (∀ w', Below W0.heap.size W0 w' → Zt w' (.agg #[.bool b1, .slice o1 m1 c1]) N K ∧ Zt w' (.agg #[.bool bb1, .slice oo1 mm1 cc1]) E K) := hid (fun w' hb => by rw [hN, hE]; exact (Hu.out w' (hB0.trans (hb.mono hB0.size))).num)
  have HB0 := hid hB0; have HW0 := hid hW0
  clear hW0 hB0 hz0
  obtain ⟨y, hy⟩ : ∃ y, cmpI E 1 = y := ⟨_, rfl⟩
  have HCy := hid hy; have HTn := hid htn; have HTe := hid hte; have HK := hid hK; have HK4 := hid hK4
  have hyi : y = 0 ↔ E = 1 := by rw [← hy]; unfold cmpI; (repeat' split) <;> omega
  clear hu hK hK4 hN hE p Hu hst hy htn hte
  go_enter Tryz.func12, Tryz.ntmps12
  go_upto_region 1 with (fail)
  rw [← HW0.out]
  have hY0 := Below.refl W0.heap.size W0
  have tk1 := hid trivial
  have tk2 := hid trivial
  go_region_held3 (fun w' => w'.cell? ⟨w.heap.size, 0, none⟩ = some (.bool b1) ∧ w'.cell? ⟨w.heap.size, 1, none⟩ = some (.slice o1 m1 c1) ∧ w'.cell? ⟨w.heap.size, 2, none⟩ = some (.bool bb1) ∧ w'.cell? ⟨w.heap.size, 3, none⟩ = some (.slice oo1 mm1 cc1)) ((refine HS0.out _ ?_; first | assumption | exact Below.drew (by assumption))) (first
      | (clear tk1; go_at_call 17; refine (rof_o 1 _ (by decide) (by decide)).mono ?_; rintro e v1 ⟨b3, o3, m3, c3, rfl, H3, hbq⟩; have hY1 : Below W0.heap.size W0 v1 := (hY0.drew).trans (hbq.mono (hY0.drew).size))
      | (clear tk2; go_at_call 41; refine (rcmp_t _ _ E 1 y K _ (A1.out _ hY1).2 (H3.out.mono HK4.out) HCy.out (by have := HK.out; omega)).mono ?_; rintro e v2 ⟨rfl, hbq⟩; have hY2 : Below W0.heap.size W0 v2 := (hY1).trans (hbq.mono (hY1).size)))
  clear hY0 hY1
  by_cases hE1 : E = 1
  · have hy0 := hyi.2 hE1
    subst hy0
    have HE1 := hid hE1
    clear hE1 hyi
    obtain ⟨k0, k1, k2, k3⟩ := HS0.out _ hY2
    go_wp2_with fail
    refine (rtext_t _ N K tn _ (A1.out _ hY2).1 (by have := HK.out; omega) HTn.out).mono ?_
    rintro e wz ⟨rfl, hbz⟩
    have hZ := bl_tr hY2 hbz
    go_wp2
    go_ret
    exact ⟨by rw [HSt.out, if_pos HE1.out]; rfl, HB0.out.trans (hZ.mono HB0.out.size)⟩
  · have hy0 : ¬ y = 0 := fun h => hE1 (hyi.1 h)
    have HX := hid hE1
    clear hE1 hyi
    have hs1 : ¬ 9223372036854775807 < tn.size + 1 := by omega
    have hs2 : ¬ 9223372036854775807 < tn.size + 1 + te.size := by omega
    go_upto_region 3 with (fail)
    have tk3 := hid trivial
    have tk4 := hid trivial
    go_region_held3 (fun w' => w'.cell? ⟨w.heap.size, 0, none⟩ = some (.bool b1) ∧ w'.cell? ⟨w.heap.size, 1, none⟩ = some (.slice o1 m1 c1) ∧ w'.cell? ⟨w.heap.size, 2, none⟩ = some (.bool bb1) ∧ w'.cell? ⟨w.heap.size, 3, none⟩ = some (.slice oo1 mm1 cc1)) ((refine HS0.out _ ?_; first | assumption | exact Below.drew (by assumption))) (first
      | (clear tk3; go_at_call 42; refine (rtext_t _ N K tn _ (A1.out _ hY2.drew).1 (by have := HK.out; omega) HTn.out).mono ?_; rintro e v3 ⟨rfl, hbq⟩; have hY3 : Below W0.heap.size W0 v3 := (hY2.drew).trans (hbq.mono (hY2.drew).size))
      | (clear tk4; go_at_call 42; refine (rtext_t _ E K te _ (A1.out _ hY3).2 (by have := HK.out; omega) HTe.out).mono ?_; rintro e v4 ⟨rfl, hbq⟩; have hY4 : Below W0.heap.size W0 v4 := (hY3).trans (hbq.mono (hY3).size)))
    go_wp2
    go_ret
    exact ⟨by rw [HSt.out, if_neg HX.out]; rfl, HB0.out.trans (hY4.mono HB0.out.size)⟩

set_option maxRecDepth 100000 in
set_option maxHeartbeats 4000000 in
theorem rDecimal_bad (u : Value) (n d i : Int) (K : Nat) (w : World) (hu : Qv w u n d K) (hi : i < 0 ∨ 100 < i) :
    Calls Tryz.prog 8 #[u, .int .i64 i] w fun e w' => e = .returned (.tuple #[.string ⟨#[]⟩, .int .i64 2]) ∧ Below w.heap.size w w' := by
  obtain ⟨b1, o1, m1, c1, bb1, oo1, mm1, cc1, rfl, _⟩ := Qv.opened hu
  clear hu
  by_cases h0 : i < 0
  · go_enter Tryz.func8, Tryz.ntmps8
    go_wp2
    go_ret2
    exact ⟨rfl, (Below.refl _ _).alloc (Nat.le_refl _) _⟩
  · have h1 : 100 < i := by omega
    clear hi
    go_enter Tryz.func8, Tryz.ntmps8
    go_wp2
    go_ret2
    exact ⟨rfl, (Below.refl _ _).alloc (Nat.le_refl _) _⟩
theorem Decimal_bad' (v : Value) (n d i : Int) (K : Nat) (w : World) (hv : Rv w v n d K) (hi : i < 0 ∨ 100 < i) :
    Calls Tryz.prog 7 #[v, .int .i64 i] w fun e w' => e = .returned (.tuple #[.string ⟨#[]⟩, .int .i64 2]) ∧ Below w.heap.size w w' := by
  obtain ⟨b1, o1, m1, c1, b2, o2, m2, c2, rfl, _⟩ := Rv.opened hv
  clear hv
  by_cases h0 : i < 0
  · go_enter Tryz.func7, Tryz.ntmps7
    go_wp2
    go_ret2
    exact ⟨rfl, (Below.refl _ _).alloc (Nat.le_refl _) _⟩
  · have h1 : 100 < i := by omega
    clear hi
    go_enter Tryz.func7, Tryz.ntmps7
    go_wp2
    go_ret2
    exact ⟨rfl, (Below.refl _ _).alloc (Nat.le_refl _) _⟩

set_option maxRecDepth 100000 in
set_option maxHeartbeats 4000000 in
theorem rDecimal_v (u : Value) (n d : Int) (p : Nat) (w : World) (hu : Qv w u n d 3000) (hp : p ≤ 100) :
    Calls Tryz.prog 8 #[u, .int .i64 (p : Int)] w fun e w' => e = .returned (.tuple #[.string (dcT ((n * 10 ^ p * 2 + d).fdiv (d * 2)) p), .int .i64 0]) ∧ Below w.heap.size w w' := by
  obtain ⟨b1, o1, m1, c1, bb1, oo1, mm1, cc1, rfl, _⟩ := Qv.opened hu
  obtain ⟨P, hP⟩ : ∃ P : Int, P = 10 ^ p := ⟨_, rfl⟩
  have HTW := hid (fun (w' : World) => rtens_v p P 3000 w' (by omega) hP.symm (by omega))
  rw [← hP]
  obtain ⟨X, hX⟩ : ∃ X, X = (n * P * 2 + d).fdiv (d * 2) := ⟨_, rfl⟩
  have HNe := hid (fun (w' : World) (v : Value) (h : Qv w' v (n * P) d 6005) => by have h := rnearest_v v (n * P) d 6005 13000 w' h (by decide) (by decide) (by decide); rw [← hX] at h; exact h)
  rw [← hX]
  have g0 : ¬ (p : Int) < 0 := by omega
  have g1 : ¬ (100 : Int) < (p : Int) := by omega
  have Hp := hid hp
  clear hP hp hX
  obtain ⟨W0, hW0⟩ : ∃ W0, W0 = (w.alloc (.cells #[.bool b1, .slice o1 m1 c1, .bool bb1, .slice oo1 mm1 cc1] 33)) := ⟨_, rfl⟩
  have hB0 : Below w.heap.size w W0 := by rw [hW0]; exact (Below.refl _ _).alloc (Nat.le_refl _) _
  have hz0 : W0.heap.size = w.heap.size + 1 := by rw [hW0]; simp
  have HS0 : Hid (∀ w', Below W0.heap.size W0 w' → w'.cell? ⟨w.heap.size, 0, none⟩ = some (.bool b1) ∧ w'.cell? ⟨w.heap.size, 1, none⟩ = some (.slice o1 m1 c1) ∧ w'.cell? ⟨w.heap.size, 2, none⟩ = some (.bool bb1) ∧ w'.cell? ⟨w.heap.size, 3, none⟩ = some (.slice oo1 mm1 cc1)) := hid (fun w' hb => by
    refine ⟨?_, ?_, ?_, ?_⟩ <;> (rw [hb.cell (by rw [hz0]; simp <;> omega), hW0]; simp [go_sem]))
  have VU : Hid (∀ w', Below W0.heap.size W0 w' → Qv w' (.agg #[.bool b1, .slice o1 m1 c1, .bool bb1, .slice oo1 mm1 cc1]) n d 3000) := hid (fun w' hb => (hu.below hB0 (Nat.le_refl _)).below hb (Nat.le_refl _))
  have HB0 := hid hB0; have HW0 := hid hW0
  clear hW0 hB0 hz0
  clear hu
  go_enter Tryz.func8, Tryz.ntmps8
  go_upto_region 3 with (fail)
  rw [← HW0.out]
  have hX0 := Below.refl W0.heap.size W0
  have HKG : Hid (AllKeep [(false, (fun wq vq => vq = (.agg #[.bool b1, .slice o1 m1 c1, .bool bb1, .slice oo1 mm1 cc1])), undef), (false, (fun wq vq => vq = .int .i64 (p : Int)), undef), (false, (fun wq vq => Zt wq vq (P) (3000)), undef), (false, (fun wq vq => Qv wq vq (P) (1) (3000)), undef), (false, (fun wq vq => Qv wq vq (n * P) (d) (6005)), undef), (false, (fun wq vq => Zt wq vq (X) (13000)), undef)]) := hid ⟨kcV _, kcV _, ztV _ _, qvV _ _ _, qvV _ _ _, ztV _ _, trivial⟩
  refine region_inv (by kernel_rfl) (fun L act w' => ∃ f0 f1 f2 f3 f4 f5 f6 f7, L = #[f0, f1, f2, f3, f4, f5, f6, f7] ∧ (f7 = true → f6 = true ∧ f5 = true) ∧ ∃ s15 s16 s17 s18 s19 s20 s6, act = { tmps := #[(.agg #[.bool b1, .slice o1 m1 c1, .bool bb1, .slice oo1 mm1 cc1]), .int .i64 (p : Int), .pointer (some ⟨w.heap.size, 0, none⟩), undef, .string ⟨#[]⟩, .int .i64 0, s6, undef, undef, .int .i64 (p : Int), .bool false, .bool false, .int .i64 (p : Int), .bool false, .bool false, s15, s16, s17, s18, s19, s20, undef, undef, undef, undef, undef, undef, undef, undef, undef, undef, undef, undef, undef, undef, undef, undef, undef, undef, undef, undef, undef, undef, undef, undef, undef, undef, undef, undef, undef, undef], defers := [] } ∧ RX W0.heap.size W0 [(f0, (fun wq vq => vq = (.agg #[.bool b1, .slice o1 m1 c1, .bool bb1, .slice oo1 mm1 cc1])), s15), (f1, (fun wq vq => vq = .int .i64 (p : Int)), s16), (f2, (fun wq vq => Zt wq vq (P) (3000)), s17), (f3, (fun wq vq => Qv wq vq (P) (1) (3000)), s18), (f4, (fun wq vq => Qv wq vq (n * P) (d) (6005)), s19), (f5, (fun wq vq => Zt wq vq (X) (13000)), s20)] [(2, f6, f7, s6, s20)] w') ?_ ?_ ?_
  · exact ⟨_, _, _, _, _, _, _, _, rfl, nofun, _, _, _, _, _, _, _, rfl, hX0.drew, hX0.size, ⟨nofun, nofun, nofun, nofun, nofun, nofun, trivial⟩, ⟨nofun, trivial⟩, ⟨trivial, trivial⟩⟩
  · rintro L act w' i hs ⟨f0, f1, f2, f3, f4, f5, f6, f7, rfl, d0, s15, s16, s17, s18, s19, s20, s6, rfl, J⟩ hi
    obtain ⟨hi, hn, hd⟩ := waits_spec (dep := [[], [], [1], [2], [0, 3], [4], [], [6, 5]]) (by kernel_rfl) hi
    have hiN : i < 8 := hi
    obtain ⟨k0, k1, k2, k3⟩ := HS0.out w' J.bel
    have HJ := hid J
    rcases (show i = 0 ∨ i = 1 ∨ i = 2 ∨ i = 3 ∨ i = 4 ∨ i = 5 ∨ i = 6 ∨ i = 7 by omega) with rfl | rfl | rfl | rfl | rfl | rfl | rfl | rfl
    · clear J hd hi hiN hn
      refine wpOp_step rfl (fun kq hKq => ?_)
      go_simp
      exact hKq _ _ ⟨true, f1, f2, f3, f4, f5, f6, f7, rfl, d0, _, _, _, _, _, _, _, rfl, HJ.out.bel, HJ.out.siz, ⟨fun _ => rfl, HJ.out.vals.2.1, HJ.out.vals.2.2.1, HJ.out.vals.2.2.2.1, HJ.out.vals.2.2.2.2.1, HJ.out.vals.2.2.2.2.2.1, trivial⟩, ⟨HJ.out.boxes.1, trivial⟩, HJ.out.ne⟩
    · clear J hd hi hiN hn
      refine wpOp_step rfl (fun kq hKq => ?_)
      go_simp
      exact hKq _ _ ⟨f0, true, f2, f3, f4, f5, f6, f7, rfl, d0, _, _, _, _, _, _, _, rfl, HJ.out.bel, HJ.out.siz, ⟨HJ.out.vals.1, fun _ => rfl, HJ.out.vals.2.2.1, HJ.out.vals.2.2.2.1, HJ.out.vals.2.2.2.2.1, HJ.out.vals.2.2.2.2.2.1, trivial⟩, ⟨HJ.out.boxes.1, trivial⟩, HJ.out.ne⟩
    · obtain rfl : f2 = false := hn
      have e16 : s16 = .int .i64 (p : Int) := J.vals.2.1 (hd 1 (by simp))
      subst e16
      have hw := J.bel
      clear J hd hi hiN
      refine wpOp_step rfl (fun kq hKq => ?_)
      go_simp
      refine (HTW.out _).mono ?_
      rintro e wz ⟨ub, uo, um, uc, rfl, HZq, hb⟩
      have J2 := RX.step HJ.out HKG.out hb
      exact hKq _ _ ⟨f0, f1, true, f3, f4, f5, f6, f7, rfl, d0, _, _, _, _, _, _, _, rfl, J2.bel, J2.siz, ⟨J2.vals.1, J2.vals.2.1, fun _ => HZq.out, J2.vals.2.2.2.1, J2.vals.2.2.2.2.1, J2.vals.2.2.2.2.2.1, trivial⟩, ⟨J2.boxes.1, trivial⟩, J2.ne⟩
    · obtain rfl : f3 = false := hn
      have h17 : (fun wq vq => Zt wq vq (P) (3000)) w' s17 := J.vals.2.2.1 (hd 2 (by simp))
      have hw := J.bel
      clear J hd hi hiN
      refine wpOp_step rfl (fun kq hKq => ?_)
      go_simp
      refine (rwhole_v _ P 3000 _ h17 (by decide)).mono ?_
      rintro e wz ⟨ub, uo, um, uc, vb, vo, vm, vc, rfl, HZq, hb⟩
      have J2 := RX.step HJ.out HKG.out hb
      exact hKq _ _ ⟨f0, f1, f2, true, f4, f5, f6, f7, rfl, d0, _, _, _, _, _, _, _, rfl, J2.bel, J2.siz, ⟨J2.vals.1, J2.vals.2.1, J2.vals.2.2.1, fun _ => HZq.out, J2.vals.2.2.2.2.1, J2.vals.2.2.2.2.2.1, trivial⟩, ⟨J2.boxes.1, trivial⟩, J2.ne⟩
    · obtain rfl : f4 = false := hn
      have e15 : s15 = (.agg #[.bool b1, .slice o1 m1 c1, .bool bb1, .slice oo1 mm1 cc1]) := J.vals.1 (hd 0 (by simp))
      subst e15
      have h18 : (fun wq vq => Qv wq vq (P) (1) (3000)) w' s18 := J.vals.2.2.2.1 (hd 3 (by simp))
      have hw := J.bel
      clear J hd hi hiN
      refine wpOp_step rfl (fun kq hKq => ?_)
      go_simp
      refine (rtimes_w _ _ n d P 3000 6005 _ (VU.out _ hw) h18 (by decide) (by decide) (by decide)).mono ?_
      rintro e wz ⟨ub, uo, um, uc, vb, vo, vm, vc, rfl, HZq, hb⟩
      have J2 := RX.step HJ.out HKG.out hb
      exact hKq _ _ ⟨f0, f1, f2, f3, true, f5, f6, f7, rfl, d0, _, _, _, _, _, _, _, rfl, J2.bel, J2.siz, ⟨J2.vals.1, J2.vals.2.1, J2.vals.2.2.1, J2.vals.2.2.2.1, fun _ => HZq.out, J2.vals.2.2.2.2.2.1, trivial⟩, ⟨J2.boxes.1, trivial⟩, J2.ne⟩
    · obtain rfl : f5 = false := hn
      obtain rfl : f7 = false := by cases f7 with | false => rfl | true => exact absurd (d0 rfl).2 (by simp)
      have h19 : (fun wq vq => Qv wq vq (n * P) (d) (6005)) w' s19 := J.vals.2.2.2.2.1 (hd 4 (by simp))
      have hw := J.bel
      clear J hd hi hiN d0
      refine wpOp_step rfl (fun kq hKq => ?_)
      go_simp
      refine (HNe.out _ _ h19).mono ?_
      rintro e wz ⟨ub, uo, um, uc, rfl, HZq, hb⟩
      have J2 := RX.step HJ.out HKG.out hb
      exact hKq _ _ ⟨f0, f1, f2, f3, f4, true, f6, false, rfl, nofun, _, _, _, _, _, _, _, rfl, J2.bel, J2.siz, ⟨J2.vals.1, J2.vals.2.1, J2.vals.2.2.1, J2.vals.2.2.2.1, J2.vals.2.2.2.2.1, fun _ => HZq.out, trivial⟩, ⟨fun e => (J2.boxes.1 e).fresh, trivial⟩, J2.ne⟩
    · obtain rfl : f6 = false := hn
      obtain rfl : f7 = false := by cases f7 with | false => rfl | true => exact absurd (d0 rfl).1 (by simp)
      clear J hd hi hiN d0
      refine wpOp_step rfl (fun kq hKq => ?_)
      go_simp
      have J2 := RX.step HJ.out HKG.out (bl_new (w := w') (.cells #[.bool false, .slice none 0 0] 31))
      exact hKq _ _ ⟨f0, f1, f2, f3, f4, f5, true, false, rfl, nofun, _, _, _, _, _, _, _, rfl, J2.bel, J2.siz, J2.vals, ⟨fun _ => boxn_new _ w' _ _ [.bool false, .slice none 0 0] (by intro i k x hi; match i, hi with | 0, _ => nofun | 1, _ => nofun) HJ.out.siz, trivial⟩, ⟨trivial, trivial⟩⟩
    · obtain rfl : f6 = true := hd 6 (by simp)
      obtain rfl : f5 = true := hd 5 (by simp)
      obtain ⟨fb, fo, fm, fc, rfl, _⟩ := Zt.opened (J.vals.2.2.2.2.2.1 rfl)
      have HBX : Hid _ := hid (J.boxes.1 rfl)
      obtain ⟨p, vs, rfl, hp, hl, hnn, hc, hf, _⟩ := J.boxes.1 rfl
      have cc0 := hc 0 (by decide)
      have ff0 := hf 0 (by decide)
      have cc1 := hc 1 (by decide)
      have ff1 := hf 1 (by decide)
      clear J hd hi hiN hn hc hf hnn hl
      refine wpOp_step rfl (fun kq hKq => ?_)
      go_simp
      exact hKq _ _ ⟨f0, f1, f2, f3, f4, true, true, true, rfl, fun _ => ⟨rfl, rfl⟩, _, _, _, _, _, _, _, rfl, below_setCells hp [.bool fb, .slice fo fm fc] 0 HJ.out.bel, Nat.le_trans HJ.out.siz (Nat.le_of_eq (size_setCells p [.bool fb, .slice fo fm fc] 0 w').symm), Vals.keep HKG.out (BoxN.keeps HBX.out (us := [.bool fb, .slice fo fm fc]) rfl) HJ.out.vals, ⟨fun _ => BoxN.store HBX.out [.bool fb, .slice fo fm fc] rfl (by intro i k x hi; match i, hi with | 0, _ => nofun | 1, _ => nofun), trivial⟩, HJ.out.ne⟩
  rintro L act w' hs ⟨f0, f1, f2, f3, f4, f5, f6, f7, rfl, _, s15, s16, s17, s18, s19, s20, s6, rfl, J⟩ hr
  have hd := early_done (by kernel_rfl) hs hr 8
  obtain rfl : f0 = true := hd 0 (by omega) (by simp)
  obtain rfl : f1 = true := hd 1 (by omega) (by simp)
  obtain rfl : f2 = true := hd 2 (by omega) (by simp)
  obtain rfl : f3 = true := hd 3 (by omega) (by simp)
  obtain rfl : f4 = true := hd 4 (by omega) (by simp)
  obtain rfl : f5 = true := hd 5 (by omega) (by simp)
  obtain rfl : f6 = true := hd 6 (by omega) (by simp)
  obtain rfl : f7 = true := hd 7 (by omega) (by simp)
  have e15 : s15 = (.agg #[.bool b1, .slice o1 m1 c1, .bool bb1, .slice oo1 mm1 cc1]) := J.vals.1 rfl
  subst e15
  have e16 : s16 = .int .i64 (p : Int) := J.vals.2.1 rfl
  subst e16
  have hg6 : (fun wq vq => Zt wq vq (X) (13000)) w' s20 := J.vals.2.2.2.2.2.1 rfl
  obtain ⟨fb, fo, fm, fc, rfl, _⟩ := Zt.opened hg6
  obtain ⟨p6, rfl, hp6, hl6, hc6⟩ := BoxN.done (us := [.bool fb, .slice fo fm fc]) (J.boxes.1 rfl)
  have k6_0 : w'.cell? ⟨p6, 0, none⟩ = some (.bool fb) := (hc6 0 (by decide)).1
  have k6_1 : w'.cell? ⟨p6, 1, none⟩ = some (.slice fo fm fc) := (hc6 1 (by decide)).1
  clear hc6
  have hbel := J.bel
  have hsiz := J.siz
  have hv17 : (fun wq vq => Zt wq vq (P) (3000)) w' s17 := J.vals.2.2.1 rfl
  have hv18 : (fun wq vq => Qv wq vq (P) (1) (3000)) w' s18 := J.vals.2.2.2.1 rfl
  have hv19 : (fun wq vq => Qv wq vq (n * P) (d) (6005)) w' s19 := J.vals.2.2.2.2.1 rfl
  clear hd hr hs J
  obtain ⟨W1, hW1⟩ : ∃ W, W = w' := ⟨_, rfl⟩
  rw [← hW1] at hbel hg6 hl6 k6_0 k6_1
  have HS1 : Hid (∀ w', Below W1.heap.size W1 w' → (w'.cell? ⟨w.heap.size, 0, none⟩ = some (.bool b1) ∧ w'.cell? ⟨w.heap.size, 1, none⟩ = some (.slice o1 m1 c1) ∧ w'.cell? ⟨w.heap.size, 2, none⟩ = some (.bool bb1) ∧ w'.cell? ⟨w.heap.size, 3, none⟩ = some (.slice oo1 mm1 cc1)) ∧ w'.cell? ⟨p6, 0, none⟩ = some (.bool fb) ∧ w'.cell? ⟨p6, 1, none⟩ = some (.slice fo fm fc)) := hid (fun w' hb => by
    refine ⟨HS0.out _ (bl_tr hbel hb), (hb.cell (p := ⟨p6, 0, none⟩) hl6).trans k6_0, (hb.cell (p := ⟨p6, 1, none⟩) hl6).trans k6_1⟩)
  replace VU := hid (fun w' hb => VU.out w' (bl_tr hbel hb))
  have VX : Hid (∀ w', Below W1.heap.size W1 w' → Zt w' (.agg #[.bool fb, .slice fo fm fc]) X 13000) := hid (fun w' hb => hg6.below hb (Nat.le_refl _))
  have HB1 := hid (HB0.out.trans (hbel.mono HB0.out.size)); have HW1 := hid hW1
  clear hW1 HS0 HB0 HW0 hbel hsiz hg6 hl6 hp6 k6_0 k6_1
  obtain ⟨t1, ht1⟩ : ∃ t : ByteArray, ⟨(Lib.decDigits X.natAbs).toArray⟩ = t := ⟨_, rfl⟩
  have hl1 := decs_len _ _ (zt_lt (VX.out _ (Below.refl _ _)))
  obtain ⟨L1, hL1⟩ : ∃ L, L = (Lib.decDigits X.natAbs).length := ⟨_, rfl⟩
  have hs1 : t1.size = L1 := by rw [← ht1, hL1]; rfl
  rw [← hL1] at hl1
  have hfb : fb = decide (X < 0) := by have h := VX.out _ (Below.refl _ _); obtain ⟨s, e, _⟩ := h; cases e; rfl
  obtain ⟨z1, hz1⟩ : ∃ t : ByteArray, ⟨(List.replicate ((p : Int) + 1 - (L1 : Int)).toNat 48).toArray⟩ = t := ⟨_, rfl⟩
  have hzs : z1.size ≤ 101 := by rw [← hz1]; show (List.replicate _ (48 : UInt8)).toArray.size ≤ _; simp; have := Hp.out; omega
  obtain ⟨t2, ht2⟩ : ∃ t : ByteArray, t = ⟨(dcL X p).toArray⟩ := ⟨_, rfl⟩
  have hcat : z1 ++ t1 = t2 := by
    rw [← hz1, ← ht1, ht2, dcL, hL1]
    rw [show ((p : Int) + 1 - ((Lib.decDigits X.natAbs).length : Int)).toNat = p + 1 - (Lib.decDigits X.natAbs).length by omega]
    apply ByteArray.ext
    simp [ByteArray.data_append]
  have ht2s : p + 1 ≤ t2.size ∧ t2.size ≤ 200000 := by
    rw [ht2]; show p + 1 ≤ (dcL X p).toArray.size ∧ (dcL X p).toArray.size ≤ _
    unfold dcL; simp; rw [← hL1]; have := Hp.out; omega
  obtain ⟨q, hq⟩ : ∃ q : Nat, q = t2.size - p := ⟨_, rfl⟩
  have HCat := hid hcat; have HT2 := hid ht2; have HT1 := hid ht1; have HZ1 := hid hz1; have HFb := hid hfb; have Hq := hid hq; have HTs := hid ht2s
  have hpa : ¬ 9223372036854775807 < z1.size + L1 := by omega
  have gw1 : wrap64 ((p : Int) + 1) = (p : Int) + 1 := by unfold wrap64; have := Hp.out; omega
  have gw2 : wrap64 ((p : Int) + 1 - (L1 : Int)) = (p : Int) + 1 - (L1 : Int) := by unfold wrap64; have := Hp.out; omega
  have HZe := hid (fun (w' : World) => show Calls Tryz.prog 31 #[.int .i64 ((p : Int) + 1 - (L1 : Int))] w' (fun e w2 => e = .returned (.string z1) ∧ w2 = w') from rzeros_any _ z1 w' (by omega) hz1)
  clear hz1 hcat ht1 hfb hL1 hzs ht2 hq ht2s
  go_upto_region 4 with (fail)
  rw [← HW1.out]
  obtain ⟨⟨k0, k1, k2, k3⟩, k4, k5⟩ := HS1.out _ (Below.refl _ _)
  go_wp2_with fail
  refine (rdecimals_t _ _ _ _ X 13000 t1 _ (VX.out _ (Below.refl _ _)) (by decide) HT1.out).mono ?_
  rintro e w4 ⟨rfl, hX4⟩
  clear k0 k1 k2 k3 k4 k5
  go_wp2_with fail
  refine (HZe.out _).mono ?_
  rintro e w5 ⟨rfl, hw5⟩
  obtain rfl : w4 = w5 := hw5.symm
  have hqp : (t2.size : Int) - (p : Int) = (q : Int) := by have := Hq.out; have := HTs.out; omega
  have hq1 : (q : Int) ≤ (t2.size : Int) := by omega
  have hq0 : (0 : Int) ≤ (q : Int) := by omega
  have hwq : wrap64 (q : Int) = (q : Int) := by unfold wrap64; have := HTs.out; omega
  have hcat := HCat.out; have hts9 : t2.size ≤ 200000 := HTs.out.2; have hq2 : (q : Int) ≤ 200000 := by omega
  have HB4 := hid (HB1.out.trans (hX4.mono HB1.out.size))
  have HAs := hid (show t2.extract 0 q ++ ⟨#[46]⟩ ++ t2.extract q t2.size = t2.extract 0 q ++ (⟨#[46]⟩ ++ t2.extract q t2.size) from ByteArray.append_assoc)
  by_cases hN0 : X < 0
  · obtain rfl : fb = true := by rw [HFb.out]; exact decide_eq_true hN0
    by_cases hpp : 0 < (p : Int)
    · have hz := 0
      skip
      obtain ⟨⟨k0, k1, k2, k3⟩, k4, k5⟩ := HS1.out _ hX4
      go_wp2
      go_region
      all_goals go_wp2
      all_goals go_ret2
      all_goals exact ⟨by rw [dcT_np HT2.out Hq.out hN0 (by omega), ← HAs.out]; rfl, by first | exact HB4.out | exact Below.drew HB4.out⟩
    · have hqe : q = t2.size := by have := Hq.out; have := HTs.out; omega
      skip
      obtain ⟨⟨k0, k1, k2, k3⟩, k4, k5⟩ := HS1.out _ hX4
      go_wp2
      go_ret2
      exact ⟨by rw [dcT_nz HT2.out Hq.out hN0 (by omega), hqe, ByteArray.extract_zero_size]; rfl, HB4.out⟩
  · obtain rfl : fb = false := by rw [HFb.out]; exact decide_eq_false hN0
    by_cases hpp : 0 < (p : Int)
    · have hz := 0
      skip
      obtain ⟨⟨k0, k1, k2, k3⟩, k4, k5⟩ := HS1.out _ hX4
      go_wp2
      go_region
      all_goals go_wp2
      all_goals go_ret2
      all_goals exact ⟨by rw [dcT_pp HT2.out Hq.out (by omega) (by omega), ← HAs.out]; rfl, by first | exact HB4.out | exact Below.drew HB4.out⟩
    · have hqe : q = t2.size := by have := Hq.out; have := HTs.out; omega
      skip
      obtain ⟨⟨k0, k1, k2, k3⟩, k4, k5⟩ := HS1.out _ hX4
      go_wp2
      go_ret2
      exact ⟨by rw [dcT_pz HT2.out Hq.out (by omega) (by omega), hqe, ByteArray.extract_zero_size]; rfl, HB4.out⟩

/-- The error of places out of range. -/
def placeErr (i : Int) : Int := if i < 0 ∨ 100 < i then 2 else 0
theorem Decimal_res (v : Value) (n d i : Int) (t : ByteArray) (w : World) (hv : Rv w v n d 16) (hT : Tab w) (ht : (if i < 0 ∨ 100 < i then ⟨#[]⟩ else dcT ((n * 10 ^ i.toNat * 2 + d).fdiv (d * 2)) i.toNat) = t) :
    Calls Tryz.prog 7 #[v, .int .i64 i] w fun e w' => e = .returned (.tuple #[.string t, .int .i64 (placeErr i)]) ∧ Below w.heap.size w w' := by
  subst ht
  by_cases h : i < 0 ∨ 100 < i
  · rw [show placeErr i = 2 from if_pos h, if_pos h]
    exact Decimal_bad' v n d i 16 w hv h
  · rw [show placeErr i = 0 from if_neg h, if_neg h]
    obtain ⟨k, rfl⟩ : ∃ k : Nat, i = k := ⟨i.toNat, by omega⟩
    exact Decimal_rv v n d 16 k w hv (by decide) (by omega) hT
theorem rDecimal_res (v : Value) (n d i : Int) (t : ByteArray) (w : World) (hv : Qv w v n d 35) (ht : (if i < 0 ∨ 100 < i then ⟨#[]⟩ else dcT ((n * 10 ^ i.toNat * 2 + d).fdiv (d * 2)) i.toNat) = t) :
    Calls Tryz.prog 8 #[v, .int .i64 i] w fun e w' => e = .returned (.tuple #[.string t, .int .i64 (placeErr i)]) ∧ Below w.heap.size w w' := by
  subst ht
  by_cases h : i < 0 ∨ 100 < i
  · rw [show placeErr i = 2 from if_pos h, if_pos h]
    exact rDecimal_bad v n d i 35 w hv h
  · rw [show placeErr i = 0 from if_neg h, if_neg h]
    obtain ⟨k, rfl⟩ : ∃ k : Nat, i = k := ⟨i.toNat, by omega⟩
    exact rDecimal_v v n d k w (hv.mono (by decide)) (by omega)
end Go.Proofs.YtbapeilpkhbbeaaGreatDoor
