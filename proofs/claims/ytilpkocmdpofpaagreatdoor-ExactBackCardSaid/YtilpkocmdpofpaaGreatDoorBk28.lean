/- (exact.fraction).plus where the denominators differ. Written by gen_fplus.py. -/
import Derived.Test.YtilpkocmdpofpaaGreatDoorBk27
import Derived.Test.YtilpkocmdpofpaaGreatDoorBk16
/- (exact.fraction).plus where the denominators differ. Written by gen_fplus.py. -/
namespace Go.Proofs.YtilpkocmdpofpaaGreatDoor
open Go.RowKit

theorem bl_tr {a b c : World} (h : Below a.heap.size a b) (k : Below b.heap.size b c) : Below a.heap.size a c := h.trans (k.mono h.size)

set_option maxRecDepth 100000 in
set_option maxHeartbeats 1000000 in
theorem fplus_ne (u v : Value) (x y d1 d2 a b : Int) (K : Nat) (w : World) (hu : Ft w u x d1 K) (hv : Ft w v y d2 K) (h1 : 0 < d1) (hne : d1 ≠ d2) (ha : d1 / (Int.gcd d1 d2 : Int) = a) (hb : d2 / (Int.gcd d1 d2 : Int) = b) (hK : K ≤ 39) :
    Calls Tryz.prog 92 #[u, v] w fun e w' => ∃ f, e = .returned f ∧ Ft w' f (x * b + y * a) (d1 * b) (2 * K + 1) ∧ Below w.heap.size w w' := by
  obtain ⟨xb, xo, xm, xc, po, pm, pc, rfl, Hx, HP, Hxb⟩ := Ft.opened hu
  obtain ⟨yb, yo, ym, yc, qo, qm, qc, rfl, Hy, HQ, Hyb⟩ := Ft.opened hv
  clear hu hv
  obtain ⟨W0, hW0⟩ : ∃ W0, W0 = (((w.alloc (.cells #[.bool xb, .slice xo xm xc, .slice po pm pc] 86)).alloc (.cells #[.bool yb, .slice yo ym yc, .slice qo qm qc] 86)).alloc (.cells #[.bool false, .slice none 0 0, .slice none 0 0] 86)) := ⟨_, rfl⟩
  have hB0 : Below w.heap.size w W0 := by rw [hW0]; exact (((Below.refl _ _).alloc (Nat.le_refl _) _).alloc (by simp) _).alloc (by simp <;> omega) _
  have hz0 : W0.heap.size = w.heap.size + 3 := by rw [hW0]; simp
  have HS : Hid (∀ w', Below (w.heap.size + 2) W0 w' → w'.cell? ⟨w.heap.size, 0, none⟩ = some (.bool xb) ∧ w'.cell? ⟨w.heap.size, 1, none⟩ = some (.slice xo xm xc) ∧ w'.cell? ⟨w.heap.size, 2, none⟩ = some (.slice po pm pc) ∧ w'.cell? ⟨w.heap.size + 1, 0, none⟩ = some (.bool yb) ∧ w'.cell? ⟨w.heap.size + 1, 1, none⟩ = some (.slice yo ym yc) ∧ w'.cell? ⟨w.heap.size + 1, 2, none⟩ = some (.slice qo qm qc)) := hid (fun w' hb => by
    refine ⟨?_, ?_, ?_, ?_, ?_, ?_⟩ <;> (rw [hb.cell (by simp <;> omega), hW0]; simp [go_sem]))
  have HT : Hid (∀ w', Below (w.heap.size + 3) W0 w' → (w'.cell? ⟨w.heap.size + 2, 0, none⟩ = some (.bool false) ∧ w'.cell? ⟨w.heap.size + 2, 1, none⟩ = some (.slice none 0 0) ∧ w'.cell? ⟨w.heap.size + 2, 2, none⟩ = some (.slice none 0 0)) ∧ (w'.frozen? ⟨w.heap.size + 2, 0, none⟩ = false ∧ w'.frozen? ⟨w.heap.size + 2, 1, none⟩ = false ∧ w'.frozen? ⟨w.heap.size + 2, 2, none⟩ = false)) := hid (fun w' hb => by
    refine ⟨⟨?_, ?_, ?_⟩, ?_, ?_, ?_⟩ <;> (first | (rw [hb.cell (by simp <;> omega), hW0]; simp [go_sem]; done) | (rw [hb.frozen (by simp <;> omega), hW0]; simp [go_sem]; done)))
  have HB0 := hid hB0; have Hz0 := hid hz0; have HW := hid hW0
  clear hW0 hB0 hz0
  have hcn : ¬ cmpI d1 d2 = 0 := by unfold cmpI; (repeat' split) <;> omega
  obtain ⟨cd, hcd⟩ : ∃ cd, cd = cmpI d1 d2 := ⟨_, rfl⟩
  rw [← hcd] at hcn
  have HC := hid (fun (w' : World) (hb : Below w.heap.size w w') => by have h := compare_any _ _ d1 d2 K K w' (HP.out w' hb) (HQ.out w' hb); rw [← hcd] at h; exact h)
  have hg0 : (0 : Int) < (Int.gcd d1 d2 : Int) := by
    have : Int.gcd d1 d2 ≠ 0 := fun h => by have := (Int.gcd_eq_zero_iff.1 h).1; omega
    omega
  have HGc := hid (fun (w' : World) (hb : Below w.heap.size w w') => gcd_any _ _ d1 d2 K w' (HP.out w' hb) (HQ.out w' hb) (by omega))
  have HDv := hid (fun (s : Value) (w' : World) (hb' : Below w.heap.size w w') (hs : Nt w' s (Int.gcd d1 d2 : Int) K) => by have h := divideBoth_any _ _ s d1 d2 _ K w' (HP.out w' hb') (HQ.out w' hb') hs hg0 (by omega); rw [ha, hb] at h; exact h)
  clear hcd hg0 ha hb hne
  have hbld : ∀ (b : Bool) (o o2 : Option Addr) (m c m2 c2 : Nat) (w : World), (Instr.build 86 #[(0, .agg #[.bool b, .slice o m c]), (1, .slice o2 m2 c2)]).run Tryz.prog w = .ok (.agg #[.bool b, .slice o m c, .slice o2 m2 c2]) w := fun b o o2 m c m2 c2 w => by kernel_rfl
  go_enter Tryz.func92, Tryz.ntmps92
  go_upto_region 1 with (fail)
  rw [← HW.out]
  obtain ⟨k0, k1, k2, k3, k4, k5⟩ := HS.out _ (Below.refl _ _)
  go_wp2_with fail
  refine (HC.out _ HB0.out).mono ?_
  rintro e w1 ⟨nq, rfl, h1⟩
  have hb1 : Below W0.heap.size W0 w1 := by rw [h1]; exact below_drewN (Below.refl _ _) nq
  clear h1 k0 k1 k2 k3 k4 k5
  go_upto_region 3 with (fail)
  have tk1 := hid trivial
  go_region_held3 (fun w' => w'.cell? ⟨w.heap.size, 0, none⟩ = some (.bool xb) ∧ w'.cell? ⟨w.heap.size, 1, none⟩ = some (.slice xo xm xc) ∧ w'.cell? ⟨w.heap.size, 2, none⟩ = some (.slice po pm pc) ∧ w'.cell? ⟨w.heap.size + 1, 0, none⟩ = some (.bool yb) ∧ w'.cell? ⟨w.heap.size + 1, 1, none⟩ = some (.slice yo ym yc) ∧ w'.cell? ⟨w.heap.size + 1, 2, none⟩ = some (.slice qo qm qc)) ((refine HS.out _ ?_; repeat (first | assumption | exact Below.drew (by assumption) | (refine Below.mono (B' := w.heap.size + 2) (B := W0.heap.size) ?_ (by have := Hz0.out; omega))))) (first
    | (go_at_call 123; refine (HGc.out _ (HB0.out.trans (hb1.drew.mono HB0.out.size))).mono ?_; rintro e w2 ⟨_, rfl, hv2, hb2⟩; obtain ⟨go, gm, gc, rfl, HG2⟩ := Nt.opened hv2; have hX2 : Below W0.heap.size W0 w2 := hb1.drew.trans (hb2.mono hb1.size))
    | (go_at_call 122; refine (HDv.out _ _ (HB0.out.trans (hX2.mono HB0.out.size)) (HG2.out _ (Below.refl _ _))).mono ?_; rintro e w3 ⟨_, _, rfl, hva, hvb, hb3⟩; obtain ⟨eo, em, ec, rfl, HE3⟩ := Nt.opened hva; obtain ⟨fo, fm, fc, rfl, HF3⟩ := Nt.opened hvb; have hX3 : Below W0.heap.size W0 w3 := hX2.trans (hb3.mono hX2.size)))
  have HS3 : Hid (∀ w', Below w3.heap.size w3 w' → w'.cell? ⟨w.heap.size, 0, none⟩ = some (.bool xb) ∧ w'.cell? ⟨w.heap.size, 1, none⟩ = some (.slice xo xm xc) ∧ w'.cell? ⟨w.heap.size, 2, none⟩ = some (.slice po pm pc) ∧ w'.cell? ⟨w.heap.size + 1, 0, none⟩ = some (.bool yb) ∧ w'.cell? ⟨w.heap.size + 1, 1, none⟩ = some (.slice yo ym yc) ∧ w'.cell? ⟨w.heap.size + 1, 2, none⟩ = some (.slice qo qm qc)) := hid (fun w' hb => HS.out _ ((bl_tr hX3 hb).mono (by have := Hz0.out; omega)))
  have HB3 := hid (show Below w.heap.size w w3 from HB0.out.trans (hX3.mono HB0.out.size))
  have Hx3 := hid (fun (w' : World) (hb : Below w3.heap.size w3 w') => Hx.out w' (bl_tr HB3.out hb))
  have Hy3 := hid (fun (w' : World) (hb : Below w3.heap.size w3 w') => Hy.out w' (bl_tr HB3.out hb))
  have hX30 := Below.refl w3.heap.size w3
  have HX3 := hid hX3
  clear hb1 hX2 hX3 hva hvb hv2 hb2 hb3
  go_upto_region 4 with (fail)
  go_cut [7] from 35 (fun s7 wx => Below w3.heap.size w3 wx ∧ NewI w3.heap.size wx s7 (x * b + y * a) (2 * K + 1))
  case first =>
    have HKG : Hid (KK (Kc (.pointer (some ⟨w.heap.size, 0, none⟩))) (Kc (.agg #[.bool xb, .slice xo xm xc])) (Kc (.slice fo fm fc)) (fun w v => It w v (b) K) (fun w v => It w v (x * b) (K + K)) (Kc (.pointer (some ⟨w.heap.size + 1, 0, none⟩))) (Kc (.agg #[.bool yb, .slice yo ym yc])) (Kc (.slice eo em ec)) (fun w v => It w v (a) K) (fun w v => It w v (y * a) (K + K)) (fun w v => It w v (x * b + y * a) (2 * K + 1)) (Kt)) := hid ⟨kc_keep _, kc_keep _, kc_keep _, it_keepg _ _, it_keepg _ _, kc_keep _, kc_keep _, kc_keep _, it_keepg _ _, it_keepg _ _, it_keepg _ _, kt_keep⟩
    refine region_inv (by kernel_rfl) (fun L act w' => ∃ f0 f1 f2 f3 f4 f5 f6 f7 f8 f9 f10 f11 f12, L = #[f0, f1, f2, f3, f4, f5, f6, f7, f8, f9, f10, f11, f12] ∧ (f12 = true → f11 = true ∧ f10 = true) ∧ ∃ s35 s36 s37 s38 s39 s40 s41 s42 s43 s44 s45 s7, act = { tmps := #[.agg #[.bool xb, .slice xo xm xc, .slice po pm pc], .agg #[.bool yb, .slice yo ym yc, .slice qo qm qc], .pointer (some ⟨w.heap.size, 0, none⟩), .pointer (some ⟨w.heap.size + 1, 0, none⟩), .pointer (some ⟨w.heap.size + 1 + 1, 0, none⟩), .slice eo em ec, .slice fo fm fc, s7, .pointer (some ⟨w.heap.size, 2, none⟩), .slice po pm pc, .pointer (some ⟨w.heap.size + 1, 2, none⟩), .slice qo qm qc, .int .i64 cd, .bool false, undef, undef, undef, undef, undef, undef, undef, undef, .tuple #[.slice eo em ec, .slice fo fm fc], .pointer (some ⟨w.heap.size, 2, none⟩), .slice po pm pc, .pointer (some ⟨w.heap.size + 1, 2, none⟩), .slice qo qm qc, .pointer (some ⟨w.heap.size, 2, none⟩), .slice po pm pc, .pointer (some ⟨w.heap.size + 1, 2, none⟩), .slice qo qm qc, .slice go gm gc, .tuple #[.slice eo em ec, .slice fo fm fc], .slice eo em ec, .slice fo fm fc, s35, s36, s37, s38, s39, s40, s41, s42, s43, s44, s45, undef, undef, undef, undef, undef, undef], defers := [] } ∧ BK w3.heap.size w3 (Kc (.pointer (some ⟨w.heap.size, 0, none⟩))) (Kc (.agg #[.bool xb, .slice xo xm xc])) (Kc (.slice fo fm fc)) (fun w v => It w v (b) K) (fun w v => It w v (x * b) (K + K)) (Kc (.pointer (some ⟨w.heap.size + 1, 0, none⟩))) (Kc (.agg #[.bool yb, .slice yo ym yc])) (Kc (.slice eo em ec)) (fun w v => It w v (a) K) (fun w v => It w v (y * a) (K + K)) (fun w v => It w v (x * b + y * a) (2 * K + 1)) (Kt) f0 f1 f2 f3 f4 f5 f6 f7 f8 f9 f10 false s35 s36 s37 s38 s39 s40 s41 s42 s43 s44 s45 undef f11 f12 s7 s45 w') ?_ ?_ ?_
    · exact ⟨_, _, _, _, _, _, _, _, _, _, _, _, _, rfl, nofun, _, _, _, _, _, _, _, _, _, _, _, _, rfl, BK.start hX30.drew hX30.size⟩
    · rintro L act w' i hs ⟨f0, f1, f2, f3, f4, f5, f6, f7, f8, f9, f10, f11, f12, rfl, d1, s35, s36, s37, s38, s39, s40, s41, s42, s43, s44, s45, s7, rfl, J⟩ hi
      obtain ⟨hi, hn, hd⟩ := waits_spec (dep := [[], [0], [], [2], [1, 3], [], [5], [], [7], [6, 8], [4, 9], [], [11, 10]]) (by kernel_rfl) hi
      have hiN : i < 13 := hi
      obtain ⟨k0, k1, k2, k3, k4, k5⟩ := HS3.out w' J.bel
      have HJ := hid J
      rcases (show i = 0 ∨ i = 1 ∨ i = 2 ∨ i = 3 ∨ i = 4 ∨ i = 5 ∨ i = 6 ∨ i = 7 ∨ i = 8 ∨ i = 9 ∨ i = 10 ∨ i = 11 ∨ i = 12 by omega) with rfl | rfl | rfl | rfl | rfl | rfl | rfl | rfl | rfl | rfl | rfl | rfl | rfl
      · clear J hd hi hiN hn
        refine wpOp_step rfl (fun kq hK => ?_)
        go_simp
        exact hK _ _ ⟨true, f1, f2, f3, f4, f5, f6, f7, f8, f9, f10, f11, f12, rfl, d1, _, _, _, _, _, _, _, _, _, _, _, _, rfl, ⟨HJ.out.bel, HJ.out.siz, fun _ => rfl, HJ.out.v1, HJ.out.v2, HJ.out.v3, HJ.out.v4, HJ.out.v5, HJ.out.v6, HJ.out.v7, HJ.out.v8, HJ.out.v9, HJ.out.v10, HJ.out.v11, HJ.out.a1⟩⟩
      · have e0 : s35 = .pointer (some ⟨w.heap.size, 0, none⟩) := J.v0 (hd 0 (by simp))
        subst e0
        clear J hd hi hiN hn
        refine wpOp_step rfl (fun kq hK => ?_)
        go_simp
        exact hK _ _ ⟨f0, true, f2, f3, f4, f5, f6, f7, f8, f9, f10, f11, f12, rfl, d1, _, _, _, _, _, _, _, _, _, _, _, _, rfl, ⟨HJ.out.bel, HJ.out.siz, HJ.out.v0, fun _ => rfl, HJ.out.v2, HJ.out.v3, HJ.out.v4, HJ.out.v5, HJ.out.v6, HJ.out.v7, HJ.out.v8, HJ.out.v9, HJ.out.v10, HJ.out.v11, HJ.out.a1⟩⟩
      · clear J hd hi hiN hn
        refine wpOp_step rfl (fun kq hK => ?_)
        go_simp
        exact hK _ _ ⟨f0, f1, true, f3, f4, f5, f6, f7, f8, f9, f10, f11, f12, rfl, d1, _, _, _, _, _, _, _, _, _, _, _, _, rfl, ⟨HJ.out.bel, HJ.out.siz, HJ.out.v0, HJ.out.v1, fun _ => rfl, HJ.out.v3, HJ.out.v4, HJ.out.v5, HJ.out.v6, HJ.out.v7, HJ.out.v8, HJ.out.v9, HJ.out.v10, HJ.out.v11, HJ.out.a1⟩⟩
      · obtain rfl : f3 = false := hn
        have e2 : s37 = .slice fo fm fc := J.v2 (hd 2 (by simp))
        subst e2
        have hw := J.bel
        clear J hd hi hiN
        refine wpOp_step rfl (fun kq hK => ?_)
        go_simp
        refine (signed_any false _ b K _ (HF3.out _ hw)).mono ?_
        rintro e wz ⟨zv, rfl, HZ, hb⟩
        have J2 := HJ.out.step HKG.out hb
        exact hK _ _ ⟨f0, f1, f2, true, f4, f5, f6, f7, f8, f9, f10, f11, f12, rfl, d1, _, _, _, _, _, _, _, _, _, _, _, _, rfl, ⟨J2.bel, J2.siz, J2.v0, J2.v1, J2.v2, fun _ => HZ, J2.v4, J2.v5, J2.v6, J2.v7, J2.v8, J2.v9, J2.v10, J2.v11, J2.a1⟩⟩
      · obtain rfl : f4 = false := hn
        have e1 : s36 = .agg #[.bool xb, .slice xo xm xc] := J.v1 (hd 1 (by simp))
        subst e1
        have h3 := J.v3 (hd 3 (by simp))
        have hw := J.bel
        clear J hd hi hiN
        refine wpOp_step rfl (fun kq hK => ?_)
        go_simp
        refine (times_short _ _ x b K K _ (Hx3.out _ hw) h3 (by omega) (by omega)).mono ?_
        rintro e wz ⟨zv, rfl, HZ, hb⟩
        have J2 := HJ.out.step HKG.out hb
        exact hK _ _ ⟨f0, f1, f2, f3, true, f5, f6, f7, f8, f9, f10, f11, f12, rfl, d1, _, _, _, _, _, _, _, _, _, _, _, _, rfl, ⟨J2.bel, J2.siz, J2.v0, J2.v1, J2.v2, J2.v3, fun _ => HZ, J2.v5, J2.v6, J2.v7, J2.v8, J2.v9, J2.v10, J2.v11, J2.a1⟩⟩
      · clear J hd hi hiN hn
        refine wpOp_step rfl (fun kq hK => ?_)
        go_simp
        exact hK _ _ ⟨f0, f1, f2, f3, f4, true, f6, f7, f8, f9, f10, f11, f12, rfl, d1, _, _, _, _, _, _, _, _, _, _, _, _, rfl, ⟨HJ.out.bel, HJ.out.siz, HJ.out.v0, HJ.out.v1, HJ.out.v2, HJ.out.v3, HJ.out.v4, fun _ => rfl, HJ.out.v6, HJ.out.v7, HJ.out.v8, HJ.out.v9, HJ.out.v10, HJ.out.v11, HJ.out.a1⟩⟩
      · have e5 : s40 = .pointer (some ⟨w.heap.size + 1, 0, none⟩) := J.v5 (hd 5 (by simp))
        subst e5
        clear J hd hi hiN hn
        refine wpOp_step rfl (fun kq hK => ?_)
        go_simp
        exact hK _ _ ⟨f0, f1, f2, f3, f4, f5, true, f7, f8, f9, f10, f11, f12, rfl, d1, _, _, _, _, _, _, _, _, _, _, _, _, rfl, ⟨HJ.out.bel, HJ.out.siz, HJ.out.v0, HJ.out.v1, HJ.out.v2, HJ.out.v3, HJ.out.v4, HJ.out.v5, fun _ => rfl, HJ.out.v7, HJ.out.v8, HJ.out.v9, HJ.out.v10, HJ.out.v11, HJ.out.a1⟩⟩
      · clear J hd hi hiN hn
        refine wpOp_step rfl (fun kq hK => ?_)
        go_simp
        exact hK _ _ ⟨f0, f1, f2, f3, f4, f5, f6, true, f8, f9, f10, f11, f12, rfl, d1, _, _, _, _, _, _, _, _, _, _, _, _, rfl, ⟨HJ.out.bel, HJ.out.siz, HJ.out.v0, HJ.out.v1, HJ.out.v2, HJ.out.v3, HJ.out.v4, HJ.out.v5, HJ.out.v6, fun _ => rfl, HJ.out.v8, HJ.out.v9, HJ.out.v10, HJ.out.v11, HJ.out.a1⟩⟩
      · obtain rfl : f8 = false := hn
        have e7 : s42 = .slice eo em ec := J.v7 (hd 7 (by simp))
        subst e7
        have hw := J.bel
        clear J hd hi hiN
        refine wpOp_step rfl (fun kq hK => ?_)
        go_simp
        refine (signed_any false _ a K _ (HE3.out _ hw)).mono ?_
        rintro e wz ⟨zv, rfl, HZ, hb⟩
        have J2 := HJ.out.step HKG.out hb
        exact hK _ _ ⟨f0, f1, f2, f3, f4, f5, f6, f7, true, f9, f10, f11, f12, rfl, d1, _, _, _, _, _, _, _, _, _, _, _, _, rfl, ⟨J2.bel, J2.siz, J2.v0, J2.v1, J2.v2, J2.v3, J2.v4, J2.v5, J2.v6, J2.v7, fun _ => HZ, J2.v9, J2.v10, J2.v11, J2.a1⟩⟩
      · obtain rfl : f9 = false := hn
        have e6 : s41 = .agg #[.bool yb, .slice yo ym yc] := J.v6 (hd 6 (by simp))
        subst e6
        have h8 := J.v8 (hd 8 (by simp))
        have hw := J.bel
        clear J hd hi hiN
        refine wpOp_step rfl (fun kq hK => ?_)
        go_simp
        refine (times_short _ _ y a K K _ (Hy3.out _ hw) h8 (by omega) (by omega)).mono ?_
        rintro e wz ⟨zv, rfl, HZ, hb⟩
        have J2 := HJ.out.step HKG.out hb
        exact hK _ _ ⟨f0, f1, f2, f3, f4, f5, f6, f7, f8, true, f10, f11, f12, rfl, d1, _, _, _, _, _, _, _, _, _, _, _, _, rfl, ⟨J2.bel, J2.siz, J2.v0, J2.v1, J2.v2, J2.v3, J2.v4, J2.v5, J2.v6, J2.v7, J2.v8, fun _ => HZ, J2.v10, J2.v11, J2.a1⟩⟩
      · obtain rfl : f10 = false := hn
        obtain rfl : f12 = false := by cases f12 with | false => rfl | true => exact absurd (d1 rfl).2 (by simp)
        have h4 := J.v4 (hd 4 (by simp))
        have h9 := J.v9 (hd 9 (by simp))
        have hw := J.bel
        clear J hd hi hiN d1
        refine wpOp_step rfl (fun kq hK => ?_)
        go_simp
        refine (plus_any _ _ (x * b) (y * a) (K + K) (K + K) (2 * K + 1) _ h4 h9 (by omega) (by omega) (by omega) (by omega)).mono ?_
        rintro e wz ⟨zv, rfl, HZ, hb⟩
        have J2 := HJ.out.step HKG.out hb
        exact hK _ _ ⟨f0, f1, f2, f3, f4, f5, f6, f7, f8, f9, true, f11, false, rfl, nofun, _, _, _, _, _, _, _, _, _, _, _, _, rfl, ⟨J2.bel, J2.siz, J2.v0, J2.v1, J2.v2, J2.v3, J2.v4, J2.v5, J2.v6, J2.v7, J2.v8, J2.v9, fun _ => HZ, J2.v11, fun e => (J2.a1 e).fresh⟩⟩
      · obtain rfl : f11 = false := hn
        obtain rfl : f12 = false := by cases f12 with | false => rfl | true => exact absurd (d1 rfl).1 (by simp)
        clear J hd hi hiN d1
        refine wpOp_step rfl (fun kq hK => ?_)
        go_simp
        exact hK _ _ ⟨f0, f1, f2, f3, f4, f5, f6, f7, f8, f9, f10, true, false, rfl, nofun, _, _, _, _, _, _, _, _, _, _, _, _, rfl, HJ.out.alloc1 HKG.out _⟩
      · obtain rfl : f11 = true := hd 11 (by simp)
        obtain rfl : f10 = true := hd 10 (by simp)
        obtain ⟨p, v0, v1, rfl, hp, c0, c1, e0, e1, _⟩ := J.a1 rfl
        obtain ⟨sb, so, sm, sc, rfl, _⟩ := It.opened (J.v10 rfl)
        clear J hd hi hiN hn
        refine wpOp_step rfl (fun kq hK => ?_)
        go_simp
        exact hK _ _ ⟨f0, f1, f2, f3, f4, f5, f6, f7, f8, f9, true, true, true, rfl, fun _ => ⟨rfl, rfl⟩, _, _, _, _, _, _, _, _, _, _, _, _, rfl, HJ.out.store1 HKG.out nofun nofun⟩
    rintro L act w' hs ⟨f0, f1, f2, f3, f4, f5, f6, f7, f8, f9, f10, f11, f12, rfl, _, s35, s36, s37, s38, s39, s40, s41, s42, s43, s44, s45, s7, rfl, J⟩ hr
    have hd := early_done (by kernel_rfl) hs hr 13
    obtain rfl : f0 = true := hd 0 (by omega) (by simp)
    obtain rfl : f1 = true := hd 1 (by omega) (by simp)
    obtain rfl : f2 = true := hd 2 (by omega) (by simp)
    obtain rfl : f3 = true := hd 3 (by omega) (by simp)
    obtain rfl : f4 = true := hd 4 (by omega) (by simp)
    obtain rfl : f5 = true := hd 5 (by omega) (by simp)
    obtain rfl : f6 = true := hd 6 (by omega) (by simp)
    obtain rfl : f7 = true := hd 7 (by omega) (by simp)
    obtain rfl : f8 = true := hd 8 (by omega) (by simp)
    obtain rfl : f9 = true := hd 9 (by omega) (by simp)
    obtain rfl : f10 = true := hd 10 (by omega) (by simp)
    obtain rfl : f11 = true := hd 11 (by omega) (by simp)
    obtain rfl : f12 = true := hd 12 (by omega) (by simp)
    obtain ⟨p1, u1a, u1b, rfl, hp1, c1a, c1b, g1a, g1b, _, _, hu1⟩ := J.a1 rfl
    have ev1 := hu1 rfl
    subst ev1
    have hg1 := J.v10 rfl
    have hbel := J.bel
    clear hd hr hs J
    go_wp2_with fail
    go_meet
    obtain ⟨gb, go', gm', gc', eg, hgg⟩ := It.opened hg1
    simp only [Value.agg.injEq, Array.mk.injEq, List.cons.injEq, and_true] at eg
    obtain ⟨rfl, rfl⟩ := eg
    exact ⟨hbel, p1, _, _, _, _, rfl, hp1, c1a, c1b, hg1⟩
  case rest =>
  obtain ⟨W5, rfl⟩ : ∃ W5, W5 = wc := ⟨_, rfl⟩
  obtain ⟨hp5, p5, b5, o5, m5, c5, rfl, x5p, x5a, x5b, x5h⟩ := hcut
  have x5l := World.block_lt_of_cell? _ _ x5a
  have hbS : Below W0.heap.size W0 W5 := bl_tr HX3.out hp5
  have hn5 : w.heap.size + 3 ≤ p5 := by have := HX3.out.size; have := Hz0.out; omega
  have h25 : w.heap.size < W5.heap.size := by have := hbS.size; have := Hz0.out; omega
  have HS5 : Hid (∀ w', Kp W5.heap.size (w.heap.size + 2) W5 w' → w'.cell? ⟨w.heap.size, 2, none⟩ = some (.slice po pm pc) ∧ w'.cell? ⟨p5, 0, none⟩ = some (.bool b5) ∧ w'.cell? ⟨p5, 1, none⟩ = some (.slice o5 m5 c5)) := hid (fun w' h => ⟨(h.cell _ h25 (by simp)).trans (HS3.out _ hp5).2.2.1, (h.cell _ x5l (by simp; omega)).trans x5a, (h.cell (⟨p5, 1, none⟩ : Addr) x5l (by simp; omega)).trans x5b⟩)
  have HMu := hid (fun (w' : World) (hb : Below W5.heap.size W5 w') => multiply_short _ _ d1 b K K w' (HP.out w' (bl_tr (bl_tr HB3.out hp5) hb)) (HF3.out w' (bl_tr hp5 hb)) (by omega) (by omega))
  have HI5 := hid (fun (w' : World) (hb : Below W5.heap.size W5 w') => x5h.below hb (Nat.le_refl _))
  obtain ⟨_, _, _, _, ei5, HI5o, HI5s, HI5b⟩ := It.opened x5h
  simp only [Value.agg.injEq, Array.mk.injEq, List.cons.injEq, and_true, Value.bool.injEq, Value.slice.injEq] at ei5
  obtain ⟨rfl, rfl, rfl, rfl⟩ := ei5
  have hX50 := Below.refl W5.heap.size W5
  have HbS := hid hbS
  clear hp5 x5p x5a x5b x5h x5l hbS hX30 hn5 h25
  go_upto_region 5 with (fail)
  go_region_held3 (fun w' => w'.cell? ⟨w.heap.size, 2, none⟩ = some (.slice po pm pc) ∧ w'.cell? ⟨p5, 0, none⟩ = some (.bool b5) ∧ w'.cell? ⟨p5, 1, none⟩ = some (.slice o5 m5 c5)) ((refine HS5.out _ ?_; repeat (first | assumption | exact Kp.of_below (by assumption) | exact Kp.of_below (Below.refl _ _) | exact Kp.of_below (Below.refl _ _).drew | exact Kp.of_below (Below.drew (by assumption)) | (refine Kp.set ?_ (by simp) _)))) (first
    | (go_at_call 97; refine (HMu.out _ hX50.drew).mono ?_; rintro e w6 ⟨_, rfl, hv6, hb6⟩; obtain ⟨o6, m6, c6, rfl, H6⟩ := Nt.opened hv6; have hX6 : Below W5.heap.size W5 w6 := hX50.drew.trans hb6; obtain ⟨⟨hr0, hr1, hr2⟩, hf0, hf1, hf2⟩ := HT.out _ ((bl_tr HbS.out hX6).mono (by have := Hz0.out; omega))))
  go_wp2
  have hz0 := Hz0.out; have hs5 := HbS.out.size; have hs6 := hX6.size
  have hw6 : Below w.heap.size w w6 := HB0.out.trans ((bl_tr HbS.out hX6).mono HB0.out.size)
  refine bodyPost_ret (v := .agg #[.bool b5, .slice o5 m5 c5, .slice o6 m6 c6]) (by simp [results, Tryz.results92, go_sem, hr0, hr1, hr2]) rfl ⟨_, rfl, ?_, ((hw6.setCell (by simp <;> omega) _).setCell (by simp <;> omega) _).setCell (by simp <;> omega) _⟩
  refine ⟨_, _, by rw [HI5b.out], ?_, ?_⟩
  · exact nt_keeps (((((Keeps.refl _ _).setCell (u := .bool false) hr0 (fun x h => (by cases h)) _).setCell (u := .slice none 0 0) (by simp [go_sem, hr1]) (fun x h => (by cases h)) _).setCell (u := .slice none 0 0) (by simp [go_sem, hr2]) (fun x h => (by cases h)) _)) (HI5s.out _ hX6)
  · exact (nt_keeps (((((Keeps.refl _ _).setCell (u := .bool false) hr0 (fun x h => (by cases h)) _).setCell (u := .slice none 0 0) (by simp [go_sem, hr1]) (fun x h => (by cases h)) _).setCell (u := .slice none 0 0) (by simp [go_sem, hr2]) (fun x h => (by cases h)) _)) (H6.out _ (Below.refl _ _))).mono (by omega)

theorem sum_alg (x y a b g : Int) : (x * b + y * a) * (a * g * (b * g)) = (x * (b * g) + y * (a * g)) * (a * g * b) := by grind
/-- A sum, whatever the denominators: a fraction of the right value. -/
theorem fplus_any (u v : Value) (x y d1 d2 : Int) (K : Nat) (w : World) (hu : Ft w u x d1 K) (hv : Ft w v y d2 K) (h1 : 0 < d1) (h2 : 0 < d2) (hK : K ≤ 39) :
    Calls Tryz.prog 92 #[u, v] w fun e w' => ∃ f z d, e = .returned f ∧ Ft w' f z d (2 * K + 1) ∧ 0 < d ∧ z * (d1 * d2) = (x * d2 + y * d1) * d ∧ Below w.heap.size w w' := by
  by_cases hne : d1 = d2
  · subst hne
    refine (fplus_same u v x y d1 K w hu hv (by omega)).mono ?_
    rintro e w' ⟨f, rfl, hf, hb⟩
    refine ⟨f, x + y, d1, rfl, hf.mono (by omega), h1, ?_, hb⟩
    rw [← Int.add_mul]
    exact (Int.mul_assoc _ _ _).symm
  · refine (fplus_ne u v x y d1 d2 _ _ K w hu hv h1 hne rfl rfl hK).mono ?_
    rintro e w' ⟨f, rfl, hf, hb⟩
    have hg : (0 : Int) < (Int.gcd d1 d2 : Int) := by
      have : Int.gcd d1 d2 ≠ 0 := fun h => by have := (Int.gcd_eq_zero_iff.1 h).1; omega
      omega
    obtain ⟨g, eg⟩ : ∃ g, g = (Int.gcd d1 d2 : Int) := ⟨_, rfl⟩
    have e1 : d1 / g * g = d1 := Int.ediv_mul_cancel (by rw [eg]; exact Int.gcd_dvd_left d1 d2)
    have e2 : d2 / g * g = d2 := Int.ediv_mul_cancel (by rw [eg]; exact Int.gcd_dvd_right d1 d2)
    rw [← eg] at hf hg
    obtain ⟨a, ea⟩ : ∃ a, a = d1 / g := ⟨_, rfl⟩
    obtain ⟨b, eb⟩ : ∃ b, b = d2 / g := ⟨_, rfl⟩
    rw [← ea] at e1 hf
    rw [← eb] at e2 hf
    refine ⟨f, _, _, rfl, hf, Int.mul_pos h1 ?_, ?_, hb⟩
    · rcases Int.lt_or_le 0 b with h | h
      · exact h
      · exfalso
        have := Int.mul_nonneg (show 0 ≤ -b by omega) (Int.le_of_lt hg)
        rw [Int.neg_mul, e2] at this
        omega
    · have h := sum_alg x y a b g
      rw [e1, e2] at h
      exact h
end Go.Proofs.YtilpkocmdpofpaaGreatDoor
