/- exact.Compare: the order of two ratios' values; same of the laws. Written by gen_compare.py. -/
import Derived.Test.YtbapeilpkhbbeaaGreatBn29
import Derived.Test.YtbapeilpkhbbeaaGreatBn23
import Derived.Deep.DeepCutAuto
/- exact.Compare: the order of two ratios' values; same of the laws. Written by gen_compare.py. -/
namespace Go.Proofs.YtbapeilpkhbbeaaGreat
open Go.RowKit

/-- s points to a box that holds a fraction. -/
def NewF (w : World) (s : Value) (z d : Int) (K : Nat) : Prop := ∃ p b o m c o2 m2 c2, s = .pointer (some ⟨p, 0, none⟩) ∧ w.cell? ⟨p, 0, none⟩ = some (.bool b) ∧ w.cell? ⟨p, 1, none⟩ = some (.slice o m c) ∧ w.cell? ⟨p, 2, none⟩ = some (.slice o2 m2 c2) ∧ Ft w (.agg #[.bool b, .slice o m c, .slice o2 m2 c2]) z d K
theorem FtN {w : World} {b : Bool} {o o2 : Option Addr} {m c m2 c2 : Nat} {z d : Int} {K : Nat} (h : Ft w (.agg #[.bool b, .slice o m c, .slice o2 m2 c2]) z d K) : It w (.agg #[.bool b, .slice o m c]) z K ∧ Nt w (.slice o m c) (z.natAbs : Int) K ∧ Nt w (.slice o2 m2 c2) d K := by
  obtain ⟨s1, s2, e, h1, h2⟩ := h
  simp only [Value.agg.injEq, Array.mk.injEq, List.cons.injEq, and_true] at e
  obtain ⟨e1, rfl, rfl⟩ := e
  exact ⟨⟨_, by rw [e1], h1⟩, h1, h2⟩

set_option maxRecDepth 100000 in
set_option maxHeartbeats 1000000 in
theorem closureR_any (p q : Nat) (pb qb : Bool) (po po2 qo qo2 : Option Addr) (pm pc pm2 pc2 qm qc qm2 qc2 : Nat) (z1 e1 z2 e2 : Int) (K : Nat) (w : World)
    (hS : ∀ w', Below w.heap.size w w' → w'.cell? ⟨p, 0, none⟩ = some (.bool pb) ∧ w'.cell? ⟨p, 1, none⟩ = some (.slice po pm pc) ∧ w'.cell? ⟨p, 2, none⟩ = some (.slice po2 pm2 pc2) ∧ w'.cell? ⟨q, 0, none⟩ = some (.bool qb) ∧ w'.cell? ⟨q, 1, none⟩ = some (.slice qo qm qc) ∧ w'.cell? ⟨q, 2, none⟩ = some (.slice qo2 qm2 qc2)) (h1 : Ft w (.agg #[.bool pb, .slice po pm pc, .slice po2 pm2 pc2]) z1 e1 K) (h2 : Ft w (.agg #[.bool qb, .slice qo qm qc, .slice qo2 qm2 qc2]) z2 e2 K) (hK : K ≤ 79) :
    Calls Tryz.prog 66 #[.pointer (some ⟨p, 0, none⟩), .pointer (some ⟨q, 0, none⟩)] w fun e w' => e = .returned (.int .i64 (cmpI ((z1.natAbs : Int) * e2) ((z2.natAbs : Int) * e1))) ∧ Below w.heap.size w w' := by
  have N1 := hid (FtN h1); have N2 := hid (FtN h2); have HS := hid hS
  have HM1 := hid (fun (w' : World) (hb : Below w.heap.size w w') => multiply_short _ _ _ _ K K w' (N1.out.2.1.below hb (Nat.le_refl _)) (N2.out.2.2.below hb (Nat.le_refl _)) hK hK)
  have HM2 := hid (fun (w' : World) (hb : Below w.heap.size w w') => multiply_short _ _ _ _ K K w' (N2.out.2.1.below hb (Nat.le_refl _)) (N1.out.2.2.below hb (Nat.le_refl _)) hK hK)
  clear h1 h2 hS
  have hX0 := Below.refl w.heap.size w
  have tk1 := hid trivial
  have tk2 := hid trivial
  go_enter Tryz.func66, Tryz.ntmps66
  go_upto_region 1 with (fail)
  go_region_held3 (fun w' => w'.cell? ⟨p, 0, none⟩ = some (.bool pb) ∧ w'.cell? ⟨p, 1, none⟩ = some (.slice po pm pc) ∧ w'.cell? ⟨p, 2, none⟩ = some (.slice po2 pm2 pc2) ∧ w'.cell? ⟨q, 0, none⟩ = some (.bool qb) ∧ w'.cell? ⟨q, 1, none⟩ = some (.slice qo qm qc) ∧ w'.cell? ⟨q, 2, none⟩ = some (.slice qo2 qm2 qc2)) ((refine HS.out _ ?_; first | assumption | exact Below.drew (by assumption))) (first
    | (clear tk1; go_at_call 68; refine (HM1.out _ hX0.drew).mono ?_; rintro e w1 ⟨_, rfl, hv1, hb1⟩; obtain ⟨o1, m1, c1, rfl, H1⟩ := Nt.opened hv1; have hX1 : Below w.heap.size w w1 := hX0.drew.trans hb1)
    | (clear tk2; go_at_call 68; refine (HM2.out _ hX1).mono ?_; rintro e w2 ⟨_, rfl, hv2, hb2⟩; obtain ⟨o2, m2, c2, rfl, H2⟩ := Nt.opened hv2; have hX2 : Below w.heap.size w w2 := hX1.trans (hb2.mono hX1.size))
    | (go_at_call 67; refine (compare_any _ _ _ _ _ _ _ (H1.out _ hb2) (H2.out _ (Below.refl _ _))).mono ?_; rintro e w3 ⟨nq, rfl, rfl⟩; have hX3 : Below w.heap.size w (w2.drewN nq) := below_drewN hX2 nq))
  go_wp2
  go_ret
  exact ⟨rfl, hX3⟩

set_option maxRecDepth 100000 in
set_option maxHeartbeats 1000000 in
theorem orderR_eq (s : Int) (hs : -1 ≤ s ∧ s ≤ 1) (p q : Nat) (pb qb : Bool) (po po2 qo qo2 : Option Addr) (pm pc pm2 pc2 qm qc qm2 qc2 : Nat) (z1 e1 z2 e2 : Int) (K : Nat) (w : World)
    (hS : ∀ w', Below w.heap.size w w' → w'.cell? ⟨p, 0, none⟩ = some (.bool pb) ∧ w'.cell? ⟨p, 1, none⟩ = some (.slice po pm pc) ∧ w'.cell? ⟨p, 2, none⟩ = some (.slice po2 pm2 pc2) ∧ w'.cell? ⟨q, 0, none⟩ = some (.bool qb) ∧ w'.cell? ⟨q, 1, none⟩ = some (.slice qo qm qc) ∧ w'.cell? ⟨q, 2, none⟩ = some (.slice qo2 qm2 qc2)) (h1 : Ft w (.agg #[.bool pb, .slice po pm pc, .slice po2 pm2 pc2]) z1 e1 K) (h2 : Ft w (.agg #[.bool qb, .slice qo qm qc, .slice qo2 qm2 qc2]) z2 e2 K) (hK : K ≤ 79) :
    Calls Tryz.prog 65 #[.int .i64 s, .int .i64 s, .func (.func 66) #[] #[.pointer (some ⟨p, 0, none⟩), .pointer (some ⟨q, 0, none⟩)]] w fun e w' => e = .returned (.int .i64 (s * cmpI ((z1.natAbs : Int) * e2) ((z2.natAbs : Int) * e1))) ∧ Below w.heap.size w w' := by
  have HC := hid (closureR_any p q pb qb po po2 qo qo2 pm pc pm2 pc2 qm qc qm2 qc2 z1 e1 z2 e2 K w hS h1 h2 hK)
  obtain ⟨c, hce⟩ : ∃ c, c = cmpI ((z1.natAbs : Int) * e2) ((z2.natAbs : Int) * e1) := ⟨_, rfl⟩
  have hc := cmpI_bd ((z1.natAbs : Int) * e2) ((z2.natAbs : Int) * e1)
  rw [← hce] at HC hc ⊢
  have hw : IntKind.i64.wrap (s * c) = s * c := by
    rcases (show s = -1 ∨ s = 0 ∨ s = 1 by omega) with rfl | rfl | rfl <;> rcases (show c = -1 ∨ c = 0 ∨ c = 1 by omega) with rfl | rfl | rfl <;> decide
  have hb : (s != s) = false := by simp
  clear hce hS h1 h2
  go_enter Tryz.func65, Tryz.ntmps65
  go_wp2_with fail
  refine HC.out.mono ?_
  rintro e w1 ⟨rfl, hb1⟩
  go_wp2
  go_ret
  exact ⟨rfl, hb1⟩

theorem cmp_pos {r e : Int} (he : 0 < e) : cmpI (r * e) 0 = cmpI r 0 := cmp_scale (d := 1) (e := 1) (by omega) (by omega) rfl |>.trans (by
  rcases Int.lt_trichotomy r 0 with h | h | h
  · rw [cmp_lt'' h, cmp_lt'' (Int.mul_neg_of_neg_of_pos h he)]
  · subst h; rw [Int.zero_mul]
  · rw [cmp_gt'' h, cmp_gt'' (Int.mul_pos h he)])
theorem cmp_frac_same {z1 e1 z2 e2 : Int} (h1 : 0 < e1) (h2 : 0 < e2) (h : cmpI z1 0 = cmpI z2 0) : cmpI (z1 * e2) (z2 * e1) = cmpI z1 0 * cmpI ((z1.natAbs : Int) * e2) ((z2.natAbs : Int) * e1) := by
  have hs : cmpI (z1 * e2) 0 = cmpI (z2 * e1) 0 := by rw [cmp_pos h2, cmp_pos h1, h]
  have hh := cmp_same _ _ hs
  rw [cmp_pos h2] at hh
  rw [hh, Int.natAbs_mul, Int.natAbs_mul]
  congr 2
  · rw [Int.natCast_mul]; congr 1; omega
  · rw [Int.natCast_mul]; congr 1; omega
theorem cmp_frac_other {z1 e1 z2 e2 : Int} (h1 : 0 < e1) (h2 : 0 < e2) (h : cmpI z1 0 ≠ cmpI z2 0) : cmpI (z1 * e2) (z2 * e1) = cmpI (cmpI z1 0) (cmpI z2 0) := by
  have hs : cmpI (z1 * e2) 0 ≠ cmpI (z2 * e1) 0 := by rw [cmp_pos h2, cmp_pos h1]; exact h
  rw [cmp_other _ _ hs, cmp_pos h2, cmp_pos h1]
set_option maxRecDepth 100000 in
set_option maxHeartbeats 1000000 in
theorem CompareR_same (u v : Value) (x1 y1 x2 y2 : Int) (K : Nat) (w : World) (hu : Ra w u x1 y1 K) (hv : Ra w v x2 y2 K) (hK : K ≤ 150) (hs : cmpI (rn x1 y1) 0 = cmpI (rn x2 y2) 0) :
    Calls Tryz.prog 24 #[u, v] w fun e w' => e = .returned (.int .i64 (cmpI (rn x1 y1 * rd y2) (rn x2 y2 * rd y1))) ∧ Below w.heap.size w w' := by
  have hR1 := fun (w' : World) (hb : Below w.heap.size w w') => readRatio_any u x1 y1 K w' (hu.below hb (Nat.le_refl _)) (by omega)
  have hR2 := fun (w' : World) (hb : Below w.heap.size w w') => readRatio_any v x2 y2 K w' (hv.below hb (Nat.le_refl _)) (by omega)
  obtain ⟨ab, ao, am, ac, bb, bo, bm, bc, rfl, _, _⟩ := Ra.opened hu
  obtain ⟨cb, co, cm, cc, db, d_o, dm, dc, rfl, _, _⟩ := Ra.opened hv
  have hd1 : 0 < rd y1 := rd_pos y1
  have hd2 : 0 < rd y2 := rd_pos y2
  obtain ⟨z1, hz1⟩ : ∃ z1, z1 = rn x1 y1 := ⟨_, rfl⟩
  obtain ⟨z2, hz2⟩ : ∃ z2, z2 = rn x2 y2 := ⟨_, rfl⟩
  obtain ⟨e1', he1⟩ : ∃ d, d = rd y1 := ⟨_, rfl⟩
  obtain ⟨e2', he2⟩ : ∃ d, d = rd y2 := ⟨_, rfl⟩
  rw [← hz1, ← hz2] at hs
  rw [← he1] at hd1
  rw [← he2] at hd2
  rw [← hz1, ← hz2, ← he1, ← he2]
  have hR1' := hR1
  have hR2' := hR2
  rw [← hz1, ← he1] at hR1'
  rw [← hz2, ← he2] at hR2'
  obtain ⟨W0, hW0⟩ : ∃ W0, W0 = ((w.alloc (.cells #[.bool ab, .slice ao am ac, .bool bb, .slice bo bm bc] 26)).alloc (.cells #[.bool cb, .slice co cm cc, .bool db, .slice d_o dm dc] 26)) := ⟨_, rfl⟩
  have hB0 : Below w.heap.size w W0 := by rw [hW0]; exact ((Below.refl _ _).alloc (Nat.le_refl _) _).alloc (by simp) _
  have hz0 : W0.heap.size = w.heap.size + 2 := by rw [hW0]; simp
  have HS : Hid (∀ w', Below W0.heap.size W0 w' → w'.cell? ⟨w.heap.size, 0, none⟩ = some (.bool ab) ∧ w'.cell? ⟨w.heap.size, 1, none⟩ = some (.slice ao am ac) ∧ w'.cell? ⟨w.heap.size, 2, none⟩ = some (.bool bb) ∧ w'.cell? ⟨w.heap.size, 3, none⟩ = some (.slice bo bm bc) ∧ w'.cell? ⟨w.heap.size + 1, 0, none⟩ = some (.bool cb) ∧ w'.cell? ⟨w.heap.size + 1, 1, none⟩ = some (.slice co cm cc) ∧ w'.cell? ⟨w.heap.size + 1, 2, none⟩ = some (.bool db) ∧ w'.cell? ⟨w.heap.size + 1, 3, none⟩ = some (.slice d_o dm dc)) := hid (fun w' hb => by
    refine ⟨?_, ?_, ?_, ?_, ?_, ?_, ?_, ?_⟩ <;> (rw [hb.cell (by rw [hz0]; simp <;> omega), hW0]; simp [go_sem]))
  have HR1 := hid (fun (w' : World) (hb : Below W0.heap.size W0 w') => hR1' w' (bl_tr hB0 hb)); have HR2 := hid (fun (w' : World) (hb : Below W0.heap.size W0 w') => hR2' w' (bl_tr hB0 hb))
  have HB0 := hid hB0; have HW := hid hW0; have Hne := hid hs; have Hd1 := hid hd1; have Hd2 := hid hd2
  clear hW0 hB0 hz0 hR1 hR2 hR1' hR2' hz1 hz2 he1 he2 hs hu hv hd1 hd2
  have hX0 := Below.refl W0.heap.size W0
  go_enter Tryz.func24, Tryz.ntmps24
  go_upto_region 1 with (fail)
  rw [← HW.out]
  go_cut [5, 6] from 7 (fun s5 s6 wx => Below W0.heap.size W0 wx ∧ NewF wx s5 z1 e1' ((K + 1) / 2 + 1) ∧ NewF wx s6 z2 e2' ((K + 1) / 2 + 1))
  case first =>
    have HKG : Hid (KC (Kc (.agg #[.bool ab, .slice ao am ac, .bool bb, .slice bo bm bc])) (fun w v => Ft w v z1 e1' ((K + 1) / 2 + 1)) (Kc (.agg #[.bool cb, .slice co cm cc, .bool db, .slice d_o dm dc])) (fun w v => Ft w v z2 e2' ((K + 1) / 2 + 1)) (Kt) (Kt)) := hid ⟨kc_keep _, ft_keepg _ _ _, kc_keep _, ft_keepg _ _ _, kt_keep, kt_keep⟩
    refine region_inv (by kernel_rfl) (fun L a w' => ∃ f0 f1 f2 f3 f4 f5 f6 f7, L = #[f0, f1, f2, f3, f4, f5, f6, f7] ∧ (f6 = true → f4 = true ∧ f1 = true) ∧ (f7 = true → f5 = true ∧ f3 = true) ∧ ∃ s7 s8 s9 s10 s5 s6, a = { tmps := #[.agg #[.bool ab, .slice ao am ac, .bool bb, .slice bo bm bc], .agg #[.bool cb, .slice co cm cc, .bool db, .slice d_o dm dc], .pointer (some ⟨w.heap.size, 0, none⟩), .pointer (some ⟨w.heap.size + 1, 0, none⟩), .int .i64 0, s5, s6, s7, s8, s9, s10, undef, undef, undef, undef, undef, undef, undef, undef], defers := [] } ∧ BC W0.heap.size W0 (Kc (.agg #[.bool ab, .slice ao am ac, .bool bb, .slice bo bm bc])) (fun w v => Ft w v z1 e1' ((K + 1) / 2 + 1)) (Kc (.agg #[.bool cb, .slice co cm cc, .bool db, .slice d_o dm dc])) (fun w v => Ft w v z2 e2' ((K + 1) / 2 + 1)) (Kt) (Kt) f0 f1 f2 f3 false false s7 s8 s9 s10 undef undef f4 f6 s5 s8 f5 f7 s6 s10 w') ?_ ?_ ?_
    · exact ⟨_, _, _, _, _, _, _, _, rfl, nofun, nofun, _, _, _, _, _, _, rfl, BC.start hX0.drew hX0.size⟩
    · rintro L a w' i hs ⟨f0, f1, f2, f3, f4, f5, f6, f7, rfl, d1, d2, s7, s8, s9, s10, s5, s6, rfl, J⟩ hi
      obtain ⟨hi, hn, hd⟩ := waits_spec (dep := [[], [0], [], [2], [], [], [4, 1], [5, 3]]) (by kernel_rfl) hi
      have hiN : i < 8 := hi
      obtain ⟨k0, k1, k2, k3, k4, k5, k6, k7⟩ := HS.out w' J.bel
      have HJ := hid J
      rcases (show i = 0 ∨ i = 1 ∨ i = 2 ∨ i = 3 ∨ i = 4 ∨ i = 5 ∨ i = 6 ∨ i = 7 by omega) with rfl | rfl | rfl | rfl | rfl | rfl | rfl | rfl
      · clear J hd hi hiN hn
        refine wpOp_step rfl (fun K hK => ?_)
        go_simp
        exact hK _ _ ⟨true, f1, f2, f3, f4, f5, f6, f7, rfl, d1, d2, _, _, _, _, _, _, rfl, ⟨HJ.out.bel, HJ.out.siz, fun _ => rfl, HJ.out.v1, HJ.out.v2, HJ.out.v3, HJ.out.v4, HJ.out.v5, HJ.out.a1, HJ.out.a2, HJ.out.ne⟩⟩
      · obtain rfl : f1 = false := hn
        obtain rfl : f6 = false := by cases f6 with | false => rfl | true => exact absurd (d1 rfl).2 (by simp)
        have e0 : s7 = .agg #[.bool ab, .slice ao am ac, .bool bb, .slice bo bm bc] := J.v0 (hd 0 (by simp))
        subst e0
        have hw := J.bel
        clear J hd hi hiN d1
        refine wpOp_step rfl (fun K hK => ?_)
        go_simp
        refine (HR1.out _ hw).mono ?_
        rintro e wz ⟨zv, rfl, HZ, hb⟩
        have J2 := HJ.out.step HKG.out hb
        exact hK _ _ ⟨f0, true, f2, f3, f4, f5, false, f7, rfl, nofun, d2, _, _, _, _, _, _, rfl, ⟨J2.bel, J2.siz, J2.v0, fun _ => HZ, J2.v2, J2.v3, J2.v4, J2.v5, fun e => (J2.a1 e).fresh, J2.a2, J2.ne⟩⟩
      · clear J hd hi hiN hn
        refine wpOp_step rfl (fun K hK => ?_)
        go_simp
        exact hK _ _ ⟨f0, f1, true, f3, f4, f5, f6, f7, rfl, d1, d2, _, _, _, _, _, _, rfl, ⟨HJ.out.bel, HJ.out.siz, HJ.out.v0, HJ.out.v1, fun _ => rfl, HJ.out.v3, HJ.out.v4, HJ.out.v5, HJ.out.a1, HJ.out.a2, HJ.out.ne⟩⟩
      · obtain rfl : f3 = false := hn
        obtain rfl : f7 = false := by cases f7 with | false => rfl | true => exact absurd (d2 rfl).2 (by simp)
        have e2 : s9 = .agg #[.bool cb, .slice co cm cc, .bool db, .slice d_o dm dc] := J.v2 (hd 2 (by simp))
        subst e2
        have hw := J.bel
        clear J hd hi hiN d2
        refine wpOp_step rfl (fun K hK => ?_)
        go_simp
        refine (HR2.out _ hw).mono ?_
        rintro e wz ⟨zv, rfl, HZ, hb⟩
        have J2 := HJ.out.step HKG.out hb
        exact hK _ _ ⟨f0, f1, f2, true, f4, f5, f6, false, rfl, d1, nofun, _, _, _, _, _, _, rfl, ⟨J2.bel, J2.siz, J2.v0, J2.v1, J2.v2, fun _ => HZ, J2.v4, J2.v5, J2.a1, fun e => (J2.a2 e).fresh, J2.ne⟩⟩
      · obtain rfl : f4 = false := hn
        obtain rfl : f6 = false := by cases f6 with | false => rfl | true => exact absurd (d1 rfl).1 (by simp)
        clear J hd hi hiN d1
        refine wpOp_step rfl (fun K hK => ?_)
        go_simp
        exact hK _ _ ⟨f0, f1, f2, f3, true, f5, false, f7, rfl, nofun, d2, _, _, _, _, _, _, rfl, HJ.out.alloc1 HKG.out _⟩
      · obtain rfl : f5 = false := hn
        obtain rfl : f7 = false := by cases f7 with | false => rfl | true => exact absurd (d2 rfl).1 (by simp)
        clear J hd hi hiN d2
        refine wpOp_step rfl (fun K hK => ?_)
        go_simp
        exact hK _ _ ⟨f0, f1, f2, f3, f4, true, f6, false, rfl, d1, nofun, _, _, _, _, _, _, rfl, HJ.out.alloc2 HKG.out _⟩
      · obtain rfl : f4 = true := hd 4 (by simp)
        obtain rfl : f1 = true := hd 1 (by simp)
        obtain ⟨p, v0, v1, v2, rfl, hp, c0, c1, c2, e0, e1, e2, _⟩ := J.a1 rfl
        obtain ⟨sb, so, sm, sc, so2, sm2, sc2, rfl, _, _, _⟩ := Ft.opened (J.v1 rfl)
        clear J hd hi hiN hn
        refine wpOp_step rfl (fun K hK => ?_)
        go_simp
        exact hK _ _ ⟨f0, true, f2, f3, true, f5, true, f7, rfl, fun _ => ⟨rfl, rfl⟩, d2, _, _, _, _, _, _, rfl, HJ.out.store1 HKG.out nofun nofun nofun⟩
      · obtain rfl : f5 = true := hd 5 (by simp)
        obtain rfl : f3 = true := hd 3 (by simp)
        obtain ⟨p, v0, v1, v2, rfl, hp, c0, c1, c2, e0, e1, e2, _⟩ := J.a2 rfl
        obtain ⟨sb, so, sm, sc, so2, sm2, sc2, rfl, _, _, _⟩ := Ft.opened (J.v3 rfl)
        clear J hd hi hiN hn
        refine wpOp_step rfl (fun K hK => ?_)
        go_simp
        exact hK _ _ ⟨f0, f1, f2, true, f4, true, f6, true, rfl, d1, fun _ => ⟨rfl, rfl⟩, _, _, _, _, _, _, rfl, HJ.out.store2 HKG.out nofun nofun nofun⟩
    rintro L a w' hs ⟨f0, f1, f2, f3, f4, f5, f6, f7, rfl, _, _, s7, s8, s9, s10, s5, s6, rfl, J⟩ hr
    have hd := early_done (by kernel_rfl) hs hr 8
    obtain rfl : f0 = true := hd 0 (by omega) (by simp)
    obtain rfl : f1 = true := hd 1 (by omega) (by simp)
    obtain rfl : f2 = true := hd 2 (by omega) (by simp)
    obtain rfl : f3 = true := hd 3 (by omega) (by simp)
    obtain rfl : f4 = true := hd 4 (by omega) (by simp)
    obtain rfl : f5 = true := hd 5 (by omega) (by simp)
    obtain rfl : f6 = true := hd 6 (by omega) (by simp)
    obtain rfl : f7 = true := hd 7 (by omega) (by simp)
    obtain ⟨p1, u1a, u1b, u1c, rfl, hp1, c1a, c1b, c1c, _, _, _, _, _, _, hu1⟩ := J.a1 rfl
    obtain ⟨p2, u2a, u2b, u2c, rfl, hp2, c2a, c2b, c2c, _, _, _, _, _, _, hu2⟩ := J.a2 rfl
    have ev1 := hu1 rfl
    subst ev1
    have hg1 := J.v1 rfl
    have ev2 := hu2 rfl
    subst ev2
    have hg2 := J.v3 rfl
    have hbel := J.bel
    clear hd hr hs J
    go_wp2_with fail
    go_meet
    refine ⟨hbel, ?_, ?_⟩
    · obtain ⟨xb, xo, xm, xc, xo2, xm2, xc2, xe, _, _, _⟩ := Ft.opened hg1
      simp only [Value.agg.injEq, Array.mk.injEq, List.cons.injEq, and_true] at xe
      obtain ⟨rfl, rfl, rfl⟩ := xe
      exact ⟨p1, _, _, _, _, _, _, _, rfl, c1a, c1b, c1c, hg1⟩
    · obtain ⟨xb, xo, xm, xc, xo2, xm2, xc2, xe, _, _, _⟩ := Ft.opened hg2
      simp only [Value.agg.injEq, Array.mk.injEq, List.cons.injEq, and_true] at xe
      obtain ⟨rfl, rfl, rfl⟩ := xe
      exact ⟨p2, _, _, _, _, _, _, _, rfl, c2a, c2b, c2c, hg2⟩
  case rest =>
  obtain ⟨W1, rfl⟩ : ∃ W1, W1 = wc := ⟨_, rfl⟩
  obtain ⟨hp1, ⟨p, pb, po, pm, pc, po2, pm2, pc2, rfl, a0, a1, a2, hf1⟩, ⟨q, qb, qo, qm, qc, qo2, qm2, qc2, rfl, b0, b1, b2, hf2⟩⟩ := hcut
  have hpl := World.block_lt_of_cell? _ _ a0
  have hql := World.block_lt_of_cell? _ _ b0
  have HS1 : Hid (∀ w', Below W1.heap.size W1 w' → w'.cell? ⟨p, 0, none⟩ = some (.bool pb) ∧ w'.cell? ⟨p, 1, none⟩ = some (.slice po pm pc) ∧ w'.cell? ⟨p, 2, none⟩ = some (.slice po2 pm2 pc2) ∧ w'.cell? ⟨q, 0, none⟩ = some (.bool qb) ∧ w'.cell? ⟨q, 1, none⟩ = some (.slice qo qm qc) ∧ w'.cell? ⟨q, 2, none⟩ = some (.slice qo2 qm2 qc2)) := hid (fun w' hb => ⟨(hb.cell hpl).trans a0, (hb.cell (p := ⟨p, 1, none⟩) hpl).trans a1, (hb.cell (p := ⟨p, 2, none⟩) hpl).trans a2, (hb.cell hql).trans b0, (hb.cell (p := ⟨q, 1, none⟩) hql).trans b1, (hb.cell (p := ⟨q, 2, none⟩) hql).trans b2⟩)
  have N1 := hid (FtN hf1); have N2 := hid (FtN hf2)
  have HB1 := hid (bl_tr HB0.out hp1)
  have HF1 := hid hf1; have HF2 := hid hf2
  have hX1 := Below.refl W1.heap.size W1
  have tk1 := hid trivial
  have tk2 := hid trivial
  clear a0 a1 a2 b0 b1 b2 hpl hql hp1 hX0 hf1 hf2
  go_upto_region 2 with (fail)
  go_region_held3 (fun w' => w'.cell? ⟨p, 0, none⟩ = some (.bool pb) ∧ w'.cell? ⟨p, 1, none⟩ = some (.slice po pm pc) ∧ w'.cell? ⟨p, 2, none⟩ = some (.slice po2 pm2 pc2) ∧ w'.cell? ⟨q, 0, none⟩ = some (.bool qb) ∧ w'.cell? ⟨q, 1, none⟩ = some (.slice qo qm qc) ∧ w'.cell? ⟨q, 2, none⟩ = some (.slice qo2 qm2 qc2)) ((refine HS1.out _ ?_; first | assumption | exact Below.drew (by assumption))) (first
    | (clear tk1; go_at_call 61; refine (sign_any _ z1 _ _ (It.below N1.out.1 hX1.drew (Nat.le_refl _))).mono ?_; rintro e w3 ⟨rfl, hb3⟩; have hX3 : Below W1.heap.size W1 w3 := hX1.drew.trans hb3)
    | (clear tk2; go_at_call 61; refine (sign_any _ z2 _ _ (It.below N2.out.1 hX3 (Nat.le_refl _))).mono ?_; rintro e w4 ⟨rfl, hb4⟩; have hX4 : Below W1.heap.size W1 w4 := hX3.trans (hb4.mono hX3.size); rw [← Hne.out])
    | (go_at_call 65; refine (orderR_eq (cmpI z1 0) (cmpI_bd z1 0) p q pb qb po po2 qo qo2 pm pc pm2 pc2 qm qc qm2 qc2 z1 e1' z2 e2' _ w4 (fun w' hb => HS1.out _ (bl_tr hX4 hb)) (HF1.out.below hX4 (Nat.le_refl _)) (HF2.out.below hX4 (Nat.le_refl _)) (by omega)).mono ?_; rintro e w5 ⟨rfl, hb5⟩; have hX5 : Below W1.heap.size W1 w5 := hX4.trans (hb5.mono hX4.size)))
  all_goals (go_wp2; go_ret; exact ⟨by rw [cmp_frac_same Hd1.out Hd2.out Hne.out]; rfl, HB1.out.trans (hX5.mono HB1.out.size)⟩)

set_option maxRecDepth 100000 in
set_option maxHeartbeats 1000000 in
theorem CompareR_other (u v : Value) (x1 y1 x2 y2 : Int) (K : Nat) (w : World) (hu : Ra w u x1 y1 K) (hv : Ra w v x2 y2 K) (hK : K ≤ 150) (hs : cmpI (rn x1 y1) 0 ≠ cmpI (rn x2 y2) 0) :
    Calls Tryz.prog 24 #[u, v] w fun e w' => e = .returned (.int .i64 (cmpI (rn x1 y1 * rd y2) (rn x2 y2 * rd y1))) ∧ Below w.heap.size w w' := by
  have hR1 := fun (w' : World) (hb : Below w.heap.size w w') => readRatio_any u x1 y1 K w' (hu.below hb (Nat.le_refl _)) (by omega)
  have hR2 := fun (w' : World) (hb : Below w.heap.size w w') => readRatio_any v x2 y2 K w' (hv.below hb (Nat.le_refl _)) (by omega)
  obtain ⟨ab, ao, am, ac, bb, bo, bm, bc, rfl, _, _⟩ := Ra.opened hu
  obtain ⟨cb, co, cm, cc, db, d_o, dm, dc, rfl, _, _⟩ := Ra.opened hv
  have hd1 : 0 < rd y1 := rd_pos y1
  have hd2 : 0 < rd y2 := rd_pos y2
  obtain ⟨z1, hz1⟩ : ∃ z1, z1 = rn x1 y1 := ⟨_, rfl⟩
  obtain ⟨z2, hz2⟩ : ∃ z2, z2 = rn x2 y2 := ⟨_, rfl⟩
  obtain ⟨e1', he1⟩ : ∃ d, d = rd y1 := ⟨_, rfl⟩
  obtain ⟨e2', he2⟩ : ∃ d, d = rd y2 := ⟨_, rfl⟩
  rw [← hz1, ← hz2] at hs
  rw [← he1] at hd1
  rw [← he2] at hd2
  rw [← hz1, ← hz2, ← he1, ← he2]
  have hR1' := hR1
  have hR2' := hR2
  rw [← hz1, ← he1] at hR1'
  rw [← hz2, ← he2] at hR2'
  obtain ⟨W0, hW0⟩ : ∃ W0, W0 = ((w.alloc (.cells #[.bool ab, .slice ao am ac, .bool bb, .slice bo bm bc] 26)).alloc (.cells #[.bool cb, .slice co cm cc, .bool db, .slice d_o dm dc] 26)) := ⟨_, rfl⟩
  have hB0 : Below w.heap.size w W0 := by rw [hW0]; exact ((Below.refl _ _).alloc (Nat.le_refl _) _).alloc (by simp) _
  have hz0 : W0.heap.size = w.heap.size + 2 := by rw [hW0]; simp
  have HS : Hid (∀ w', Below W0.heap.size W0 w' → w'.cell? ⟨w.heap.size, 0, none⟩ = some (.bool ab) ∧ w'.cell? ⟨w.heap.size, 1, none⟩ = some (.slice ao am ac) ∧ w'.cell? ⟨w.heap.size, 2, none⟩ = some (.bool bb) ∧ w'.cell? ⟨w.heap.size, 3, none⟩ = some (.slice bo bm bc) ∧ w'.cell? ⟨w.heap.size + 1, 0, none⟩ = some (.bool cb) ∧ w'.cell? ⟨w.heap.size + 1, 1, none⟩ = some (.slice co cm cc) ∧ w'.cell? ⟨w.heap.size + 1, 2, none⟩ = some (.bool db) ∧ w'.cell? ⟨w.heap.size + 1, 3, none⟩ = some (.slice d_o dm dc)) := hid (fun w' hb => by
    refine ⟨?_, ?_, ?_, ?_, ?_, ?_, ?_, ?_⟩ <;> (rw [hb.cell (by rw [hz0]; simp <;> omega), hW0]; simp [go_sem]))
  have HR1 := hid (fun (w' : World) (hb : Below W0.heap.size W0 w') => hR1' w' (bl_tr hB0 hb)); have HR2 := hid (fun (w' : World) (hb : Below W0.heap.size W0 w') => hR2' w' (bl_tr hB0 hb))
  have HB0 := hid hB0; have HW := hid hW0; have Hne := hid hs; have Hd1 := hid hd1; have Hd2 := hid hd2
  clear hW0 hB0 hz0 hR1 hR2 hR1' hR2' hz1 hz2 he1 he2 hs hu hv hd1 hd2
  have hX0 := Below.refl W0.heap.size W0
  go_enter Tryz.func24, Tryz.ntmps24
  go_upto_region 1 with (fail)
  rw [← HW.out]
  go_cut [5, 6] from 7 (fun s5 s6 wx => Below W0.heap.size W0 wx ∧ NewF wx s5 z1 e1' ((K + 1) / 2 + 1) ∧ NewF wx s6 z2 e2' ((K + 1) / 2 + 1))
  case first =>
    have HKG : Hid (KC (Kc (.agg #[.bool ab, .slice ao am ac, .bool bb, .slice bo bm bc])) (fun w v => Ft w v z1 e1' ((K + 1) / 2 + 1)) (Kc (.agg #[.bool cb, .slice co cm cc, .bool db, .slice d_o dm dc])) (fun w v => Ft w v z2 e2' ((K + 1) / 2 + 1)) (Kt) (Kt)) := hid ⟨kc_keep _, ft_keepg _ _ _, kc_keep _, ft_keepg _ _ _, kt_keep, kt_keep⟩
    refine region_inv (by kernel_rfl) (fun L a w' => ∃ f0 f1 f2 f3 f4 f5 f6 f7, L = #[f0, f1, f2, f3, f4, f5, f6, f7] ∧ (f6 = true → f4 = true ∧ f1 = true) ∧ (f7 = true → f5 = true ∧ f3 = true) ∧ ∃ s7 s8 s9 s10 s5 s6, a = { tmps := #[.agg #[.bool ab, .slice ao am ac, .bool bb, .slice bo bm bc], .agg #[.bool cb, .slice co cm cc, .bool db, .slice d_o dm dc], .pointer (some ⟨w.heap.size, 0, none⟩), .pointer (some ⟨w.heap.size + 1, 0, none⟩), .int .i64 0, s5, s6, s7, s8, s9, s10, undef, undef, undef, undef, undef, undef, undef, undef], defers := [] } ∧ BC W0.heap.size W0 (Kc (.agg #[.bool ab, .slice ao am ac, .bool bb, .slice bo bm bc])) (fun w v => Ft w v z1 e1' ((K + 1) / 2 + 1)) (Kc (.agg #[.bool cb, .slice co cm cc, .bool db, .slice d_o dm dc])) (fun w v => Ft w v z2 e2' ((K + 1) / 2 + 1)) (Kt) (Kt) f0 f1 f2 f3 false false s7 s8 s9 s10 undef undef f4 f6 s5 s8 f5 f7 s6 s10 w') ?_ ?_ ?_
    · exact ⟨_, _, _, _, _, _, _, _, rfl, nofun, nofun, _, _, _, _, _, _, rfl, BC.start hX0.drew hX0.size⟩
    · rintro L a w' i hs ⟨f0, f1, f2, f3, f4, f5, f6, f7, rfl, d1, d2, s7, s8, s9, s10, s5, s6, rfl, J⟩ hi
      obtain ⟨hi, hn, hd⟩ := waits_spec (dep := [[], [0], [], [2], [], [], [4, 1], [5, 3]]) (by kernel_rfl) hi
      have hiN : i < 8 := hi
      obtain ⟨k0, k1, k2, k3, k4, k5, k6, k7⟩ := HS.out w' J.bel
      have HJ := hid J
      rcases (show i = 0 ∨ i = 1 ∨ i = 2 ∨ i = 3 ∨ i = 4 ∨ i = 5 ∨ i = 6 ∨ i = 7 by omega) with rfl | rfl | rfl | rfl | rfl | rfl | rfl | rfl
      · clear J hd hi hiN hn
        refine wpOp_step rfl (fun K hK => ?_)
        go_simp
        exact hK _ _ ⟨true, f1, f2, f3, f4, f5, f6, f7, rfl, d1, d2, _, _, _, _, _, _, rfl, ⟨HJ.out.bel, HJ.out.siz, fun _ => rfl, HJ.out.v1, HJ.out.v2, HJ.out.v3, HJ.out.v4, HJ.out.v5, HJ.out.a1, HJ.out.a2, HJ.out.ne⟩⟩
      · obtain rfl : f1 = false := hn
        obtain rfl : f6 = false := by cases f6 with | false => rfl | true => exact absurd (d1 rfl).2 (by simp)
        have e0 : s7 = .agg #[.bool ab, .slice ao am ac, .bool bb, .slice bo bm bc] := J.v0 (hd 0 (by simp))
        subst e0
        have hw := J.bel
        clear J hd hi hiN d1
        refine wpOp_step rfl (fun K hK => ?_)
        go_simp
        refine (HR1.out _ hw).mono ?_
        rintro e wz ⟨zv, rfl, HZ, hb⟩
        have J2 := HJ.out.step HKG.out hb
        exact hK _ _ ⟨f0, true, f2, f3, f4, f5, false, f7, rfl, nofun, d2, _, _, _, _, _, _, rfl, ⟨J2.bel, J2.siz, J2.v0, fun _ => HZ, J2.v2, J2.v3, J2.v4, J2.v5, fun e => (J2.a1 e).fresh, J2.a2, J2.ne⟩⟩
      · clear J hd hi hiN hn
        refine wpOp_step rfl (fun K hK => ?_)
        go_simp
        exact hK _ _ ⟨f0, f1, true, f3, f4, f5, f6, f7, rfl, d1, d2, _, _, _, _, _, _, rfl, ⟨HJ.out.bel, HJ.out.siz, HJ.out.v0, HJ.out.v1, fun _ => rfl, HJ.out.v3, HJ.out.v4, HJ.out.v5, HJ.out.a1, HJ.out.a2, HJ.out.ne⟩⟩
      · obtain rfl : f3 = false := hn
        obtain rfl : f7 = false := by cases f7 with | false => rfl | true => exact absurd (d2 rfl).2 (by simp)
        have e2 : s9 = .agg #[.bool cb, .slice co cm cc, .bool db, .slice d_o dm dc] := J.v2 (hd 2 (by simp))
        subst e2
        have hw := J.bel
        clear J hd hi hiN d2
        refine wpOp_step rfl (fun K hK => ?_)
        go_simp
        refine (HR2.out _ hw).mono ?_
        rintro e wz ⟨zv, rfl, HZ, hb⟩
        have J2 := HJ.out.step HKG.out hb
        exact hK _ _ ⟨f0, f1, f2, true, f4, f5, f6, false, rfl, d1, nofun, _, _, _, _, _, _, rfl, ⟨J2.bel, J2.siz, J2.v0, J2.v1, J2.v2, fun _ => HZ, J2.v4, J2.v5, J2.a1, fun e => (J2.a2 e).fresh, J2.ne⟩⟩
      · obtain rfl : f4 = false := hn
        obtain rfl : f6 = false := by cases f6 with | false => rfl | true => exact absurd (d1 rfl).1 (by simp)
        clear J hd hi hiN d1
        refine wpOp_step rfl (fun K hK => ?_)
        go_simp
        exact hK _ _ ⟨f0, f1, f2, f3, true, f5, false, f7, rfl, nofun, d2, _, _, _, _, _, _, rfl, HJ.out.alloc1 HKG.out _⟩
      · obtain rfl : f5 = false := hn
        obtain rfl : f7 = false := by cases f7 with | false => rfl | true => exact absurd (d2 rfl).1 (by simp)
        clear J hd hi hiN d2
        refine wpOp_step rfl (fun K hK => ?_)
        go_simp
        exact hK _ _ ⟨f0, f1, f2, f3, f4, true, f6, false, rfl, d1, nofun, _, _, _, _, _, _, rfl, HJ.out.alloc2 HKG.out _⟩
      · obtain rfl : f4 = true := hd 4 (by simp)
        obtain rfl : f1 = true := hd 1 (by simp)
        obtain ⟨p, v0, v1, v2, rfl, hp, c0, c1, c2, e0, e1, e2, _⟩ := J.a1 rfl
        obtain ⟨sb, so, sm, sc, so2, sm2, sc2, rfl, _, _, _⟩ := Ft.opened (J.v1 rfl)
        clear J hd hi hiN hn
        refine wpOp_step rfl (fun K hK => ?_)
        go_simp
        exact hK _ _ ⟨f0, true, f2, f3, true, f5, true, f7, rfl, fun _ => ⟨rfl, rfl⟩, d2, _, _, _, _, _, _, rfl, HJ.out.store1 HKG.out nofun nofun nofun⟩
      · obtain rfl : f5 = true := hd 5 (by simp)
        obtain rfl : f3 = true := hd 3 (by simp)
        obtain ⟨p, v0, v1, v2, rfl, hp, c0, c1, c2, e0, e1, e2, _⟩ := J.a2 rfl
        obtain ⟨sb, so, sm, sc, so2, sm2, sc2, rfl, _, _, _⟩ := Ft.opened (J.v3 rfl)
        clear J hd hi hiN hn
        refine wpOp_step rfl (fun K hK => ?_)
        go_simp
        exact hK _ _ ⟨f0, f1, f2, true, f4, true, f6, true, rfl, d1, fun _ => ⟨rfl, rfl⟩, _, _, _, _, _, _, rfl, HJ.out.store2 HKG.out nofun nofun nofun⟩
    rintro L a w' hs ⟨f0, f1, f2, f3, f4, f5, f6, f7, rfl, _, _, s7, s8, s9, s10, s5, s6, rfl, J⟩ hr
    have hd := early_done (by kernel_rfl) hs hr 8
    obtain rfl : f0 = true := hd 0 (by omega) (by simp)
    obtain rfl : f1 = true := hd 1 (by omega) (by simp)
    obtain rfl : f2 = true := hd 2 (by omega) (by simp)
    obtain rfl : f3 = true := hd 3 (by omega) (by simp)
    obtain rfl : f4 = true := hd 4 (by omega) (by simp)
    obtain rfl : f5 = true := hd 5 (by omega) (by simp)
    obtain rfl : f6 = true := hd 6 (by omega) (by simp)
    obtain rfl : f7 = true := hd 7 (by omega) (by simp)
    obtain ⟨p1, u1a, u1b, u1c, rfl, hp1, c1a, c1b, c1c, _, _, _, _, _, _, hu1⟩ := J.a1 rfl
    obtain ⟨p2, u2a, u2b, u2c, rfl, hp2, c2a, c2b, c2c, _, _, _, _, _, _, hu2⟩ := J.a2 rfl
    have ev1 := hu1 rfl
    subst ev1
    have hg1 := J.v1 rfl
    have ev2 := hu2 rfl
    subst ev2
    have hg2 := J.v3 rfl
    have hbel := J.bel
    clear hd hr hs J
    go_wp2_with fail
    go_meet
    refine ⟨hbel, ?_, ?_⟩
    · obtain ⟨xb, xo, xm, xc, xo2, xm2, xc2, xe, _, _, _⟩ := Ft.opened hg1
      simp only [Value.agg.injEq, Array.mk.injEq, List.cons.injEq, and_true] at xe
      obtain ⟨rfl, rfl, rfl⟩ := xe
      exact ⟨p1, _, _, _, _, _, _, _, rfl, c1a, c1b, c1c, hg1⟩
    · obtain ⟨xb, xo, xm, xc, xo2, xm2, xc2, xe, _, _, _⟩ := Ft.opened hg2
      simp only [Value.agg.injEq, Array.mk.injEq, List.cons.injEq, and_true] at xe
      obtain ⟨rfl, rfl, rfl⟩ := xe
      exact ⟨p2, _, _, _, _, _, _, _, rfl, c2a, c2b, c2c, hg2⟩
  case rest =>
  obtain ⟨W1, rfl⟩ : ∃ W1, W1 = wc := ⟨_, rfl⟩
  obtain ⟨hp1, ⟨p, pb, po, pm, pc, po2, pm2, pc2, rfl, a0, a1, a2, hf1⟩, ⟨q, qb, qo, qm, qc, qo2, qm2, qc2, rfl, b0, b1, b2, hf2⟩⟩ := hcut
  have hpl := World.block_lt_of_cell? _ _ a0
  have hql := World.block_lt_of_cell? _ _ b0
  have HS1 : Hid (∀ w', Below W1.heap.size W1 w' → w'.cell? ⟨p, 0, none⟩ = some (.bool pb) ∧ w'.cell? ⟨p, 1, none⟩ = some (.slice po pm pc) ∧ w'.cell? ⟨p, 2, none⟩ = some (.slice po2 pm2 pc2) ∧ w'.cell? ⟨q, 0, none⟩ = some (.bool qb) ∧ w'.cell? ⟨q, 1, none⟩ = some (.slice qo qm qc) ∧ w'.cell? ⟨q, 2, none⟩ = some (.slice qo2 qm2 qc2)) := hid (fun w' hb => ⟨(hb.cell hpl).trans a0, (hb.cell (p := ⟨p, 1, none⟩) hpl).trans a1, (hb.cell (p := ⟨p, 2, none⟩) hpl).trans a2, (hb.cell hql).trans b0, (hb.cell (p := ⟨q, 1, none⟩) hql).trans b1, (hb.cell (p := ⟨q, 2, none⟩) hql).trans b2⟩)
  have N1 := hid (FtN hf1); have N2 := hid (FtN hf2)
  have HB1 := hid (bl_tr HB0.out hp1)
  have HF1 := hid hf1; have HF2 := hid hf2
  have hX1 := Below.refl W1.heap.size W1
  have tk1 := hid trivial
  have tk2 := hid trivial
  clear a0 a1 a2 b0 b1 b2 hpl hql hp1 hX0 hf1 hf2
  go_upto_region 2 with (fail)
  go_region_held3 (fun w' => w'.cell? ⟨p, 0, none⟩ = some (.bool pb) ∧ w'.cell? ⟨p, 1, none⟩ = some (.slice po pm pc) ∧ w'.cell? ⟨p, 2, none⟩ = some (.slice po2 pm2 pc2) ∧ w'.cell? ⟨q, 0, none⟩ = some (.bool qb) ∧ w'.cell? ⟨q, 1, none⟩ = some (.slice qo qm qc) ∧ w'.cell? ⟨q, 2, none⟩ = some (.slice qo2 qm2 qc2)) ((refine HS1.out _ ?_; first | assumption | exact Below.drew (by assumption))) (first
    | (clear tk1; go_at_call 61; refine (sign_any _ z1 _ _ (It.below N1.out.1 hX1.drew (Nat.le_refl _))).mono ?_; rintro e w3 ⟨rfl, hb3⟩; have hX3 : Below W1.heap.size W1 w3 := hX1.drew.trans hb3)
    | (clear tk2; go_at_call 61; refine (sign_any _ z2 _ _ (It.below N2.out.1 hX3 (Nat.le_refl _))).mono ?_; rintro e w4 ⟨rfl, hb4⟩; have hX4 : Below W1.heap.size W1 w4 := hX3.trans (hb4.mono hX3.size))
    | (go_at_call 65; refine (order_ne _ _ _ _ Hne.out).mono ?_; rintro e w5 ⟨rfl, rfl⟩; have hX5 := hX4))
  all_goals (go_wp2; go_ret; exact ⟨by rw [cmp_frac_other Hd1.out Hd2.out Hne.out]; rfl, HB1.out.trans (hX5.mono HB1.out.size)⟩)

theorem alg_cmp {r1 e1 d1 n1 r2 e2 d2 n2 : Int} (p1 : 0 < e1) (p2 : 0 < e2) (q1 : 0 < d1) (q2 : 0 < d2) (h1 : r1 * d1 = n1 * e1) (h2 : r2 * d2 = n2 * e2) : cmpI (r1 * e2) (r2 * e1) = cmpI (n1 * d2) (n2 * d1) := by
  have hd : (0 : Int) < d1 * d2 := Int.mul_pos q1 q2
  have he : (0 : Int) < e1 * e2 := Int.mul_pos p1 p2
  have h : (r1 * e2 - r2 * e1) * (d1 * d2) = (n1 * d2 - n2 * d1) * (e1 * e2) := by grind
  have hc := cmp_scale hd he h
  have sh : ∀ a b : Int, cmpI a b = cmpI (a - b) 0 := fun a b => by
    rcases Int.lt_trichotomy a b with h | h | h
    · rw [cmp_lt'' h, cmp_lt'' (by omega)]
    · subst h; rw [Int.sub_self]; unfold cmpI; simp
    · rw [cmp_gt'' h, cmp_gt'' (by omega)]
  rw [sh (r1 * e2), sh (n1 * d2)]
  exact hc
theorem Compare_rv (u v : Value) (n1 d1 n2 d2 t : Int) (K : Nat) (w : World) (hu : Rv w u n1 d1 K) (hv : Rv w v n2 d2 K) (ht : cmpI (n1 * d2) (n2 * d1) = t) (hK : K ≤ 150) :
    Calls Tryz.prog 24 #[u, v] w fun e w' => e = .returned (.int .i64 t) ∧ Below w.heap.size w w' := by
  obtain ⟨p1, x1, y1, hu, h1⟩ := hu
  obtain ⟨p2, x2, y2, hv, h2⟩ := hv
  rw [← ht, ← alg_cmp (rd_pos y1) (rd_pos y2) p1 p2 h1 h2]
  by_cases hs : cmpI (rn x1 y1) 0 = cmpI (rn x2 y2) 0
  · exact CompareR_same u v x1 y1 x2 y2 K w hu hv hK hs
  · exact CompareR_other u v x1 y1 x2 y2 K w hu hv hK hs
theorem Rv.opened {w : World} {v : Value} {n d : Int} {K : Nat} (h : Rv w v n d K) : ∃ b1 o1 m1 c1 b2 o2 m2 c2, v = .agg #[.bool b1, .slice o1 m1 c1, .bool b2, .slice o2 m2 c2] ∧ Hid (∀ w', Below w.heap.size w w' → Rv w' (.agg #[.bool b1, .slice o1 m1 c1, .bool b2, .slice o2 m2 c2]) n d K) := by
  obtain ⟨p, x, y, hr, h⟩ := h
  obtain ⟨b1, o1, m1, c1, b2, o2, m2, c2, rfl, _, _⟩ := Ra.opened hr
  exact ⟨b1, o1, m1, c1, b2, o2, m2, c2, rfl, hid (fun w' hb => ⟨p, x, y, hr.below hb (Nat.le_refl _), h⟩)⟩

end Go.Proofs.YtbapeilpkhbbeaaGreat
