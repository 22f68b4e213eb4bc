/- exact.simplest: the simplest fraction from one to another one. Written by gen_simp.py. -/
import Derived.Test.YtbapeilpkhbbeaaGreatBn32
import Derived.Test.YtbapeilpkhbbeaaGreatBn31
import Derived.Test.YtbapeilpkhbbeaaGreatBn22
/- exact.simplest: the simplest fraction from one to another one. Written by gen_simp.py. -/
namespace Go.Proofs.YtbapeilpkhbbeaaGreat
open Go.RowKit

theorem Nt.nonneg' {w : World} {v : Value} {n : Int} {K : Nat} (h : Nt w v n K) : 0 ≤ n := by
  obtain ⟨_, _, _, _, h⟩ := h
  exact h.nonneg
structure SimI (W0 wr : World) (A B C D : Int) (K : Nat) (va vb vc vd vn ve vl vm : Value) (a b c d n e l m : Int) : Prop where
  na : Nt wr va a K
  nb : Nt wr vb b K
  nc : Nt wr vc c K
  nd : Nt wr vd d K
  nn : Nt wr vn n K
  ne : Nt wr ve e K
  nl : Nt wr vl l K
  nm : Nt wr vm m K
  a0 : 0 < a
  b0 : 0 < b
  c0 : 0 < c
  d0 : 0 < d
  le : a * d ≤ c * b
  inv : SmpC A B C D a b c d n l e m
  low : Below W0.heap.size W0 wr

set_option maxRecDepth 100000 in
set_option maxHeartbeats 4000000 in
theorem simplest_any (u v : Value) (A B C D : Int) (K : Nat) (w : World) (hu : Ft w u A B K) (hv : Ft w v C D K) (hA : 0 < A) (hB : 0 < B) (hC : 0 < C) (hD : 0 < D) (hle : A * D ≤ C * B) (hK1 : 1 ≤ K) (hK : K ≤ 100000) :
    Calls Tryz.prog 91 #[u, v] w fun e w' => ∃ N M f, e = .returned f ∧ Ft w' f N M K ∧ Smp A B C D N M ∧ Below w.heap.size w w' := by
  obtain ⟨xb, xo, xm, xc, po, pm, pc, rfl, Hx, HP, Hxb⟩ := Ft.opened hu
  obtain ⟨yb, yo, ym, yc, qo, qm, qc, rfl, Hy, HQ, Hyb⟩ := Ft.opened hv
  clear hu hv
  have Hab := hid (show 0 < A ∧ 0 < B ∧ 0 < C ∧ 0 < D ∧ A * D ≤ C * B from ⟨hA, hB, hC, hD, hle⟩)
  have HK := hid (show 1 ≤ K ∧ K ≤ 100000 from ⟨hK1, hK⟩)
  clear hA hB hC hD hle hK1 hK
  obtain ⟨W0, hW0⟩ : ∃ W0, W0 = (((w.alloc (.cells #[.bool xb, .slice xo xm xc, .slice po pm pc] 80)).alloc (.cells #[.bool yb, .slice yo ym yc, .slice qo qm qc] 80)).alloc (.cells #[.bool false, .slice none 0 0, .slice none 0 0] 80)) := ⟨_, rfl⟩
  have hB0 : Below w.heap.size w W0 := by rw [hW0]; exact (((Below.refl _ _).alloc (Nat.le_refl _) _).alloc (by simp <;> omega) _).alloc (by simp <;> omega) _
  have hz0 : W0.heap.size = w.heap.size + 3 := by rw [hW0]; simp
  have HS : Hid (∀ w', Below (w.heap.size + 2) W0 w' → w'.cell? ⟨w.heap.size, 0, none⟩ = some (.bool xb) ∧ w'.cell? ⟨w.heap.size, 1, none⟩ = some (.slice xo xm xc) ∧ w'.cell? ⟨w.heap.size, 2, none⟩ = some (.slice po pm pc) ∧ w'.cell? ⟨w.heap.size + 1, 0, none⟩ = some (.bool yb) ∧ w'.cell? ⟨w.heap.size + 1, 1, none⟩ = some (.slice yo ym yc) ∧ w'.cell? ⟨w.heap.size + 1, 2, none⟩ = some (.slice qo qm qc)) := hid (fun w' hb => by
    refine ⟨?_, ?_, ?_, ?_, ?_, ?_⟩ <;> (first | (rw [hb.cell (by simp <;> omega), hW0]; simp [go_sem]; done) | (rw [hb.frozen (by simp <;> omega), hW0]; simp [go_sem]; done)))
  have HT : Hid (∀ w', Below (w.heap.size + 3) W0 w' → (w'.cell? ⟨w.heap.size + 2, 0, none⟩ = some (.bool false) ∧ w'.cell? ⟨w.heap.size + 2, 1, none⟩ = some (.slice none 0 0) ∧ w'.cell? ⟨w.heap.size + 2, 2, none⟩ = some (.slice none 0 0)) ∧ (w'.frozen? ⟨w.heap.size + 2, 0, none⟩ = false ∧ w'.frozen? ⟨w.heap.size + 2, 1, none⟩ = false ∧ w'.frozen? ⟨w.heap.size + 2, 2, none⟩ = false)) := hid (fun w' hb => by
    refine ⟨⟨?_, ?_, ?_⟩, ?_, ?_, ?_⟩ <;> (first | (rw [hb.cell (by simp <;> omega), hW0]; simp [go_sem]; done) | (rw [hb.frozen (by simp <;> omega), hW0]; simp [go_sem]; done)))
  have HB0 := hid hB0; have Hz0 := hid hz0; have HW := hid hW0
  clear hW0 hB0 hz0
  have HNA := hid (fun (w' : World) (hb : Below w.heap.size w w') => by have h := (Hx.out w' hb).nt; rw [show (A.natAbs : Int) = A by have := Hab.out.1; omega] at h; exact h)
  have HNB := hid (fun (w' : World) (hb : Below w.heap.size w w') => HP.out w' hb)
  have HNC := hid (fun (w' : World) (hb : Below w.heap.size w w') => by have h := (Hy.out w' hb).nt; rw [show (C.natAbs : Int) = C by have := Hab.out.2.2.1; omega] at h; exact h)
  have HND := hid (fun (w' : World) (hb : Below w.heap.size w w') => HQ.out w' hb)
  clear Hx HP Hy HQ Hxb Hyb
  go_enter Tryz.func91, Tryz.ntmps91
  go_upto_region 1 with (fail)
  rw [← HW.out]
  obtain ⟨k0, k1, k2, k3, k4, k5⟩ := HS.out W0 (Below.refl _ _)
  have HI0 := hid (fun (nq : Nat) => by
    have h1 := one_row W0
    have h2 := one_row (W0.alloc (Obj.cells #[Value.int IntKind.u64 1] 106))
    have b1 := bl_new (w := W0) (Obj.cells #[Value.int IntKind.u64 1] 106)
    have b2 := bl_new (w := W0.alloc (Obj.cells #[Value.int IntKind.u64 1] 106)) (Obj.cells #[Value.int IntKind.u64 1] 106)
    have b3 := below_drewN (Below.refl ((W0.alloc (Obj.cells #[Value.int IntKind.u64 1] 106)).alloc (Obj.cells #[Value.int IntKind.u64 1] 106)).heap.size ((W0.alloc (Obj.cells #[Value.int IntKind.u64 1] 106)).alloc (Obj.cells #[Value.int IntKind.u64 1] 106))) nq
    have b4 := bl_tr (bl_tr b1 b2) b3
    have h := Hab.out
    exact (show SimI W0 (((W0.alloc (Obj.cells #[Value.int IntKind.u64 1] 106)).alloc (Obj.cells #[Value.int IntKind.u64 1] 106)).drewN nq) A B C D K (.slice xo xm xc) (.slice po pm pc) (.slice yo ym yc) (.slice qo qm qc) (.slice (some ⟨W0.heap.size, 0, none⟩) 1 1) (.slice none 0 0) (.slice none 0 0) (.slice (some ⟨W0.heap.size + 1, 0, none⟩) 1 1) A B C D 1 0 0 1 from
      ⟨HNA.out _ (bl_tr HB0.out b4), HNB.out _ (bl_tr HB0.out b4), HNC.out _ (bl_tr HB0.out b4), HND.out _ (bl_tr HB0.out b4), (h1.below (bl_tr b2 b3) (Nat.le_refl _)).mono HK.out.1, (Nt.nil _).mono (Nat.zero_le _), (Nt.nil _).mono (Nat.zero_le _), (by simpa using h2.below b3 (Nat.le_refl _) : Nt _ _ 1 1).mono HK.out.1, h.1, h.2.1, h.2.2.1, h.2.2.2.1, h.2.2.2.2, smpC_begin A B C D, b4⟩))
  go_quiet (fail)
  go_wp2
  go_loopw [5, 6, 7, 8, 9, 10, 11, 12] (fun va vb vc vd vn ve vl vm wr => ∃ a b c d n e l m, SimI W0 wr A B C D K va vb vc vd vn ve vl vm a b c d n e l m) (fun _ vb _ vd _ _ _ _ wr => natOf wr vb + natOf wr vd)
  case atStart => exact ⟨_, _, _, _, _, _, _, _, HI0.out _⟩
  case round =>
    obtain ⟨a, b, c, d, n, e, l, m, H⟩ := hrel
    obtain ⟨q, hq⟩ : ∃ q, q = a / b := ⟨_, rfl⟩
    obtain ⟨r, hr⟩ : ∃ r, r = a % b := ⟨_, rfl⟩
    have HE := hid (show a = q * b + r ∧ 0 ≤ q ∧ 0 ≤ r ∧ r < b by
      have h0 := H.b0
      rw [hq, hr]
      exact ⟨(Int.ediv_mul_add_emod a b).symm, Int.ediv_nonneg (Int.le_of_lt H.a0) (Int.le_of_lt h0), Int.emod_nonneg a (by omega), Int.emod_lt_of_pos a h0⟩)
    have hdv := divide_any _ _ a b K K wr H.na H.nb H.b0 (by have := HK.out.2; omega)
    rw [← hq, ← hr] at hdv
    have HDv := hid hdv; have HH := hid H
    have HTi := hid (fun (x y : Int) (z : Nat) (hx : x ≤ A ∨ x ≤ B) => show x < B64 ^ K by
      have h1 := (HNA.out _ (Below.refl _ _)).lt
      have h2 := (HNB.out _ (Below.refl _ _)).lt
      omega)
    clear hdv H HI0 hq hr k0 k1 k2 k3 k4 k5
    go_wp2_with fail
    refine HDv.out.mono ?_
    rintro e' w2 ⟨v1, _, rfl, hq2, hr2, hb2⟩
    obtain ⟨ro, rm, rc, rfl, _⟩ := Nt.opened hr2
    by_cases hr0 : r = 0
    · obtain rfl : rm = 0 := (Nt.len0 hr2).2 hr0
      have hsm := smp_whole (c := c) (d := d) HH.out.a0 HH.out.b0 HH.out.le (show a = q * b by have := HE.out.1; omega)
      have Hb2 := hid hb2; have Hq2 := hid hq2
      clear hb2 hq2 hr2 hr0
      have Hans := hid (smpC_stop HH.out.inv hsm)
      clear hsm
      have hcon := multiply_any _ _ q n K K _ (Hq2.out) (HH.out.nn.below Hb2.out (Nat.le_refl _)) (by have := HK.out.2; omega)
      have HCon := hid hcon
      clear hcon
      go_wp2_with fail
      refine HCon.out.mono ?_
      rintro e' y11 ⟨x11, rfl, hx11, hbx⟩
      clear HCon
      have HX11 := hid (bl_tr Hb2.out hbx); have Hc11 := hid hbx
      clear hbx
      have hcon := add_any _ _ (q * n) l (K + K) K (K + K + 1) _ hx11 (HH.out.nl.below HX11.out (Nat.le_refl _)) (by have := HK.out.2; omega) (by have := HK.out.2; omega) (by omega) (by omega)
      have HCon := hid hcon
      clear hcon
      go_wp2_with fail
      refine HCon.out.mono ?_
      rintro e' y12 ⟨x12, rfl, hx12, hbx⟩
      clear HCon
      have HX12 := hid (bl_tr HX11.out hbx); have Hc12 := hid (bl_tr Hc11.out hbx); have Hn1 := hid hx12
      clear hbx hx11 hx12
      have hcon := multiply_any _ _ q e K K _ ((Hq2.out).below Hc12.out (Nat.le_refl _)) (HH.out.ne.below HX12.out (Nat.le_refl _)) (by have := HK.out.2; omega)
      have HCon := hid hcon
      clear hcon
      go_wp2_with fail
      refine HCon.out.mono ?_
      rintro e' y13 ⟨x13, rfl, hx13, hbx⟩
      clear HCon
      have HX13 := hid (bl_tr HX12.out hbx); have Hc13 := hid (bl_tr Hc12.out hbx); have Hd13 := hid hbx
      clear hbx
      have hcon := add_any _ _ (q * e) m (K + K) K (K + K + 1) _ hx13 (HH.out.nm.below HX13.out (Nat.le_refl _)) (by have := HK.out.2; omega) (by have := HK.out.2; omega) (by omega) (by omega)
      have HCon := hid hcon
      clear hcon
      go_wp2_with fail
      refine HCon.out.mono ?_
      rintro e' y14 ⟨x14, rfl, hx14, hbx⟩
      clear HCon
      have HX14 := hid (bl_tr HX13.out hbx); have Hc14 := hid (bl_tr Hc13.out hbx); have Hd14 := hid (bl_tr Hd13.out hbx); have He1 := hid hx14
      clear hbx hx13 hx14
      have hsm2 := Hans.out.small Hab.out.2.1 Hab.out.2.2.2.2
      have hN := (Hn1.out.below Hd14.out (Nat.le_refl _)).tight (HTi.out (q * n + l) 0 0 (Or.inl hsm2.1))
      have hM := He1.out.tight (HTi.out (q * e + m) 0 0 (Or.inr hsm2.2))
      obtain ⟨mo, mm, mc, rfl, _⟩ := Nt.opened hM
      have HN := hid hN; have HM := hid hM
      clear hN hM hsm2
      have hcon := signed_eq false _ (q * n + l) (q * n + l) K _ HN.out rfl
      have HCon := hid hcon
      clear hcon
      go_wp2_with fail
      refine HCon.out.mono ?_
      rintro e' y15 ⟨_, rfl, hx, hbx⟩
      clear HCon
      obtain ⟨b7, o7, m7, c7, rfl, H7, H7s, H7b⟩ := It.opened hx
      have HX15 := hid (bl_tr HX14.out hbx); have Hbx := hid hbx
      clear hx hbx
      have hbld : ∀ w : World, (Instr.build 80 #[(0, .agg #[.bool b7, .slice o7 m7 c7]), (1, .slice mo mm mc)]).run Tryz.prog w = .ok (.agg #[.bool b7, .slice o7 m7 c7, .slice mo mm mc]) w := fun w => by kernel_rfl
      have hlow := bl_tr HH.out.low HX15.out
      obtain ⟨⟨hr0, hr1, hr2⟩, hf0, hf1, hf2⟩ := HT.out _ (hlow.mono (by have := Hz0.out; omega))
      have hz0 := Hz0.out
      have hw7 : Below w.heap.size w y15 := bl_tr HB0.out hlow
      have Hw7 := hid hw7
      clear hlow
      go_wp2
      refine bodyPost_ret (v := .agg #[.bool b7, .slice o7 m7 c7, .slice mo mm mc]) (by simp [results, Tryz.results91, go_sem, hr0, hr1, hr2]) rfl ⟨_, _, _, rfl, ⟨_, _, by rw [H7b.out], ?_, ?_⟩, Hans.out, (((Hw7.out.setCell (by simp <;> omega) _).setCell (by simp <;> omega) _).setCell (by simp <;> omega) _)⟩
      · exact nt_keeps ((((Keeps.refl _ _).setCell (u := .bool false) hr0 (fun x h => (by cases h)) _).setCell (u := .slice none 0 0) (by simp [go_sem, hr1]) (fun x h => (by cases h)) _).setCell (u := .slice none 0 0) (by simp [go_sem, hr2]) (fun x h => (by cases h)) _) (H7s.out _ (Below.refl _ _))
      · exact nt_keeps ((((Keeps.refl _ _).setCell (u := .bool false) hr0 (fun x h => (by cases h)) _).setCell (u := .slice none 0 0) (by simp [go_sem, hr1]) (fun x h => (by cases h)) _).setCell (u := .slice none 0 0) (by simp [go_sem, hr2]) (fun x h => (by cases h)) _) (HM.out.below Hbx.out (Nat.le_refl _))
    · have hm : ((rm : Int) == 0) = false := by
        have h : rm ≠ 0 := fun h => hr0 ((Nt.len0 hr2).1 h)
        simp [h]
      have hrp : 0 < r := by have := HE.out.2.2.1; omega
      have Hrp := hid hrp; have Hq2 := hid hq2; have Hr2 := hid hr2; have Hb2 := hid hb2
      have had := add_any v1 _ q 1 K 1 (K + 1) _ (hq2.below (bl_new (w := w2) (Obj.cells #[Value.int IntKind.u64 1] 106)) (Nat.le_refl _)) (one_row w2) (by have := HK.out.2; omega) (by decide) (by omega) (by have := HK.out.1; omega)
      have HAd := hid had
      clear had hr0 hrp hq2 hr2 hb2
      go_wp2_with fail
      refine HAd.out.mono ?_
      rintro e' w3 ⟨v3, rfl, hv3, hb3⟩
      have Hb3 := hid (bl_tr (bl_new (w := w2) (Obj.cells #[Value.int IntKind.u64 1] 106)) hb3)
      have hmu := multiply_any v3 _ (q + 1) d (K + 1) K w3 hv3 (HH.out.nd.below (bl_tr Hb2.out Hb3.out) (Nat.le_refl _)) (by have := HK.out.2; omega)
      have HMu := hid hmu; have Hv3 := hid hv3
      clear hmu hv3 hb3
      go_wp2_with fail
      refine HMu.out.mono ?_
      rintro e' w4 ⟨v4, rfl, hv4, hb4⟩
      have Hb4 := hid (bl_tr Hb3.out hb4)
      have hcp := compare_any v4 _ ((q + 1) * d) c _ K w4 hv4 (HH.out.nc.below (bl_tr Hb2.out Hb4.out) (Nat.le_refl _))
      by_cases hcc : (q + 1) * d ≤ c
      · obtain ⟨cv, hcv⟩ : ∃ cv, cv = cmpI ((q + 1) * d) c := ⟨_, rfl⟩
        have hcl : cv ≤ 0 := by rw [hcv]; unfold cmpI; (repeat' split) <;> omega
        rw [← hcv] at hcp
        have HCp := hid hcp
        have hsm := smp_next HH.out.b0 HE.out.1 HE.out.2.1 Hrp.out HE.out.2.2.2 hcc
        clear hcp hcv hcc hv4
        have Hsm := hid hsm
        clear hsm
        go_wp2_with fail
        refine HCp.out.mono ?_
        rintro e' w5 ⟨nq, rfl, rfl⟩
        have hX5 := below_drewN (bl_tr Hb2.out Hb4.out) nq
        have hq5 := Hv3.out.below (below_drewN hb4 nq) (Nat.le_refl _)
        have hsm := Hsm.out
        clear hb4
        have HX5 := hid hX5; have Hq5 := hid hq5
        clear hX5 hq5
        have Hans := hid (smpC_stop HH.out.inv hsm)
        clear hsm
        have hcon := multiply_any _ _ (q + 1) n (K + 1) K _ (Hq5.out) (HH.out.nn.below HX5.out (Nat.le_refl _)) (by have := HK.out.2; omega)
        have HCon := hid hcon
        clear hcon
        go_wp2_with fail
        refine HCon.out.mono ?_
        rintro e' y21 ⟨x21, rfl, hx21, hbx⟩
        clear HCon
        have HX21 := hid (bl_tr HX5.out hbx); have Hc21 := hid hbx
        clear hbx
        have hcon := add_any _ _ ((q + 1) * n) l ((K + 1) + K) K ((K + 1) + K + 1) _ hx21 (HH.out.nl.below HX21.out (Nat.le_refl _)) (by have := HK.out.2; omega) (by have := HK.out.2; omega) (by omega) (by omega)
        have HCon := hid hcon
        clear hcon
        go_wp2_with fail
        refine HCon.out.mono ?_
        rintro e' y22 ⟨x22, rfl, hx22, hbx⟩
        clear HCon
        have HX22 := hid (bl_tr HX21.out hbx); have Hc22 := hid (bl_tr Hc21.out hbx); have Hn2 := hid hx22
        clear hbx hx21 hx22
        have hcon := multiply_any _ _ (q + 1) e (K + 1) K _ ((Hq5.out).below Hc22.out (Nat.le_refl _)) (HH.out.ne.below HX22.out (Nat.le_refl _)) (by have := HK.out.2; omega)
        have HCon := hid hcon
        clear hcon
        go_wp2_with fail
        refine HCon.out.mono ?_
        rintro e' y23 ⟨x23, rfl, hx23, hbx⟩
        clear HCon
        have HX23 := hid (bl_tr HX22.out hbx); have Hc23 := hid (bl_tr Hc22.out hbx); have Hd23 := hid hbx
        clear hbx
        have hcon := add_any _ _ ((q + 1) * e) m ((K + 1) + K) K ((K + 1) + K + 1) _ hx23 (HH.out.nm.below HX23.out (Nat.le_refl _)) (by have := HK.out.2; omega) (by have := HK.out.2; omega) (by omega) (by omega)
        have HCon := hid hcon
        clear hcon
        go_wp2_with fail
        refine HCon.out.mono ?_
        rintro e' y24 ⟨x24, rfl, hx24, hbx⟩
        clear HCon
        have HX24 := hid (bl_tr HX23.out hbx); have Hc24 := hid (bl_tr Hc23.out hbx); have Hd24 := hid (bl_tr Hd23.out hbx); have He2 := hid hx24
        clear hbx hx23 hx24
        have hsm2 := Hans.out.small Hab.out.2.1 Hab.out.2.2.2.2
        have hN := (Hn2.out.below Hd24.out (Nat.le_refl _)).tight (HTi.out ((q + 1) * n + l) 0 0 (Or.inl hsm2.1))
        have hM := He2.out.tight (HTi.out ((q + 1) * e + m) 0 0 (Or.inr hsm2.2))
        obtain ⟨mo, mm, mc, rfl, _⟩ := Nt.opened hM
        have HN := hid hN; have HM := hid hM
        clear hN hM hsm2
        have hcon := signed_eq false _ ((q + 1) * n + l) ((q + 1) * n + l) K _ HN.out rfl
        have HCon := hid hcon
        clear hcon
        go_wp2_with fail
        refine HCon.out.mono ?_
        rintro e' y25 ⟨_, rfl, hx, hbx⟩
        clear HCon
        obtain ⟨b7, o7, m7, c7, rfl, H7, H7s, H7b⟩ := It.opened hx
        have HX25 := hid (bl_tr HX24.out hbx); have Hbx := hid hbx
        clear hx hbx
        have hbld : ∀ w : World, (Instr.build 80 #[(0, .agg #[.bool b7, .slice o7 m7 c7]), (1, .slice mo mm mc)]).run Tryz.prog w = .ok (.agg #[.bool b7, .slice o7 m7 c7, .slice mo mm mc]) w := fun w => by kernel_rfl
        have hlow := bl_tr HH.out.low HX25.out
        obtain ⟨⟨hr0, hr1, hr2⟩, hf0, hf1, hf2⟩ := HT.out _ (hlow.mono (by have := Hz0.out; omega))
        have hz0 := Hz0.out
        have hw7 : Below w.heap.size w y25 := bl_tr HB0.out hlow
        have Hw7 := hid hw7
        clear hlow
        go_wp2
        refine bodyPost_ret (v := .agg #[.bool b7, .slice o7 m7 c7, .slice mo mm mc]) (by simp [results, Tryz.results91, go_sem, hr0, hr1, hr2]) rfl ⟨_, _, _, rfl, ⟨_, _, by rw [H7b.out], ?_, ?_⟩, Hans.out, (((Hw7.out.setCell (by simp <;> omega) _).setCell (by simp <;> omega) _).setCell (by simp <;> omega) _)⟩
        · exact nt_keeps ((((Keeps.refl _ _).setCell (u := .bool false) hr0 (fun x h => (by cases h)) _).setCell (u := .slice none 0 0) (by simp [go_sem, hr1]) (fun x h => (by cases h)) _).setCell (u := .slice none 0 0) (by simp [go_sem, hr2]) (fun x h => (by cases h)) _) (H7s.out _ (Below.refl _ _))
        · exact nt_keeps ((((Keeps.refl _ _).setCell (u := .bool false) hr0 (fun x h => (by cases h)) _).setCell (u := .slice none 0 0) (by simp [go_sem, hr1]) (fun x h => (by cases h)) _).setCell (u := .slice none 0 0) (by simp [go_sem, hr2]) (fun x h => (by cases h)) _) (HM.out.below Hbx.out (Nat.le_refl _))
      · have hcg : cmpI ((q + 1) * d) c = 1 := by unfold cmpI; rw [if_neg (by omega), if_pos (by omega)]
        rw [hcg] at hcp
        have HCp := hid hcp
        have HCC := hid (show c < (q + 1) * d by omega)
        clear hcp hcg hcc hv4
        go_wp2_with fail
        refine HCp.out.mono ?_
        rintro e' w5 ⟨nq, rfl, rfl⟩
        have Hb5 := hid (below_drewN Hb4.out nq)
        have HX5 := hid (bl_tr Hb2.out Hb5.out)
        have hrest := smp_rest HH.out.b0 HH.out.d0 HE.out.1 Hrp.out HH.out.le
        have hinv := smpC_step HH.out.b0 HE.out.1 HE.out.2.1 Hrp.out HH.out.inv
        have hsml := smpC_small Hab.out.2.1 Hab.out.2.2.2.2 (by have := Int.mul_nonneg HE.out.2.1 HH.out.nn.nonneg'; have := HH.out.nl.nonneg'; omega) HH.out.nn.nonneg' (by have := Int.mul_nonneg HE.out.2.1 HH.out.ne.nonneg'; have := HH.out.nm.nonneg'; omega) HH.out.ne.nonneg' HH.out.d0 hrest.1 HH.out.b0 Hrp.out hrest.2 hinv
        have Hre := hid hrest; have Hinv := hid hinv; have Hsml := hid hsml
        clear hb4 hrest hinv hsml
        have hcon := multiply_any _ _ q n K K _ ((Hq2.out.below Hb5.out (Nat.le_refl _))) (HH.out.nn.below HX5.out (Nat.le_refl _)) (by have := HK.out.2; omega)
        have HCon := hid hcon
        clear hcon
        go_wp2_with fail
        refine HCon.out.mono ?_
        rintro e' y31 ⟨x31, rfl, hx31, hbx⟩
        clear HCon
        have HX31 := hid (bl_tr HX5.out hbx); have Hc31 := hid hbx
        clear hbx
        have hcon := add_any _ _ (q * n) l (K + K) K (K + K + 1) _ hx31 (HH.out.nl.below HX31.out (Nat.le_refl _)) (by have := HK.out.2; omega) (by have := HK.out.2; omega) (by omega) (by omega)
        have HCon := hid hcon
        clear hcon
        go_wp2_with fail
        refine HCon.out.mono ?_
        rintro e' y32 ⟨x32, rfl, hx32, hbx⟩
        clear HCon
        have HX32 := hid (bl_tr HX31.out hbx); have Hc32 := hid (bl_tr Hc31.out hbx); have Hn3 := hid hx32
        clear hbx hx31 hx32
        have hcon := multiply_any _ _ q e K K _ (((Hq2.out.below Hb5.out (Nat.le_refl _))).below Hc32.out (Nat.le_refl _)) (HH.out.ne.below HX32.out (Nat.le_refl _)) (by have := HK.out.2; omega)
        have HCon := hid hcon
        clear hcon
        go_wp2_with fail
        refine HCon.out.mono ?_
        rintro e' y33 ⟨x33, rfl, hx33, hbx⟩
        clear HCon
        have HX33 := hid (bl_tr HX32.out hbx); have Hc33 := hid (bl_tr Hc32.out hbx); have Hd33 := hid hbx
        clear hbx
        have hcon := add_any _ _ (q * e) m (K + K) K (K + K + 1) _ hx33 (HH.out.nm.below HX33.out (Nat.le_refl _)) (by have := HK.out.2; omega) (by have := HK.out.2; omega) (by omega) (by omega)
        have HCon := hid hcon
        clear hcon
        go_wp2_with fail
        refine HCon.out.mono ?_
        rintro e' y34 ⟨x34, rfl, hx34, hbx⟩
        clear HCon
        have HX34 := hid (bl_tr HX33.out hbx); have Hc34 := hid (bl_tr Hc33.out hbx); have Hd34 := hid (bl_tr Hd33.out hbx); have He3 := hid hx34
        clear hbx hx33 hx34
        have Hq6 := hid (Hq2.out.below (bl_tr Hb5.out Hc34.out) (Nat.le_refl _))
        have hcon := multiply_any _ _ q d K K _ Hq6.out (HH.out.nd.below HX34.out (Nat.le_refl _)) (by have := HK.out.2; omega)
        have HCon := hid hcon
        clear hcon
        go_wp2_with fail
        refine HCon.out.mono ?_
        rintro e' y5 ⟨x5, rfl, hx5, hbx⟩
        clear HCon
        have HX6 := hid (bl_tr HX34.out hbx); have Hd6 := hid (bl_tr Hd34.out hbx); have Hc6 := hid hbx; have Hc66 := hid (bl_tr Hc34.out hbx)
        clear hbx
        have hcon := subtract_any _ _ c (q * d) K (K + K) _ (HH.out.nc.below HX6.out (Nat.le_refl _)) hx5 (by have := HK.out.2; omega) (by have := Hre.out.1; omega)
        have HCon := hid hcon
        clear hcon
        go_wp2_with fail
        refine HCon.out.mono ?_
        rintro e' y6 ⟨x6, rfl, hx6, hbx⟩
        clear HCon
        have HX7 := hid (bl_tr HX6.out hbx); have Hd7 := hid (bl_tr Hd6.out hbx); have Hc7 := hid (bl_tr Hc6.out hbx); have Hc77 := hid (bl_tr Hc66.out hbx); have Hx6 := hid hx6
        clear hbx hx5 hx6
        go_wp2
        have HR7 := hid (Hr2.out.below (bl_tr Hb5.out Hc77.out) (Nat.le_refl _))
        go_roundw
        case rel => exact ⟨d, c - q * d, b, r, q * n + l, q * e + m, n, e, HH.out.nd.below HX7.out (Nat.le_refl _), Hx6.out, HH.out.nb.below HX7.out (Nat.le_refl _), HR7.out, (Hn3.out.below Hd7.out (Nat.le_refl _)).tight (HTi.out _ 0 0 (Or.inl Hsml.out.1)), (He3.out.below Hc7.out (Nat.le_refl _)).tight (HTi.out _ 0 0 (Or.inr Hsml.out.2.2.1)), HH.out.nn.below HX7.out (Nat.le_refl _), HH.out.ne.below HX7.out (Nat.le_refl _), HH.out.d0, Hre.out.1, HH.out.b0, Hrp.out, Hre.out.2, Hinv.out, bl_tr HH.out.low HX7.out⟩
        case measure =>
          rw [natOf_eq Hx6.out, natOf_eq HR7.out, natOf_eq HH.out.nb, natOf_eq HH.out.nd]
          have h1 := HCC.out
          rw [Int.add_mul] at h1
          have h2 := HE.out
          have h3 := HH.out.b0
          have h4 := HH.out.d0
          have h5 := Hre.out.1
          omega
end Go.Proofs.YtbapeilpkhbbeaaGreat
