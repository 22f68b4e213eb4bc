/- (exact.fraction).value: a fraction in lowest terms, both numbers in normal form and new memory. exact: divided and whole: fractions of integers. exact.Sign, exact.Cmp. -/
import Derived.Test.YtilpkocmdpofpaaGreatDoorSq17
import Derived.BigQuiet
import Derived.Deep.QuietTactic
import Derived.Test.YtilpkocmdpofpaaGreatDoorSq11
/- (exact.fraction).value: a fraction in lowest terms, both numbers in normal form and new memory. -/
namespace Go.Proofs.YtilpkocmdpofpaaGreatDoor
open Go.RowKit

/-- A fraction inside: a signed number over a natural. -/
def Ft (w : World) (v : Value) (z d : Int) (K : Nat) : Prop := ∃ s1 s2, v = .agg #[.bool (decide (z < 0)), s1, s2] ∧ Nt w s1 (z.natAbs : Int) K ∧ Nt w s2 d K
/-- A ratio whose two numbers are new memory. -/
def FrR (w0 w : World) (v : Value) (x y : Int) (K : Nat) : Prop := ∃ b1 s1 b2 s2, v = .agg #[b1, s1, b2, s2] ∧ FrA w0 w (.agg #[b1, s1]) x K ∧ FrA w0 w (.agg #[b2, s2]) y K
def RetR (w : World) (x y : Int) (K : Nat) (e : Ending) (w' : World) : Prop := ∃ v, e = .returned v ∧ FrR w w' v x y K ∧ Below w.heap.size w w'
/-- The numbers of a fraction in lowest terms. -/
def lowN (z d : Int) : Int := sgn (decide (z < 0)) ((z.natAbs : Int) / (Int.gcd (z.natAbs : Int) d : Int))
def lowD (z d : Int) : Int := d / (Int.gcd (z.natAbs : Int) d : Int)

theorem Ft.below {w w' : World} {v : Value} {z d : Int} {K B : Nat} (h : Ft w v z d K) (hb : Below B w w') (hB : w.heap.size ≤ B) : Ft w' v z d K := by
  obtain ⟨s1, s2, rfl, h1, h2⟩ := h
  exact ⟨s1, s2, rfl, h1.below hb hB, h2.below hb hB⟩

theorem FrW.below {w1 w w' : World} {v : Value} {n : Int} {K B : Nat} (h : FrW w1 w v n K) (hb : Below B w w') (hB : w.heap.size ≤ B) : FrW w1 w' v n K := by
  obtain ⟨L, h, r⟩ := h
  refine ⟨L, ⟨h.1, ?_⟩, r⟩
  rcases h.2 with h2 | ⟨g, cap, cur, hv, hg, hh, rest⟩
  · exact .inl h2
  · have hl : g < B := Nat.lt_of_lt_of_le (Array.getElem?_eq_some_iff.1 hh).1 hB
    exact .inr ⟨g, cap, cur, hv, hg, (hb.block g hl).trans hh, rest⟩

set_option maxRecDepth 100000 in
set_option maxHeartbeats 2000000 in
theorem fracValue_any (v : Value) (z d : Int) (K : Nat) (w : World) (hv : Ft w v z d K) (hd : 0 < d) (hK : K ≤ 1073741823) :
    Calls Tryz.prog 67 #[v] w (RetR w (lowN z d) (lowD z d) (2 * K)) := by
  obtain ⟨_, _, rfl, hA, hB⟩ := hv
  obtain ⟨no, nm, nc, rfl, HA⟩ := Nt.opened hA
  obtain ⟨o, m, c, rfl, HB⟩ := Nt.opened hB
  obtain ⟨sb, hsb⟩ : ∃ sb, sb = decide (z < 0) := ⟨_, rfl⟩
  rw [← hsb]
  have Hsb := hid hsb
  clear hA hB hsb
  obtain ⟨W0, hW0⟩ : ∃ W0, W0 = ((w.alloc (.cells #[.bool sb, .slice no nm nc, .slice o m c] 86)).alloc (.cells #[.bool false, .slice none 0 0, .bool false, .slice none 0 0] 26)) := ⟨_, rfl⟩
  have hB0 : Below w.heap.size w W0 := by rw [hW0]; exact ((Below.refl _ _).alloc (Nat.le_refl _) _).alloc (by simp) _
  have hz0 : W0.heap.size = w.heap.size + 2 := by rw [hW0]; simp
  have HS : Hid (∀ w', Below W0.heap.size W0 w' → w'.cell? ⟨w.heap.size, 0, none⟩ = some (.bool sb) ∧ w'.cell? ⟨w.heap.size, 1, none⟩ = some (.slice no nm nc) ∧ w'.cell? ⟨w.heap.size, 2, none⟩ = some (.slice o m c)) := hid (fun w' hb => by
    refine ⟨?_, ?_, ?_⟩ <;> (rw [hb.cell (by rw [hz0]; simp <;> omega), hW0]; simp [go_sem]))
  have HT : Hid (∀ w', Below W0.heap.size W0 w' → (w'.cell? ⟨w.heap.size + 1, 0, none⟩ = some (.bool false) ∧ w'.cell? ⟨w.heap.size + 1, 1, none⟩ = some (.slice none 0 0) ∧ w'.cell? ⟨w.heap.size + 1, 2, none⟩ = some (.bool false) ∧ w'.cell? ⟨w.heap.size + 1, 3, none⟩ = some (.slice none 0 0)) ∧ (w'.frozen? ⟨w.heap.size + 1, 0, none⟩ = false ∧ w'.frozen? ⟨w.heap.size + 1, 1, none⟩ = false ∧ w'.frozen? ⟨w.heap.size + 1, 2, none⟩ = false ∧ w'.frozen? ⟨w.heap.size + 1, 3, none⟩ = false)) := hid (fun w' hb => by
    refine ⟨⟨?_, ?_, ?_, ?_⟩, ?_, ?_, ?_, ?_⟩ <;> (first | (rw [hb.cell (by rw [hz0]; simp), hW0]; simp [go_sem]; done) | (rw [hb.frozen (by rw [hz0]; simp), hW0]; simp [go_sem]; done)))
  have HB0 := hid hB0; have Hz0 := hid hz0; have HW := hid hW0
  clear hB0 hz0 hW0
  by_cases h1 : d = 1
  · have HO := hid (fun (w' : World) (hb : Below w.heap.size w w') => by have h := isOne_any _ d K w' (HB.out w' hb); rw [decide_eq_true h1] at h; exact h)
    have HE : Hid (lowN z d = sgn sb (z.natAbs : Int) ∧ lowD z d = d) := hid (by subst h1; rw [Hsb.out]; unfold lowN lowD; simp)
    clear h1
    go_enter Tryz.func67, Tryz.ntmps67
    go_upto_region 1 with (fail)
    rw [← HW.out]
    obtain ⟨k0, k1, k2⟩ := HS.out _ (Below.refl _ _)
    go_wp2_with fail
    go_quiet (fail)
    have hq : Below W0.heap.size W0 (W0.drewN nq) := below_drewN (Below.refl _ _) nq
    have hqw := HB0.out.trans (hq.mono (by have := Hz0.out; omega))
    clear k0 k1 k2
    obtain ⟨k0, k1, k2⟩ := HS.out _ hq
    go_wp2_with fail
    refine (HO.out _ hqw).mono ?_
    rintro e w1 ⟨rfl, h1⟩
    obtain rfl : W0.drewN nq = w1 := h1.symm
    have hX := hq
    go_wp2_with fail
    refine (signed_any sb _ (z.natAbs : Int) K _ (HA.out _ hqw)).mono ?_
    rintro e w2 ⟨_, rfl, hv2, hb2⟩
    obtain ⟨b2, o2, m2, c2, rfl, H2, _, _⟩ := It.opened hv2
    have hB2 : Below W0.heap.size W0 w2 := hX.trans (hb2.mono hX.size)
    go_wp2_with fail
    refine (value_any _ _ _ _ (H2.out _ (Below.refl _ _)) (by omega)).mono ?_
    rintro e w3 ⟨_, rfl, ⟨_, rfl, hv3⟩, hb3⟩
    obtain ⟨o3, m3, c3, rfl, H3⟩ := FrW.opened hv3
    obtain ⟨zb, hzb⟩ : ∃ zb, zb = decide (sgn sb (z.natAbs : Int) < 0) := ⟨_, rfl⟩
    rw [← hzb]
    have HZ := hid hzb
    clear hzb hv3 hv2
    have hB3 : Below W0.heap.size W0 w3 := hB2.trans (hb3.mono hB2.size)
    go_wp2_with fail
    refine (signed_any false _ d K _ (HB.out _ (HB0.out.trans (hB3.mono (by have := Hz0.out; omega))))).mono ?_
    rintro e w4 ⟨_, rfl, hv4, hb4⟩
    obtain ⟨b4, o4, m4, c4, rfl, H4, _, _⟩ := It.opened hv4
    have hB4 : Below W0.heap.size W0 w4 := hB3.trans (hb4.mono hB3.size)
    go_wp2_with fail
    refine (value_any _ _ _ _ (H4.out _ (Below.refl _ _)) (by omega)).mono ?_
    rintro e w5 ⟨_, rfl, ⟨_, rfl, hv5⟩, hb5⟩
    obtain ⟨o5, m5, c5, rfl, H5⟩ := FrW.opened hv5
    obtain ⟨yb, hyb⟩ : ∃ yb, yb = decide (sgn false d < 0) := ⟨_, rfl⟩
    rw [← hyb]
    have HY := hid hyb
    clear hyb hv5 hv4
    have hB5 : Below W0.heap.size W0 w5 := hB4.trans (hb5.mono hB4.size)
    obtain ⟨⟨hr0, hr1, hr2, hr3⟩, hf0, hf1, hf2, hf3⟩ := HT.out _ hB5
    go_wp2
    have hw0 := Hz0.out
    have hbel : Below w.heap.size w w5 := HB0.out.trans (hB5.mono (by omega))
    have h35 := FrW.below H3.out (hb4.trans (hb5.mono hb4.size)) (Nat.le_refl _)
    refine bodyPost_ret (v := .agg #[.bool zb, .slice o3 m3 c3, .bool yb, .slice o5 m5 c5]) (by simp [results, Tryz.results67, go_sem, hr0, hr1, hr2, hr3]) rfl ⟨_, rfl, ?_, (((hbel.setCell (by simp) _).setCell (by simp) _).setCell (by simp) _).setCell (by simp) _⟩
    rw [HE.out.1, HE.out.2, HZ.out, HY.out]
    have hs3 := hB3.size; have hs4 := hB4.size; have hs2 := hB2.size
    exact ⟨_, _, _, _, rfl, ⟨_, rfl, ((((h35.set (by simp; omega) _).set (by simp; omega) _).set (by simp; omega) _).set (by simp; omega) _).base (by omega)⟩, ⟨_, rfl, by rw [← (show sgn false d = d by simp [sgn])]; exact ((((H5.out.set (by simp; omega) _).set (by simp; omega) _).set (by simp; omega) _).set (by simp; omega) _).base (by omega)⟩⟩
  · have HO := hid (fun (w' : World) (hb : Below w.heap.size w w') => by have h := isOne_any _ d K w' (HB.out w' hb); rw [decide_eq_false h1] at h; exact h)
    obtain ⟨g, hg⟩ : ∃ g : Int, g = (Int.gcd (z.natAbs : Int) d : Int) := ⟨_, rfl⟩
    have hg0 : 0 < g := by rw [hg]; have := Int.gcd_pos_of_ne_zero_right (z.natAbs : Int) (show d ≠ 0 by omega); omega
    obtain ⟨qn, hqn⟩ : ∃ qn, qn = (z.natAbs : Int) / g := ⟨_, rfl⟩
    obtain ⟨qd, hqd⟩ : ∃ qd, qd = d / g := ⟨_, rfl⟩
    have HE : Hid (lowN z d = sgn sb qn ∧ lowD z d = qd) := hid (by rw [Hsb.out, hqn, hqd, hg]; exact ⟨rfl, rfl⟩)
    have HG := hid hg; have HQN := hid hqn; have HQD := hid hqd
    clear h1 hg hqn hqd
    go_enter Tryz.func67, Tryz.ntmps67
    go_upto_region 1 with (fail)
    rw [← HW.out]
    obtain ⟨k0, k1, k2⟩ := HS.out _ (Below.refl _ _)
    go_wp2_with fail
    go_quiet (fail)
    have hq : Below W0.heap.size W0 (W0.drewN nq) := below_drewN (Below.refl _ _) nq
    have hqw := HB0.out.trans (hq.mono (by have := Hz0.out; omega))
    clear k0 k1 k2
    go_wp2_with fail
    refine (HO.out _ hqw).mono ?_
    rintro e w1 ⟨rfl, h1⟩
    obtain rfl : W0.drewN nq = w1 := h1.symm
    go_wp2_with fail
    refine (gcd_any _ _ _ _ K _ (HA.out _ hqw) (HB.out _ hqw) hK).mono ?_
    rintro e wg ⟨vg, rfl, hvg, hbg⟩
    rw [← HG.out] at hvg
    have hqg := hqw.trans (hbg.mono hqw.size)
    go_wp2_with fail
    refine (divideBoth_any _ _ vg _ _ g K _ (HA.out _ hqg) (HB.out _ hqg) hvg hg0 hK).mono ?_
    rintro e wd ⟨_, _, rfl, hqn1, hqd1, hbd⟩
    rw [← HQN.out] at hqn1
    rw [← HQD.out] at hqd1
    obtain ⟨no1, nm1, nc1, rfl, HQ1⟩ := Nt.opened hqn1
    obtain ⟨do1, dm1, dc1, rfl, HQ2⟩ := Nt.opened hqd1
    have hX : Below W0.heap.size W0 wd := hq.trans ((hbg.mono hq.size).trans (hbd.mono (by have := hbg.size; have := hq.size; omega)))
    obtain ⟨k0, k1, k2⟩ := HS.out _ hX
    clear hqn1 hqd1 hvg hbg hbd hqg hqw hq
    go_wp2_with fail
    refine (signed_any sb _ qn K _ (HQ1.out _ (Below.refl _ _))).mono ?_
    rintro e w2 ⟨_, rfl, hv2, hb2⟩
    obtain ⟨b2, o2, m2, c2, rfl, H2, _, _⟩ := It.opened hv2
    have hB2 : Below W0.heap.size W0 w2 := hX.trans (hb2.mono hX.size)
    go_wp2_with fail
    refine (value_any _ _ _ _ (H2.out _ (Below.refl _ _)) (by omega)).mono ?_
    rintro e w3 ⟨_, rfl, ⟨_, rfl, hv3⟩, hb3⟩
    obtain ⟨o3, m3, c3, rfl, H3⟩ := FrW.opened hv3
    obtain ⟨zb, hzb⟩ : ∃ zb, zb = decide (sgn sb qn < 0) := ⟨_, rfl⟩
    rw [← hzb]
    have HZ := hid hzb
    clear hzb hv3 hv2
    have hB3 : Below W0.heap.size W0 w3 := hB2.trans (hb3.mono hB2.size)
    go_wp2_with fail
    refine (signed_any false _ qd K _ (HQ2.out _ (hb2.trans (hb3.mono hb2.size)))).mono ?_
    rintro e w4 ⟨_, rfl, hv4, hb4⟩
    obtain ⟨b4, o4, m4, c4, rfl, H4, _, _⟩ := It.opened hv4
    have hB4 : Below W0.heap.size W0 w4 := hB3.trans (hb4.mono hB3.size)
    go_wp2_with fail
    refine (value_any _ _ _ _ (H4.out _ (Below.refl _ _)) (by omega)).mono ?_
    rintro e w5 ⟨_, rfl, ⟨_, rfl, hv5⟩, hb5⟩
    obtain ⟨o5, m5, c5, rfl, H5⟩ := FrW.opened hv5
    obtain ⟨yb, hyb⟩ : ∃ yb, yb = decide (sgn false qd < 0) := ⟨_, rfl⟩
    rw [← hyb]
    have HY := hid hyb
    clear hyb hv5 hv4
    have hB5 : Below W0.heap.size W0 w5 := hB4.trans (hb5.mono hB4.size)
    obtain ⟨⟨hr0, hr1, hr2, hr3⟩, hf0, hf1, hf2, hf3⟩ := HT.out _ hB5
    go_wp2
    have hw0 := Hz0.out
    have hbel : Below w.heap.size w w5 := HB0.out.trans (hB5.mono (by omega))
    have h35 := FrW.below H3.out (hb4.trans (hb5.mono hb4.size)) (Nat.le_refl _)
    refine bodyPost_ret (v := .agg #[.bool zb, .slice o3 m3 c3, .bool yb, .slice o5 m5 c5]) (by simp [results, Tryz.results67, go_sem, hr0, hr1, hr2, hr3]) rfl ⟨_, rfl, ?_, (((hbel.setCell (by simp) _).setCell (by simp) _).setCell (by simp) _).setCell (by simp) _⟩
    rw [HE.out.1, HE.out.2, HZ.out, HY.out]
    have hs3 := hB3.size; have hs4 := hB4.size; have hs2 := hB2.size
    exact ⟨_, _, _, _, rfl, ⟨_, rfl, ((((h35.set (by simp; omega) _).set (by simp; omega) _).set (by simp; omega) _).set (by simp; omega) _).base (by omega)⟩, ⟨_, rfl, by rw [← (show sgn false qd = qd by simp [sgn])]; exact ((((H5.out.set (by simp; omega) _).set (by simp; omega) _).set (by simp; omega) _).set (by simp; omega) _).base (by omega)⟩⟩
end Go.Proofs.YtilpkocmdpofpaaGreatDoor

/- exact: divided and whole: fractions of integers. -/
namespace Go.Proofs.YtilpkocmdpofpaaGreatDoor
open Go.RowKit

theorem nt_keeps {n : Int} {K : Nat} {w w' : World} {v : Value} (hk : Keeps .u64 w w') (h : Nt w v n K) : Nt w' v n K := by
  obtain ⟨ao, c, L, rfl, h⟩ := h
  exact ⟨ao, c, L, rfl, h.rd.keeps hk, h.dig, h.nrm, h.eq, h.le⟩

set_option maxRecDepth 100000 in
set_option maxHeartbeats 800000 in
theorem divided_any (u v : Value) (x y : Int) (K : Nat) (w : World) (hu : It w u x K) (hv : It w v y K) :
    Calls Tryz.prog 106 #[u, v] w fun e w' => ∃ f, e = .returned f ∧ Ft w' f (sgn (decide (x < 0) != decide (y < 0)) (x.natAbs : Int)) (y.natAbs : Int) K ∧ Below w.heap.size w w' := by
  obtain ⟨xb, xo, xm, xc, rfl, Hx, Hxs, Hxb⟩ := It.opened hu
  obtain ⟨yb, yo, ym, yc, rfl, Hy, Hys, Hyb⟩ := It.opened hv
  rw [← Hxb.out, ← Hyb.out]
  clear hu hv
  obtain ⟨W0, hW0⟩ : ∃ W0, W0 = (((w.alloc (.cells #[.bool xb, .slice xo xm xc] 84)).alloc (.cells #[.bool yb, .slice yo ym yc] 84)).alloc (.cells #[.bool false, .slice none 0 0, .slice none 0 0] 86)) := ⟨_, rfl⟩
  have hB0 : Below w.heap.size w W0 := by rw [hW0]; exact (((Below.refl _ _).alloc (Nat.le_refl _) _).alloc (by simp) _).alloc (by simp <;> omega) _
  have hz0 : W0.heap.size = w.heap.size + 3 := by rw [hW0]; simp
  have HS : Hid (∀ w', Below (w.heap.size + 2) W0 w' → w'.cell? ⟨w.heap.size, 0, none⟩ = some (.bool xb) ∧ w'.cell? ⟨w.heap.size, 1, none⟩ = some (.slice xo xm xc) ∧ w'.cell? ⟨w.heap.size + 1, 0, none⟩ = some (.bool yb) ∧ w'.cell? ⟨w.heap.size + 1, 1, none⟩ = some (.slice yo ym yc)) := hid (fun w' hb => by
    refine ⟨?_, ?_, ?_, ?_⟩ <;> (rw [hb.cell (by simp <;> omega), hW0]; simp [go_sem]))
  have HT : Hid (∀ w', Below (w.heap.size + 3) W0 w' → (w'.cell? ⟨w.heap.size + 2, 0, none⟩ = some (.bool false) ∧ w'.cell? ⟨w.heap.size + 2, 1, none⟩ = some (.slice none 0 0) ∧ w'.cell? ⟨w.heap.size + 2, 2, none⟩ = some (.slice none 0 0)) ∧ (w'.frozen? ⟨w.heap.size + 2, 0, none⟩ = false ∧ w'.frozen? ⟨w.heap.size + 2, 1, none⟩ = false ∧ w'.frozen? ⟨w.heap.size + 2, 2, none⟩ = false)) := hid (fun w' hb => by
    refine ⟨⟨?_, ?_, ?_⟩, ?_, ?_, ?_⟩ <;> (first | (rw [hb.cell (by simp <;> omega), hW0]; simp [go_sem]; done) | (rw [hb.frozen (by simp <;> omega), hW0]; simp [go_sem]; done)))
  have HB0 := hid hB0; have Hz0 := hid hz0; have HW := hid hW0
  clear hW0
  go_enter Tryz.func106, Tryz.ntmps106
  go_upto_region 1 with (fail)
  rw [← HW.out]
  obtain ⟨k0, k1, k2, k3⟩ := HS.out _ (Below.refl _ _)
  clear k0 k1 k2 k3
  go_region_held3 (fun w' => w'.cell? ⟨w.heap.size, 0, none⟩ = some (.bool xb) ∧ w'.cell? ⟨w.heap.size, 1, none⟩ = some (.slice xo xm xc) ∧ w'.cell? ⟨w.heap.size + 1, 0, none⟩ = some (.bool yb) ∧ w'.cell? ⟨w.heap.size + 1, 1, none⟩ = some (.slice yo ym yc)) ((refine HS.out _ ?_; repeat (first | assumption | exact Below.refl _ _ | exact (Below.refl _ _).drew | exact Below.drew (by assumption) | (refine Below.setCell ?_ (by simp) _)))) (first
    | (go_at_call 55; refine (signed_any (xb != yb) _ _ K _ (Hxs.out _ hB0.drew)).mono ?_; rintro e w2 ⟨_, rfl, hv2, hb2⟩; obtain ⟨b2, o2, m2, c2, rfl, H2, H2s, H2b⟩ := It.opened hv2; have hB2 : Below (w.heap.size + 3) W0 w2 := ((Below.refl _ _).drew).trans (hb2.mono (by simp; omega)); have hB2s : Below (w.heap.size + 2) W0 w2 := hB2.mono (by omega); obtain ⟨⟨hr0, hr1, hr2⟩, hf0, hf1, hf2⟩ := HT.out _ hB2))
  go_wp2
  have hbel : Below w.heap.size w w2 := hB0.trans (hB2.mono (by omega))
  refine bodyPost_ret (v := .agg #[.bool b2, .slice o2 m2 c2, .slice yo ym yc]) (by simp [results, Tryz.results106, go_sem, hr0, hr1, hr2]) rfl ⟨_, rfl, ?_, ((hbel.setCell (by simp <;> omega) _).setCell (by simp <;> omega) _).setCell (by simp <;> omega) _⟩
  refine ⟨.slice o2 m2 c2, .slice yo ym yc, by rw [H2b.out], ?_, ?_⟩
  · exact nt_keeps (((((Keeps.refl _ _).setCell (u := .bool false) hr0 (fun x h => (by cases h)) _).setCell (u := .slice none 0 0) (by simp [go_sem, hr1]) (fun x h => (by cases h)) _).setCell (u := .slice none 0 0) (by simp [go_sem, hr2]) (fun x h => (by cases h)) _)) (H2s.out _ (Below.refl _ _))
  · exact nt_keeps (((((Keeps.refl _ _).setCell (u := .bool false) hr0 (fun x h => (by cases h)) _).setCell (u := .slice none 0 0) (by simp [go_sem, hr1]) (fun x h => (by cases h)) _).setCell (u := .slice none 0 0) (by simp [go_sem, hr2]) (fun x h => (by cases h)) _)) (Hys.out _ hbel)

set_option maxRecDepth 100000 in
set_option maxHeartbeats 800000 in
theorem whole_any (u : Value) (x : Int) (K : Nat) (w : World) (hu : It w u x K) (hK : 1 ≤ K) :
    Calls Tryz.prog 88 #[u] w fun e w' => ∃ f, e = .returned f ∧ Ft w' f x 1 K ∧ Below w.heap.size w w' := by
  obtain ⟨xb, xo, xm, xc, rfl, Hx, Hxs, Hxb⟩ := It.opened hu
  clear hu
  obtain ⟨W0, hW0⟩ : ∃ W0, W0 = ((w.alloc (.cells #[.bool xb, .slice xo xm xc] 84)).alloc (.cells #[.bool false, .slice none 0 0, .slice none 0 0] 86)) := ⟨_, rfl⟩
  have hB0 : Below w.heap.size w W0 := by rw [hW0]; exact ((Below.refl _ _).alloc (Nat.le_refl _) _).alloc (by simp) _
  have hz0 : W0.heap.size = w.heap.size + 2 := by rw [hW0]; simp
  have HS : Hid (∀ w', Below (w.heap.size + 1) W0 w' → w'.cell? ⟨w.heap.size, 0, none⟩ = some (.bool xb) ∧ w'.cell? ⟨w.heap.size, 1, none⟩ = some (.slice xo xm xc)) := hid (fun w' hb => by
    refine ⟨?_, ?_⟩ <;> (rw [hb.cell (by simp <;> omega), hW0]; simp [go_sem]))
  have HT : Hid (∀ w', Below (w.heap.size + 2) W0 w' → (w'.cell? ⟨w.heap.size + 1, 0, none⟩ = some (.bool false) ∧ w'.cell? ⟨w.heap.size + 1, 1, none⟩ = some (.slice none 0 0) ∧ w'.cell? ⟨w.heap.size + 1, 2, none⟩ = some (.slice none 0 0)) ∧ (w'.frozen? ⟨w.heap.size + 1, 0, none⟩ = false ∧ w'.frozen? ⟨w.heap.size + 1, 1, none⟩ = false ∧ w'.frozen? ⟨w.heap.size + 1, 2, none⟩ = false)) := hid (fun w' hb => by
    refine ⟨⟨?_, ?_, ?_⟩, ?_, ?_, ?_⟩ <;> (first | (rw [hb.cell (by simp <;> omega), hW0]; simp [go_sem]; done) | (rw [hb.frozen (by simp <;> omega), hW0]; simp [go_sem]; done)))
  have HB0 := hid hB0; have Hz0 := hid hz0; have HW := hid hW0
  clear hW0
  go_enter Tryz.func88, Tryz.ntmps88
  go_upto_region 1 with (fail)
  rw [← HW.out]
  obtain ⟨k0, k1⟩ := HS.out _ (Below.refl _ _)
  obtain ⟨⟨hr0, hr1, hr2⟩, hf0, hf1, hf2⟩ := HT.out _ (Below.refl _ _)
  go_wp2
  obtain ⟨W1, hW1⟩ : ∃ W1, W1 = (((W0.setCell ⟨w.heap.size + 1, 0, none⟩ (.bool xb)).setCell ⟨w.heap.size + 1, 1, none⟩ (.slice xo xm xc)).setCell ⟨w.heap.size + 1, 2, none⟩ (.slice (some ⟨w.heap.size + 2, 0, none⟩) 1 1)) := ⟨_, rfl⟩
  have hk : Keeps .u64 W0 W1 := by rw [hW1]; exact (((((Keeps.refl _ _).setCell (u := .bool false) hr0 (fun x h => (by cases h)) _).setCell (u := .slice none 0 0) (by simp [go_sem, hr1]) (fun x h => (by cases h)) _).setCell (u := .slice none 0 0) (by simp [go_sem, hr2]) (fun x h => (by cases h)) _))
  have hz1 : W1.heap.size = w.heap.size + 2 := by rw [hW1]; simp; omega
  have hb1 : Below w.heap.size w W1 := by rw [hW1]; exact ((hB0.setCell (by simp <;> omega) _).setCell (by simp <;> omega) _).setCell (by simp <;> omega) _
  have hc0 : W1.cell? ⟨w.heap.size + 1, 0, none⟩ = some (.bool xb) := by rw [hW1]; simp [go_sem, hr0]
  have hc1 : W1.cell? ⟨w.heap.size + 1, 1, none⟩ = some (.slice xo xm xc) := by rw [hW1]; simp [go_sem, hr1]
  have hc2 : W1.cell? ⟨w.heap.size + 1, 2, none⟩ = some (.slice (some ⟨w.heap.size + 2, 0, none⟩) 1 1) := by rw [hW1]; simp [go_sem, hr2]
  rw [← hW1]
  have hal : Below W1.heap.size W1 (W1.alloc (.cells #[.int .u64 1] 91 (0, 0))) := (Below.refl _ _).alloc (Nat.le_refl _) _
  have hd0 := (hal.cell (p := ⟨w.heap.size + 1, 0, none⟩) (by simp; omega)).trans hc0
  have hd1 := (hal.cell (p := ⟨w.heap.size + 1, 1, none⟩) (by simp; omega)).trans hc1
  have hd2 := (hal.cell (p := ⟨w.heap.size + 1, 2, none⟩) (by simp; omega)).trans hc2
  refine bodyPost_ret (v := .agg #[.bool xb, .slice xo xm xc, .slice (some ⟨w.heap.size + 2, 0, none⟩) 1 1]) (by simp [results, Tryz.results88, go_sem, hd0, hd1, hd2]) rfl ⟨_, rfl, ?_, hb1.alloc (by omega) _⟩
  refine ⟨.slice xo xm xc, .slice (some ⟨w.heap.size + 2, 0, none⟩) 1 1, by rw [Hxb.out], ?_, ?_⟩
  · exact (nt_keeps hk (Hxs.out _ hB0)).below hal (Nat.le_refl _)
  · have h1 := (one_row W1).mono hK
    rw [hz1] at h1
    exact h1
end Go.Proofs.YtilpkocmdpofpaaGreatDoor

/- exact.Sign, exact.Cmp. -/
namespace Go.Proofs.YtilpkocmdpofpaaGreatDoor
open Go.RowKit

theorem Nt.zero {w : World} {ao : Option Addr} {m c : Nat} {n : Int} {K : Nat} (h : Nt w (.slice ao m c) n K) : m = 0 ↔ n = 0 := by
  obtain ⟨ao, c, L, e, h⟩ := h
  cases e
  exact h.zero_iff

set_option maxHeartbeats 1000000 in
theorem sign_any (v : Value) (z : Int) (K : Nat) (w : World) (h : It w v z K) :
    Calls Tryz.prog 79 #[v] w fun e w' => e = .returned (.int .i64 (cmpI z 0)) ∧ Below w.heap.size w w' := by
  obtain ⟨xb, xo, xm, xc, rfl, Hx, Hxs, Hxb⟩ := It.opened h
  have hz := (Hxs.out w (Below.refl _ _)).zero
  by_cases h0 : z = 0
  · obtain rfl : xm = 0 := hz.2 (by omega)
    have e : cmpI z 0 = 0 := by rw [h0]; rfl
    rw [e]
    clear hz h h0 e
    go_enter Tryz.func79, Tryz.ntmps79
    go_wp2
    go_ret
    exact ⟨rfl, (Below.refl _ _).alloc (Nat.le_refl _) _⟩
  · have hm : ((xm : Int) == 0) = false := by rw [beq_eq_false_iff_ne]; have := hz.1; omega
    by_cases h1 : z < 0
    · obtain rfl : xb = true := by rw [Hxb.out]; exact decide_eq_true h1
      rw [cmpI_lt h1]
      clear hz h h0 h1
      go_enter Tryz.func79, Tryz.ntmps79
      go_wp2
      go_ret
      exact ⟨rfl, (Below.refl _ _).alloc (Nat.le_refl _) _⟩
    · obtain rfl : xb = false := by rw [Hxb.out]; exact decide_eq_false h1
      rw [cmpI_gt (show 0 < z by omega)]
      clear hz h h0 h1
      go_enter Tryz.func79, Tryz.ntmps79
      go_wp2
      go_ret
      exact ⟨rfl, (Below.refl _ _).alloc (Nat.le_refl _) _⟩

set_option maxHeartbeats 1000000 in
theorem Sign_any (v : Value) (z : Int) (K : Nat) (w : World) (h : Ai w v z K) (hK : K ≤ 1073741824) :
    Calls Tryz.prog 42 #[v] w fun e w' => e = .returned (.int .i64 (cmpI z 0)) ∧ Below w.heap.size w w' := by
  obtain ⟨xb, xo, xm, xc, rfl, Hx⟩ := Ai.opened h
  go_enter Tryz.func42, Tryz.ntmps42
  go_wp2_with fail
  refine (read_any _ z K _ (Hx.out _ ((Below.refl _ _).alloc (Nat.le_refl _) _)) hK).mono ?_
  rintro e w1 ⟨v1, rfl, hv1, hb1⟩
  go_wp2_with fail
  refine (sign_any _ z _ _ hv1).mono ?_
  rintro e w2 ⟨rfl, hb2⟩
  go_wp2
  go_ret
  exact ⟨rfl, (((Below.refl w.heap.size w).alloc (Nat.le_refl _) _).trans (hb1.mono (by simp))).trans (hb2.mono (by have := hb1.size; simp at this; omega))⟩

set_option maxHeartbeats 1000000 in
/-- The closure that compares the sizes: the two integers lie in the blocks p and q. -/
theorem closure_any (p q : Nat) (xo yo : Option Addr) (xm xc ym yc : Nat) (a b : Int) (Ka Kb : Nat) (w : World)
    (hp1 : w.cell? ⟨p, 1, none⟩ = some (.slice xo xm xc)) (hq1 : w.cell? ⟨q, 1, none⟩ = some (.slice yo ym yc))
    (ha : Nt w (.slice xo xm xc) a Ka) (hb : Nt w (.slice yo ym yc) b Kb) :
    Calls Tryz.prog 100 #[.pointer (some ⟨p, 0, none⟩), .pointer (some ⟨q, 0, none⟩)] w fun e w' => ∃ nq, e = .returned (.int .i64 (cmpI a b)) ∧ w' = w.drewN nq := by
  have HC := hid (compare_any _ _ a b Ka Kb w ha hb)
  clear ha hb
  go_enter Tryz.func100, Tryz.ntmps100
  go_wp2_with fail
  refine HC.out.mono ?_
  rintro e w' ⟨nq, rfl, rfl⟩
  go_wp2
  go_ret
  exact ⟨nq, rfl, rfl⟩

set_option maxHeartbeats 1000000 in
theorem order_ne (a b : Int) (f : Value) (w : World) (hne : a ≠ b) :
    Calls Tryz.prog 94 #[.int .i64 a, .int .i64 b, f] w fun e w' => e = .returned (.int .i64 (cmpI a b)) ∧ w' = w := by
  have hb : ((a : Int) != b) = true := by rw [bne_iff_ne]; exact hne
  go_enter Tryz.func94, Tryz.ntmps94
  go_wp2_with (go_at_call 141; refine (cmpInt _ _ _).mono ?_; rintro e w' ⟨rfl, rfl⟩)
  go_ret
  exact ⟨rfl, rfl⟩

theorem cmpI_bd (a b : Int) : -1 ≤ cmpI a b ∧ cmpI a b ≤ 1 := by unfold cmpI; split <;> (try split) <;> decide

set_option maxHeartbeats 1000000 in
theorem order_eq (s : Int) (hs : -1 ≤ s ∧ s ≤ 1) (p q : Nat) (xo yo : Option Addr) (xm xc ym yc : Nat) (a b : Int) (Ka Kb : Nat) (w : World)
    (hp1 : w.cell? ⟨p, 1, none⟩ = some (.slice xo xm xc)) (hq1 : w.cell? ⟨q, 1, none⟩ = some (.slice yo ym yc))
    (ha : Nt w (.slice xo xm xc) a Ka) (hb : Nt w (.slice yo ym yc) b Kb) :
    Calls Tryz.prog 94 #[.int .i64 s, .int .i64 s, .func (.func 100) #[] #[.pointer (some ⟨p, 0, none⟩), .pointer (some ⟨q, 0, none⟩)]] w fun e w' => ∃ nq, e = .returned (.int .i64 (s * cmpI a b)) ∧ w' = w.drewN nq := by
  have HC := hid (closure_any p q xo yo xm xc ym yc a b Ka Kb w hp1 hq1 ha hb)
  have hc := cmpI_bd a b
  obtain ⟨c, hce⟩ : ∃ c, c = cmpI a b := ⟨_, rfl⟩
  rw [← hce] at hc HC ⊢
  clear ha hb hp1 hq1 hce
  rcases (show s = -1 ∨ s = 0 ∨ s = 1 by omega) with rfl | rfl | rfl
  all_goals
    clear hs
    go_enter Tryz.func94, Tryz.ntmps94
    go_wp2_with (go_at_call 100; refine HC.out.mono ?_; rintro e w' ⟨nq, rfl, rfl⟩)
    go_ret
    exact ⟨nq, by simp, rfl⟩

end Go.Proofs.YtilpkocmdpofpaaGreatDoor
