/- (exact.fraction).value: a fraction in lowest terms, both numbers in normal form and new memory. exact: divided and whole: fractions of integers. exact.Sign, exact.Cmp. exact.Make: the ratio of two integers in lowest terms, or ErrZero. exact.Make where the divisor is 0; exact.Whole. The document's own integers: cut, digit, order. Digits to the base 65536, the lowest first. -/
import Derived.Test.YtbapeilpkhbbeaaGreatRn13
import Derived.BigQuiet
import Derived.Deep.QuietTactic
import Derived.Test.YtbapeilpkhbbeaaGreatRn05
import Derived.Test.YtbapeilpkhbbeaaGreatRn02
import Derived.Test.YtbapeilpkhbbeaaGreatRn04
/- (exact.fraction).value: a fraction in lowest terms, both numbers in normal form and new memory. -/
namespace Go.Proofs.YtbapeilpkhbbeaaGreat
open Go.RowKit

/-- A fraction inside: a signed number over a natural. -/
def Ft (w : World) (v : Value) (z d : Int) (K : Nat) : Prop := ∃ s1 s2, v = .agg #[.bool (decide (z < 0)), s1, s2] ∧ Nt w s1 (z.natAbs : Int) K ∧ Nt w s2 d K
/-- A ratio whose two numbers are new memory. -/
def FrR (w0 w : World) (v : Value) (x y : Int) (K : Nat) : Prop := ∃ b1 s1 b2 s2, v = .agg #[b1, s1, b2, s2] ∧ FrA w0 w (.agg #[b1, s1]) x K ∧ FrA w0 w (.agg #[b2, s2]) y K
def RetR (w : World) (x y : Int) (K : Nat) (e : Ending) (w' : World) : Prop := ∃ v, e = .returned v ∧ FrR w w' v x y K ∧ Below w.heap.size w w'
/-- The numbers of a fraction in lowest terms. -/
def lowN (z d : Int) : Int := sgn (decide (z < 0)) ((z.natAbs : Int) / (Int.gcd (z.natAbs : Int) d : Int))
def lowD (z d : Int) : Int := d / (Int.gcd (z.natAbs : Int) d : Int)

theorem Ft.below {w w' : World} {v : Value} {z d : Int} {K B : Nat} (h : Ft w v z d K) (hb : Below B w w') (hB : w.heap.size ≤ B) : Ft w' v z d K := by
  obtain ⟨s1, s2, rfl, h1, h2⟩ := h
  exact ⟨s1, s2, rfl, h1.below hb hB, h2.below hb hB⟩

theorem FrW.below {w1 w w' : World} {v : Value} {n : Int} {K B : Nat} (h : FrW w1 w v n K) (hb : Below B w w') (hB : w.heap.size ≤ B) : FrW w1 w' v n K := by
  obtain ⟨L, h, r⟩ := h
  refine ⟨L, ⟨h.1, ?_⟩, r⟩
  rcases h.2 with h2 | ⟨g, cap, cur, hv, hg, hh, rest⟩
  · exact .inl h2
  · have hl : g < B := Nat.lt_of_lt_of_le (Array.getElem?_eq_some_iff.1 hh).1 hB
    exact .inr ⟨g, cap, cur, hv, hg, (hb.block g hl).trans hh, rest⟩

set_option maxRecDepth 100000 in
set_option maxHeartbeats 2000000 in
theorem fracValue_any (v : Value) (z d : Int) (K : Nat) (w : World) (hv : Ft w v z d K) (hd : 0 < d) (hK : K ≤ 1073741823) :
    Calls Tryz.prog 53 #[v] w (RetR w (lowN z d) (lowD z d) (2 * K)) := by
  obtain ⟨_, _, rfl, hA, hB⟩ := hv
  obtain ⟨no, nm, nc, rfl, HA⟩ := Nt.opened hA
  obtain ⟨o, m, c, rfl, HB⟩ := Nt.opened hB
  obtain ⟨sb, hsb⟩ : ∃ sb, sb = decide (z < 0) := ⟨_, rfl⟩
  rw [← hsb]
  have Hsb := hid hsb
  clear hA hB hsb
  obtain ⟨W0, hW0⟩ : ∃ W0, W0 = ((w.alloc (.cells #[.bool sb, .slice no nm nc, .slice o m c] 80)).alloc (.cells #[.bool false, .slice none 0 0, .bool false, .slice none 0 0] 26)) := ⟨_, rfl⟩
  have hB0 : Below w.heap.size w W0 := by rw [hW0]; exact ((Below.refl _ _).alloc (Nat.le_refl _) _).alloc (by simp) _
  have hz0 : W0.heap.size = w.heap.size + 2 := by rw [hW0]; simp
  have HS : Hid (∀ w', Below W0.heap.size W0 w' → w'.cell? ⟨w.heap.size, 0, none⟩ = some (.bool sb) ∧ w'.cell? ⟨w.heap.size, 1, none⟩ = some (.slice no nm nc) ∧ w'.cell? ⟨w.heap.size, 2, none⟩ = some (.slice o m c)) := hid (fun w' hb => by
    refine ⟨?_, ?_, ?_⟩ <;> (rw [hb.cell (by rw [hz0]; simp <;> omega), hW0]; simp [go_sem]))
  have HT : Hid (∀ w', Below W0.heap.size W0 w' → (w'.cell? ⟨w.heap.size + 1, 0, none⟩ = some (.bool false) ∧ w'.cell? ⟨w.heap.size + 1, 1, none⟩ = some (.slice none 0 0) ∧ w'.cell? ⟨w.heap.size + 1, 2, none⟩ = some (.bool false) ∧ w'.cell? ⟨w.heap.size + 1, 3, none⟩ = some (.slice none 0 0)) ∧ (w'.frozen? ⟨w.heap.size + 1, 0, none⟩ = false ∧ w'.frozen? ⟨w.heap.size + 1, 1, none⟩ = false ∧ w'.frozen? ⟨w.heap.size + 1, 2, none⟩ = false ∧ w'.frozen? ⟨w.heap.size + 1, 3, none⟩ = false)) := hid (fun w' hb => by
    refine ⟨⟨?_, ?_, ?_, ?_⟩, ?_, ?_, ?_, ?_⟩ <;> (first | (rw [hb.cell (by rw [hz0]; simp), hW0]; simp [go_sem]; done) | (rw [hb.frozen (by rw [hz0]; simp), hW0]; simp [go_sem]; done)))
  have HB0 := hid hB0; have Hz0 := hid hz0; have HW := hid hW0
  clear hB0 hz0 hW0
  by_cases h1 : d = 1
  · have HO := hid (fun (w' : World) (hb : Below w.heap.size w w') => by have h := isOne_any _ d K w' (HB.out w' hb); rw [decide_eq_true h1] at h; exact h)
    have HE : Hid (lowN z d = sgn sb (z.natAbs : Int) ∧ lowD z d = d) := hid (by subst h1; rw [Hsb.out]; unfold lowN lowD; simp)
    clear h1
    go_enter Tryz.func53, Tryz.ntmps53
    go_upto_region 1 with (fail)
    rw [← HW.out]
    obtain ⟨k0, k1, k2⟩ := HS.out _ (Below.refl _ _)
    go_wp2_with fail
    go_quiet (fail)
    have hq : Below W0.heap.size W0 (W0.drewN nq) := below_drewN (Below.refl _ _) nq
    have hqw := HB0.out.trans (hq.mono (by have := Hz0.out; omega))
    clear k0 k1 k2
    obtain ⟨k0, k1, k2⟩ := HS.out _ hq
    go_wp2_with fail
    refine (HO.out _ hqw).mono ?_
    rintro e w1 ⟨rfl, h1⟩
    obtain rfl : W0.drewN nq = w1 := h1.symm
    have hX := hq
    go_wp2_with fail
    refine (signed_any sb _ (z.natAbs : Int) K _ (HA.out _ hqw)).mono ?_
    rintro e w2 ⟨_, rfl, hv2, hb2⟩
    obtain ⟨b2, o2, m2, c2, rfl, H2, _, _⟩ := It.opened hv2
    have hB2 : Below W0.heap.size W0 w2 := hX.trans (hb2.mono hX.size)
    go_wp2_with fail
    refine (value_any _ _ _ _ (H2.out _ (Below.refl _ _)) (by omega)).mono ?_
    rintro e w3 ⟨_, rfl, ⟨_, rfl, hv3⟩, hb3⟩
    obtain ⟨o3, m3, c3, rfl, H3⟩ := FrW.opened hv3
    obtain ⟨zb, hzb⟩ : ∃ zb, zb = decide (sgn sb (z.natAbs : Int) < 0) := ⟨_, rfl⟩
    rw [← hzb]
    have HZ := hid hzb
    clear hzb hv3 hv2
    have hB3 : Below W0.heap.size W0 w3 := hB2.trans (hb3.mono hB2.size)
    go_wp2_with fail
    refine (signed_any false _ d K _ (HB.out _ (HB0.out.trans (hB3.mono (by have := Hz0.out; omega))))).mono ?_
    rintro e w4 ⟨_, rfl, hv4, hb4⟩
    obtain ⟨b4, o4, m4, c4, rfl, H4, _, _⟩ := It.opened hv4
    have hB4 : Below W0.heap.size W0 w4 := hB3.trans (hb4.mono hB3.size)
    go_wp2_with fail
    refine (value_any _ _ _ _ (H4.out _ (Below.refl _ _)) (by omega)).mono ?_
    rintro e w5 ⟨_, rfl, ⟨_, rfl, hv5⟩, hb5⟩
    obtain ⟨o5, m5, c5, rfl, H5⟩ := FrW.opened hv5
    obtain ⟨yb, hyb⟩ : ∃ yb, yb = decide (sgn false d < 0) := ⟨_, rfl⟩
    rw [← hyb]
    have HY := hid hyb
    clear hyb hv5 hv4
    have hB5 : Below W0.heap.size W0 w5 := hB4.trans (hb5.mono hB4.size)
    obtain ⟨⟨hr0, hr1, hr2, hr3⟩, hf0, hf1, hf2, hf3⟩ := HT.out _ hB5
    go_wp2
    have hw0 := Hz0.out
    have hbel : Below w.heap.size w w5 := HB0.out.trans (hB5.mono (by omega))
    have h35 := FrW.below H3.out (hb4.trans (hb5.mono hb4.size)) (Nat.le_refl _)
    refine bodyPost_ret (v := .agg #[.bool zb, .slice o3 m3 c3, .bool yb, .slice o5 m5 c5]) (by simp [results, Tryz.results53, go_sem, hr0, hr1, hr2, hr3]) rfl ⟨_, rfl, ?_, (((hbel.setCell (by simp) _).setCell (by simp) _).setCell (by simp) _).setCell (by simp) _⟩
    rw [HE.out.1, HE.out.2, HZ.out, HY.out]
    have hs3 := hB3.size; have hs4 := hB4.size; have hs2 := hB2.size
    exact ⟨_, _, _, _, rfl, ⟨_, rfl, ((((h35.set (by simp; omega) _).set (by simp; omega) _).set (by simp; omega) _).set (by simp; omega) _).base (by omega)⟩, ⟨_, rfl, by rw [← (show sgn false d = d by simp [sgn])]; exact ((((H5.out.set (by simp; omega) _).set (by simp; omega) _).set (by simp; omega) _).set (by simp; omega) _).base (by omega)⟩⟩
  · have HO := hid (fun (w' : World) (hb : Below w.heap.size w w') => by have h := isOne_any _ d K w' (HB.out w' hb); rw [decide_eq_false h1] at h; exact h)
    obtain ⟨g, hg⟩ : ∃ g : Int, g = (Int.gcd (z.natAbs : Int) d : Int) := ⟨_, rfl⟩
    have hg0 : 0 < g := by rw [hg]; have := Int.gcd_pos_of_ne_zero_right (z.natAbs : Int) (show d ≠ 0 by omega); omega
    obtain ⟨qn, hqn⟩ : ∃ qn, qn = (z.natAbs : Int) / g := ⟨_, rfl⟩
    obtain ⟨qd, hqd⟩ : ∃ qd, qd = d / g := ⟨_, rfl⟩
    have HE : Hid (lowN z d = sgn sb qn ∧ lowD z d = qd) := hid (by rw [Hsb.out, hqn, hqd, hg]; exact ⟨rfl, rfl⟩)
    have HG := hid hg; have HQN := hid hqn; have HQD := hid hqd
    clear h1 hg hqn hqd
    go_enter Tryz.func53, Tryz.ntmps53
    go_upto_region 1 with (fail)
    rw [← HW.out]
    obtain ⟨k0, k1, k2⟩ := HS.out _ (Below.refl _ _)
    go_wp2_with fail
    go_quiet (fail)
    have hq : Below W0.heap.size W0 (W0.drewN nq) := below_drewN (Below.refl _ _) nq
    have hqw := HB0.out.trans (hq.mono (by have := Hz0.out; omega))
    clear k0 k1 k2
    go_wp2_with fail
    refine (HO.out _ hqw).mono ?_
    rintro e w1 ⟨rfl, h1⟩
    obtain rfl : W0.drewN nq = w1 := h1.symm
    go_wp2_with fail
    refine (gcd_any _ _ _ _ K _ (HA.out _ hqw) (HB.out _ hqw) hK).mono ?_
    rintro e wg ⟨vg, rfl, hvg, hbg⟩
    rw [← HG.out] at hvg
    have hqg := hqw.trans (hbg.mono hqw.size)
    go_wp2_with fail
    refine (divideBoth_any _ _ vg _ _ g K _ (HA.out _ hqg) (HB.out _ hqg) hvg hg0 hK).mono ?_
    rintro e wd ⟨_, _, rfl, hqn1, hqd1, hbd⟩
    rw [← HQN.out] at hqn1
    rw [← HQD.out] at hqd1
    obtain ⟨no1, nm1, nc1, rfl, HQ1⟩ := Nt.opened hqn1
    obtain ⟨do1, dm1, dc1, rfl, HQ2⟩ := Nt.opened hqd1
    have hX : Below W0.heap.size W0 wd := hq.trans ((hbg.mono hq.size).trans (hbd.mono (by have := hbg.size; have := hq.size; omega)))
    obtain ⟨k0, k1, k2⟩ := HS.out _ hX
    clear hqn1 hqd1 hvg hbg hbd hqg hqw hq
    go_wp2_with fail
    refine (signed_any sb _ qn K _ (HQ1.out _ (Below.refl _ _))).mono ?_
    rintro e w2 ⟨_, rfl, hv2, hb2⟩
    obtain ⟨b2, o2, m2, c2, rfl, H2, _, _⟩ := It.opened hv2
    have hB2 : Below W0.heap.size W0 w2 := hX.trans (hb2.mono hX.size)
    go_wp2_with fail
    refine (value_any _ _ _ _ (H2.out _ (Below.refl _ _)) (by omega)).mono ?_
    rintro e w3 ⟨_, rfl, ⟨_, rfl, hv3⟩, hb3⟩
    obtain ⟨o3, m3, c3, rfl, H3⟩ := FrW.opened hv3
    obtain ⟨zb, hzb⟩ : ∃ zb, zb = decide (sgn sb qn < 0) := ⟨_, rfl⟩
    rw [← hzb]
    have HZ := hid hzb
    clear hzb hv3 hv2
    have hB3 : Below W0.heap.size W0 w3 := hB2.trans (hb3.mono hB2.size)
    go_wp2_with fail
    refine (signed_any false _ qd K _ (HQ2.out _ (hb2.trans (hb3.mono hb2.size)))).mono ?_
    rintro e w4 ⟨_, rfl, hv4, hb4⟩
    obtain ⟨b4, o4, m4, c4, rfl, H4, _, _⟩ := It.opened hv4
    have hB4 : Below W0.heap.size W0 w4 := hB3.trans (hb4.mono hB3.size)
    go_wp2_with fail
    refine (value_any _ _ _ _ (H4.out _ (Below.refl _ _)) (by omega)).mono ?_
    rintro e w5 ⟨_, rfl, ⟨_, rfl, hv5⟩, hb5⟩
    obtain ⟨o5, m5, c5, rfl, H5⟩ := FrW.opened hv5
    obtain ⟨yb, hyb⟩ : ∃ yb, yb = decide (sgn false qd < 0) := ⟨_, rfl⟩
    rw [← hyb]
    have HY := hid hyb
    clear hyb hv5 hv4
    have hB5 : Below W0.heap.size W0 w5 := hB4.trans (hb5.mono hB4.size)
    obtain ⟨⟨hr0, hr1, hr2, hr3⟩, hf0, hf1, hf2, hf3⟩ := HT.out _ hB5
    go_wp2
    have hw0 := Hz0.out
    have hbel : Below w.heap.size w w5 := HB0.out.trans (hB5.mono (by omega))
    have h35 := FrW.below H3.out (hb4.trans (hb5.mono hb4.size)) (Nat.le_refl _)
    refine bodyPost_ret (v := .agg #[.bool zb, .slice o3 m3 c3, .bool yb, .slice o5 m5 c5]) (by simp [results, Tryz.results53, go_sem, hr0, hr1, hr2, hr3]) rfl ⟨_, rfl, ?_, (((hbel.setCell (by simp) _).setCell (by simp) _).setCell (by simp) _).setCell (by simp) _⟩
    rw [HE.out.1, HE.out.2, HZ.out, HY.out]
    have hs3 := hB3.size; have hs4 := hB4.size; have hs2 := hB2.size
    exact ⟨_, _, _, _, rfl, ⟨_, rfl, ((((h35.set (by simp; omega) _).set (by simp; omega) _).set (by simp; omega) _).set (by simp; omega) _).base (by omega)⟩, ⟨_, rfl, by rw [← (show sgn false qd = qd by simp [sgn])]; exact ((((H5.out.set (by simp; omega) _).set (by simp; omega) _).set (by simp; omega) _).set (by simp; omega) _).base (by omega)⟩⟩
end Go.Proofs.YtbapeilpkhbbeaaGreat

/- exact: divided and whole: fractions of integers. -/
namespace Go.Proofs.YtbapeilpkhbbeaaGreat
open Go.RowKit

theorem nt_keeps {n : Int} {K : Nat} {w w' : World} {v : Value} (hk : Keeps .u64 w w') (h : Nt w v n K) : Nt w' v n K := by
  obtain ⟨ao, c, L, rfl, h⟩ := h
  exact ⟨ao, c, L, rfl, h.rd.keeps hk, h.dig, h.nrm, h.eq, h.le⟩

set_option maxRecDepth 100000 in
set_option maxHeartbeats 800000 in
theorem divided_any (u v : Value) (x y : Int) (K : Nat) (w : World) (hu : It w u x K) (hv : It w v y K) :
    Calls Tryz.prog 94 #[u, v] w fun e w' => ∃ f, e = .returned f ∧ Ft w' f (sgn (decide (x < 0) != decide (y < 0)) (x.natAbs : Int)) (y.natAbs : Int) K ∧ Below w.heap.size w w' := by
  obtain ⟨xb, xo, xm, xc, rfl, Hx, Hxs, Hxb⟩ := It.opened hu
  obtain ⟨yb, yo, ym, yc, rfl, Hy, Hys, Hyb⟩ := It.opened hv
  rw [← Hxb.out, ← Hyb.out]
  clear hu hv
  obtain ⟨W0, hW0⟩ : ∃ W0, W0 = (((w.alloc (.cells #[.bool xb, .slice xo xm xc] 78)).alloc (.cells #[.bool yb, .slice yo ym yc] 78)).alloc (.cells #[.bool false, .slice none 0 0, .slice none 0 0] 80)) := ⟨_, rfl⟩
  have hB0 : Below w.heap.size w W0 := by rw [hW0]; exact (((Below.refl _ _).alloc (Nat.le_refl _) _).alloc (by simp) _).alloc (by simp <;> omega) _
  have hz0 : W0.heap.size = w.heap.size + 3 := by rw [hW0]; simp
  have HS : Hid (∀ w', Below (w.heap.size + 2) W0 w' → w'.cell? ⟨w.heap.size, 0, none⟩ = some (.bool xb) ∧ w'.cell? ⟨w.heap.size, 1, none⟩ = some (.slice xo xm xc) ∧ w'.cell? ⟨w.heap.size + 1, 0, none⟩ = some (.bool yb) ∧ w'.cell? ⟨w.heap.size + 1, 1, none⟩ = some (.slice yo ym yc)) := hid (fun w' hb => by
    refine ⟨?_, ?_, ?_, ?_⟩ <;> (rw [hb.cell (by simp <;> omega), hW0]; simp [go_sem]))
  have HT : Hid (∀ w', Below (w.heap.size + 3) W0 w' → (w'.cell? ⟨w.heap.size + 2, 0, none⟩ = some (.bool false) ∧ w'.cell? ⟨w.heap.size + 2, 1, none⟩ = some (.slice none 0 0) ∧ w'.cell? ⟨w.heap.size + 2, 2, none⟩ = some (.slice none 0 0)) ∧ (w'.frozen? ⟨w.heap.size + 2, 0, none⟩ = false ∧ w'.frozen? ⟨w.heap.size + 2, 1, none⟩ = false ∧ w'.frozen? ⟨w.heap.size + 2, 2, none⟩ = false)) := hid (fun w' hb => by
    refine ⟨⟨?_, ?_, ?_⟩, ?_, ?_, ?_⟩ <;> (first | (rw [hb.cell (by simp <;> omega), hW0]; simp [go_sem]; done) | (rw [hb.frozen (by simp <;> omega), hW0]; simp [go_sem]; done)))
  have HB0 := hid hB0; have Hz0 := hid hz0; have HW := hid hW0
  clear hW0
  go_enter Tryz.func94, Tryz.ntmps94
  go_upto_region 1 with (fail)
  rw [← HW.out]
  obtain ⟨k0, k1, k2, k3⟩ := HS.out _ (Below.refl _ _)
  clear k0 k1 k2 k3
  go_region_held3 (fun w' => w'.cell? ⟨w.heap.size, 0, none⟩ = some (.bool xb) ∧ w'.cell? ⟨w.heap.size, 1, none⟩ = some (.slice xo xm xc) ∧ w'.cell? ⟨w.heap.size + 1, 0, none⟩ = some (.bool yb) ∧ w'.cell? ⟨w.heap.size + 1, 1, none⟩ = some (.slice yo ym yc)) ((refine HS.out _ ?_; repeat (first | assumption | exact Below.refl _ _ | exact (Below.refl _ _).drew | exact Below.drew (by assumption) | (refine Below.setCell ?_ (by simp) _)))) (first
    | (go_at_call 82; refine (signed_any (xb != yb) _ _ K _ (Hxs.out _ hB0.drew)).mono ?_; rintro e w2 ⟨_, rfl, hv2, hb2⟩; obtain ⟨b2, o2, m2, c2, rfl, H2, H2s, H2b⟩ := It.opened hv2; have hB2 : Below (w.heap.size + 3) W0 w2 := ((Below.refl _ _).drew).trans (hb2.mono (by simp; omega)); have hB2s : Below (w.heap.size + 2) W0 w2 := hB2.mono (by omega); obtain ⟨⟨hr0, hr1, hr2⟩, hf0, hf1, hf2⟩ := HT.out _ hB2))
  go_wp2
  have hbel : Below w.heap.size w w2 := hB0.trans (hB2.mono (by omega))
  refine bodyPost_ret (v := .agg #[.bool b2, .slice o2 m2 c2, .slice yo ym yc]) (by simp [results, Tryz.results94, go_sem, hr0, hr1, hr2]) rfl ⟨_, rfl, ?_, ((hbel.setCell (by simp <;> omega) _).setCell (by simp <;> omega) _).setCell (by simp <;> omega) _⟩
  refine ⟨.slice o2 m2 c2, .slice yo ym yc, by rw [H2b.out], ?_, ?_⟩
  · exact nt_keeps (((((Keeps.refl _ _).setCell (u := .bool false) hr0 (fun x h => (by cases h)) _).setCell (u := .slice none 0 0) (by simp [go_sem, hr1]) (fun x h => (by cases h)) _).setCell (u := .slice none 0 0) (by simp [go_sem, hr2]) (fun x h => (by cases h)) _)) (H2s.out _ (Below.refl _ _))
  · exact nt_keeps (((((Keeps.refl _ _).setCell (u := .bool false) hr0 (fun x h => (by cases h)) _).setCell (u := .slice none 0 0) (by simp [go_sem, hr1]) (fun x h => (by cases h)) _).setCell (u := .slice none 0 0) (by simp [go_sem, hr2]) (fun x h => (by cases h)) _)) (Hys.out _ hbel)

set_option maxRecDepth 100000 in
set_option maxHeartbeats 800000 in
theorem whole_any (u : Value) (x : Int) (K : Nat) (w : World) (hu : It w u x K) (hK : 1 ≤ K) :
    Calls Tryz.prog 92 #[u] w fun e w' => ∃ f, e = .returned f ∧ Ft w' f x 1 K ∧ Below w.heap.size w w' := by
  obtain ⟨xb, xo, xm, xc, rfl, Hx, Hxs, Hxb⟩ := It.opened hu
  clear hu
  obtain ⟨W0, hW0⟩ : ∃ W0, W0 = ((w.alloc (.cells #[.bool xb, .slice xo xm xc] 78)).alloc (.cells #[.bool false, .slice none 0 0, .slice none 0 0] 80)) := ⟨_, rfl⟩
  have hB0 : Below w.heap.size w W0 := by rw [hW0]; exact ((Below.refl _ _).alloc (Nat.le_refl _) _).alloc (by simp) _
  have hz0 : W0.heap.size = w.heap.size + 2 := by rw [hW0]; simp
  have HS : Hid (∀ w', Below (w.heap.size + 1) W0 w' → w'.cell? ⟨w.heap.size, 0, none⟩ = some (.bool xb) ∧ w'.cell? ⟨w.heap.size, 1, none⟩ = some (.slice xo xm xc)) := hid (fun w' hb => by
    refine ⟨?_, ?_⟩ <;> (rw [hb.cell (by simp <;> omega), hW0]; simp [go_sem]))
  have HT : Hid (∀ w', Below (w.heap.size + 2) W0 w' → (w'.cell? ⟨w.heap.size + 1, 0, none⟩ = some (.bool false) ∧ w'.cell? ⟨w.heap.size + 1, 1, none⟩ = some (.slice none 0 0) ∧ w'.cell? ⟨w.heap.size + 1, 2, none⟩ = some (.slice none 0 0)) ∧ (w'.frozen? ⟨w.heap.size + 1, 0, none⟩ = false ∧ w'.frozen? ⟨w.heap.size + 1, 1, none⟩ = false ∧ w'.frozen? ⟨w.heap.size + 1, 2, none⟩ = false)) := hid (fun w' hb => by
    refine ⟨⟨?_, ?_, ?_⟩, ?_, ?_, ?_⟩ <;> (first | (rw [hb.cell (by simp <;> omega), hW0]; simp [go_sem]; done) | (rw [hb.frozen (by simp <;> omega), hW0]; simp [go_sem]; done)))
  have HB0 := hid hB0; have Hz0 := hid hz0; have HW := hid hW0
  clear hW0
  go_enter Tryz.func92, Tryz.ntmps92
  go_upto_region 1 with (fail)
  rw [← HW.out]
  obtain ⟨k0, k1⟩ := HS.out _ (Below.refl _ _)
  obtain ⟨⟨hr0, hr1, hr2⟩, hf0, hf1, hf2⟩ := HT.out _ (Below.refl _ _)
  go_wp2
  obtain ⟨W1, hW1⟩ : ∃ W1, W1 = (((W0.setCell ⟨w.heap.size + 1, 0, none⟩ (.bool xb)).setCell ⟨w.heap.size + 1, 1, none⟩ (.slice xo xm xc)).setCell ⟨w.heap.size + 1, 2, none⟩ (.slice (some ⟨w.heap.size + 2, 0, none⟩) 1 1)) := ⟨_, rfl⟩
  have hk : Keeps .u64 W0 W1 := by rw [hW1]; exact (((((Keeps.refl _ _).setCell (u := .bool false) hr0 (fun x h => (by cases h)) _).setCell (u := .slice none 0 0) (by simp [go_sem, hr1]) (fun x h => (by cases h)) _).setCell (u := .slice none 0 0) (by simp [go_sem, hr2]) (fun x h => (by cases h)) _))
  have hz1 : W1.heap.size = w.heap.size + 2 := by rw [hW1]; simp; omega
  have hb1 : Below w.heap.size w W1 := by rw [hW1]; exact ((hB0.setCell (by simp <;> omega) _).setCell (by simp <;> omega) _).setCell (by simp <;> omega) _
  have hc0 : W1.cell? ⟨w.heap.size + 1, 0, none⟩ = some (.bool xb) := by rw [hW1]; simp [go_sem, hr0]
  have hc1 : W1.cell? ⟨w.heap.size + 1, 1, none⟩ = some (.slice xo xm xc) := by rw [hW1]; simp [go_sem, hr1]
  have hc2 : W1.cell? ⟨w.heap.size + 1, 2, none⟩ = some (.slice (some ⟨w.heap.size + 2, 0, none⟩) 1 1) := by rw [hW1]; simp [go_sem, hr2]
  rw [← hW1]
  have hal : Below W1.heap.size W1 (W1.alloc (.cells #[.int .u64 1] 106 (0, 0))) := (Below.refl _ _).alloc (Nat.le_refl _) _
  have hd0 := (hal.cell (p := ⟨w.heap.size + 1, 0, none⟩) (by simp; omega)).trans hc0
  have hd1 := (hal.cell (p := ⟨w.heap.size + 1, 1, none⟩) (by simp; omega)).trans hc1
  have hd2 := (hal.cell (p := ⟨w.heap.size + 1, 2, none⟩) (by simp; omega)).trans hc2
  refine bodyPost_ret (v := .agg #[.bool xb, .slice xo xm xc, .slice (some ⟨w.heap.size + 2, 0, none⟩) 1 1]) (by simp [results, Tryz.results92, go_sem, hd0, hd1, hd2]) rfl ⟨_, rfl, ?_, hb1.alloc (by omega) _⟩
  refine ⟨.slice xo xm xc, .slice (some ⟨w.heap.size + 2, 0, none⟩) 1 1, by rw [Hxb.out], ?_, ?_⟩
  · exact (nt_keeps hk (Hxs.out _ hB0)).below hal (Nat.le_refl _)
  · have h1 := (one_row W1).mono hK
    rw [hz1] at h1
    exact h1
end Go.Proofs.YtbapeilpkhbbeaaGreat

/- exact.Sign, exact.Cmp. -/
namespace Go.Proofs.YtbapeilpkhbbeaaGreat
open Go.RowKit

theorem Nt.zero {w : World} {ao : Option Addr} {m c : Nat} {n : Int} {K : Nat} (h : Nt w (.slice ao m c) n K) : m = 0 ↔ n = 0 := by
  obtain ⟨ao, c, L, e, h⟩ := h
  cases e
  exact h.zero_iff

set_option maxHeartbeats 1000000 in
theorem sign_any (v : Value) (z : Int) (K : Nat) (w : World) (h : It w v z K) :
    Calls Tryz.prog 61 #[v] w fun e w' => e = .returned (.int .i64 (cmpI z 0)) ∧ Below w.heap.size w w' := by
  obtain ⟨xb, xo, xm, xc, rfl, Hx, Hxs, Hxb⟩ := It.opened h
  have hz := (Hxs.out w (Below.refl _ _)).zero
  by_cases h0 : z = 0
  · obtain rfl : xm = 0 := hz.2 (by omega)
    have e : cmpI z 0 = 0 := by rw [h0]; rfl
    rw [e]
    clear hz h h0 e
    go_enter Tryz.func61, Tryz.ntmps61
    go_wp2
    go_ret
    exact ⟨rfl, (Below.refl _ _).alloc (Nat.le_refl _) _⟩
  · have hm : ((xm : Int) == 0) = false := by rw [beq_eq_false_iff_ne]; have := hz.1; omega
    by_cases h1 : z < 0
    · obtain rfl : xb = true := by rw [Hxb.out]; exact decide_eq_true h1
      rw [cmpI_lt h1]
      clear hz h h0 h1
      go_enter Tryz.func61, Tryz.ntmps61
      go_wp2
      go_ret
      exact ⟨rfl, (Below.refl _ _).alloc (Nat.le_refl _) _⟩
    · obtain rfl : xb = false := by rw [Hxb.out]; exact decide_eq_false h1
      rw [cmpI_gt (show 0 < z by omega)]
      clear hz h h0 h1
      go_enter Tryz.func61, Tryz.ntmps61
      go_wp2
      go_ret
      exact ⟨rfl, (Below.refl _ _).alloc (Nat.le_refl _) _⟩

theorem cmpI_bd (a b : Int) : -1 ≤ cmpI a b ∧ cmpI a b ≤ 1 := by unfold cmpI; split <;> (try split) <;> decide

end Go.Proofs.YtbapeilpkhbbeaaGreat

/- exact.Make: the ratio of two integers in lowest terms, or ErrZero. -/
namespace Go.Proofs.YtbapeilpkhbbeaaGreat
open Go.RowKit

/-- Cells below B that lie in another block than g are as they were. -/
structure Kp (B g : Nat) (w w' : World) : Prop where
  cell : ∀ a : Addr, a.block < B → a.block ≠ g → w'.cell? a = w.cell? a
theorem Kp.of_below {B g : Nat} {w w' : World} (h : Below B w w') : Kp B g w w' := ⟨fun _ ha _ => h.cell ha⟩
theorem Kp.set {B g : Nat} {w w' : World} (h : Kp B g w w') {a : Addr} (ha : a.block = g) (u : Value) : Kp B g w (w'.setCell a u) := by
  refine ⟨fun p hp hne => ?_⟩
  rw [World.cell?_setCell_other w' a p u (by rintro rfl; exact hne ha)]
  exact h.cell p hp hne
theorem FrA.opened {w0 w : World} {v : Value} {z : Int} {K : Nat} (h : FrA w0 w v z K) : ∃ b ao m c, v = .agg #[.bool b, .slice ao m c] ∧ Hid (FrA w0 w (.agg #[.bool b, .slice ao m c]) z K) := by
  obtain ⟨s, rfl, h⟩ := h
  obtain ⟨ao, m, c, rfl, H⟩ := FrW.opened h
  exact ⟨_, ao, m, c, rfl, hid ⟨_, rfl, H.out⟩⟩
theorem FrA.base {w0 w1 w : World} {v : Value} {z : Int} {K : Nat} (h : FrA w1 w v z K) (hb : w0.heap.size ≤ w1.heap.size) : FrA w0 w v z K := by
  obtain ⟨s, rfl, h⟩ := h
  exact ⟨s, rfl, h.base hb⟩
theorem FrR.opened {w0 w : World} {v : Value} {x y : Int} {K : Nat} (h : FrR w0 w v x y K) : ∃ b1 o1 m1 c1 b2 o2 m2 c2, v = .agg #[.bool b1, .slice o1 m1 c1, .bool b2, .slice o2 m2 c2] ∧ Hid (FrA w0 w (.agg #[.bool b1, .slice o1 m1 c1]) x K) ∧ Hid (FrA w0 w (.agg #[.bool b2, .slice o2 m2 c2]) y K) := by
  obtain ⟨_, _, _, _, rfl, h1, h2⟩ := h
  obtain ⟨b1, o1, m1, c1, e1, H1⟩ := FrA.opened h1
  obtain ⟨b2, o2, m2, c2, e2, H2⟩ := FrA.opened h2
  injection e1 with e1
  injection e2 with e2
  simp at e1 e2
  obtain ⟨rfl, rfl⟩ := e1
  obtain ⟨rfl, rfl⟩ := e2
  exact ⟨b1, o1, m1, c1, b2, o2, m2, c2, rfl, H1, H2⟩

end Go.Proofs.YtbapeilpkhbbeaaGreat

/- exact.Make where the divisor is 0; exact.Whole. -/
namespace Go.Proofs.YtbapeilpkhbbeaaGreat
open Go.RowKit

end Go.Proofs.YtbapeilpkhbbeaaGreat

/- The document's own integers: cut, digit, order. Digits to the base 65536, the lowest first. -/
namespace Go.Proofs.YtbapeilpkhbbeaaGreat
open Go.RowKit

def R16 : Int := 65536
theorem R16_pos : 0 < R16 := by decide

set_option maxHeartbeats 400000 in
theorem cut_any (ao : Option Addr) (c : Nat) (L : List Int) (w : World) (h : Rd w .i64 ao c L) :
    Calls Tryz.prog 115 #[.slice ao L.length c] w fun e w' => e = .returned (.slice ao (trimL L).length c) ∧ w' = w := by
  obtain ⟨n, hn⟩ : ∃ n, n = L.length := ⟨_, rfl⟩
  have hc := h.cap; have hm := h.most
  rw [← hn] at hc ⊢
  have Hn := hid hn; clear hn
  go_enter Tryz.func115, Tryz.ntmps115
  go_wp2
  go_loop [3] (fun v => ∃ m : Nat, m ≤ n ∧ v = .int .i64 m ∧ Hid (trimL (L.take m) = trimL L)) (fun v => (intOf v).toNat)
  case atStart => exact ⟨n, Nat.le_refl _, rfl, hid (by rw [Hn.out, List.take_length])⟩
  case round =>
    obtain ⟨m, hmn, rfl, HT⟩ := hrel
    cases m with
    | zero =>
      go_wp2
      go_ret
      exact ⟨by rw [trimL_stop L HT.out]; rfl, rfl⟩
    | succ m =>
      obtain ⟨b, off, rfl⟩ := h.adr (by have := Hn.out; omega)
      have hcell := h.cell b off rfl m (by have := Hn.out; omega)
      by_cases hz : L[m]?.getD 0 = 0
      · have HZ := hid hz
        rw [hz] at hcell
        clear hz
        go_wp2
        go_round
        case rel => exact ⟨m, by omega, by go_num, hid (trimL_step0 L m (by have := Hn.out; omega) HT.out HZ.out)⟩
        case measure => simp [intOf]
      · have HZ := hid hz
        go_wp2
        go_ret
        exact ⟨by rw [trimL_step1 L m (by have := Hn.out; omega) HT.out HZ.out]; rfl, rfl⟩

theorem digit_any (ao : Option Addr) (c i : Nat) (L : List Int) (w : World) (h : Rd w .i64 ao c L) (hi : i ≤ 9223372036854775807) :
    Calls Tryz.prog 101 #[.slice ao L.length c, .int .i64 (i : Int)] w fun e w' => e = .returned (.int .i64 (L[i]?.getD 0)) ∧ w' = w := by
  obtain ⟨n, hn⟩ : ∃ n, n = L.length := ⟨_, rfl⟩
  have hc := h.cap; have hm := h.most
  rw [← hn] at hc ⊢
  by_cases hlt : i < n
  · obtain ⟨b, off, rfl⟩ := h.adr (by omega)
    have hcell := h.cell b off rfl i (by omega)
    clear h hn
    go_enter Tryz.func101, Tryz.ntmps101
    go_wp2
    go_ret
    exact ⟨rfl, rfl⟩
  · have e : L[i]?.getD 0 = 0 := by simp [show L.length ≤ i by omega]
    rw [e]
    have hge : ¬ (i : Int) < (n : Int) := by omega
    clear h hn e
    go_enter Tryz.func101, Tryz.ntmps101
    go_wp2
    go_ret
    exact ⟨rfl, rfl⟩

/-- A list with zeros behind it, up to a length. -/
def pad (L : List Int) (N : Nat) : List Int := L ++ List.replicate (N - L.length) 0
theorem pad_len {L : List Int} {N : Nat} (h : L.length ≤ N) : (pad L N).length = N := by unfold pad; simp; omega
theorem pad_get (L : List Int) (N i : Nat) : (pad L N)[i]?.getD 0 = L[i]?.getD 0 := by
  unfold pad
  by_cases h : i < L.length
  · rw [List.getElem?_append_left h]
  · rw [List.getElem?_append_right (by omega)]
    have e : L[i]?.getD 0 = 0 := by simp [Nat.le_of_not_lt h]
    rw [e]
    by_cases h2 : i - L.length < N - L.length
    · simp [h2]
    · simp [h2]
theorem val_rep0 (B : Int) (n : Nat) : val B (List.replicate n 0) = 0 := by
  induction n with
  | zero => rfl
  | succ n ih => simp [List.replicate_succ, val, ih]
theorem pad_val (B : Int) (L : List Int) (N : Nat) : val B (pad L N) = val B L := by unfold pad; rw [val_append, val_rep0]; simp
theorem pad_dig {B : Int} (hB : 0 < B) {L : List Int} (h : Dig B L) (N : Nat) : Dig B (pad L N) := h.append (fun x hx => by rw [(List.mem_replicate.1 hx).2]; exact ⟨Int.le_refl 0, hB⟩)

set_option maxRecDepth 100000 in
set_option maxHeartbeats 1000000 in
theorem order_any (ao bo : Option Addr) (ca cb : Nat) (L M : List Int) (w : World) (hL : Rd w .i64 ao ca L) (hM : Rd w .i64 bo cb M) (dL : Dig R16 L) (dM : Dig R16 M) :
    Calls Tryz.prog 103 #[.slice ao L.length ca, .slice bo M.length cb] w fun e w' => e = .returned (.int .i64 (cmpI (val R16 L) (val R16 M))) ∧ w' = w := by
  obtain ⟨n, hn⟩ : ∃ n, n = L.length := ⟨_, rfl⟩
  obtain ⟨m, hm⟩ : ∃ m, m = M.length := ⟨_, rfl⟩
  obtain ⟨N, hN⟩ : ∃ N, N = max n m := ⟨_, rfl⟩
  have hnN : n ≤ N := by omega
  have hmN : m ≤ N := by omega
  have hN62 : N ≤ 9223372036854775807 := by have := hL.cap; have := hL.most; have := hM.cap; have := hM.most; omega
  have hNi : max (n : Int) (m : Int) = (N : Int) := by omega
  have hdl := fun (i : Nat) (hi : i ≤ 9223372036854775807) => digit_any ao ca i L w hL hi
  have hdm := fun (i : Nat) (hi : i ≤ 9223372036854775807) => digit_any bo cb i M w hM hi
  have lP := pad_len (L := L) (N := N) (by omega)
  have lQ := pad_len (L := M) (N := N) (by omega)
  rw [← hn] at hdl ⊢; rw [← hm] at hdm ⊢
  have HDl := hid hdl; have HDm := hid hdm; have HP := hid lP; have HQ := hid lQ; have DL := hid dL; have DM := hid dM
  clear hdl hdm lP lQ hL hM dL dM hn hm hNi
  go_enter Tryz.func103, Tryz.ntmps103
  go_wp2
  all_goals
    go_loop [5] (fun iv => ∃ k : Nat, k ≤ N ∧ iv = .int .i64 ((k : Int) - 1) ∧ Hid ((pad L N).drop k = (pad M N).drop k)) (fun iv => (intOf iv + 1).toNat)
    case atStart => exact ⟨N, Nat.le_refl _, by congr 1; omega, hid (by rw [List.drop_of_length_le (by rw [HP.out]; exact Nat.le_refl _), List.drop_of_length_le (by rw [HQ.out]; exact Nat.le_refl _)])⟩
    case round =>
      obtain ⟨k, hk, rfl, HD⟩ := hrel
      cases k with
      | zero =>
        have he : cmpI (val R16 L) (val R16 M) = 0 := by
          have h := HD.out
          simp only [List.drop_zero] at h
          rw [← pad_val R16 L N, ← pad_val R16 M N, h]; exact cmpI_self _
        have HE := hid he; clear he
        go_wp2
        go_ret
        exact ⟨by rw [HE.out]; rfl, rfl⟩
      | succ k =>
        have hk0 : (0 : Int) ≤ (k : Int) := by omega
        have h1 := HDl.out k (by omega); have h2 := HDm.out k (by omega)
        have hst := fun h => drop_step (pad L N) (pad M N) k (by have := HP.out; omega) (by have := HQ.out; omega) HD.out h
        have htp := fun h => cmp_top R16_pos (pad_dig R16_pos DL.out N) (pad_dig R16_pos DM.out N) (show k < (pad L N).length by have := HP.out; omega) (show k < (pad M N).length by have := HQ.out; omega) HD.out h
        simp only [pad_get, pad_val] at hst htp
        obtain ⟨x, hx⟩ : ∃ x, x = L[k]?.getD 0 := ⟨_, rfl⟩
        obtain ⟨y, hy⟩ : ∃ y, y = M[k]?.getD 0 := ⟨_, rfl⟩
        rw [← hx] at h1 hst htp; rw [← hy] at h2 hst htp
        have H1 := hid h1; have H2 := hid h2; have HSt := hid hst; have HTp := hid htp
        clear h1 h2 hst htp hx hy HD
        go_wp2_with fail
        refine H1.out.mono ?_
        rintro e w1 ⟨rfl, rfl⟩
        go_wp2_with fail
        refine H2.out.mono ?_
        rintro e w2 ⟨rfl, rfl⟩
        rcases Int.lt_trichotomy x y with hxy | hxy | hxy
        · have HC := hid ((HTp.out (by omega)).trans (cmpI_lt hxy))
          go_wp2
          go_ret
          exact ⟨by rw [HC.out]; rfl, rfl⟩
        · subst hxy
          have HD' := hid (HSt.out rfl)
          go_wp2
          go_round
          case rel => exact ⟨k, by omega, by go_num, HD'⟩
          case measure => simp [intOf]
        · have HC := hid ((HTp.out (by omega)).trans (cmpI_gt hxy))
          have hnl : ¬ x < y := by omega
          go_wp2
          go_ret
          exact ⟨by rw [HC.out]; rfl, rfl⟩

end Go.Proofs.YtbapeilpkhbbeaaGreat
