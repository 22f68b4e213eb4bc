/- exact.ParseRatio of any text, with the value beside an error. -/
import Derived.Test.YtbapeilpkhbbeaaGreatDoorYn33
/- exact.ParseRatio of any text, with the value beside an error. -/
namespace Go.Proofs.YtbapeilpkhbbeaaGreatDoor
open Go.RowKit

/-- What ParseRatio hands back. -/
def RetPRz (l : List UInt8) (K : Nat) (w : World) (e : Ending) (w' : World) : Prop :=
  ∃ b1 o1 m1 c1 b2 o2 m2 c2, e = .returned (.tuple #[.agg #[.bool b1, .slice o1 m1 c1, .bool b2, .slice o2 m2 c2], .int .i64 (prfE l)]) ∧ (prfE l = 0 → FrR w w' (.agg #[.bool b1, .slice o1 m1 c1, .bool b2, .slice o2 m2 c2]) (lowN (prfN l) (prfD l)) (lowD (prfN l) (prfD l)) K) ∧ (prfE l ≠ 0 → b1 = false ∧ o1 = none ∧ m1 = 0 ∧ c1 = 0 ∧ b2 = false ∧ o2 = none ∧ m2 = 0 ∧ c2 = 0) ∧ Below w.heap.size w w'

set_option maxRecDepth 100000 in
set_option maxHeartbeats 1000000 in
theorem ParseRatioZ_any (l : List UInt8) (hl : l.length ≤ 100000) (w : World) (hm : Mx w) :
    Calls Tryz.prog 9 #[.string ⟨l.toArray⟩] w (RetPRz l (2 * (l.length + 6)) w) := by
  have HF := hid (fun w' (h : Mx w') => parseFraction_any l hl w' h)
  obtain ⟨K, hK⟩ : ∃ K, K = l.length + 6 := ⟨_, rfl⟩
  rw [← hK] at HF ⊢
  have HK := hid (show K ≤ 200000 by omega)
  have HM := hid hm
  have Hpos := hid (fun h : prfB l = true => prf_pos h)
  clear hK hl hm
  go_enter Tryz.func9, Tryz.ntmps9
  obtain ⟨W0, hW0⟩ : ∃ W0, W0 = w.alloc (.cells #[.bool false, .slice none 0 0, .bool false, .slice none 0 0] 26) := ⟨_, rfl⟩
  have hB0 : Below w.heap.size w W0 := by rw [hW0]; exact (Below.refl _ _).alloc (Nat.le_refl _) _
  have hz0 : W0.heap.size = w.heap.size + 1 := by rw [hW0]; simp
  have HT : Hid (∀ w', Below W0.heap.size W0 w' → (w'.cell? ⟨w.heap.size, 0, none⟩ = some (.bool false) ∧ w'.cell? ⟨w.heap.size, 1, none⟩ = some (.slice none 0 0) ∧ w'.cell? ⟨w.heap.size, 2, none⟩ = some (.bool false) ∧ w'.cell? ⟨w.heap.size, 3, none⟩ = some (.slice none 0 0)) ∧ w'.frozen? ⟨w.heap.size, 0, none⟩ = false ∧ w'.frozen? ⟨w.heap.size, 1, none⟩ = false ∧ w'.frozen? ⟨w.heap.size, 2, none⟩ = false ∧ w'.frozen? ⟨w.heap.size, 3, none⟩ = false) := hid (fun w' hb => by
    refine ⟨⟨?_, ?_, ?_, ?_⟩, ?_, ?_, ?_, ?_⟩ <;> (first | (rw [hb.cell (by rw [hW0]; simp), hW0]; simp [go_sem]; done) | (rw [hb.frozen (by rw [hW0]; simp), hW0]; simp [go_sem]; done)))
  have HB0 := hid hB0; have HW := hid hW0; have Hz0 := hid hz0
  have HM0 := hid (HM.out.below hB0)
  clear hW0 hB0 hz0
  obtain ⟨E, hE⟩ : ∃ E, E = prfE l := ⟨_, rfl⟩
  have HE := hid hE
  have Hbad := hid (show ∀ (w' : World) (E0 : Int), E = E0 → E0 ≠ 0 → Below W0.heap.size W0 w' → RetPRz l (2 * K) w (.returned (.tuple #[.agg #[.bool false, .slice none 0 0, .bool false, .slice none 0 0], .int .i64 E0])) ((((w'.setCell ⟨w.heap.size, 0, none⟩ (.bool false)).setCell ⟨w.heap.size, 1, none⟩ (.slice none 0 0)).setCell ⟨w.heap.size, 2, none⟩ (.bool false)).setCell ⟨w.heap.size, 3, none⟩ (.slice none 0 0)) from fun w' E0 e1 e2 hb =>
    ⟨false, none, 0, 0, false, none, 0, 0, by rw [← e1, hE], (fun h => absurd (by rw [← e1, hE]; exact h) e2), (fun _ => ⟨rfl, rfl, rfl, rfl, rfl, rfl, rfl, rfl⟩), (((HB0.out.trans (hb.mono HB0.out.size)).setCell (p := ⟨w.heap.size, 0, none⟩) (Nat.le_refl _) _).setCell (p := ⟨w.heap.size, 1, none⟩) (Nat.le_refl _) _ |>.setCell (p := ⟨w.heap.size, 2, none⟩) (Nat.le_refl _) _ |>.setCell (p := ⟨w.heap.size, 3, none⟩) (Nat.le_refl _) _)⟩)
  by_cases hlong : 4096 < l.length
  · have hlI : 4096 < (l.length : Int) := by omega
    have HE3 := hid (show E = 3 by rw [hE]; unfold prfE; rw [if_pos hlong])
    clear hlong hE
    go_upto_region 1 with (fail)
    rw [← HW.out]
    obtain ⟨⟨k0, k1, k2, k3⟩, f0, f1, f2, f3⟩ := HT.out W0 (Below.refl _ _)
    go_wp2
    refine bodyPost_ret (v := .tuple #[.agg #[.bool false, .slice none 0 0, .bool false, .slice none 0 0], .int .i64 3]) (by simp [results, Tryz.results9, go_sem, k0, k1, k2, k3]) rfl (Hbad.out _ 3 HE3.out (by decide) (Below.refl _ _))
  · have hlI : ¬ 4096 < (l.length : Int) := by omega
    obtain ⟨b, hb⟩ : ∃ b, b = prfB l := ⟨_, rfl⟩
    have hEb : E = if b then 0 else 5 := by rw [hE, hb]; unfold prfE; rw [if_neg hlong]
    have HEB := hid hEb
    have HP2 := hid (fun h : b = true => Hpos.out (by rw [← hb]; exact h))
    have HF2 := hid (fun w' (h : Mx w') => show Calls Tryz.prog 32 #[.string ⟨l.toArray⟩] w' (RetPF b (prfN l) (prfD l) K w') by rw [hb]; exact HF.out w' h)
    obtain ⟨N, hN⟩ : ∃ N, N = prfN l := ⟨_, rfl⟩
    obtain ⟨D, hD⟩ : ∃ D, D = prfD l := ⟨_, rfl⟩
    rw [← hN, ← hD] at HF2
    rw [← hD] at HP2
    have HN := hid hN; have HD := hid hD
    clear hlong hE hEb hb HF Hpos hN hD
    go_upto_region 1 with (fail)
    rw [← HW.out]
    go_wp2_with fail
    refine (HF2.out _ HM0.out).mono ?_
    rintro e w2 ⟨v2, x, y, rfl, hf, he, hb2⟩
    obtain ⟨g5, o5, m5, c5, o6, m6, c6, rfl, HF1, _, _⟩ := Ft.opened hf
    have HX2 := hid hb2; have HEq := hid he; have HFt := hid hf
    clear hb2 he hf
    go_upto_region 4 with (fail)
    obtain ⟨W3, hW3⟩ : ∃ W3, W3 = w2.alloc (.cells #[.bool g5, .slice o5 m5 c5, .slice o6 m6 c6] 58) := ⟨_, rfl⟩
    have HA3 := hid (show Below w2.heap.size w2 W3 by rw [hW3]; exact (Below.refl _ _).alloc (Nat.le_refl _) _)
    have hq0 : W3.cell? ⟨w2.heap.size, 0, none⟩ = some (.bool g5) := by rw [hW3]; simp [go_sem]
    have hq1 : W3.cell? ⟨w2.heap.size, 1, none⟩ = some (.slice o5 m5 c5) := by rw [hW3]; simp [go_sem]
    have hq2 : W3.cell? ⟨w2.heap.size, 2, none⟩ = some (.slice o6 m6 c6) := by rw [hW3]; simp [go_sem]
    rw [← hW3]
    have HX3 := hid (show Below W0.heap.size W0 W3 from HX2.out.trans (HA3.out.mono HX2.out.size))
    clear hW3
    cases hbb : b with
    | false =>
      subst hbb
      have HE5 := hid (show E = 5 by rw [HEB.out]; rfl)
      clear HEB
      obtain ⟨⟨k0, k1, k2, k3⟩, f0, f1, f2, f3⟩ := HT.out W3 HX3.out
      go_wp2
      refine bodyPost_ret (v := .tuple #[.agg #[.bool false, .slice none 0 0, .bool false, .slice none 0 0], .int .i64 5]) (by simp [results, Tryz.results9, go_sem, k0, k1, k2, k3]) rfl (Hbad.out _ 5 HE5.out (by decide) HX3.out)
    | true =>
      subst hbb
      have HE0 := hid (show E = 0 by rw [HEB.out]; rfl)
      clear HEB
      obtain ⟨hx, hy⟩ := HEq.out rfl
      have HV := hid (fracValue_any _ x y K W3 (HFt.out.below HA3.out (Nat.le_refl _)) (by rw [hy]; exact HP2.out rfl) (by have := HK.out; omega))
      have HXY := hid (show x = N ∧ y = D from ⟨hx, hy⟩)
      clear hx hy
      go_wp2_with fail
      refine HV.out.mono ?_
      rintro e w4 ⟨v4, rfl, hv4, hb4⟩
      obtain ⟨z1, o7, m7, c7, z2, o8, m8, c8, rfl, H6, H7⟩ := FrR.opened hv4
      have HX4 := hid (show Below W0.heap.size W0 w4 from HX3.out.trans (hb4.mono HX3.out.size))
      have hlt : w.heap.size < W3.heap.size := by have := HX3.out.size; have := Hz0.out; omega
      obtain ⟨⟨k0, k1, k2, k3⟩, f0, f1, f2, f3⟩ := HT.out w4 HX4.out
      have Hlt := hid hlt
      clear hv4 hb4 hlt
      go_wp2
      refine bodyPost_ret (v := .tuple #[.agg #[.bool z1, .slice o7 m7 c7, .bool z2, .slice o8 m8 c8], .int .i64 0]) (by simp [results, Tryz.results9, go_sem, k0, k1, k2, k3]) rfl ⟨z1, o7, m7, c7, z2, o8, m8, c8, by rw [← HE.out, HE0.out], (fun _ => ?_), (fun h => absurd (HE.out.symm.trans HE0.out) h), (((HB0.out.trans (HX4.out.mono HB0.out.size)).setCell (p := ⟨w.heap.size, 0, none⟩) (Nat.le_refl _) _).setCell (p := ⟨w.heap.size, 1, none⟩) (Nat.le_refl _) _ |>.setCell (p := ⟨w.heap.size, 2, none⟩) (Nat.le_refl _) _ |>.setCell (p := ⟨w.heap.size, 3, none⟩) (Nat.le_refl _) _)⟩
      have hsz : w.heap.size ≤ W3.heap.size := Nat.le_of_lt Hlt.out
      rw [← HN.out, ← HD.out, ← HXY.out.1, ← HXY.out.2]
      refine ⟨_, _, _, _, rfl, ?_, ?_⟩
      · exact ((((H6.out.set Hlt.out _).set Hlt.out _).set Hlt.out _).set Hlt.out _).base hsz
      · exact ((((H7.out.set Hlt.out _).set Hlt.out _).set Hlt.out _).set Hlt.out _).base hsz
end Go.Proofs.YtbapeilpkhbbeaaGreatDoor
