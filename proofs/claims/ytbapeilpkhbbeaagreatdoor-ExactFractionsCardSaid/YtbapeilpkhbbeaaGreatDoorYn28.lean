/- exact.multiply at any factors (of 500,000 limbs together). Written by gen_mulany.py. exact.readRatio at any ratio; Signum; the negated fraction, and products. exact.parseQuotient of any two texts. (exact.integer).text and exact.Text of numbers closer to 0 than 100. Fractions: products, negation; exact.Times, exact.Minus. -/
import Derived.Test.YtbapeilpkhbbeaaGreatDoorYn27
import Derived.Deep.RegionHeld3
import Derived.Test.YtbapeilpkhbbeaaGreatDoorYn26
import Derived.Test.YtbapeilpkhbbeaaGreatDoorYn16
import Derived.Test.YtbapeilpkhbbeaaGreatDoorYn20
import Derived.Test.YtbapeilpkhbbeaaGreatDoorYn18
import Derived.Test.YtbapeilpkhbbeaaGreatDoorYn11
/- exact.multiply at any factors (of 500,000 limbs together). Written by gen_mulany.py. -/
namespace Go.Proofs.YtbapeilpkhbbeaaGreatDoor
open Go.RowKit

theorem OwnV.mono {w : World} {B : Nat} {v : Value} {n : Int} {K K' : Nat} (h : OwnV w B v n K) (hk : K ≤ K') : OwnV w B v n K' := by
  rcases h with ⟨g, c, L, S, e, h, hK⟩ | h
  · exact .inl ⟨g, c, L, S, e, h, Nat.le_trans hK hk⟩
  · exact .inr h
theorem RetOwn.mono {w : World} {n : Int} {K K' : Nat} {e : Ending} {w' : World} (h : RetOwn w n K e w') (hk : K ≤ K') : RetOwn w n K' e w' := by
  obtain ⟨v, h1, h2, h3⟩ := h
  exact ⟨v, h1, h2.mono hk, h3⟩
theorem prod_lt {a b : Int} {la lb : Nat} (a0 : 0 ≤ a) (a1 : a < B64 ^ la) (b1 : b < B64 ^ lb) : a * b < B64 ^ (la + lb) := by
  rw [Int.pow_add]
  have z1 : a * b ≤ a * B64 ^ lb := Int.mul_le_mul_of_nonneg_left (Int.le_of_lt b1) a0
  have z2 : a * B64 ^ lb < B64 ^ la * B64 ^ lb := Int.mul_lt_mul_of_pos_right a1 (Int.pow_pos B64_pos)
  omega

set_option maxRecDepth 100000 in
set_option maxHeartbeats 4000000 in
theorem mul_same (N : Nat) (IH : MulAt N) (xo yo : Option Addr) (xc yc lx ly : Nat) (LX LY : List Int) (x y : Int) (w : World) (hX : NtL w xo xc LX x lx) (hY : NtL w yo yc LY y ly) (hlx : LX.length = lx) (hly : LY.length = ly)
    (hyx : ly ≤ lx) (hN : lx + ly ≤ N) (hM : lx + ly ≤ 500000) :
    Calls Tryz.prog 53 #[.slice xo lx xc, .slice yo ly yc] w (RetOwn w (x * y) (lx + ly)) := by
  by_cases h80 : ly < 80
  · have hC := multiplyLimbs_own (.slice xo lx xc) (.slice yo ly yc) x y lx ly w ⟨xo, xc, LX, by rw [hlx], hX⟩ ⟨yo, yc, LY, by rw [hly], hY⟩ (by omega) (by omega)
    have HC := hid hC
    clear hX hY hlx hly hC IH
    go_enter Tryz.func53, Tryz.ntmps53
    go_wp2_with fail
    refine HC.out.mono ?_
    rintro e w' ⟨v, rfl, hv, hb⟩
    go_wp2
    go_ret
    exact ⟨v, rfl, hv, hb⟩
  · obtain ⟨t, hh⟩ : ∃ t, t = (lx + 1) / 2 := ⟨_, rfl⟩
    have e1 : ((lx : Int) + 1) / 2 = (t : Int) := by omega
    have e2 : ((lx : Int) + 1).tdiv 2 = (t : Int) := by rw [Int.tdiv_eq_ediv_of_nonneg (by omega)]; exact e1
    by_cases hyh : ly ≤ t
    · have hhl : t < lx := by omega
      obtain ⟨ab, aof, rfl⟩ := hX.rd.adr (by omega)
      have hcX := hX.rd.cap
      rw [hlx] at hcX
      obtain ⟨xl, hxl⟩ : ∃ xl, xl = val B64 (LX.take t) := ⟨_, rfl⟩
      obtain ⟨xh, hxh⟩ : ∃ xh, xh = val B64 (LX.drop t) := ⟨_, rfl⟩
      have ex : x = xl + B64 ^ t * xh := by rw [← hX.eq, val_parts LX t (by omega), hxl, hxh]
      have eres : xl * y + B64 ^ t * (xh * y) = x * y := by rw [ex]; grind
      have htX := fun (w' : World) (hb : Below w.heap.size w w') => trim64_any (some ⟨ab, aof, none⟩) xc (LX.take t) w' ((hX.rd.take t).below hb (Nat.le_refl _))
      have hlX : (LX.take t).length = t := by rw [List.length_take]; omega
      rw [hlX] at htX
      obtain ⟨ma, hma⟩ : ∃ ma, ma = (trimL (LX.take t)).length := ⟨_, rfl⟩
      have hmah : ma ≤ t := by have := trimL_len (LX.take t); omega
      rw [← hma] at htX
      have hNxl : ∀ w', Below w.heap.size w w' → Nt w' (.slice (some ⟨ab, aof, none⟩) ma xc) xl t := fun w' hb => ⟨_, xc, trimL (LX.take t), by rw [hma], by
        have := ((hX.rd.take t).take (trimL (LX.take t)).length).below hb (Nat.le_refl _)
        rw [← trimL_take] at this; exact this, (hX.dig.take t).trim, Nrm.trim _, by rw [val_trim, hxl], by rw [← hma]; exact hmah⟩
      have hNxh : ∀ w', Below w.heap.size w w' → Nt w' (.slice (some ⟨ab, aof + t, none⟩) (lx - t) (xc - t)) xh (lx - t) := fun w' hb => ⟨_, _, LX.drop t, by rw [List.length_drop, hlx], (hX.rd.drop t (by omega)).below hb (Nat.le_refl _), hX.dig.drop t, hX.nrm.drop t, hxh.symm, by rw [List.length_drop]; omega⟩
      have hNy : ∀ w', Below w.heap.size w w' → Nt w' (.slice yo ly yc) y ly := fun w' hb => ⟨yo, yc, LY, by rw [hly], hY.rd.below hb (Nat.le_refl _), hY.dig, hY.nrm, hY.eq, hY.le⟩
      have hfin : x * y < B64 ^ (lx + ly) := prod_lt hX.nonneg (by have := val_lt B64_pos hX.dig; rw [hX.eq, hlx] at this; exact this) (by have := val_lt B64_pos hY.dig; rw [hY.eq, hly] at this; exact this)
      have hM1 := fun (w' : World) (hb : Below w.heap.size w w') => IH _ _ xl y t ly w' (hNxl w' hb) (hNy w' hb) (by omega) (by omega)
      have hM2 := fun (w' : World) (hb : Below w.heap.size w w') => IH _ _ xh y (lx - t) ly w' (hNxh w' hb) (hNy w' hb) (by omega) (by omega)
      have HM1 := hid hM1; have HM2 := hid hM2
      clear hM1 hM2
      have HtX := hid htX; have HFin := hid hfin; have HRes := hid eres
      have hhc : t < xc := by omega
      have hh0 : (0 : Int) ≤ (t : Int) := by omega
      have hh5 : (t : Int) ≤ (lx : Int) := by omega
      have hh6 : (t : Int) ≤ (xc : Int) := by omega
      have hh8 : ¬ xc = t := by omega
      have hh9 : ¬ lx = t := by omega
      have hh7 : (lx : Int) ≤ (xc : Int) := by omega
      clear htX hNxl hNxh hNy hfin eres IH hX hY hlx hly hxl hxh ex hlX hma hN hh
      go_enter Tryz.func53, Tryz.ntmps53
      go_wp2
      go_region_held3 (fun _ => True) (trivial) (first
        | (go_at_call 96; refine (HtX.out _ (Below.refl _ _).drew).mono ?_; rintro e w1 ⟨rfl, rfl⟩)
        | (go_at_call_of 53 (ma); refine (HM1.out _ (Below.refl _ _).drew).mono ?_; rintro e w1 ⟨_, rfl, ho1, hb1⟩; obtain ⟨o1, m1, c1, rfl, H1⟩ := Nt.opened ho1.nt; have hB1 : Below w.heap.size w w1 := (Below.refl _ _).drew.trans hb1)
        | (go_at_call 53; refine (HM2.out _ hB1).mono ?_; rintro e w2 ⟨_, rfl, ho2, hb2⟩; obtain ⟨o2, m2, c2, rfl, H2⟩ := Nt.opened ho2.nt; have hB2 : Below w.heap.size w w2 := hB1.trans (hb2.mono hB1.size))
        | (go_at_call 95; refine (join_any _ _ _ _ _ _ t (lx + ly + t + 1) _ (H1.out _ hb2) (H2.out _ (Below.refl _ _)) (by omega) (by omega) (by omega)).mono ?_; rintro e w3 ⟨v3, rfl, ho3, hb3⟩; have hB3 : Below w.heap.size w w3 := hB2.trans (hb3.mono hB2.size)))
      rw [HRes.out] at ho3
      have Ho3 := hid ((ho3.base_le hB2.size).tight HFin.out)
      have HB3 := hid hB3
      clear ho3 hb3 hB3 ho1 ho2 hb1 hb2 hB1 hB2
      go_wp2
      go_ret
      exact ⟨_, rfl, Ho3.out, HB3.out⟩
    · have hC := halves_any N IH xo yo xc yc lx ly t LX LY x y w hX hY hlx hly hh (by omega) (by omega) (by omega) hN hM
      have HC := hid hC
      clear hX hY hlx hly hC IH hN hh
      go_enter Tryz.func53, Tryz.ntmps53
      go_wp2_with fail
      refine HC.out.mono ?_
      rintro e w' ⟨v, rfl, hv, hb⟩
      go_wp2
      go_ret
      exact ⟨v, rfl, hv, hb⟩

set_option maxRecDepth 100000 in
set_option maxHeartbeats 4000000 in
theorem mul_swap (N : Nat) (IH : MulAt N) (xo yo : Option Addr) (xc yc lx ly : Nat) (LX LY : List Int) (x y : Int) (w : World) (hX : NtL w xo xc LX x lx) (hY : NtL w yo yc LY y ly) (hlx : LX.length = lx) (hly : LY.length = ly)
    (hyx : ly < lx) (hN : lx + ly ≤ N) (hM : lx + ly ≤ 500000) :
    Calls Tryz.prog 53 #[.slice yo ly yc, .slice xo lx xc] w (RetOwn w (x * y) (lx + ly)) := by
  by_cases h80 : ly < 80
  · have hC := multiplyLimbs_own (.slice xo lx xc) (.slice yo ly yc) x y lx ly w ⟨xo, xc, LX, by rw [hlx], hX⟩ ⟨yo, yc, LY, by rw [hly], hY⟩ (by omega) (by omega)
    have HC := hid hC
    clear hX hY hlx hly hC IH
    go_enter Tryz.func53, Tryz.ntmps53
    go_wp2_with fail
    refine HC.out.mono ?_
    rintro e w' ⟨v, rfl, hv, hb⟩
    go_wp2
    go_ret
    exact ⟨v, rfl, hv, hb⟩
  · obtain ⟨t, hh⟩ : ∃ t, t = (lx + 1) / 2 := ⟨_, rfl⟩
    have e1 : ((lx : Int) + 1) / 2 = (t : Int) := by omega
    have e2 : ((lx : Int) + 1).tdiv 2 = (t : Int) := by rw [Int.tdiv_eq_ediv_of_nonneg (by omega)]; exact e1
    by_cases hyh : ly ≤ t
    · have hhl : t < lx := by omega
      obtain ⟨ab, aof, rfl⟩ := hX.rd.adr (by omega)
      have hcX := hX.rd.cap
      rw [hlx] at hcX
      obtain ⟨xl, hxl⟩ : ∃ xl, xl = val B64 (LX.take t) := ⟨_, rfl⟩
      obtain ⟨xh, hxh⟩ : ∃ xh, xh = val B64 (LX.drop t) := ⟨_, rfl⟩
      have ex : x = xl + B64 ^ t * xh := by rw [← hX.eq, val_parts LX t (by omega), hxl, hxh]
      have eres : xl * y + B64 ^ t * (xh * y) = x * y := by rw [ex]; grind
      have htX := fun (w' : World) (hb : Below w.heap.size w w') => trim64_any (some ⟨ab, aof, none⟩) xc (LX.take t) w' ((hX.rd.take t).below hb (Nat.le_refl _))
      have hlX : (LX.take t).length = t := by rw [List.length_take]; omega
      rw [hlX] at htX
      obtain ⟨ma, hma⟩ : ∃ ma, ma = (trimL (LX.take t)).length := ⟨_, rfl⟩
      have hmah : ma ≤ t := by have := trimL_len (LX.take t); omega
      rw [← hma] at htX
      have hNxl : ∀ w', Below w.heap.size w w' → Nt w' (.slice (some ⟨ab, aof, none⟩) ma xc) xl t := fun w' hb => ⟨_, xc, trimL (LX.take t), by rw [hma], by
        have := ((hX.rd.take t).take (trimL (LX.take t)).length).below hb (Nat.le_refl _)
        rw [← trimL_take] at this; exact this, (hX.dig.take t).trim, Nrm.trim _, by rw [val_trim, hxl], by rw [← hma]; exact hmah⟩
      have hNxh : ∀ w', Below w.heap.size w w' → Nt w' (.slice (some ⟨ab, aof + t, none⟩) (lx - t) (xc - t)) xh (lx - t) := fun w' hb => ⟨_, _, LX.drop t, by rw [List.length_drop, hlx], (hX.rd.drop t (by omega)).below hb (Nat.le_refl _), hX.dig.drop t, hX.nrm.drop t, hxh.symm, by rw [List.length_drop]; omega⟩
      have hNy : ∀ w', Below w.heap.size w w' → Nt w' (.slice yo ly yc) y ly := fun w' hb => ⟨yo, yc, LY, by rw [hly], hY.rd.below hb (Nat.le_refl _), hY.dig, hY.nrm, hY.eq, hY.le⟩
      have hfin : x * y < B64 ^ (lx + ly) := prod_lt hX.nonneg (by have := val_lt B64_pos hX.dig; rw [hX.eq, hlx] at this; exact this) (by have := val_lt B64_pos hY.dig; rw [hY.eq, hly] at this; exact this)
      have hM1 := fun (w' : World) (hb : Below w.heap.size w w') => IH _ _ xl y t ly w' (hNxl w' hb) (hNy w' hb) (by omega) (by omega)
      have hM2 := fun (w' : World) (hb : Below w.heap.size w w') => IH _ _ xh y (lx - t) ly w' (hNxh w' hb) (hNy w' hb) (by omega) (by omega)
      have HM1 := hid hM1; have HM2 := hid hM2
      clear hM1 hM2
      have HtX := hid htX; have HFin := hid hfin; have HRes := hid eres
      have hhc : t < xc := by omega
      have hh0 : (0 : Int) ≤ (t : Int) := by omega
      have hh5 : (t : Int) ≤ (lx : Int) := by omega
      have hh6 : (t : Int) ≤ (xc : Int) := by omega
      have hh8 : ¬ xc = t := by omega
      have hh9 : ¬ lx = t := by omega
      have hh7 : (lx : Int) ≤ (xc : Int) := by omega
      clear htX hNxl hNxh hNy hfin eres IH hX hY hlx hly hxl hxh ex hlX hma hN hh
      go_enter Tryz.func53, Tryz.ntmps53
      go_wp2
      go_region_held3 (fun _ => True) (trivial) (first
        | (go_at_call 96; refine (HtX.out _ (Below.refl _ _).drew).mono ?_; rintro e w1 ⟨rfl, rfl⟩)
        | (go_at_call_of 53 (ma); refine (HM1.out _ (Below.refl _ _).drew).mono ?_; rintro e w1 ⟨_, rfl, ho1, hb1⟩; obtain ⟨o1, m1, c1, rfl, H1⟩ := Nt.opened ho1.nt; have hB1 : Below w.heap.size w w1 := (Below.refl _ _).drew.trans hb1)
        | (go_at_call 53; refine (HM2.out _ hB1).mono ?_; rintro e w2 ⟨_, rfl, ho2, hb2⟩; obtain ⟨o2, m2, c2, rfl, H2⟩ := Nt.opened ho2.nt; have hB2 : Below w.heap.size w w2 := hB1.trans (hb2.mono hB1.size))
        | (go_at_call 95; refine (join_any _ _ _ _ _ _ t (lx + ly + t + 1) _ (H1.out _ hb2) (H2.out _ (Below.refl _ _)) (by omega) (by omega) (by omega)).mono ?_; rintro e w3 ⟨v3, rfl, ho3, hb3⟩; have hB3 : Below w.heap.size w w3 := hB2.trans (hb3.mono hB2.size)))
      rw [HRes.out] at ho3
      have Ho3 := hid ((ho3.base_le hB2.size).tight HFin.out)
      have HB3 := hid hB3
      clear ho3 hb3 hB3 ho1 ho2 hb1 hb2 hB1 hB2
      go_wp2
      go_ret
      exact ⟨_, rfl, Ho3.out, HB3.out⟩
    · have hC := halves_any N IH xo yo xc yc lx ly t LX LY x y w hX hY hlx hly hh (by omega) (by omega) (by omega) hN hM
      have HC := hid hC
      clear hX hY hlx hly hC IH hN hh
      go_enter Tryz.func53, Tryz.ntmps53
      go_wp2_with fail
      refine HC.out.mono ?_
      rintro e w' ⟨v, rfl, hv, hb⟩
      go_wp2
      go_ret
      exact ⟨v, rfl, hv, hb⟩

theorem mulAt_all : ∀ N, MulAt N := by
  intro N
  induction N with
  | zero => intro _ _ _ _ _ _ _ _ _ h; omega
  | succ N IH =>
    intro va vb a b Ka Kb w hA hB hN hM
    obtain ⟨ao, ca, LA, rfl, hA⟩ := hA
    obtain ⟨bo, cb, LB, rfl, hB⟩ := hB
    have hA' : NtL w ao ca LA a LA.length := ⟨hA.rd, hA.dig, hA.nrm, hA.eq, Nat.le_refl _⟩
    have hB' : NtL w bo cb LB b LB.length := ⟨hB.rd, hB.dig, hB.nrm, hB.eq, Nat.le_refl _⟩
    have h1 := hA.le; have h2 := hB.le
    by_cases h : LA.length < LB.length
    · refine (mul_swap N IH bo ao cb ca LB.length LA.length LB LA b a w hB' hA' rfl rfl h (by omega) (by omega)).mono ?_
      intro e w' hr
      rw [Int.mul_comm, Nat.add_comm] at hr
      exact hr.mono (by omega)
    · refine (mul_same N IH ao bo ca cb LA.length LB.length LA LB a b w hA' hB' rfl rfl (by omega) (by omega) (by omega)).mono ?_
      intro e w' hr
      exact hr.mono (by omega)

theorem multiply_any (va vb : Value) (a b : Int) (Ka Kb : Nat) (w : World) (hA : Nt w va a Ka) (hB : Nt w vb b Kb) (hK : Ka + Kb ≤ 500000) :
    Calls Tryz.prog 53 #[va, vb] w (RetN w (a * b) (Ka + Kb)) := by
  refine (mulAt_all (Ka + Kb + 1) va vb a b Ka Kb w hA hB (by omega) hK).mono ?_
  rintro e w' ⟨v, rfl, ho, hb⟩
  exact ⟨v, rfl, ho.nt, hb⟩

end Go.Proofs.YtbapeilpkhbbeaaGreatDoor

/- exact.readRatio at any ratio; Signum; the negated fraction, and products. -/
namespace Go.Proofs.YtbapeilpkhbbeaaGreatDoor
open Go.RowKit

theorem sign_z0 (v : Value) (K : Nat) (w : World) (h : It w v 0 K) : Calls Tryz.prog 50 #[v] w fun e w' => e = .returned (.int .i64 0) ∧ Below w.heap.size w w' := sign_any v 0 K w h
theorem zero_it (w : World) : It w (.agg #[.bool false, .slice none 0 0]) 0 1 := ⟨.slice none 0 0, rfl, (Nt.nil w).mono (by omega)⟩

set_option maxRecDepth 100000 in
set_option maxHeartbeats 1000000 in
theorem readRatio_zero (v : Value) (x : Int) (K : Nat) (w : World) (hv : Ra w v x 0 K) (hK : K ≤ 1073741823) :
    Calls Tryz.prog 19 #[v] w fun e w' => ∃ f, e = .returned f ∧ Ft w' f 0 1 1 ∧ Below w.heap.size w w' := by
  obtain ⟨xb, xo, xm, xc, yb, yo, ym, yc, rfl, Hx, Hy⟩ := Ra.opened hv
  clear hv
  obtain ⟨W0, hW0⟩ : ∃ W0, W0 = ((w.alloc (.cells #[.bool xb, .slice xo xm xc, .bool yb, .slice yo ym yc] 26)).alloc (.cells #[.bool false, .slice none 0 0, .slice none 0 0] 58)) := ⟨_, rfl⟩
  have hB0 : Below w.heap.size w W0 := by rw [hW0]; exact ((Below.refl _ _).alloc (Nat.le_refl _) _).alloc (by simp) _
  have hz0 : W0.heap.size = w.heap.size + 2 := by rw [hW0]; simp
  have HS : Hid (∀ w', Below (w.heap.size + 1) W0 w' → w'.cell? ⟨w.heap.size, 0, none⟩ = some (.bool xb) ∧ w'.cell? ⟨w.heap.size, 1, none⟩ = some (.slice xo xm xc) ∧ w'.cell? ⟨w.heap.size, 2, none⟩ = some (.bool yb) ∧ w'.cell? ⟨w.heap.size, 3, none⟩ = some (.slice yo ym yc)) := hid (fun w' hb => by
    refine ⟨?_, ?_, ?_, ?_⟩ <;> (rw [hb.cell (by simp <;> omega), hW0]; simp [go_sem]))
  have HT : Hid (∀ w', Below (w.heap.size + 2) W0 w' → (w'.cell? ⟨w.heap.size + 1, 0, none⟩ = some (.bool false) ∧ w'.cell? ⟨w.heap.size + 1, 1, none⟩ = some (.slice none 0 0) ∧ w'.cell? ⟨w.heap.size + 1, 2, none⟩ = some (.slice none 0 0)) ∧ (w'.frozen? ⟨w.heap.size + 1, 0, none⟩ = false ∧ w'.frozen? ⟨w.heap.size + 1, 1, none⟩ = false ∧ w'.frozen? ⟨w.heap.size + 1, 2, none⟩ = false)) := hid (fun w' hb => by
    refine ⟨⟨?_, ?_, ?_⟩, ?_, ?_, ?_⟩ <;> (first | (rw [hb.cell (by simp <;> omega), hW0]; simp [go_sem]; done) | (rw [hb.frozen (by simp <;> omega), hW0]; simp [go_sem]; done)))
  have HB0 := hid hB0; have Hz0 := hid hz0; have HW := hid hW0
  clear hW0 hB0 hz0
  go_enter Tryz.func19, Tryz.ntmps19
  go_upto_region 1 with (fail)
  rw [← HW.out]
  obtain ⟨k0, k1, k2, k3⟩ := HS.out _ (Below.refl _ _)
  go_wp2_with fail
  refine (read_any _ 0 K _ (Hy.out _ HB0.out) (by omega)).mono ?_
  rintro e w1 ⟨_, rfl, hv1, hb1⟩
  obtain ⟨b1, o1, m1, c1, rfl, H1, H1s, H1b⟩ := It.opened hv1
  have hB1 : Below (w.heap.size + 2) W0 w1 := hb1.mono (by have := Hz0.out; omega)
  clear k0 k1 k2 k3 hv1 hb1
  go_wp2_with fail
  obtain ⟨W2, hW2⟩ : ∃ W2, W2 = w1.alloc (.cells #[.bool b1, .slice o1 m1 c1] 56) := ⟨_, rfl⟩
  have hal : Below w1.heap.size w1 W2 := by rw [hW2]; exact (Below.refl _ _).alloc (Nat.le_refl _) _
  have hz2 : W2.heap.size = w1.heap.size + 1 := by rw [hW2]; simp
  have hs1 := hB1.size
  have hB2 : Below (w.heap.size + 2) W0 W2 := hB1.trans (hal.mono (by have := Hz0.out; omega))
  have hbx := HS.out _ (hB2.mono (by omega))
  have hby0 : W2.cell? ⟨w1.heap.size, 0, none⟩ = some (.bool b1) := by rw [hW2]; simp [go_sem]
  have hby1 : W2.cell? ⟨w1.heap.size, 1, none⟩ = some (.slice o1 m1 c1) := by rw [hW2]; simp [go_sem]
  have HSS : Hid (∀ w', Kp W2.heap.size (w.heap.size + 1) W2 w' → w'.cell? ⟨w.heap.size, 0, none⟩ = some (.bool xb) ∧ w'.cell? ⟨w.heap.size, 1, none⟩ = some (.slice xo xm xc) ∧ w'.cell? ⟨w1.heap.size, 0, none⟩ = some (.bool b1) ∧ w'.cell? ⟨w1.heap.size, 1, none⟩ = some (.slice o1 m1 c1)) := hid (fun w' h => by
    have := Hz0.out
    exact ⟨(h.cell _ (by simp; omega) (by simp)).trans hbx.1, (h.cell _ (by simp; omega) (by simp)).trans hbx.2.1, (h.cell _ (by simp; omega) (by simp; omega)).trans hby0, (h.cell _ (by simp; omega) (by simp; omega)).trans hby1⟩)
  rw [← hW2]
  have HAL := hid hal; have HB2 := hid hB2; have Hz2 := hid hz2; have Hs1 := hid hs1
  clear hW2 hbx hby0 hby1 hal hB2 hz2 hs1 hB1
  refine (sign_z0 _ _ _ (H1.out _ HAL.out)).mono ?_
  rintro e w3 ⟨rfl, hb3⟩
  have hX3 : Below W2.heap.size W2 w3 := hb3
  go_wp2_with fail
  refine (whole_any _ 0 1 _ (zero_it _) (Nat.le_refl _)).mono ?_
  rintro e w5 ⟨_, rfl, ⟨_, _, rfl, hn5, hd5⟩, hb5⟩
  obtain ⟨o6, m6, c6, rfl, H6⟩ := Nt.opened hn5
  obtain ⟨o7, m7, c7, rfl, H7⟩ := Nt.opened hd5
  have hX5 : Below W2.heap.size W2 w5 := hX3.trans (hb5.mono hX3.size)
  obtain ⟨⟨hr0, hr1, hr2⟩, hf0, hf1, hf2⟩ := HT.out _ (HB2.out.trans (hX5.mono HB2.out.size |>.mono (by have := Hz0.out; omega)))
  go_wp2
  have hz0 := Hz0.out; have hz2 := Hz2.out; have hs1 := Hs1.out; have hs5 := hX5.size
  have hw5 : Below w.heap.size w w5 := HB0.out.trans ((HB2.out.trans (hX5.mono (by omega))).mono (by omega))
  refine bodyPost_ret (v := .agg #[.bool false, .slice o6 m6 c6, .slice o7 m7 c7]) (by simp [results, Tryz.results19, go_sem, hr0, hr1, hr2]) rfl ⟨_, rfl, ?_, ((hw5.setCell (by simp <;> omega) _).setCell (by simp <;> omega) _).setCell (by simp <;> omega) _⟩
  refine ⟨_, _, rfl, ?_, ?_⟩
  · exact nt_keeps (((((Keeps.refl _ _).setCell (u := .bool false) hr0 (fun x h => (by cases h)) _).setCell (u := .slice none 0 0) (by simp [go_sem, hr1]) (fun x h => (by cases h)) _).setCell (u := .slice none 0 0) (by simp [go_sem, hr2]) (fun x h => (by cases h)) _)) (H6.out _ (Below.refl _ _))
  · exact nt_keeps (((((Keeps.refl _ _).setCell (u := .bool false) hr0 (fun x h => (by cases h)) _).setCell (u := .slice none 0 0) (by simp [go_sem, hr1]) (fun x h => (by cases h)) _).setCell (u := .slice none 0 0) (by simp [go_sem, hr2]) (fun x h => (by cases h)) _)) (H7.out _ (Below.refl _ _))

/-- The number that a ratio stands for. -/
def rn (x y : Int) : Int := if y = 0 then 0 else sgn (decide (x < 0) != decide (y < 0)) (x.natAbs : Int)
def rd (y : Int) : Int := if y = 0 then 1 else (y.natAbs : Int)
theorem rd_pos (y : Int) : 0 < rd y := by unfold rd; split <;> omega
theorem Ft.mono {w : World} {v : Value} {z d : Int} {K K' : Nat} (h : Ft w v z d K) (hk : K ≤ K') : Ft w v z d K' := by
  obtain ⟨s1, s2, rfl, h1, h2⟩ := h
  exact ⟨s1, s2, rfl, h1.mono hk, h2.mono hk⟩
theorem readRatio_any (v : Value) (x y : Int) (K : Nat) (w : World) (hv : Ra w v x y K) (hK : K ≤ 1073741823) :
    Calls Tryz.prog 19 #[v] w fun e w' => ∃ f, e = .returned f ∧ Ft w' f (rn x y) (rd y) ((K + 1) / 2 + 1) ∧ Below w.heap.size w w' := by
  by_cases hy : y = 0
  · subst hy
    refine (readRatio_zero v x K w hv hK).mono ?_
    rintro e w' ⟨f, rfl, hf, hb⟩
    exact ⟨f, rfl, (show Ft w' f 0 1 1 from hf).mono (by omega), hb⟩
  · refine (readRatio_ne v x y K w hv hy hK).mono ?_
    rintro e w' ⟨f, rfl, hf, hb⟩
    refine ⟨f, rfl, ?_, hb⟩
    have e1 : rn x y = sgn (decide (x < 0) != decide (y < 0)) (x.natAbs : Int) := by unfold rn; rw [if_neg hy]
    have e2 : rd y = (y.natAbs : Int) := by unfold rd; rw [if_neg hy]
    rw [e1, e2]
    exact hf.mono (by omega)

end Go.Proofs.YtbapeilpkhbbeaaGreatDoor

/- exact.parseQuotient of any two texts. -/
namespace Go.Proofs.YtbapeilpkhbbeaaGreatDoor
open Go.RowKit

/-- The texts of two integers, the second one above 0. -/
def quoB (t u : List UInt8) : Bool := prsB t && prsB u && decide (0 < prsZ u)
/-- What parseQuotient hands back. -/
def RetPF (b : Bool) (n d : Int) (K : Nat) (w : World) (e : Ending) (w' : World) : Prop :=
  ∃ v x y, e = .returned (.tuple #[v, .bool b]) ∧ Ft w' v x y K ∧ (b = true → x = n ∧ y = d) ∧ Below w.heap.size w w'
theorem It.mono' {w : World} {v : Value} {n : Int} {K K' : Nat} (h : It w v n K) (hk : K ≤ K') : It w v n K' := by
  obtain ⟨s, rfl, h⟩ := h
  exact ⟨s, rfl, h.mono hk⟩
theorem sgn_pos_den {x y : Int} (hy : 0 < y) : sgn (decide (x < 0) != decide (y < 0)) (x.natAbs : Int) = x := by
  have h : decide (y < 0) = false := decide_eq_false (by omega)
  rw [h, Bool.bne_false]
  unfold sgn
  by_cases hx : x < 0
  · simp [hx]; omega
  · simp [hx]; omega

set_option maxRecDepth 100000 in
set_option maxHeartbeats 1000000 in
theorem parseQuotient_any (t u : List UInt8) (ht : t.length ≤ 100000) (hu : u.length ≤ 100000) (K : Nat) (htK : t.length + 1 ≤ K) (huK : u.length + 1 ≤ K) (w : World) :
    Calls Tryz.prog 69 #[.string ⟨t.toArray⟩, .string ⟨u.toArray⟩] w (RetPF (quoB t u) (prsZ t) (prsZ u) K w) := by
  have HP1 := fun w' => parseInteger_any t ht w'
  have HP2 := fun w' => parseInteger_any u hu w'
  obtain ⟨B, hB⟩ : ∃ B, B = quoB t u := ⟨_, rfl⟩
  obtain ⟨b1, hb1⟩ : ∃ b, b = prsB t := ⟨_, rfl⟩
  obtain ⟨b2, hb2⟩ : ∃ b, b = prsB u := ⟨_, rfl⟩
  obtain ⟨z1, hz1⟩ : ∃ z, z = prsZ t := ⟨_, rfl⟩
  obtain ⟨z2, hz2⟩ : ∃ z, z = prsZ u := ⟨_, rfl⟩
  obtain ⟨s1, hs1⟩ : ∃ s : ByteArray, s = ⟨t.toArray⟩ := ⟨_, rfl⟩
  obtain ⟨s2, hs2⟩ : ∃ s : ByteArray, s = ⟨u.toArray⟩ := ⟨_, rfl⟩
  have hBB : B = (b1 && b2 && decide (0 < z2)) := by rw [hB, hb1, hb2, hz2]; rfl
  rw [← hs1, ← hb1, ← hz1] at HP1
  rw [← hs2, ← hb2, ← hz2] at HP2
  rw [← hB, ← hs1, ← hs2, ← hz1, ← hz2]
  have H1 : Hid (∀ w', Calls Tryz.prog 71 #[.string s1] w' (RetPI b1 z1 K w')) := hid (fun w' => (HP1 w').mono (by rintro e w2 ⟨v, y, rfl, h, h2⟩; exact ⟨v, y, rfl, h.mono' htK, h2⟩))
  have H2 : Hid (∀ w', Calls Tryz.prog 71 #[.string s2] w' (RetPI b2 z2 K w')) := hid (fun w' => (HP2 w').mono (by rintro e w2 ⟨v, y, rfl, h, h2⟩; exact ⟨v, y, rfl, h.mono' huK, h2⟩))
  have HBB := hid hBB
  clear hBB hs1 hs2 hz1 hz2 hb1 hb2 hB HP1 HP2 ht hu htK huK
  go_enter Tryz.func69, Tryz.ntmps69
  obtain ⟨W0, hW0⟩ : ∃ W0, W0 = w.alloc (.cells #[.bool false, .slice none 0 0, .slice none 0 0] 58) := ⟨_, rfl⟩
  have hB0 : Below w.heap.size w W0 := by rw [hW0]; exact (Below.refl _ _).alloc (Nat.le_refl _) _
  have HT : Hid (∀ w', Below W0.heap.size W0 w' → (w'.cell? ⟨w.heap.size, 0, none⟩ = some (.bool false) ∧ w'.cell? ⟨w.heap.size, 1, none⟩ = some (.slice none 0 0) ∧ w'.cell? ⟨w.heap.size, 2, none⟩ = some (.slice none 0 0)) ∧ w'.frozen? ⟨w.heap.size, 0, none⟩ = false ∧ w'.frozen? ⟨w.heap.size, 1, none⟩ = false ∧ w'.frozen? ⟨w.heap.size, 2, none⟩ = false) := hid (fun w' hb => by
    refine ⟨⟨?_, ?_, ?_⟩, ?_, ?_, ?_⟩ <;> (first | (rw [hb.cell (by rw [hW0]; simp), hW0]; simp [go_sem]; done) | (rw [hb.frozen (by rw [hW0]; simp), hW0]; simp [go_sem]; done)))
  have HB0 := hid hB0; have HW := hid hW0
  clear hW0 hB0
  go_wp2_with fail
  rw [← HW.out]
  refine (H1.out W0).mono ?_
  rintro e w1 ⟨v1, y1, rfl, hv1, hy1, hb1⟩
  obtain ⟨g1, o1, m1, c1, rfl, HV1, _, _⟩ := It.opened hv1
  have HY1 := hid hy1; have HX1 := hid hb1
  clear hv1 hy1 hb1
  obtain ⟨W1, hW1⟩ : ∃ W1, W1 = w1.alloc (.cells #[.bool g1, .slice o1 m1 c1] 56) := ⟨_, rfl⟩
  have HA1 := hid (show Below w1.heap.size w1 W1 by rw [hW1]; exact (Below.refl _ _).alloc (Nat.le_refl _) _)
  have HS1 : Hid (∀ w', Below W1.heap.size W1 w' → w'.cell? ⟨w1.heap.size, 0, none⟩ = some (.bool g1) ∧ w'.cell? ⟨w1.heap.size, 1, none⟩ = some (.slice o1 m1 c1)) := hid (fun w' hb => by
    refine ⟨?_, ?_⟩ <;> (rw [hb.cell (by rw [hW1]; simp), hW1]; simp [go_sem]))
  have HW1 := hid hW1
  clear hW1
  go_wp2_with fail
  rw [← HW1.out]
  refine (H2.out W1).mono ?_
  rintro e w2 ⟨v2, y2, rfl, hv2, hy2, hb2⟩
  obtain ⟨g2, o2, m2, c2, rfl, HV2, _, _⟩ := It.opened hv2
  have HY2 := hid hy2; have HX2 := hid hb2
  clear hv2 hy2 hb2
  obtain ⟨W2, hW2⟩ : ∃ W2, W2 = w2.alloc (.cells #[.bool g2, .slice o2 m2 c2] 56) := ⟨_, rfl⟩
  have HA2 := hid (show Below w2.heap.size w2 W2 by rw [hW2]; exact (Below.refl _ _).alloc (Nat.le_refl _) _)
  have HS2 : Hid (∀ w', Below W2.heap.size W2 w' → w'.cell? ⟨w2.heap.size, 0, none⟩ = some (.bool g2) ∧ w'.cell? ⟨w2.heap.size, 1, none⟩ = some (.slice o2 m2 c2)) := hid (fun w' hb => by
    refine ⟨?_, ?_⟩ <;> (rw [hb.cell (by rw [hW2]; simp), hW2]; simp [go_sem]))
  have HW2 := hid hW2
  clear hW2
  have HX12 := hid (show Below W1.heap.size W1 W2 from HX2.out.trans (HA2.out.mono HX2.out.size))
  have HX01 := hid (show Below W0.heap.size W0 W1 from HX1.out.trans (HA1.out.mono HX1.out.size))
  have HX02 := hid (show Below W0.heap.size W0 W2 from HX01.out.trans (HX12.out.mono HX01.out.size))
  have HBad := hid (show B = false → ∀ w', Below w.heap.size w w' → RetPF B z1 z2 K w (.returned (.tuple #[.agg #[.bool false, .slice none 0 0, .slice none 0 0], .bool false])) w' from fun hb w' hbel => by
    refine ⟨_, 0, 0, by rw [hb], ⟨.slice none 0 0, .slice none 0 0, by rw [show decide ((0 : Int) < 0) = false from rfl], (Nt.nil _).mono (Nat.zero_le _), (Nt.nil _).mono (Nat.zero_le _)⟩, (fun h => by rw [hb] at h; cases h), hbel⟩)
  go_upto_region 3 with (fail)
  rw [← HW2.out]
  have HBel := hid (show Below w.heap.size w W2 from HB0.out.trans (HX02.out.mono HB0.out.size))
  cases hb1 : b1 with
  | false =>
    subst hb1
    obtain ⟨⟨k0, k1, k2⟩, f0, f1, f2⟩ := HT.out _ HX02.out
    have HB00 := hid (show B = false by rw [HBB.out]; rfl)
    go_wp2
    refine bodyPost_ret (v := .tuple #[.agg #[.bool false, .slice none 0 0, .slice none 0 0], .bool false]) (by simp [results, Tryz.results69, go_sem, k0, k1, k2]) rfl (HBad.out HB00.out _ ((HBel.out.setCell (p := ⟨w.heap.size, 0, none⟩) (Nat.le_refl _) _).setCell (p := ⟨w.heap.size, 1, none⟩) (Nat.le_refl _) _ |>.setCell (p := ⟨w.heap.size, 2, none⟩) (Nat.le_refl _) _))
  | true =>
    subst hb1
    cases hb2 : b2 with
    | false =>
      subst hb2
      obtain ⟨⟨k0, k1, k2⟩, f0, f1, f2⟩ := HT.out _ HX02.out
      have HB00 := hid (show B = false by rw [HBB.out]; rfl)
      go_wp2
      refine bodyPost_ret (v := .tuple #[.agg #[.bool false, .slice none 0 0, .slice none 0 0], .bool false]) (by simp [results, Tryz.results69, go_sem, k0, k1, k2]) rfl (HBad.out HB00.out _ ((HBel.out.setCell (p := ⟨w.heap.size, 0, none⟩) (Nat.le_refl _) _).setCell (p := ⟨w.heap.size, 1, none⟩) (Nat.le_refl _) _ |>.setCell (p := ⟨w.heap.size, 2, none⟩) (Nat.le_refl _) _))
    | true =>
      subst hb2
      have hy1 : y1 = z1 := HY1.out rfl
      have hy2 : y2 = z2 := HY2.out rfl
      subst hy1
      subst hy2
      obtain ⟨q0, q1⟩ := HS2.out _ (Below.refl _ _)
      have HSg := hid (sign_any _ y2 K W2 (HV2.out _ HA2.out))
      have HV1' := hid (fun w' (hb : Below W2.heap.size W2 w') => HV1.out w' (HA1.out.trans ((HX12.out.trans (hb.mono HX12.out.size)).mono HA1.out.size)))
      have HV2' := hid (fun w' (hb : Below W2.heap.size W2 w') => HV2.out w' (HA2.out.trans (hb.mono HA2.out.size)))
      by_cases hp : 0 < y2
      · have hc : cmpI y2 0 = 1 := by unfold cmpI; split <;> (try split) <;> omega
        rw [hc] at HSg
        have HB11 := hid (show B = true by rw [HBB.out, decide_eq_true hp]; rfl)
        have HP := hid hp
        clear hp hc
        go_wp2_with (go_at_call 50; refine HSg.out.mono ?_; rintro e w3 ⟨rfl, hb3⟩; obtain ⟨p0, p1⟩ := HS1.out w3 (HX12.out.trans (hb3.mono HX12.out.size)); obtain ⟨r0, r1⟩ := HS2.out w3 hb3)
        refine (divided_any _ _ y1 y2 K w3 (HV1'.out _ hb3) (HV2'.out _ hb3)).mono ?_
        rintro e w4 ⟨f, rfl, hf, hb4⟩
        rw [sgn_pos_den HP.out] at hf
        obtain ⟨b5, o5, m5, c5, o6, m6, c6, rfl, HF1, HF2, HFb⟩ := Ft.opened hf
        have hb34 : Below W2.heap.size W2 w4 := hb3.trans (hb4.mono hb3.size)
        obtain ⟨⟨k0, k1, k2⟩, f0, f1, f2⟩ := HT.out w4 (HX02.out.trans (hb34.mono HX02.out.size))
        go_wp2
        refine bodyPost_ret (v := .tuple #[.agg #[.bool b5, .slice o5 m5 c5, .slice o6 m6 c6], .bool true]) (by simp [results, Tryz.results69, go_sem, k0, k1, k2]) rfl ⟨_, y1, y2, by rw [HB11.out], ?_, (fun _ => ⟨rfl, rfl⟩), ((HBel.out.trans (hb34.mono HBel.out.size)).setCell (p := ⟨w.heap.size, 0, none⟩) (Nat.le_refl _) _).setCell (p := ⟨w.heap.size, 1, none⟩) (Nat.le_refl _) _ |>.setCell (p := ⟨w.heap.size, 2, none⟩) (Nat.le_refl _) _⟩
        have hk := (((Keeps.refl .u64 w4).setCell (a := ⟨w.heap.size, 0, none⟩) (u := .bool false) k0 (fun x h => (by cases h)) (.bool b5)).setCell (a := ⟨w.heap.size, 1, none⟩) (u := .slice none 0 0) (by simp [go_sem, k1]) (fun x h => (by cases h)) (.slice o5 m5 c5)).setCell (a := ⟨w.heap.size, 2, none⟩) (u := .slice none 0 0) (by simp [go_sem, k2]) (fun x h => (by cases h)) (.slice o6 m6 c6)
        have hn2 : ((y2.natAbs : Nat) : Int) = y2 := by have := HP.out; omega
        rw [hn2] at hf
        obtain ⟨s5, s6, he, hn5, hn6⟩ := hf
        exact ⟨s5, s6, he, nt_keeps hk hn5, nt_keeps hk hn6⟩
      · have hc : cmpI y2 0 ≤ 0 := by unfold cmpI; split <;> (try split) <;> omega
        obtain ⟨cv, hcv⟩ : ∃ c, c = cmpI y2 0 := ⟨_, rfl⟩
        rw [← hcv] at HSg hc
        have HB00 := hid (show B = false by rw [HBB.out, decide_eq_false hp]; rfl)
        clear hp hcv
        go_wp2_with (go_at_call 50; refine HSg.out.mono ?_; rintro e w3 ⟨rfl, hb3⟩; obtain ⟨⟨k0, k1, k2⟩, f0, f1, f2⟩ := HT.out w3 (HX02.out.trans (hb3.mono HX02.out.size)))
        refine bodyPost_ret (v := .tuple #[.agg #[.bool false, .slice none 0 0, .slice none 0 0], .bool false]) (by simp [results, Tryz.results69, go_sem, k0, k1, k2]) rfl (HBad.out HB00.out _ (((HBel.out.trans (hb3.mono HBel.out.size)).setCell (p := ⟨w.heap.size, 0, none⟩) (Nat.le_refl _) _).setCell (p := ⟨w.heap.size, 1, none⟩) (Nat.le_refl _) _ |>.setCell (p := ⟨w.heap.size, 2, none⟩) (Nat.le_refl _) _))
end Go.Proofs.YtbapeilpkhbbeaaGreatDoor

/- (exact.integer).text and exact.Text of numbers closer to 0 than 100. -/
namespace Go.Proofs.YtbapeilpkhbbeaaGreatDoor
open Go.RowKit

/-- The text of a number closer to 0 than 100. -/
def tx (z : Int) : ByteArray := if z < 0 then ⟨#[45]⟩ ++ ⟨(Lib.decDigits z.natAbs).toArray⟩ else ⟨(Lib.decDigits z.natAbs).toArray⟩
end Go.Proofs.YtbapeilpkhbbeaaGreatDoor

/- Fractions: products, negation; exact.Times, exact.Minus. -/
namespace Go.Proofs.YtbapeilpkhbbeaaGreatDoor
open Go.RowKit

end Go.Proofs.YtbapeilpkhbbeaaGreatDoor
