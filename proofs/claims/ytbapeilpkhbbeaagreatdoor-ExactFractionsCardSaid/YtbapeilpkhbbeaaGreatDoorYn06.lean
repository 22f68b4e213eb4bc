/- exact.divideStep: a limb of a quotient. exact.shiftLeft. -/
import Derived.Test.YtbapeilpkhbbeaaGreatDoorYn05
import Derived.Test.YtbapeilpkhbbeaaGreatDoorYn04
/- exact.divideStep: a limb of a quotient. -/
namespace Go.Proofs.YtbapeilpkhbbeaaGreatDoor
open Go.RowKit

/-- Behind a guess q: what is left, or what is lacking (negative). -/
structure StepN (V D q : Int) (n : Nat) (A1 : List Int) (h : Int) (neg : Bool) : Prop where
  len : A1.length = n
  dig : Dig B64 A1
  h0 : 0 ≤ h
  h1 : h < B64
  q0 : 0 ≤ q
  q1 : q < B64
  eq : val B64 A1 + B64 ^ n * h = V - q * D + (if neg then B64 ^ n * B64 else 0)
  up : V - q * D < D

theorem StepN.neg_lt {V D q : Int} {n : Nat} {A1 : List Int} {h : Int} (H : StepN V D q n A1 h true) : V - q * D < 0 := by
  have e := H.eq
  have hl := val_lt B64_pos H.dig
  rw [H.len] at hl
  have hm := Int.mul_le_mul_of_nonneg_left (show h ≤ B64 - 1 by have := H.h1; omega) (Int.le_of_lt (Int.pow_pos (m := n) B64_pos))
  rw [Int.mul_sub] at hm
  simp only [if_true] at e
  generalize B64 ^ n * B64 = X at *
  generalize B64 ^ n * h = Y at *
  omega
theorem StepN.pos_le {V D q : Int} {n : Nat} {A1 : List Int} {h : Int} (H : StepN V D q n A1 h false) : 0 ≤ V - q * D := by
  have e := H.eq
  have hl := val_nonneg B64_pos H.dig
  have hm := Int.mul_nonneg (Int.le_of_lt (Int.pow_pos (m := n) B64_pos)) H.h0
  simp only [Bool.false_eq_true, if_false, Int.add_zero] at e
  omega

/-- At the end: the quotient and the rest. -/
theorem StepN.done {V D q : Int} {n : Nat} {A1 : List Int} {h : Int} (H : StepN V D q n A1 h false) (hD : 0 < D) : q = V / D ∧ val B64 (A1 ++ [h]) = V % D := by
  have e := H.eq
  simp only [Bool.false_eq_true, if_false, Int.add_zero] at e
  have u := (Int.ediv_emod_unique hD (a := V) (r := V - q * D) (q := q)).2 ⟨by rw [Int.mul_comm]; omega, H.pos_le, H.up⟩
  refine ⟨u.1.symm, ?_⟩
  rw [val_snoc, H.len, e, u.2]

/-- Where it is negative, the quotient is not 0. -/
theorem StepN.q_pos {V D q : Int} {n : Nat} {A1 : List Int} {h : Int} (H : StepN V D q n A1 h true) (hV : 0 ≤ V) : 1 ≤ q := by
  have h1 := H.neg_lt
  rcases Int.lt_or_le 0 q with k | k
  · omega
  · have : q = 0 := by have := H.q0; omega
    subst this; omega

/-- The divisor is added once. -/
theorem StepN.next {V D q : Int} {n : Nat} {A1 : List Int} {h : Int} (H : StepN V D q n A1 h true) (hV : 0 ≤ V) (hDn : D ≤ B64 ^ n) (_hD0 : 0 < D) {A2 : List Int} {cc : Int} (hl : A2.length = n) (hd : Dig B64 A2) (c0 : 0 ≤ cc) (c1 : cc ≤ 1) (he : val B64 A2 + B64 ^ n * cc = val B64 A1 + D) :
    StepN V D (q - 1) n A2 ((h + cc) % B64) (((h + cc) % B64) != 0) := by
  have hq := H.q_pos hV
  have hneg := H.neg_lt
  have e := H.eq
  simp only [if_true] at e
  have hp : 0 < B64 ^ n := Int.pow_pos B64_pos
  have hl2 := val_lt B64_pos hd
  rw [hl] at hl2
  have hn2 := val_nonneg B64_pos hd
  have hq1 := H.q1; have h0 := H.h0; have h1 := H.h1
  have hqD : (q - 1) * D ≤ (q - 1) * B64 ^ n := Int.mul_le_mul_of_nonneg_left hDn (by omega)
  have hqB : (q - 1) * B64 ^ n ≤ (B64 - 2) * B64 ^ n := Int.mul_le_mul_of_nonneg_right (by omega) (Int.le_of_lt hp)
  have es : (q - 1) * D = q * D - D := by rw [Int.sub_mul, Int.one_mul]
  have eb : (B64 - 2) * B64 ^ n = B64 ^ n * B64 - 2 * B64 ^ n := by rw [Int.sub_mul, Int.mul_comm B64]
  by_cases hw : h + cc < B64
  · have hm : (h + cc) % B64 = h + cc := Int.emod_eq_of_lt (by omega) hw
    have ev : val B64 A2 + B64 ^ n * (h + cc) = V - (q - 1) * D + B64 ^ n * B64 := by rw [Int.mul_add]; omega
    have hne : h + cc ≠ 0 := by
      intro hz
      rw [hz] at ev
      omega
    rw [hm]
    have hb : ((h + cc) != 0) = true := by rw [bne_iff_ne]; exact hne
    rw [hb]
    exact ⟨hl, hd, by omega, hw, by omega, by omega, by simp only [if_true]; exact ev, by omega⟩
  · have hh : h + cc = B64 := by omega
    have hm : (h + cc) % B64 = 0 := by rw [hh]; exact Int.emod_self
    rw [hm]
    have ev : val B64 A2 + B64 ^ n * 0 = V - (q - 1) * D := by
      have : B64 ^ n * (h + cc) = B64 ^ n * B64 := by rw [hh]
      rw [Int.mul_add] at this
      omega
    exact ⟨hl, hd, Int.le_refl 0, B64_pos, by omega, by omega, by simpa using ev, by omega⟩

/-- The first subtraction. -/
theorem StepN.begin {V D q : Int} {n : Nat} {A A1 : List Int} {h cc : Int} (hA : A.length = n) (hV : V = val B64 A + B64 ^ n * h) (h0 : 0 ≤ h) (h1 : h < B64) (hl : A1.length = n) (hd : Dig B64 A1) (c0 : 0 ≤ cc) (c1 : cc < B64) (he : val B64 A1 - B64 ^ n * cc = val B64 A - D * q) (q0 : 0 ≤ q) (q1 : q < B64) (up : V - q * D < D) :
    StepN V D q n A1 ((h - cc) % B64) (decide (h < cc)) := by
  have _ := hA
  by_cases hlt : h < cc
  · have hm : (h - cc) % B64 = h - cc + B64 := by
      have := Int.emod_eq_of_lt (a := h - cc + B64) (b := B64) (by omega) (by omega)
      rw [← this]; simp
    rw [hm, decide_eq_true hlt]
    refine ⟨hl, hd, by omega, by omega, q0, q1, ?_, up⟩
    simp only [if_true]
    rw [hV, Int.mul_add, Int.mul_sub, Int.mul_comm q D]; omega
  · have hm : (h - cc) % B64 = h - cc := Int.emod_eq_of_lt (by omega) (by omega)
    rw [hm, decide_eq_false hlt]
    refine ⟨hl, hd, by omega, by omega, q0, q1, ?_, up⟩
    simp only [Bool.false_eq_true, if_false, Int.add_zero]
    rw [hV, Int.mul_sub, Int.mul_comm q D]; omega

theorem list_two (l : List Int) (m : Nat) (h : l.length = m + 2) : l = l.take m ++ [l[m]?.getD 0, l[m + 1]?.getD 0] := by
  have a := take_succ_getD l m (by omega)
  have b := take_succ_getD l (m + 1) (by omega)
  rw [List.take_of_length_le (by omega), a] at b
  rw [List.append_assoc] at b
  exact b

/-- The guess is not below the quotient. -/
theorem guess_up {W D : List Int} {m : Nat} (hW : W.length = m + 3) (hD : D.length = m + 2) (hdW : Dig B64 W) (hdD : Dig B64 D) (htop : 0 < D[m + 1]?.getD 0) (hlt : val B64 W < B64 * val B64 D) :
    (0 ≤ gl (W[m + 2]?.getD 0) (W[m + 1]?.getD 0) (W[m]?.getD 0) (D[m + 1]?.getD 0) (D[m]?.getD 0) ∧ gl (W[m + 2]?.getD 0) (W[m + 1]?.getD 0) (W[m]?.getD 0) (D[m + 1]?.getD 0) (D[m]?.getD 0) < B64) ∧
    val B64 W - gl (W[m + 2]?.getD 0) (W[m + 1]?.getD 0) (W[m]?.getD 0) (D[m + 1]?.getD 0) (D[m]?.getD 0) * val B64 D < val B64 D ∧ 0 < val B64 D := by
  have w2 := hdW.at B64_pos (m + 2); have w1 := hdW.at B64_pos (m + 1); have w0 := hdW.at B64_pos m
  have d0 := hdD.at B64_pos m
  have g := gl_ge w2.1 w1 w0 htop d0.1
  have eD : val B64 D = val B64 (D.take m) + B64 ^ m * (D[m]?.getD 0 + B64 * D[m + 1]?.getD 0) := by
    have hlen : (D.take m).length = m := by rw [List.length_take]; omega
    conv => lhs; rw [list_two D m hD]
    rw [val_append, hlen]; simp [val]
  have eW : val B64 W = val B64 (W.take m) + B64 ^ m * (W[m]?.getD 0 + B64 * (W[m + 1]?.getD 0 + B64 * W[m + 2]?.getD 0)) := by
    have hlen : (W.take m).length = m := by rw [List.length_take]; omega
    have e3 : W = W.take m ++ [W[m]?.getD 0, W[m + 1]?.getD 0, W[m + 2]?.getD 0] := by
      have a := take_succ_getD W (m + 2) (by omega)
      rw [List.take_of_length_le (by omega)] at a
      have b := list_two (W.take (m + 2)) m (by rw [List.length_take]; omega)
      rw [List.take_take, Nat.min_eq_left (by omega)] at b
      have t0 : (W.take (m + 2))[m]?.getD 0 = W[m]?.getD 0 := by simp
      have t1 : (W.take (m + 2))[m + 1]?.getD 0 = W[m + 1]?.getD 0 := by simp
      rw [t0, t1] at b
      rw [b, List.append_assoc] at a
      exact a
    conv => lhs; rw [e3]
    rw [val_append, hlen]; simp [val]
  have lD := val_nonneg B64_pos (hdD.take m)
  have lW := val_lt B64_pos (hdW.take m)
  have hlenW : (W.take m).length = m := by rw [List.length_take]; omega
  rw [hlenW] at lW
  have hp : 0 < B64 ^ m := Int.pow_pos B64_pos
  have hV := val_nonneg B64_pos hdW
  generalize hdd0 : D[m]?.getD 0 = dd0 at *
  generalize hdd1 : D[m + 1]?.getD 0 = dd1 at *
  generalize W[m]?.getD 0 = ww0 at *
  generalize W[m + 1]?.getD 0 = ww1 at *
  generalize W[m + 2]?.getD 0 = ww2 at *
  generalize val B64 (D.take m) = dl at *
  generalize val B64 (W.take m) = wl at *
  generalize B64 ^ m = p at *
  generalize gl ww2 ww1 ww0 dd1 dd0 = q at *
  have hD2 : 1 ≤ dd0 + B64 * dd1 := by have := Int.mul_le_mul_of_nonneg_left (show 1 ≤ dd1 by omega) (Int.le_of_lt B64_pos); unfold B64 at *; omega
  have hDp : 0 < val B64 D := by
    have := Int.mul_pos hp (show 0 < dd0 + B64 * dd1 by omega)
    omega
  refine ⟨g.1, ?_, hDp⟩
  -- the quotient itself
  obtain ⟨Q, hQ⟩ : ∃ Q, Q = val B64 W / val B64 D := ⟨_, rfl⟩
  have Q0 : 0 ≤ Q := by rw [hQ]; exact Int.ediv_nonneg hV (Int.le_of_lt hDp)
  have Q1 : Q < B64 := by rw [hQ]; exact Int.ediv_lt_of_lt_mul hDp hlt
  have e := Int.emod_add_mul_ediv (val B64 W) (val B64 D)
  have r1 := Int.emod_lt_of_pos (val B64 W) hDp
  have r0 := Int.emod_nonneg (val B64 W) (show val B64 D ≠ 0 by omega)
  rw [← hQ] at e
  have hle : Q * (dd1 * B64 + dd0) ≤ (ww2 * B64 + ww1) * B64 + ww0 := by
    rcases Int.lt_or_le ((ww2 * B64 + ww1) * B64 + ww0) (Q * (dd1 * B64 + dd0)) with k | k
    · exfalso
      have k' := Int.mul_le_mul_of_nonneg_left (show (ww2 * B64 + ww1) * B64 + ww0 + 1 ≤ Q * (dd1 * B64 + dd0) from k) (Int.le_of_lt hp)
      have k2 := Int.mul_nonneg Q0 lD
      have e1 : val B64 D * Q = Q * dl + p * (Q * (dd1 * B64 + dd0)) := by rw [eD]; grind
      have e2 : val B64 W = wl + p * ((ww2 * B64 + ww1) * B64 + ww0) := by rw [eW]; grind
      rw [Int.mul_add, Int.mul_one] at k'
      omega
    · exact k
  have hge := g.2 Q Q0 Q1 hle
  have hm := Int.mul_le_mul_of_nonneg_right hge (Int.le_of_lt hDp)
  rw [Int.mul_comm Q] at hm
  omega

/-- What holds at the loop's head. -/
structure StepI (w wr : World) (g : Nat) (P S : List Int) (V D : Int) (n : Nat) (q : Int) (A1 : List Int) (h : Int) (neg : Bool) : Prop where
  num : StepN V D q n A1 h neg
  row : Row .u64 63 wr g (P ++ A1 ++ ([h] ++ S))
  gr : w.grownBy wr (some g)

theorem row_end {w : World} {g : Nat} {P A S : List Int} {h : Int} (x : Int) (H : Row .u64 63 w g (P ++ A ++ ([h] ++ S))) : Row .u64 63 (w.setCell ⟨g, P.length + A.length, none⟩ (.int .u64 x)) g (P ++ A ++ ([x] ++ S)) := by
  have := H.set (P.length + A.length) x
  rw [show P.length + A.length = (P ++ A).length by simp, List.set_append_right _ _ (Nat.le_refl _), Nat.sub_self] at this
  simpa using this
theorem row_last {w : World} {g : Nat} {P A S : List Int} {h : Int} (H : Row .u64 63 w g (P ++ A ++ ([h] ++ S))) : w.cell? ⟨g, P.length + A.length, none⟩ = some (.int .u64 h) := by
  rw [H.cell (P.length + A.length) (by simp)]
  rw [show P.length + A.length = (P ++ A).length by simp, List.getElem?_append_right (Nat.le_refl _), Nat.sub_self]; simp

theorem sub_wrapM (h cc : Int) : IntKind.u64.wrap (h - cc) = (h - cc) % B64 := by rw [IntKind.wrap_u64]; rfl
theorem add_wrapM (h cc : Int) : IntKind.u64.wrap (h + cc) = (h + cc) % B64 := by rw [IntKind.wrap_u64]; rfl

set_option maxRecDepth 100000 in
set_option maxHeartbeats 4000000 in
theorem divideStep_any (g : Nat) (P A S D : List Int) (h : Int) (c bc b2 o2 m : Nat) (w : World) (hrow : Row .u64 63 w g (P ++ A ++ ([h] ++ S))) (hdA : Dig B64 (A ++ [h])) (hdD : Dig B64 D) (hA : A.length = m + 2) (hDl : D.length = m + 2)
    (hc : m + 3 ≤ c) (hcm : c ≤ 9223372036854775807) (hD : Rd w .u64 (some ⟨b2, o2, none⟩) bc D) (htop : 0 < D[m + 1]?.getD 0) (hlt : val B64 (A ++ [h]) < B64 * val B64 D) (hne : b2 ≠ g) :
    Calls Tryz.prog 146 #[.slice (some ⟨g, P.length, none⟩) (m + 3) c, .slice (some ⟨b2, o2, none⟩) (m + 2) bc] w fun e w' => ∃ A1 h1, e = .returned (.int .u64 (val B64 (A ++ [h]) / val B64 D)) ∧
      StepI w w' g P S (val B64 (A ++ [h])) (val B64 D) (m + 2) (val B64 (A ++ [h]) / val B64 D) A1 h1 false ∧ val B64 (A1 ++ [h1]) = val B64 (A ++ [h]) % val B64 D := by
  have gu := guess_up (W := A ++ [h]) (D := D) (m := m) (by simp; omega) hDl hdA hdD htop hlt
  have H0 := hdA.at B64_pos m; have H1 := hdA.at B64_pos (m + 1); have H2 := hdA.at B64_pos (m + 2)
  have D0 := hdD.at B64_pos m; have D1 := hdD.at B64_pos (m + 1)
  have hrow' : Row .u64 63 w g (P ++ (A ++ [h]) ++ S) := by simpa using hrow
  have hlA : (A ++ [h]).length = m + 3 := by simp; omega
  have C0 := hrow'.cell (P.length + m) (by simp; omega); have C1 := hrow'.cell (P.length + (m + 1)) (by simp; omega); have C2 := hrow'.cell (P.length + (m + 2)) (by simp; omega)
  rw [mid_get _ _ _ _ (by omega)] at C0 C1 C2
  have E0 := hD.cell b2 o2 rfl m (by omega); have E1 := hD.cell b2 o2 rfl (m + 1) (by omega)
  have hlast : (A ++ [h])[m + 2]?.getD 0 = h := by rw [List.getElem?_append_right (by omega), hA, Nat.sub_self]; simp
  rw [hlast] at gu C2 H2
  obtain ⟨off, hoff⟩ : ∃ off, off = P.length := ⟨_, rfl⟩
  obtain ⟨W0, hW0⟩ : ∃ x, x = (A ++ [h])[m]?.getD 0 := ⟨_, rfl⟩
  obtain ⟨W1, hW1⟩ : ∃ x, x = (A ++ [h])[m + 1]?.getD 0 := ⟨_, rfl⟩
  obtain ⟨d0, hd0⟩ : ∃ x, x = D[m]?.getD 0 := ⟨_, rfl⟩
  obtain ⟨d1, hd1⟩ : ∃ x, x = D[m + 1]?.getD 0 := ⟨_, rfl⟩
  rw [← hoff, ← hW0] at C0; rw [← hoff, ← hW1] at C1; rw [← hoff] at C2
  rw [← hd0] at E0 D0; rw [← hd1] at E1 D1 htop
  rw [← hW0] at H0; rw [← hW1] at H1
  rw [← hW0, ← hW1, ← hd0, ← hd1] at gu
  have HG := hid (fun n => guessLimb_any g (off + m) (c - m) b2 (o2 + m) (bc - m) W0 W1 h d0 d1 (w.drewN n) H0 H1 H2 D0 ⟨htop, D1.2⟩ C0 C1 C2 E0 E1)
  obtain ⟨q, hq⟩ : ∃ q, q = gl h W1 W0 d1 d0 := ⟨_, rfl⟩
  simp only [← hq] at HG gu
  have hcapD := hD.cap; have hmostD := hD.most
  rw [hDl] at hcapD
  rw [← hoff]
  clear hW0 hW1 hd0 hd1 hlast hlA C0 C1 C2 E0 E1 H0 H1 D0 D1 htop hq hrow'
  have Hrow := hid hrow; have HdA := hid hdA; have HdD := hid hdD; have HA := hid hA; have HDl := hid hDl; have HD := hid hD; have Hlt := hid hlt; have Hne := hid hne; have Gu := hid gu; have Hoff := hid hoff; have Hh := hid H2
  clear hrow hdA hdD hA hDl hD hlt hne gu hoff H2
  have hm := fun n => subtractProduct_any g P A ([h] ++ S) D c bc (some ⟨b2, o2, none⟩) q (w.drewN n) Hrow.out (fun x hx => HdA.out x (by simp [hx])) HdD.out Gu.out.1.1 Gu.out.1.2 (by have := HA.out; omega) hcm (HD.out.kept (r := none) (grown_drewN (grown_refl w none) n) (by simp)) (by have := HA.out; have := HDl.out; omega) (fun _ b o e => by cases e; exact Hne.out)
  simp only [HA.out, HDl.out, ← Hoff.out] at hm
  have HM := hid hm
  clear hm
  go_enter Tryz.func146, Tryz.ntmps146
  go_wp2
  go_quiet ((go_at_call 164; exact Calls.quiet_of (HG.out _)))
  go_wp2_with fail
  refine (HM.out _).mono ?_
  rintro e w1 ⟨A1, cc, rfl, M⟩
  have hcell := row_last M.row
  have hfr := M.row.frozen (P.length + A1.length)
  rw [M.len, HA.out, ← Hoff.out] at hcell hfr
  have B := StepN.begin (V := val B64 (A ++ [h])) (D := val B64 D) HA.out (by rw [val_snoc, HA.out]) Hh.out.1 Hh.out.2 (M.len.trans HA.out) M.dig M.c0 M.c1 M.eq Gu.out.1.1 Gu.out.1.2 Gu.out.2.1
  have hI : ∀ wx, wx = w1.setCell ⟨g, off + (m + 2), none⟩ (.int .u64 ((h - cc) % B64)) → StepI w wx g P S (val B64 (A ++ [h])) (val B64 D) (m + 2) q A1 ((h - cc) % B64) (decide (h < cc)) := by
    rintro _ rfl
    have hr := row_end ((h - cc) % B64) M.row
    rw [M.len, HA.out, ← Hoff.out] at hr
    exact ⟨B, hr, grown_trans (grown_trans (grown_drewN (grown_refl _ _) _) M.gr) (grown_set _ _ _ _)⟩
  have HI := hid hI
  have hsw := sub_wrapM h cc
  clear hI B M
  go_wp2
  go_loopw [6, 9] (fun qv bv wr => ∃ q A1 h1 neg, qv = .int .u64 q ∧ bv = .bool neg ∧ StepI w wr g P S (val B64 (A ++ [h])) (val B64 D) (m + 2) q A1 h1 neg) (fun qv _ _ => (intOf qv).toNat)
  case atStart => exact ⟨q, A1, _, _, rfl, rfl, HI.out _ rfl⟩
  case round =>
    obtain ⟨q, A1, h1, neg, rfl, rfl, H⟩ := hrel
    cases neg with
    | false =>
      have hd := H.num.done Gu.out.2.2
      have HH := hid H; have HD1 := hid hd
      clear H hd HI
      go_wp2
      go_ret
      exact ⟨A1, h1, by rw [← HD1.out.1]; rfl, by rw [← HD1.out.1]; exact HH.out, HD1.out.2⟩
    | true =>
      have hV := val_nonneg B64_pos HdA.out
      have q1 := H.num.q_pos hV
      have q2 : q ≤ 18446744073709551615 := by have := H.num.q1; unfold B64 at this; omega
      have hcell := row_last H.row
      have hfr := H.row.frozen (P.length + A1.length)
      rw [H.num.len, ← Hoff.out] at hcell hfr
      have ha := addTo_any g P A1 ([h1] ++ S) D c bc (some ⟨b2, o2, none⟩) wr.drew (H.row.kept (r := none) (grown_drew (grown_refl wr none)) (by simp)) H.num.dig HdD.out (by have := H.num.len; omega) hcm ((HD.out.keptNew H.gr (fun _ b o e => by cases e; exact Hne.out)).kept (r := none) (grown_drew (grown_refl wr none)) (by simp)) (by have := H.num.len; have := HDl.out; omega) (fun _ b o e => by cases e; exact Hne.out)
      rw [H.num.len, HDl.out, ← Hoff.out] at ha
      have HH := hid H; have HA2 := hid ha
      have hm0 : (0 : Int) ≤ (m : Int) + 2 := by omega
      have hmt : ((m : Int) + 2).toNat = m + 2 := by omega
      clear H ha hV HI
      go_wp2
      go_region_with (go_at_call 127; refine HA2.out.mono ?_; rintro e w2 ⟨A2, cc, rfl, I⟩; have hcell2 := row_last I.row; have hfr2 := I.row.frozen (P.length + A2.length); rw [I.len, HH.out.num.len, ← Hoff.out] at hcell2 hfr2; have hsw2 := add_wrapM h1 cc; have HI2 := hid I; clear I)
      all_goals
        have hV := val_nonneg B64_pos HdA.out
        have hDn := val_lt B64_pos HdD.out
        rw [HDl.out] at hDn
        have hN := HH.out.num.next hV (Int.le_of_lt hDn) Gu.out.2.2 (HI2.out.len.trans HH.out.num.len) HI2.out.dig HI2.out.c0 HI2.out.c1 HI2.out.eq
        have hr := row_end ((h1 + cc) % B64) HI2.out.row
        rw [HI2.out.len, HH.out.num.len, ← Hoff.out] at hr
        have hI := hid (show StepI w (w2.setCell ⟨g, off + (m + 2), none⟩ (.int .u64 ((h1 + cc) % B64))) g P S (val B64 (A ++ [h])) (val B64 D) (m + 2) (q - 1) A2 ((h1 + cc) % B64) (((h1 + cc) % B64) != 0) from
          ⟨hN, hr, grown_trans (grown_trans (grown_drew HH.out.gr) HI2.out.gr) (grown_set _ _ _ _)⟩)
        clear hN hr hV hDn
        go_wp2
        go_roundw
        case rel => exact ⟨q - 1, A2, _, _, by go_num, rfl, hI.out⟩
        case measure => simp [intOf]; omega

end Go.Proofs.YtbapeilpkhbbeaaGreatDoor

/- exact.shiftLeft. -/
namespace Go.Proofs.YtbapeilpkhbbeaaGreatDoor
open Go.RowKit

theorem or_low (h l : Int) (s : Nat) (h0 : 0 ≤ h) (h1 : h * 2 ^ s < 18446744073709551616) (l0 : 0 ≤ l) (l1 : l < 2 ^ s) (l2 : l < 18446744073709551616) : bits .or .u64 l (h * 2 ^ s) = l + h * 2 ^ s := by
  have hc := or_disj h l s h0 h1 l0 l1 l2
  obtain ⟨a, rfl⟩ := Int.eq_ofNat_of_zero_le h0
  obtain ⟨b, rfl⟩ := Int.eq_ofNat_of_zero_le l0
  have e : ((a : Int) * 2 ^ s) = ((a * 2 ^ s : Nat) : Int) := by simp
  rw [e] at hc h1 ⊢
  rw [bits_or_u64_nat _ _ (by omega) (by omega)] at hc ⊢
  rw [Nat.or_comm]; omega

theorem pow_split {s : Nat} (hs : s ≤ 63) : (0 : Int) < 2 ^ s ∧ (0 : Int) < 2 ^ (64 - s) ∧ (2 : Int) ^ (64 - s) * 2 ^ s = B64 :=
  ⟨Int.pow_pos (by decide), Int.pow_pos (by decide), by rw [← Int.pow_add, Nat.sub_add_cancel (by omega)]; rfl⟩

/-- A limb, shifted: what stays in the place, and what goes on. -/
theorem shl_step {x h : Int} {s : Nat} (hs : s ≤ 63) (x0 : 0 ≤ x) (x1 : x < B64) (h0 : 0 ≤ h) (h1 : h < 2 ^ s) :
    let lo := bits .or .u64 h (IntKind.u64.wrap (x * 2 ^ s))
    let up := x / 2 ^ (64 - s)
    0 ≤ lo ∧ lo < B64 ∧ 0 ≤ up ∧ up < 2 ^ s ∧ lo + B64 * up = h + x * 2 ^ s := by
  obtain ⟨p1, p2, p3⟩ := pow_split hs
  have hw : IntKind.u64.wrap (x * 2 ^ s) = (x % 2 ^ (64 - s)) * 2 ^ s := by
    rw [IntKind.wrap_u64, show (18446744073709551616 : Int) = 2 ^ (64 - s) * 2 ^ s from p3.symm]
    rw [Int.mul_comm x, Int.mul_comm (2 ^ (64 - s)) (2 ^ s), Int.mul_emod_mul_of_pos _ _ p1, Int.mul_comm]
  have m0 := Int.emod_nonneg x (show (2 : Int) ^ (64 - s) ≠ 0 by omega)
  have m1 := Int.emod_lt_of_pos x p2
  have me := Int.emod_add_mul_ediv x (2 ^ (64 - s))
  have hm : (x % 2 ^ (64 - s) + 1) * 2 ^ s ≤ B64 := by rw [← p3]; exact Int.mul_le_mul_of_nonneg_right (by omega) (Int.le_of_lt p1)
  rw [Int.add_mul] at hm
  have hh : h < 18446744073709551616 := by
    have : (2 : Int) ^ s ≤ B64 := by have := Int.mul_nonneg m0 (Int.le_of_lt p1); omega
    unfold B64 at this; omega
  have ho := or_low (x % 2 ^ (64 - s)) h s m0 (by unfold B64 at hm; omega) h0 h1 hh
  have hx2 : x * 2 ^ s = x % 2 ^ (64 - s) * 2 ^ s + B64 * (x / 2 ^ (64 - s)) := by
    rw [← p3]
    have e : x * 2 ^ s = (x % 2 ^ (64 - s) + 2 ^ (64 - s) * (x / 2 ^ (64 - s))) * 2 ^ s := by rw [me]
    rw [e]; grind
  have mp := Int.mul_nonneg m0 (Int.le_of_lt p1)
  simp only [hw, ho]
  refine ⟨by omega, by omega, Int.ediv_nonneg x0 (Int.le_of_lt p2), Int.ediv_lt_of_lt_mul p2 (by rw [Int.mul_comm, p3]; exact x1), by omega⟩

structure ShlI (w wr : World) (g : Nat) (LA : List Int) (wh pt k : Nat) (Q : List Int) (h : Int) : Prop where
  row : Row .u64 63 wr g (List.replicate wh 0 ++ (Q ++ (h :: List.replicate (LA.length - k) 0)))
  gr : w.grownBy wr (some g)
  len : Q.length = k
  dig : Dig B64 Q
  h0 : 0 ≤ h
  h1 : h < 2 ^ pt
  eq : val B64 Q + B64 ^ k * h = val B64 (LA.take k) * 2 ^ pt

theorem set_mid {wh : Nat} {Q S : List Int} {h y : Int} {i : Nat} (hi : i = wh + Q.length) : (List.replicate wh (0 : Int) ++ (Q ++ (h :: S))).set i y = List.replicate wh 0 ++ (Q ++ (y :: S)) := by
  rw [hi, List.set_append_right _ _ (by simp), List.length_replicate, Nat.add_sub_cancel_left, List.set_append_right _ _ (Nat.le_refl _), Nat.sub_self, List.set_cons_zero]

theorem ShlI.cells {w wr : World} {g : Nat} {LA Q : List Int} {wh pt k : Nat} {h : Int} (H : ShlI w wr g LA wh pt k Q h) (hk : k < LA.length) :
    wr.cell? ⟨g, k + wh, none⟩ = some (.int .u64 h) ∧ wr.cell? ⟨g, k + wh + 1, none⟩ = some (.int .u64 0) := by
  have hl := H.len
  constructor
  · rw [H.row.cell (k + wh) (by simp; omega), List.getElem?_append_right (by simp), List.length_replicate, List.getElem?_append_right (by omega), show k + wh - wh - Q.length = 0 by omega]; rfl
  · rw [H.row.cell (k + wh + 1) (by simp; omega), List.getElem?_append_right (by simp; omega), List.length_replicate, List.getElem?_append_right (by omega), show k + wh + 1 - wh - Q.length = 1 by omega]
    cases LA.length - k <;> simp [List.replicate_succ]

theorem ShlI.step {w wr : World} {g : Nat} {LA Q : List Int} {wh pt k : Nat} {h x : Int} (H : ShlI w wr g LA wh pt k Q h) (hp : pt ≤ 63) (hk : k < LA.length) (hx : x = LA[k]?.getD 0) (x0 : 0 ≤ x) (x1 : x < B64) :
    ShlI w ((wr.drew.setCell ⟨g, k + wh, none⟩ (.int .u64 (bits .or .u64 h (IntKind.u64.wrap (x * 2 ^ pt))))).setCell ⟨g, k + wh + 1, none⟩ (.int .u64 (x / 2 ^ (64 - pt)))) g LA wh pt (k + 1) (Q ++ [bits .or .u64 h (IntKind.u64.wrap (x * 2 ^ pt))]) (x / 2 ^ (64 - pt)) := by
  obtain ⟨a, b, c, d, e⟩ := shl_step hp x0 x1 H.h0 H.h1
  have hl := H.len
  generalize bits .or .u64 h (IntKind.u64.wrap (x * 2 ^ pt)) = lo at *
  generalize x / 2 ^ (64 - pt) = up at *
  have hr : Row .u64 63 wr.drew g (List.replicate wh 0 ++ (Q ++ (h :: List.replicate (LA.length - k) 0))) := H.row
  have h1 := hr.set (k + wh) lo
  rw [set_mid (by omega)] at h1
  have hz : LA.length - k = (LA.length - (k + 1)) + 1 := by omega
  rw [hz, List.replicate_succ] at h1
  have h2 := h1.set (k + wh + 1) up
  have e1 : List.replicate wh (0 : Int) ++ (Q ++ (lo :: 0 :: List.replicate (LA.length - (k + 1)) 0)) = List.replicate wh 0 ++ ((Q ++ [lo]) ++ (0 :: List.replicate (LA.length - (k + 1)) 0)) := by simp
  rw [e1, set_mid (by simp; omega)] at h2
  refine ⟨h2, grown_trans (grown_trans (grown_drew H.gr) (grown_set _ _ _ _)) (grown_set _ _ _ _), by simp [hl], H.dig.append (Dig.cons a b (Dig.nil _)), c, d, ?_⟩
  rw [val_snoc, hl, val_take_succ B64 LA k hk, ← hx, Int.pow_succ]
  have e2 := H.eq
  grind

set_option maxRecDepth 100000 in
set_option maxHeartbeats 2000000 in
theorem shiftLeft_any (va : Value) (a : Int) (s K : Nat) (w : World) (hA : Nt w va a K) (hK : K ≤ 1073741824) (hs : s ≤ 1073741824) :
    Calls Tryz.prog 54 #[va, .int .i64 (s : Int)] w (RetN w (a * 2 ^ s) (K + s / 64 + 1)) := by
  obtain ⟨ao, ca, LA, rfl, hA⟩ := hA
  obtain ⟨n, hn⟩ : ∃ n, n = LA.length := ⟨_, rfl⟩
  have hn30 : n ≤ 1073741824 := by have := hA.le; omega
  obtain ⟨wh, hwh⟩ : ∃ wh, wh = s / 64 := ⟨_, rfl⟩
  obtain ⟨pt, hpt⟩ : ∃ pt, pt = s % 64 := ⟨_, rfl⟩
  have e1 : (s : Int) / 64 = (wh : Int) := by omega
  have e2 : (s : Int) % 64 = (pt : Int) := by omega
  have hp63 : pt ≤ 63 := by omega
  have hw30 : wh ≤ 1073741824 := by omega
  rw [← hn, ← hwh]
  have hpow : (2 : Int) ^ s = B64 ^ wh * 2 ^ pt := by
    have : s = 64 * wh + pt := by omega
    rw [this, Int.pow_add, Int.pow_mul]; rfl
  have HA := hid hA; have Hn := hid hn; have HP := hid hpow
  clear hA hn hwh hpt hpow
  obtain ⟨i0, hi, hz0, hz1, hz2⟩ := info_parts Tryz.info63
  go_enter Tryz.func54, Tryz.ntmps54
  go_wp2_with (at_make; refine wpList_make_row w rfl _ _ 54 rfl 63 i0 .u64 Tryz.underlying54 hi hz0 hz1 .i64 .i64 _ _ (n + wh + 1) rfl rfl (by omega) (by omega) (by rw [hz2]; omega) (by unfold maxLen; omega) ?_)
  intro w1 hrow hg1
  have hb1 := grown_below hg1
  have H0 : ShlI w w1 w.heap.size LA wh pt 0 [] 0 := by
    refine ⟨?_, grown_any hg1, rfl, Dig.nil _, Int.le_refl 0, (pow_split hp63).1, by simp [val]⟩
    have e : List.replicate wh (0 : Int) ++ ([] ++ (0 :: List.replicate (LA.length - 0) 0)) = List.replicate (n + wh + 1) 0 := by
      rw [List.nil_append, ← List.replicate_succ, List.replicate_append_replicate, Nat.sub_zero, ← Hn.out]; congr 1; omega
    rw [e]; exact hrow
  have HG1 := hid (HA.out.rd.ne (Nat.le_refl w.heap.size))
  clear hrow hg1
  go_wp2
  go_loopw [22] (fun iv wr => ∃ k : Nat, ∃ Q h, k ≤ n ∧ iv = .int .i64 k ∧ ShlI w wr w.heap.size LA wh pt k Q h ∧ Below w.heap.size w wr) (fun iv _ => n - (intOf iv).toNat)
  case atStart => exact ⟨0, [], 0, Nat.zero_le _, rfl, H0, hb1⟩
  case round =>
    obtain ⟨k, Q, h, hk, rfl, H, hb⟩ := hrel
    by_cases hlt : k < n
    · obtain ⟨b, o, rfl⟩ := HA.out.rd.adr (by have := Hn.out; omega)
      have hc := (HA.out.rd.keptNew H.gr HG1.out).cell b o rfl k (by have := Hn.out; omega)
      have hd := HA.out.dig.at B64_pos k
      obtain ⟨x, hx⟩ : ∃ x, x = LA[k]?.getD 0 := ⟨_, rfl⟩
      rw [← hx] at hc hd
      have HS := hid (H.step hp63 (by have := Hn.out; omega) hx hd.1 hd.2)
      obtain ⟨c0, c1⟩ := H.cells (by have := Hn.out; omega)
      have f0 := H.row.frozen (k + wh)
      have f1 := H.row.frozen (k + wh + 1)
      have hh0 := H.h0
      have hx0 := hd.1
      clear H H0 hb1 hd hx
      go_wp2
      go_region
      all_goals go_wp2
      go_roundw
      case rel => exact ⟨k + 1, _, _, by omega, by go_num, HS.out, ((hb.drew.setCell (Nat.le_refl _) _).setCell (Nat.le_refl _) _)⟩
      case measure => simp [intOf]; omega
    · obtain rfl : k = n := by omega
      have hr := H.row
      rw [← Hn.out, Nat.sub_self, List.replicate_zero] at hr
      have hv : val B64 (List.replicate wh 0 ++ (Q ++ [h])) = a * 2 ^ s := by
        rw [val_append, val_replicate, List.length_replicate, val_snoc, H.len, H.eq, Hn.out, List.take_length, HA.out.eq, HP.out]; grind
      have hl : (List.replicate wh (0 : Int) ++ (Q ++ [h])).length = k + wh + 1 := by simp [H.len]; omega
      have hh : h < B64 := by
        have := (pow_split hp63)
        have := Int.mul_le_mul_of_nonneg_right (show (1 : Int) ≤ 2 ^ (64 - pt) by omega) (Int.le_of_lt this.1)
        have := H.h1; omega
      have hdg : Dig B64 (List.replicate wh 0 ++ (Q ++ [h])) := (Dig.replicate B64_pos _).append (H.dig.append (Dig.cons H.h0 hh (Dig.nil _)))
      have ht := trim64_any (some ⟨w.heap.size, 0, none⟩) (k + wh + 1) _ wr (row_rd hr (by omega) (by omega))
      rw [hl] at ht
      have hres := nt_row (c := k + wh + 1) (K := K + wh + 1) hr hdg hv (by omega) (by omega) (by have := HA.out.le; have := Hn.out; omega)
      have HT := hid ht; have Hres := hid hres
      clear ht hres hr hv hl hh hdg H H0 hb1
      go_wp2_with (go_at_call 96; refine HT.out.mono ?_; rintro e w2 ⟨rfl, rfl⟩)
      go_ret
      exact ⟨_, rfl, Hres.out, hb⟩

end Go.Proofs.YtbapeilpkhbbeaaGreatDoor
