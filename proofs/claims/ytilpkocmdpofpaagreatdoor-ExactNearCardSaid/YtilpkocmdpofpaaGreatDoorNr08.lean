/- exact.guessLimb: a limb of a quotient, or a greater one. -/
import Derived.Test.YtilpkocmdpofpaaGreatDoorNr07
/- exact.guessLimb: a limb of a quotient, or a greater one. -/
namespace Go.Proofs.YtilpkocmdpofpaaGreatDoor
open Go.RowKit

/-- The guess is made smaller, until it is no longer seen to be too great. -/
def glGo (d1 d0 h0 : Int) : Nat → Int → Int → Int
  | 0, q, _ => q
  | n + 1, q, r => if q * d0 / B64 < r ∨ (q * d0 / B64 = r ∧ q * d0 % B64 ≤ h0) then q else if B64 ≤ r + d1 then q - 1 else glGo d1 d0 h0 n (q - 1) (r + d1)
def gl (h2 h1 h0 d1 d0 : Int) : Int := if d1 ≤ h2 then B64 - 1 else glGo d1 d0 h0 18446744073709551616 ((h2 * B64 + h1) / d1) ((h2 * B64 + h1) % d1)

theorem gl_seen {q d0 r h0 : Int} (hq : 0 ≤ q) (hd : 0 ≤ d0) (hk : h0 < B64) (h : ¬ (q * d0 / B64 < r ∨ (q * d0 / B64 = r ∧ q * d0 % B64 ≤ h0))) : r * B64 + h0 < q * d0 := by
  have e := Int.emod_add_mul_ediv (q * d0) B64
  have a := Int.emod_nonneg (q * d0) (show B64 ≠ 0 by decide)
  have b := Int.emod_lt_of_pos (q * d0) B64_pos
  have c := Int.mul_nonneg hq hd
  generalize q * d0 % B64 = lo at *
  generalize q * d0 / B64 = hi at *
  unfold B64 at *
  omega

/-- No limb that fits is greater than the guess. -/
theorem glGo_ge {d1 d0 h0 H : Int} (hd1 : 0 < d1) (hd0 : 0 ≤ d0) (hh : 0 ≤ h0) (hk : h0 < B64) : ∀ (n : Nat) (q r : Int), 0 ≤ q → q < B64 → 0 ≤ r → q * d1 + r = H → (∀ Q : Int, 0 ≤ Q → Q * (d1 * B64 + d0) ≤ H * B64 + h0 → Q ≤ q) →
    (0 ≤ glGo d1 d0 h0 n q r ∧ glGo d1 d0 h0 n q r < B64) ∧ ∀ Q : Int, 0 ≤ Q → Q * (d1 * B64 + d0) ≤ H * B64 + h0 → Q ≤ glGo d1 d0 h0 n q r := by
  intro n
  induction n with
  | zero => intro q r q0 q1 _ _ h; exact ⟨⟨q0, q1⟩, h⟩
  | succ n ih =>
    intro q r q0 q1 r0 he h
    simp only [glGo]
    split
    · exact ⟨⟨q0, q1⟩, h⟩
    · next hs =>
      have hl := gl_seen q0 hd0 hk hs
      have hq1 : 1 ≤ q := by
        rcases Int.lt_or_le 0 q with k | k
        · omega
        · have : q = 0 := by omega
          subst this
          have := Int.mul_nonneg r0 (Int.le_of_lt B64_pos)
          omega
      have hstep : ∀ Q : Int, 0 ≤ Q → Q * (d1 * B64 + d0) ≤ H * B64 + h0 → Q ≤ q - 1 := by
        intro Q Q0 hQ
        have h1 := h Q Q0 hQ
        rcases Int.lt_or_le Q q with k | k
        · omega
        · have : Q = q := by omega
          subst this
          have e : Q * (d1 * B64 + d0) = (Q * d1 + r) * B64 - r * B64 + Q * d0 := by grind
          rw [e, he] at hQ
          omega
      split
      · exact ⟨⟨by omega, by omega⟩, hstep⟩
      · exact ih (q - 1) (r + d1) (by omega) (by omega) (by omega) (by rw [Int.sub_mul]; omega) hstep

theorem gl_ge {h2 h1 h0 d1 d0 : Int} (hh2 : 0 ≤ h2) (hh1 : 0 ≤ h1 ∧ h1 < B64) (hh0 : 0 ≤ h0 ∧ h0 < B64) (hd1 : 0 < d1) (hd0 : 0 ≤ d0) :
    (0 ≤ gl h2 h1 h0 d1 d0 ∧ gl h2 h1 h0 d1 d0 < B64) ∧ ∀ Q : Int, 0 ≤ Q → Q < B64 → Q * (d1 * B64 + d0) ≤ (h2 * B64 + h1) * B64 + h0 → Q ≤ gl h2 h1 h0 d1 d0 := by
  unfold gl
  split
  · exact ⟨⟨by decide, by decide⟩, fun Q _ h _ => by omega⟩
  · next hlt =>
    have H0 : 0 ≤ h2 * B64 + h1 := by have := Int.mul_nonneg hh2 (Int.le_of_lt B64_pos); omega
    have hH : h2 * B64 + h1 < B64 * d1 := by
      have := Int.mul_le_mul_of_nonneg_right (show h2 + 1 ≤ d1 by omega) (Int.le_of_lt B64_pos)
      rw [Int.add_mul] at this
      rw [Int.mul_comm B64 d1]; omega
    have q0 : 0 ≤ (h2 * B64 + h1) / d1 := Int.ediv_nonneg H0 (Int.le_of_lt hd1)
    have q1 : (h2 * B64 + h1) / d1 < B64 := Int.ediv_lt_of_lt_mul hd1 hH
    have r0 := Int.emod_nonneg (h2 * B64 + h1) (show d1 ≠ 0 by omega)
    have e := Int.emod_add_mul_ediv (h2 * B64 + h1) d1
    have g := glGo_ge (h0 := h0) hd1 hd0 hh0.1 hh0.2 18446744073709551616 ((h2 * B64 + h1) / d1) ((h2 * B64 + h1) % d1) q0 q1 r0 (H := h2 * B64 + h1) (by rw [Int.mul_comm]; omega) (by
      intro Q Q0 hQ
      have e2 : Q * (d1 * B64 + d0) = Q * d1 * B64 + Q * d0 := by rw [Int.mul_add, Int.mul_assoc]
      have e3 := Int.mul_nonneg Q0 hd0
      refine (Int.le_ediv_iff_mul_le hd1).2 ?_
      rw [e2] at hQ
      have hk := hh0.2
      generalize Q * d1 = a at *
      generalize Q * d0 = b at *
      generalize h2 * B64 + h1 = c at *
      unfold B64 at *
      omega)
    exact ⟨g.1, fun Q Q0 _ hQ => g.2 Q Q0 hQ⟩

theorem gl_begin {h2 h1 d1 : Int} (hh2 : 0 ≤ h2) (hh1 : 0 ≤ h1 ∧ h1 < B64) (hd1 : 0 < d1 ∧ d1 < B64) (hlt : h2 < d1) :
    0 ≤ (h2 * B64 + h1) / d1 ∧ (h2 * B64 + h1) / d1 < B64 ∧ 0 ≤ (h2 * B64 + h1) % d1 ∧ (h2 * B64 + h1) % d1 < B64 := by
  have H0 : 0 ≤ h2 * B64 + h1 := by have := Int.mul_nonneg hh2 (Int.le_of_lt B64_pos); omega
  have hH : h2 * B64 + h1 < B64 * d1 := by
    have := Int.mul_le_mul_of_nonneg_right (show h2 + 1 ≤ d1 by omega) (Int.le_of_lt B64_pos)
    rw [Int.add_mul] at this
    rw [Int.mul_comm B64 d1]; omega
  have := Int.emod_lt_of_pos (h2 * B64 + h1) hd1.1
  exact ⟨Int.ediv_nonneg H0 (Int.le_of_lt hd1.1), Int.ediv_lt_of_lt_mul hd1.1 hH, Int.emod_nonneg _ (by omega), by omega⟩

/-- A call that draws, behind a quiet region. -/
theorem quietDraws {P : Program} {f : FuncId} {args : Array Value} {w : World} {a n : Nat} {v : Value} (h : Calls P f args (w.drewN (a + n)) fun e w' => e = .returned v ∧ ∃ k, w' = (w.drewN (a + n)).drewN k) :
    Calls P f args (w.drewN (a + n)) fun e w' => e = .returned v ∧ ∃ m, w' = w.drewN (a + m) := h.mono fun _ _ ⟨he, k, hm⟩ => ⟨he, n + k, by rw [hm, World.drewN_drewN, Nat.add_assoc]⟩

/-- What holds at the loop's head. -/
structure GlI (w wr : World) (d1 d0 h0 R : Int) (n : Nat) (q r : Int) : Prop where
  q0 : 0 ≤ q
  q1 : q < B64
  r0 : 0 ≤ r
  r1 : r < B64
  fuel : B64 - r ≤ n
  res : glGo d1 d0 h0 n q r = R
  wd : ∃ nq, wr = w.drewN nq

set_option maxRecDepth 100000 in
set_option maxHeartbeats 2000000 in
theorem guessLimb_any (b1 o1 c1 b2 o2 c2 : Nat) (h0 h1 h2 d0 d1 : Int) (w : World) (H0 : 0 ≤ h0 ∧ h0 < B64) (H1 : 0 ≤ h1 ∧ h1 < B64) (H2 : 0 ≤ h2 ∧ h2 < B64) (D0 : 0 ≤ d0 ∧ d0 < B64) (D1 : 0 < d1 ∧ d1 < B64)
    (C0 : w.cell? ⟨b1, o1, none⟩ = some (.int .u64 h0)) (C1 : w.cell? ⟨b1, o1 + 1, none⟩ = some (.int .u64 h1)) (C2 : w.cell? ⟨b1, o1 + 2, none⟩ = some (.int .u64 h2)) (E0 : w.cell? ⟨b2, o2, none⟩ = some (.int .u64 d0)) (E1 : w.cell? ⟨b2, o2 + 1, none⟩ = some (.int .u64 d1)) :
    Calls Tryz.prog 200 #[.slice (some ⟨b1, o1, none⟩) 3 c1, .slice (some ⟨b2, o2, none⟩) 2 c2] w fun e w' => e = .returned (.int .u64 (gl h2 h1 h0 d1 d0)) ∧ ∃ nq, w' = w.drewN nq := by
  by_cases hc : d1 ≤ h2
  · have HR := hid (show gl h2 h1 h0 d1 d0 = 18446744073709551615 by unfold gl; rw [if_pos hc]; rfl)
    go_enter Tryz.func200, Tryz.ntmps200
    go_wp2
    go_quiet (fail)
    go_wp2
    go_ret
    exact ⟨by rw [HR.out]; rfl, _, rfl⟩
  · have hR0 : gl h2 h1 h0 d1 d0 = glGo d1 d0 h0 18446744073709551616 ((h2 * B64 + h1) / d1) ((h2 * B64 + h1) % d1) := by unfold gl; rw [if_neg hc]
    have hlt : h2 < d1 := by omega
    rw [hR0]
    have hb := gl_begin H2.1 H1 D1 hlt
    have hd := fun w => div64_any h2 h1 d1 H2.1 hlt H1.1 H1.2 D1.2 w
    obtain ⟨q, hq⟩ : ∃ q, q = (h2 * B64 + h1) / d1 := ⟨_, rfl⟩
    obtain ⟨r, hr⟩ : ∃ r, r = (h2 * B64 + h1) % d1 := ⟨_, rfl⟩
    simp only [← hq, ← hr] at hb hd ⊢
    obtain ⟨R, hR⟩ : ∃ R, R = glGo d1 d0 h0 18446744073709551616 q r := ⟨_, rfl⟩
    rw [← hR]
    have HI : ∀ n, GlI w (w.drewN n) d1 d0 h0 R 18446744073709551616 q r := fun n => ⟨hb.1, hb.2.1, hb.2.2.1, hb.2.2.2, by have := hb.2.2.1; unfold B64; omega, hR.symm, n, rfl⟩
    have HI' := hid HI
    have HD := hid hd
    clear hR0 hR hb hq hr HI hd
    go_enter Tryz.func200, Tryz.ntmps200
    go_wp2
    go_quiet (fail)
    go_wp2
    go_quiet ((go_at_call 192; exact quietDraws (HD.out _)))
    go_wp2
    go_loopw [5, 6] (fun qv rv wr => ∃ n q r, qv = .int .u64 q ∧ rv = .int .u64 r ∧ GlI w wr d1 d0 h0 R n q r) (fun _ rv _ => (18446744073709551616 - intOf rv).toNat)
    case atStart => exact ⟨_, _, _, rfl, rfl, by rw [World.drewN_drewN]; exact HI'.out _⟩
    case round =>
      obtain ⟨n, q, r, rfl, rfl, H⟩ := hrel
      obtain ⟨nq2, rfl⟩ := H.wd
      have Hq := hid (show 0 ≤ q ∧ q < B64 from ⟨H.q0, H.q1⟩)
      have hfuel := H.fuel
      have HL := hid H
      have r0 := H.r0; have r1 := H.r1
      cases n with
      | zero => unfold B64 at *; omega
      | succ n =>
        have hres := H.res
        simp only [glGo] at hres
        have hm := fun w => mul64 q d0 H.q0 H.q1 D0.1 D0.2 w
        have hseen := fun h => gl_seen (q := q) (d0 := d0) (r := r) (h0 := h0) H.q0 D0.1 H0.2 h
        obtain ⟨hi, hhi⟩ : ∃ hi, hi = q * d0 / B64 := ⟨_, rfl⟩
        obtain ⟨lo, hlo⟩ : ∃ lo, lo = q * d0 % B64 := ⟨_, rfl⟩
        rw [← hhi, ← hlo] at hm hres hseen
        have HM := hid hm
        by_cases c1 : hi < r
        · rw [if_pos (.inl c1)] at hres
          have HRes := hid hres
          clear hm hres hhi hlo hseen H hfuel HI'
          go_wp2_with (go_at_call 189; refine (HM.out _).mono ?_; rintro e w' ⟨rfl, rfl⟩)
          go_ret
          exact ⟨by rw [← HRes.out]; rfl, _, rfl⟩
        · by_cases c2 : hi = r
          · by_cases c3 : lo ≤ h0
            · rw [if_pos (.inr ⟨c2, c3⟩)] at hres
              have HRes := hid hres
              clear hm hres hhi hlo hseen H hfuel HI'
              go_wp2_with (go_at_call 189; refine (HM.out _).mono ?_; rintro e w' ⟨rfl, rfl⟩)
              go_ret
              exact ⟨by rw [← HRes.out]; rfl, _, rfl⟩
            · have hs := hseen (by omega)
              rw [if_neg (by omega)] at hres
              have hq1 : 1 ≤ q := by
                rcases Int.lt_or_le 0 q with k | k
                · omega
                · have : q = 0 := by have := H.q0; omega
                  subst this
                  have := Int.mul_nonneg r0 (Int.le_of_lt B64_pos)
                  have := H0.1
                  omega
              have q1' : q ≤ 18446744073709551615 := by have := H.q1; unfold B64 at this; omega
              clear hm hhi hlo hseen hs HI' H
              by_cases c4 : B64 ≤ r + d1
              · rw [if_pos c4] at hres
                have hcar : (r + d1 + 0) / B64 = 1 ∧ (r + d1 + 0) % B64 = r + d1 - B64 := by have := D1.2; unfold B64 at *; omega
                have ha := fun w => add64 r d1 0 r0 (by have := D1.1; omega) (Int.le_refl 0) (by decide) w
                simp only [hcar.1, hcar.2] at ha
                have HRes := hid hres
                clear hres hfuel hcar c4
                go_wp2_with (go_at_call 189; refine (HM.out _).mono ?_; rintro e w' ⟨rfl, rfl⟩)
                go_ret
                exact ⟨by rw [← HRes.out]; go_num, _, rfl⟩
              · rw [if_neg c4] at hres
                have hcar : (r + d1 + 0) / B64 = 0 ∧ (r + d1 + 0) % B64 = r + d1 := by have := D1.1; unfold B64 at *; omega
                have ha := fun w => add64 r d1 0 r0 (by have := D1.1; omega) (Int.le_refl 0) (by decide) w
                simp only [hcar.1, hcar.2] at ha
                have HS := hid (show GlI w (w.drewN nq2) d1 d0 h0 R n (q - 1) (r + d1) from ⟨by omega, by unfold B64; omega, by have := D1.1; omega, by omega, by have := D1.1; omega, hres, nq2, rfl⟩)
                have hd1 := D1.1
                unfold B64 at c4
                clear hres hfuel hcar
                go_wp2_with (go_at_call 189; refine (HM.out _).mono ?_; rintro e w' ⟨rfl, rfl⟩)
                go_roundw
                case rel => exact ⟨n, _, _, by go_num, rfl, HS.out⟩
                case measure => simp [intOf]; omega
          · have hs := hseen (by omega)
            rw [if_neg (by omega)] at hres
            have hq1 : 1 ≤ q := by
              rcases Int.lt_or_le 0 q with k | k
              · omega
              · have : q = 0 := by have := H.q0; omega
                subst this
                have := Int.mul_nonneg r0 (Int.le_of_lt B64_pos)
                have := H0.1
                omega
            have q1' : q ≤ 18446744073709551615 := by have := H.q1; unfold B64 at this; omega
            clear hm hhi hlo hseen hs HI' H
            by_cases c4 : B64 ≤ r + d1
            · rw [if_pos c4] at hres
              have hcar : (r + d1 + 0) / B64 = 1 ∧ (r + d1 + 0) % B64 = r + d1 - B64 := by have := D1.2; unfold B64 at *; omega
              have ha := fun w => add64 r d1 0 r0 (by have := D1.1; omega) (Int.le_refl 0) (by decide) w
              simp only [hcar.1, hcar.2] at ha
              have HRes := hid hres
              clear hres hfuel hcar c4
              go_wp2_with (go_at_call 189; refine (HM.out _).mono ?_; rintro e w' ⟨rfl, rfl⟩)
              go_ret
              exact ⟨by rw [← HRes.out]; go_num, _, rfl⟩
            · rw [if_neg c4] at hres
              have hcar : (r + d1 + 0) / B64 = 0 ∧ (r + d1 + 0) % B64 = r + d1 := by have := D1.1; unfold B64 at *; omega
              have ha := fun w => add64 r d1 0 r0 (by have := D1.1; omega) (Int.le_refl 0) (by decide) w
              simp only [hcar.1, hcar.2] at ha
              have HS := hid (show GlI w (w.drewN nq2) d1 d0 h0 R n (q - 1) (r + d1) from ⟨by omega, by unfold B64; omega, by have := D1.1; omega, by omega, by have := D1.1; omega, hres, nq2, rfl⟩)
              have hd1 := D1.1
              unfold B64 at c4
              clear hres hfuel hcar
              go_wp2_with (go_at_call 189; refine (HM.out _).mono ?_; rintro e w' ⟨rfl, rfl⟩)
              go_roundw
              case rel => exact ⟨n, _, _, by go_num, rfl, HS.out⟩
              case measure => simp [intOf]; omega

end Go.Proofs.YtilpkocmdpofpaaGreatDoor
