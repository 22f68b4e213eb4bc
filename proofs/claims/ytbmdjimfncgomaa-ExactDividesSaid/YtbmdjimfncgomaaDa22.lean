/- The document's own integers: Gcd. The document's own integers: SameWords, Int, SameInt, LikeInt, NoInt. -/
import Derived.Test.YtbmdjimfncgomaaDa20
import Derived.Test.YtbmdjimfncgomaaDa15
import Derived.Test.YtbmdjimfncgomaaDa09
import Derived.Deep.DeepCutAuto
import Derived.Deep.CutBlock
/- The document's own integers: Gcd. -/
namespace Go.Proofs.Ytbmdjimfncgomaa
open Go.RowKit

theorem gcd_ev_ev {X Y : Int} (hx : X % 2 = 0) (hy : Y % 2 = 0) : Int.gcd X Y = 2 * Int.gcd (X / 2) (Y / 2) := by
  have e1 : X = 2 * (X / 2) := by omega
  have e2 : Y = 2 * (Y / 2) := by omega
  have := Int.gcd_mul_left 2 (X / 2) (Y / 2)
  rw [← e1, ← e2] at this
  exact this
theorem gcd_ev_odd {X Y : Int} (hx : X % 2 = 0) (hy : Y % 2 ≠ 0) : Int.gcd (X / 2) Y = Int.gcd X Y := by
  have e1 : X = 2 * (X / 2) := by omega
  have e2 : Y = 2 * (Y / 2) + 1 := by omega
  apply Nat.dvd_antisymm
  · apply Int.dvd_gcd
    · have := Int.gcd_dvd_left (X / 2) Y
      have h := Int.dvd_mul_of_dvd_right this (b := 2)
      rw [← e1] at h; exact h
    · exact Int.gcd_dvd_right (X / 2) Y
  · apply Int.dvd_gcd
    · have h1 := Int.gcd_dvd_left X Y
      have h2 := Int.gcd_dvd_right X Y
      have h := Int.dvd_sub (Int.dvd_mul_of_dvd_right h2 (b := X / 2)) (Int.dvd_mul_of_dvd_right h1 (b := Y / 2))
      have e : X / 2 * Y - Y / 2 * X = X / 2 := by
        generalize X / 2 = a at *
        generalize Y / 2 = b at *
        subst e1; subst e2; grind
      rw [e] at h; exact h
    · exact Int.gcd_dvd_right X Y
theorem gcd_odd_ev {X Y : Int} (hx : X % 2 ≠ 0) (hy : Y % 2 = 0) : Int.gcd X (Y / 2) = Int.gcd X Y := by
  rw [Int.gcd_comm, gcd_ev_odd hy hx, Int.gcd_comm]
theorem gcd_less_l (X Y : Int) : Int.gcd (X - Y) Y = Int.gcd X Y := by
  rw [Int.gcd_comm]; have := gcd_sub_mul X Y 1; rw [Int.one_mul] at this; exact this
theorem gcd_less_r (X Y : Int) : Int.gcd X (Y - X) = Int.gcd X Y := by
  rw [Int.gcd_comm, gcd_less_l, Int.gcd_comm]
theorem gcd_pos {X Y : Int} (h : 0 < X) : 0 < Int.gcd X Y := by
  rcases Nat.eq_zero_or_pos (Int.gcd X Y) with h0 | h0
  · have := Int.gcd_dvd_left X Y
    rw [h0] at this
    have := Int.zero_dvd.1 this; omega
  · exact h0
theorem gcd_le {X Y : Int} (hx : 0 < X) : (Int.gcd X Y : Int) ≤ X := Int.le_of_dvd hx (Int.gcd_dvd_left X Y)
theorem gcd_lt_of {X Y M : Int} (hx : 0 ≤ X) (hy : 0 ≤ Y) (h1 : X < M) (h2 : Y < M) : (Int.gcd X Y : Int) < M := by
  rcases Int.lt_or_eq_of_le hx with h | h
  · exact Int.lt_of_le_of_lt (gcd_le h) h1
  · rw [← h]; simp [Int.gcd]; omega

theorem Md.unique {w : World} {v : Value} {n n' : Int} {K K' : Nat} (h : Md w v n K) (h' : Md w v n' K') : n = n' := by
  obtain ⟨ao, c, L, rfl, h⟩ := h
  obtain ⟨ao', c', L', e, h'⟩ := h'
  obtain ⟨e1, e2, _⟩ := Value.slice.inj e
  subst e1
  rw [← h.eq, ← h'.eq, h.rd.unique h'.rd e2]
open Classical in
/-- The number that digits stand for, 0 if none. -/
noncomputable def mdOf (w : World) (v : Value) : Nat := if h : ∃ n : Int, ∃ K, Md w v n K then (Classical.choose h).toNat else 0
theorem mdOf_eq {w : World} {v : Value} {n : Int} {K : Nat} (h : Md w v n K) : mdOf w v = n.toNat := by
  have hx : ∃ n : Int, ∃ K, Md w v n K := ⟨n, K, h⟩
  unfold mdOf
  rw [dif_pos hx]
  obtain ⟨K', h'⟩ := Classical.choose_spec hx
  rw [h'.unique h]
noncomputable def rgM (w : World) (x y : Value) : Nat := 2 * (mdOf w x + mdOf w y) + if mdOf w x < mdOf w y then 1 else 0

/-- What holds ahead of a round. -/
structure RgI (W0 wr : World) (xv yv : Value) (X Y : Int) (t G K : Nat) : Prop where
  x : Md wr xv X K
  y : Md wr yv Y K
  g : 2 ^ t * Int.gcd X Y = G
  lt : (G : Int) < R16 ^ K
  low : Below W0.heap.size W0 wr

theorem rgM_lt {w w' : World} {xv yv xv' yv' : Value} {X Y X' Y' : Int} {K K' : Nat} (hx : Md w xv X K) (hy : Md w yv Y K) (hx' : Md w' xv' X' K') (hy' : Md w' yv' Y' K') (h : X' + Y' < X + Y ∨ (X' = Y ∧ Y' = X ∧ X < Y)) : rgM w' xv' yv' < rgM w xv yv := by
  unfold rgM
  rw [mdOf_eq hx, mdOf_eq hy, mdOf_eq hx', mdOf_eq hy']
  have a := hx.nonneg; have b := hy.nonneg; have c := hx'.nonneg; have d := hy'.nonneg
  rcases h with h | ⟨h1, h2, h3⟩
  · split <;> split <;> omega
  · subst h1; subst h2; split <;> split <;> omega

theorem RgI.few {W0 wr : World} {xv yv : Value} {X Y : Int} {t G K : Nat} (H : RgI W0 wr xv yv X Y t G K) (hx : 0 < X) : t < 16 * K := by
  have h1 : (2 : Int) ^ t ≤ G := by
    have hg := H.g
    have hp : 0 < Int.gcd X Y := gcd_pos hx
    have hn : 2 ^ t * 1 ≤ 2 ^ t * Int.gcd X Y := Nat.mul_le_mul_left _ hp
    rw [hg] at hn
    have : ((2 ^ t * 1 : Nat) : Int) ≤ (G : Int) := by exact_mod_cast hn
    simpa using this
  have h2 : R16 ^ K = (2 : Int) ^ (16 * K) := by rw [Int.pow_mul]; rfl
  have h3 := H.lt
  rw [h2] at h3
  exact pow_lt_gen (by decide) (Int.lt_of_le_of_lt h1 h3)

theorem Md.few3 {w : World} {ao : Option Addr} {n c : Nat} {x : Int} {K : Nat} (h : Md w (.slice ao n c) x K) (hn : n ≤ 3) : Md w (.slice ao n c) x 3 := by
  obtain ⟨ao', c', L, e, h⟩ := h
  obtain ⟨e1, e2, e3⟩ := Value.slice.inj e
  subst e1; subst e3
  exact ⟨ao, c, L, e, h.rd, h.dig, h.nrm, h.eq, by omega⟩
theorem Md.pos_iff {w : World} {ao : Option Addr} {n c : Nat} {x : Int} {K : Nat} (h : Md w (.slice ao n c) x K) : 0 < n ↔ 0 < x := by
  have h0 := h.nonneg
  obtain ⟨ao', c', L, e, h⟩ := h
  obtain ⟨e1, e2, e3⟩ := Value.slice.inj e
  have := h.zero_iff
  omega
theorem Md.many {w : World} {ao : Option Addr} {n c : Nat} {x : Int} {K : Nat} (h : Md w (.slice ao n c) x K) (hn : ¬ n ≤ 3) : R16 ^ 3 ≤ x := by
  obtain ⟨ao', c', L, e, h⟩ := h
  obtain ⟨e1, e2, e3⟩ := Value.slice.inj e
  have := h.nrm.low R16_pos h.dig (by omega)
  rw [h.eq] at this
  exact Int.le_trans (pow_mono R16_pos (by omega)) this
theorem even_md {w : World} {va : Value} {a : Int} {K : Nat} (hA : Md w va a K) :
    Calls Try.prog 58 #[va] w fun e w' => e = .returned (.bool (decide (a % 2 = 0))) ∧ w' = w := by
  obtain ⟨ao, ca, L, rfl, hA⟩ := hA
  have h := even_any ao ca L w hA.rd hA.dig
  rw [hA.eq] at h
  exact h


theorem mod_dec {X Y : Int} (hx : 0 ≤ X) (hy : 0 < Y) : Y + X % Y < X + Y ∨ (Y = Y ∧ X % Y = X ∧ X < Y) := by
  have h1 := Int.emod_lt_of_pos X hy
  by_cases h : X < Y
  · right; exact ⟨rfl, Int.emod_eq_of_lt hx h, h⟩
  · left; omega
theorem order_same (va vb : Value) (a b : Int) (Ka Kb : Nat) (w : World) (hA : Md w va a Ka) (hB : Md w vb b Kb) :
    Calls Try.prog 53 #[va, vb] w fun e w' => e = .returned (.int .i64 (cmpI a b)) ∧ w = w' :=
  (order_md va vb a b Ka Kb w hA hB).mono fun _ _ h => ⟨h.1, h.2.symm⟩
theorem even_same {w : World} {va : Value} {a : Int} {K : Nat} (hA : Md w va a K) :
    Calls Try.prog 58 #[va] w fun e w' => e = .returned (.bool (decide (a % 2 = 0))) ∧ w = w' :=
  (even_md hA).mono fun _ _ h => ⟨h.1, h.2.symm⟩

theorem few_same (ao : Option Addr) (c n : Nat) (w : World) : Calls Try.prog 56 #[.slice ao n c] w fun e w' => e = .returned (.bool (decide (n ≤ 3))) ∧ w = w' :=
  (few_any ao c n w).mono fun _ _ h => ⟨h.1, h.2.symm⟩

theorem RgI.next {W0 wr w' : World} {xv yv xv' yv' : Value} {X Y X' Y' : Int} {t t' G K : Nat} (H : RgI W0 wr xv yv X Y t G K) (hx : Md w' xv' X' K) (hy : Md w' yv' Y' K) (hg : 2 ^ t' * Int.gcd X' Y' = 2 ^ t * Int.gcd X Y) (hb : Below wr.heap.size wr w') : RgI W0 w' xv' yv' X' Y' t' G K :=
  ⟨hx, hy, by rw [hg]; exact H.g, H.lt, H.low.trans (hb.mono H.low.size)⟩

set_option maxRecDepth 100000 in
set_option maxHeartbeats 16000000 in
theorem rgcd_any (u v : Value) (x y : Int) (K : Nat) (w : World) (hu : Zt w u x K) (hv : Zt w v y K) (hK : K ≤ 67108864) (hK1 : 4 ≤ K) :
    Calls Try.prog 18 #[u, v] w (RetZ w (Int.gcd x y : Int) (K + 1)) := by
  obtain ⟨xb, xo, xm, xc, rfl, Hx, Hxs, Hxb⟩ := Zt.opened hu
  obtain ⟨yb, yo, ym, yc, rfl, Hy, Hys, Hyb⟩ := Zt.opened hv
  clear hu hv
  obtain ⟨G, hG⟩ : ∃ G, Int.gcd (x.natAbs : Int) (y.natAbs : Int) = G := ⟨_, rfl⟩
  have eG : Int.gcd x y = G := by rw [← hG]; simp [Int.gcd]
  rw [eG]
  have HG := hid hG
  clear hG eG
  go_enter Try.func18, Try.ntmps18
  go_upto_region 1 with (fail)
  obtain ⟨W0, hW0⟩ : ∃ W0, W0 = (((w.alloc (.cells #[.bool xb, .slice xo xm xc] 28)).alloc (.cells #[.bool yb, .slice yo ym yc] 28)).alloc (.cells #[.bool false, .slice none 0 0] 28)) := ⟨_, rfl⟩
  have hB0 : Below w.heap.size w W0 := by rw [hW0]; exact (((Below.refl _ _).alloc (Nat.le_refl _) _).alloc (by simp) _).alloc (by simp; omega) _
  have hw0 : W0.heap.size = w.heap.size + 3 := by rw [hW0]; simp
  have HS : Hid (∀ w', Below W0.heap.size W0 w' → w'.cell? ⟨w.heap.size, 0, none⟩ = some (.bool xb) ∧ w'.cell? ⟨w.heap.size, 1, none⟩ = some (.slice xo xm xc) ∧ w'.cell? ⟨w.heap.size + 1, 0, none⟩ = some (.bool yb) ∧ w'.cell? ⟨w.heap.size + 1, 1, none⟩ = some (.slice yo ym yc)) := hid (fun w' hb => by
    refine ⟨?_, ?_, ?_, ?_⟩ <;> (rw [hb.cell (by rw [hw0]; simp <;> omega), hW0]; simp [go_sem]))
  have HT : Hid (∀ w', Below W0.heap.size W0 w' → w'.cell? ⟨w.heap.size + 2, 0, none⟩ = some (.bool false) ∧ w'.cell? ⟨w.heap.size + 2, 1, none⟩ = some (.slice none 0 0) ∧ w'.frozen? ⟨w.heap.size + 2, 0, none⟩ = false ∧ w'.frozen? ⟨w.heap.size + 2, 1, none⟩ = false) := hid (fun w' hb => by
    refine ⟨?_, ?_, ?_, ?_⟩ <;> (first | (rw [hb.cell (by rw [hw0]; simp <;> omega), hW0]; simp [go_sem]; done) | (rw [hb.frozen (by rw [hw0]; simp <;> omega), hW0]; simp [go_sem]; done)))
  rw [← hW0, show w.heap.size + 1 + 1 = w.heap.size + 2 from rfl]
  clear hW0
  obtain ⟨hs0, hs1, hs2, hs3⟩ := HS.out W0 (Below.refl _ _)
  have hlt : (G : Int) < R16 ^ K := by
    have a := (Hxs.out w (Below.refl _ _)); have b := (Hys.out w (Below.refl _ _))
    rw [← HG.out]; exact gcd_lt_of a.nonneg b.nonneg a.lt b.lt
  have HI0 := hid (show RgI W0 W0 (.slice xo xm xc) (.slice yo ym yc) (x.natAbs : Int) (y.natAbs : Int) 0 G K from ⟨Hxs.out _ hB0, Hys.out _ hB0, by rw [HG.out]; omega, hlt, Below.refl _ _⟩)
  have HB0 := hid hB0; have Hw0 := hid hw0; have Hlt := hid hlt
  clear hB0 hw0 hlt
  go_upto_block 0 with (fail)
  go_cut [5, 6, 7] (fun xv yv tv wx => ∃ X Y : Int, ∃ t : Nat, tv = .int .i64 t ∧ t ≤ 16 * K ∧ (X = 0 ∨ Y = 0) ∧ RgI W0 wx xv yv X Y t G K)
  case first =>
    clear hs0 hs1 hs2 hs3
    go_wp2
    go_loopw [5, 6, 7] (fun xv yv tv wr => ∃ X Y : Int, ∃ t : Nat, tv = .int .i64 t ∧ t ≤ 16 * K ∧ RgI W0 wr xv yv X Y t G K) (fun xv yv _ wr => rgM wr xv yv)
    case atStart => exact ⟨_, _, 0, rfl, Nat.zero_le _, HI0.out⟩
    case round =>
      obtain ⟨X, Y, t, rfl, ht, H⟩ := hrel
      have hX := H.x; have hY := H.y
      obtain ⟨xo, xn, xc, rfl, HX⟩ := Md.opened H.x
      obtain ⟨yo, yn, yc, rfl, HY⟩ := Md.opened H.y
      have px := hX.pos_iff; have py := hY.pos_iff
      have HH := hid H; have Ht := hid ht; have HPx := hid px; have HPy := hid py
      clear H HI0 ht hX hY px py
      by_cases hx0 : 0 < xn
      · by_cases hy0 : 0 < yn
        · have hXp : 0 < X := HPx.out.1 hx0
          have hYp : 0 < Y := HPy.out.1 hy0
          have HXp := hid hXp; have HYp := hid hYp
          clear hXp hYp
          by_cases hy3 : yn ≤ 3
          · have ty : decide (yn ≤ 3) = true := decide_eq_true hy3
            rcases (show decide (xn ≤ 3) = true ∨ decide (xn ≤ 3) = false by cases decide (xn ≤ 3) <;> simp) with tx | tx
            all_goals
            have hbf := byFew_any _ _ X Y K wr (HX.out _ (Below.refl _ _)) ((HY.out _ (Below.refl _ _)).few3 hy3) HYp.out (by omega)
            have HBf := hid hbf
            clear hbf
            go_wp2_with (first
              | (go_at_call 56; refine (few_same _ _ _ _).mono ?_; rintro e w1 ⟨rfl, rfl⟩)
              | (go_at_call 57; refine HBf.out.mono ?_; rintro e w2 ⟨_, v2, rfl, _, hv2, hb2⟩))
            have hm0 := Int.emod_nonneg X (show Y ≠ 0 by have := HYp.out; omega)
            have hm1 := Int.emod_lt_of_pos X HYp.out
            have HN := hid (HH.out.next ((HY.out _ hb2)) ((hv2.mono (by omega))) (by rw [gcd_step HH.out.x.nonneg HYp.out]) hb2)
            have HM := hid (show Y + X % Y < X + Y ∨ (Y = Y ∧ X % Y = X ∧ X < Y) from mod_dec HH.out.x.nonneg HYp.out)
            clear hv2 hb2 hm0 hm1
            go_roundw
            case rel => exact ⟨_, _, t, rfl, Ht.out, HN.out⟩
            case measure => exact rgM_lt HH.out.x HH.out.y HN.out.x HN.out.y HM.out
          · have ty : decide (yn ≤ 3) = false := decide_eq_false hy3
            by_cases hx3 : xn ≤ 3
            · have tx : decide (xn ≤ 3) = true := decide_eq_true hx3
              have hbf := byFew_any _ _ Y X K wr (HY.out _ (Below.refl _ _)) ((HX.out _ (Below.refl _ _)).few3 hx3) HXp.out (by omega)
              have HBf := hid hbf
              clear hbf
              go_wp2_with (first
                | (go_at_call 56; refine (few_same _ _ _ _).mono ?_; rintro e w1 ⟨rfl, rfl⟩)
                | (go_at_call 57; refine HBf.out.mono ?_; rintro e w2 ⟨_, v2, rfl, _, hv2, hb2⟩))
              have hm0 := Int.emod_nonneg Y (show X ≠ 0 by have := HXp.out; omega)
              have hm1 := Int.emod_lt_of_pos Y HXp.out
              have HN := hid (HH.out.next ((hv2.mono (by omega))) ((HX.out _ hb2)) (by rw [Int.gcd_comm, gcd_step HH.out.y.nonneg HXp.out, Int.gcd_comm]) hb2)
              have HM := hid (show Y % X + X < X + Y ∨ (Y % X = Y ∧ X = X ∧ X < Y) by (left; have := (HX.out _ (Below.refl _ _)).few3 hx3; have := this.lt; have := (HY.out _ (Below.refl _ _)).many hy3; omega))
              clear hv2 hb2 hm0 hm1
              go_roundw
              case rel => exact ⟨_, _, t, rfl, Ht.out, HN.out⟩
              case measure => exact rgM_lt HH.out.x HH.out.y HN.out.x HN.out.y HM.out
            · have tx : decide (xn ≤ 3) = false := decide_eq_false hx3
              have hex := even_same HH.out.x
              have hey := even_same HH.out.y
              have hhx := half_any _ X K wr HH.out.x (by omega)
              have Hhx := hid hhx
              have hYhalf := fun (w' : World) (hb : Below wr.heap.size wr w') => half_any _ Y K w' (HY.out _ hb) (by omega)
              have Hhy := hid hYhalf
              have hfw := HH.out.few HXp.out
              have Hfw := hid hfw
              clear hhx hYhalf hfw
              by_cases px : X % 2 = 0
              · rw [decide_eq_true px] at hex
                by_cases py : Y % 2 = 0
                · rw [decide_eq_true py] at hey
                  have HEx := hid hex; have HEy := hid hey; have HG2 := hid (gcd_ev_ev px py)
                  have ht1 := Ht.out
                  clear hex hey px py
                  go_wp2_with (first
                    | (go_at_call 56; refine (few_same _ _ _ _).mono ?_; rintro e w1 ⟨rfl, rfl⟩)
                    | (go_at_call_of 58 (xo); refine HEx.out.mono ?_; rintro e w1 ⟨rfl, rfl⟩)
                    | (go_at_call_of 58 (yo); refine HEy.out.mono ?_; rintro e w1 ⟨rfl, rfl⟩)
                    | (go_at_call_of 59 (xo); refine Hhx.out.mono ?_; rintro e w2 ⟨v2, rfl, hv2, hb2⟩)
                    | (go_at_call_of 59 (yo); refine (Hhy.out _ hb2).mono ?_; rintro e w3 ⟨v3, rfl, hv3, hb3⟩))
                  have HN := hid (HH.out.next (t' := t + 1) (hv2.below hb3 (Nat.le_refl _)) hv3 (by rw [HG2.out, Nat.pow_succ, Nat.mul_assoc]) (hb2.trans (hb3.mono hb2.size)))
                  clear hv2 hb2 hv3 hb3
                  go_roundw
                  case rel => exact ⟨_, _, t + 1, by go_num, by have := Hfw.out; omega, HN.out⟩
                  case measure => exact rgM_lt HH.out.x HH.out.y HN.out.x HN.out.y (.inl (by have := HXp.out; have := HYp.out; omega))
                · rw [decide_eq_false py] at hey
                  have HEx := hid hex; have HEy := hid hey; have HG2 := hid (gcd_ev_odd px py)
                  clear hex hey px py
                  go_wp2_with (first
                    | (go_at_call 56; refine (few_same _ _ _ _).mono ?_; rintro e w1 ⟨rfl, rfl⟩)
                    | (go_at_call_of 58 (xo); refine HEx.out.mono ?_; rintro e w1 ⟨rfl, rfl⟩)
                    | (go_at_call_of 58 (yo); refine HEy.out.mono ?_; rintro e w1 ⟨rfl, rfl⟩)
                    | (go_at_call_of 59 (xo); refine Hhx.out.mono ?_; rintro e w2 ⟨v2, rfl, hv2, hb2⟩))
                  have HN := hid (HH.out.next (t' := t) hv2 (HY.out _ hb2) (by rw [HG2.out]) hb2)
                  clear hv2 hb2
                  go_roundw
                  case rel => exact ⟨_, _, t, rfl, Ht.out, HN.out⟩
                  case measure => exact rgM_lt HH.out.x HH.out.y HN.out.x HN.out.y (.inl (by have := HXp.out; have := HYp.out; omega))
              · rw [decide_eq_false px] at hex
                by_cases py : Y % 2 = 0
                · rw [decide_eq_true py] at hey
                  have HEx := hid hex; have HEy := hid hey; have HG2 := hid (gcd_odd_ev px py)
                  clear hex hey px py
                  go_wp2_with (first
                    | (go_at_call 56; refine (few_same _ _ _ _).mono ?_; rintro e w1 ⟨rfl, rfl⟩)
                    | (go_at_call_of 58 (xo); refine HEx.out.mono ?_; rintro e w1 ⟨rfl, rfl⟩)
                    | (go_at_call_of 58 (yo); refine HEy.out.mono ?_; rintro e w1 ⟨rfl, rfl⟩)
                    | (go_at_call_of 59 (yo); refine (Hhy.out _ (Below.refl _ _)).mono ?_; rintro e w3 ⟨v3, rfl, hv3, hb3⟩))
                  have HN := hid (HH.out.next (t' := t) (HX.out _ hb3) hv3 (by rw [HG2.out]) hb3)
                  clear hv3 hb3
                  go_roundw
                  case rel => exact ⟨_, _, t, rfl, Ht.out, HN.out⟩
                  case measure => exact rgM_lt HH.out.x HH.out.y HN.out.x HN.out.y (.inl (by have := HXp.out; have := HYp.out; omega))
                · rw [decide_eq_false py] at hey
                  have hor := order_same _ _ X Y K K wr HH.out.x HH.out.y
                  have HEx := hid hex; have HEy := hid hey
                  clear hex hey px py
                  by_cases hxy : Y ≤ X
                  · have hcv : 0 ≤ cmpI X Y := by unfold cmpI; (repeat split) <;> omega
                    obtain ⟨cv, hcve⟩ : ∃ cv, cmpI X Y = cv := ⟨_, rfl⟩
                    rw [hcve] at hor hcv
                    have hls := less_any _ _ X Y K K wr HH.out.x HH.out.y hxy (by omega)
                    have HOr := hid hor; have HLs := hid hls
                    clear hor hls hcve
                    go_wp2_with (first
                      | (go_at_call 56; refine (few_same _ _ _ _).mono ?_; rintro e w1 ⟨rfl, rfl⟩)
                      | (go_at_call_of 58 (xo); refine HEx.out.mono ?_; rintro e w1 ⟨rfl, rfl⟩)
                      | (go_at_call_of 58 (yo); refine HEy.out.mono ?_; rintro e w1 ⟨rfl, rfl⟩)
                      | (go_at_call 53; refine HOr.out.mono ?_; rintro e w1 ⟨rfl, rfl⟩)
                      | (go_at_call 54; refine HLs.out.mono ?_; rintro e w2 ⟨v2, rfl, hv2, hb2⟩))
                    have HN := hid (HH.out.next (t' := t) hv2 (HY.out _ hb2) (by rw [gcd_less_l]) hb2)
                    clear hv2 hb2
                    go_roundw
                    case rel => exact ⟨_, _, t, rfl, Ht.out, HN.out⟩
                    case measure => exact rgM_lt HH.out.x HH.out.y HN.out.x HN.out.y (.inl (by have := HXp.out; have := HYp.out; omega))
                  · have hcv : ¬ 0 ≤ cmpI X Y := by unfold cmpI; (repeat split) <;> omega
                    obtain ⟨cv, hcve⟩ : ∃ cv, cmpI X Y = cv := ⟨_, rfl⟩
                    rw [hcve] at hor hcv
                    have hls := less_any _ _ Y X K K wr HH.out.y HH.out.x (by omega) (by omega)
                    have HOr := hid hor; have HLs := hid hls
                    clear hor hls hcve
                    go_wp2_with (first
                      | (go_at_call 56; refine (few_same _ _ _ _).mono ?_; rintro e w1 ⟨rfl, rfl⟩)
                      | (go_at_call_of 58 (xo); refine HEx.out.mono ?_; rintro e w1 ⟨rfl, rfl⟩)
                      | (go_at_call_of 58 (yo); refine HEy.out.mono ?_; rintro e w1 ⟨rfl, rfl⟩)
                      | (go_at_call 53; refine HOr.out.mono ?_; rintro e w1 ⟨rfl, rfl⟩)
                      | (go_at_call 54; refine HLs.out.mono ?_; rintro e w2 ⟨v2, rfl, hv2, hb2⟩))
                    have HN := hid (HH.out.next (t' := t) (HX.out _ hb2) hv2 (by rw [gcd_less_r]) hb2)
                    clear hv2 hb2
                    go_roundw
                    case rel => exact ⟨_, _, t, rfl, Ht.out, HN.out⟩
                    case measure => exact rgM_lt HH.out.x HH.out.y HN.out.x HN.out.y (.inl (by have := HXp.out; have := HYp.out; omega))
        · have HF := hid (show X = 0 ∨ Y = 0 from .inr (by have := HPy.out.2; have := HH.out.y.nonneg; omega))
          have hyz : yn = 0 := by omega
          subst hyz
          go_wp2
          go_meet
          exact ⟨X, Y, t, rfl, Ht.out, HF.out, HH.out⟩
      · have HF := hid (show X = 0 ∨ Y = 0 from .inl (by have := HPx.out.2; have := HH.out.x.nonneg; omega))
        have hxz : xn = 0 := by omega
        subst hxz
        go_wp2
        go_meet
        exact ⟨X, Y, t, rfl, Ht.out, HF.out, HH.out⟩
  case rest =>
    obtain ⟨X, Y, t, rfl, ht, hz, H⟩ := hcut
    have hsm := sum_md _ _ X Y K wc H.x H.y (by omega)
    have hXY : ((Int.gcd X Y : Nat) : Int) = X + Y := by
      have a := H.x.nonneg; have b := H.y.nonneg
      rcases hz with h | h
      · rw [h]; simp [Int.gcd]; omega
      · rw [h]; simp [Int.gcd]; omega
    have hGg : (G : Int) = 2 ^ t * (X + Y) := by rw [← H.g, ← hXY]; simp
    have hnn : 0 ≤ X + Y := by have a := H.x.nonneg; have b := H.y.nonneg; omega
    obtain ⟨g0, hg0⟩ : ∃ g0, g0 = X + Y := ⟨_, rfl⟩
    rw [← hg0] at hsm hGg hnn
    have HSm := hid hsm; have HGg := hid hGg; have Hnn := hid hnn; have HLow := hid H.low; have Ht := hid ht
    clear hsm hXY hGg hnn H hz hg0 HI0 ht
    go_wp2_with fail
    refine HSm.out.mono ?_
    rintro e w1 ⟨v1, rfl, hv1, hb1⟩
    have hlow1 : Below W0.heap.size W0 w1 := HLow.out.trans (hb1.mono HLow.out.size)
    have HI1 := hid hv1; have HL1 := hid hlow1
    clear hv1 hb1 hlow1
    have ht30 : t ≤ 1073741824 := by have := Ht.out; omega
    go_wp2
    go_loopw [14, 15] (fun gv iv wr => ∃ i : Nat, i ≤ t ∧ iv = .int .i64 i ∧ Dg wr gv (2 ^ i * g0) (K + 1) ∧ Below W0.heap.size W0 wr) (fun _ iv _ => t - (intOf iv).toNat)
    case atStart => exact ⟨0, Nat.zero_le _, rfl, by rw [Int.pow_zero, Int.one_mul]; exact HI1.out, HL1.out⟩
    case round =>
      obtain ⟨i, hi, rfl, hg, hl⟩ := hrel
      by_cases hlt : i < t
      · have hdb := double_dg _ _ 0 (K + 1) wr hg (Int.le_refl 0) (by decide) (by omega)
        have hbound : 2 * (2 ^ i * g0) + 0 < R16 ^ (K + 1) := by
          have h1 := Hlt.out
          rw [HGg.out] at h1
          have h2 : (2 : Int) ^ (i + 1) ≤ 2 ^ t := pow_mono (by decide) (by omega)
          have h3 : (2 : Int) ^ (i + 1) * g0 ≤ 2 ^ t * g0 := Int.mul_le_mul_of_nonneg_right h2 Hnn.out
          have h4 : R16 ^ K ≤ R16 ^ (K + 1) := pow_mono R16_pos (by omega)
          rw [Int.pow_succ] at h3
          have h5 : 2 * (2 ^ i * g0) = 2 ^ i * 2 * g0 := by grind
          omega
        have HDb := hid hdb; have HBo := hid hbound; have HL := hid hl
        have hi0 : (0 : Int) ≤ (i : Int) := by omega
        clear hdb hbound hg hl HI1
        go_wp2_with fail
        refine HDb.out.mono ?_
        rintro e w2 ⟨v2, rfl, hv2, hb2⟩
        have hv3 := (hv2.tight HBo.out).dg
        have e2 : 2 * (2 ^ i * g0) + 0 = 2 ^ (i + 1) * g0 := by rw [Int.pow_succ]; grind
        rw [e2] at hv3
        have HV := hid hv3; have HL2 := hid (HL.out.trans (hb2.mono HL.out.size))
        clear hv2 hb2 hv3 e2
        go_wp2
        go_roundw
        case rel => exact ⟨i + 1, by omega, by go_num, HV.out, HL2.out⟩
        case measure => simp [intOf]; omega
      · obtain rfl : i = t := by omega
        rw [← HGg.out] at hg
        have hm := made_any false _ _ _ wr hg
        rw [show sgn false (G : Int) = (G : Int) from rfl] at hm
        have HM := hid hm; have HL := hid hl
        clear hm hg hl HI1
        go_wp2_with fail
        refine HM.out.mono ?_
        rintro e w2 ⟨_, rfl, hv1, hb1⟩
        obtain ⟨b1, o1, m1, c1, rfl, H1, H1s, H1b⟩ := Zt.opened hv1
        have hB1 : Below W0.heap.size W0 w2 := HL.out.trans (hb1.mono HL.out.size)
        obtain ⟨hr0, hr1, hr2, hr3⟩ := HT.out _ hB1
        go_wp2
        have hbel : Below w.heap.size w w2 := HB0.out.trans (hB1.mono (by have := Hw0.out; omega))
        refine bodyPost_ret (v := .agg #[.bool b1, .slice o1 m1 c1]) (by simp [results, Try.results18, go_sem, hr0, hr1]) rfl ⟨_, rfl, ?_, (hbel.setCell (by simp <;> omega) _).setCell (by simp <;> omega) _⟩
        exact ((H1.out _ (Below.refl _ _)).set hr0 (fun x h => (by cases h)) _).set (u := .slice none 0 0) (by simp [go_sem, hr1]) (fun x h => (by cases h)) _

end Go.Proofs.Ytbmdjimfncgomaa

/- The document's own integers: SameWords, Int, SameInt, LikeInt, NoInt. -/
namespace Go.Proofs.Ytbmdjimfncgomaa
open Go.RowKit

/-! Lists of words. -/
theorem take_eq_step {L M : List Int} {k : Nat} (hl : k < L.length) (hm : k < M.length) (h : L.take k = M.take k) (he : L[k]?.getD 0 = M[k]?.getD 0) : L.take (k + 1) = M.take (k + 1) := by
  rw [take_succ_getD L k hl, take_succ_getD M k hm, h, he]

set_option maxRecDepth 100000 in
set_option maxHeartbeats 4000000 in
theorem sameWords_any (ao bo : Option Addr) (ca cb : Nat) (L M : List Int) (w : World) (hL : Rd w .u32 ao ca L) (hM : Rd w .u32 bo cb M) :
    Calls Try.prog 62 #[.slice ao L.length ca, .slice bo M.length cb] w fun e w' => e = .returned (.bool (decide (L = M))) ∧ ∃ nq, w' = w.drewN nq := by
  obtain ⟨n, hn⟩ : ∃ n, n = L.length := ⟨_, rfl⟩
  obtain ⟨m, hm⟩ : ∃ m, m = M.length := ⟨_, rfl⟩
  have hcap := hL.cap; have hmost := hL.most
  rw [← hn] at hcap
  rw [← hn, ← hm]
  have HL := hid hL; have HM := hid hM
  by_cases hnm : n = m
  · subst hnm
    have Hn := hid hn; have Hm := hid hm
    have hb : ((n : Int) != (n : Int)) = false := by simp
    clear hL hM hn hm
    go_enter Try.func62, Try.ntmps62
    go_wp2
    go_loopw [5] (fun iv wr => ∃ k : Nat, k ≤ n ∧ iv = .int .i64 k ∧ Hid (L.take k = M.take k) ∧ Hid (∃ nq, wr = w.drewN nq)) (fun iv _ => n - (intOf iv).toNat)
    case atStart => exact ⟨0, Nat.zero_le _, rfl, hid rfl, hid ⟨0, rfl⟩⟩
    case round =>
      obtain ⟨k, hk, rfl, HE, HW⟩ := hrel
      obtain ⟨nq, rfl⟩ := HW.out
      by_cases hlt : k < n
      · obtain ⟨ab, ao', rfl⟩ := HL.out.adr (by have := Hn.out; omega)
        obtain ⟨bb, bo', rfl⟩ := HM.out.adr (by have := Hm.out; omega)
        have h1 := HL.out.cell ab ao' rfl k (by have := Hn.out; omega)
        have h2 := HM.out.cell bb bo' rfl k (by have := Hm.out; omega)
        have HSt := hid (take_eq_step (show k < L.length by have := Hn.out; omega) (show k < M.length by have := Hm.out; omega) HE.out)
        have HNe := hid (show L = M → L[k]?.getD 0 = M[k]?.getD 0 from fun h => by rw [h])
        obtain ⟨x, hx⟩ : ∃ x, x = L[k]?.getD 0 := ⟨_, rfl⟩
        obtain ⟨y, hy⟩ : ∃ y, y = M[k]?.getD 0 := ⟨_, rfl⟩
        rw [← hx] at h1 HSt HNe; rw [← hy] at h2 HSt HNe
        have hk0 : (0 : Int) ≤ (k : Int) := by omega
        clear hx hy
        by_cases hxy : x = y
        · subst hxy
          have HSt2 := hid (HSt.out rfl)
          have hxx : (x != x) = false := by simp
          clear HSt HNe
          go_wp2
          go_quiet (fail)
          go_wp2
          go_roundw
          case rel => exact ⟨k + 1, by omega, by go_num, HSt2, hid ⟨_, rfl⟩⟩
          case measure => simp [intOf]; omega
        · have hxy' : (x != y) = true := by rw [bne_iff_ne]; exact hxy
          have HD := hid (decide_eq_false (fun h => hxy (HNe.out h)))
          clear HSt HNe
          go_wp2
          go_quiet (fail)
          go_wp2
          go_ret
          exact ⟨by rw [HD.out]; rfl, _, World.drewN_drewN _ _ _⟩
      · obtain rfl : k = n := by omega
        have HD := hid (decide_eq_true (show L = M by have := HE.out; rwa [List.take_of_length_le (by have := Hn.out; omega), List.take_of_length_le (by have := Hm.out; omega)] at this))
        clear HE
        go_wp2
        go_ret
        exact ⟨by rw [HD.out]; rfl, _, rfl⟩
  · have HD := hid (decide_eq_false (show ¬ L = M from fun h => hnm (by rw [hn, hm, h])))
    have hb : ((n : Int) != (m : Int)) = true := by rw [bne_iff_ne]; omega
    have hb2 : ¬ (n : Int) = (m : Int) := by omega
    clear hL hM hn hm HL HM
    go_enter Try.func62, Try.ntmps62
    go_wp2
    go_ret
    exact ⟨by rw [HD.out]; rfl, 0, rfl⟩

def pack16 : List Int → List Int
  | [] => []
  | [x] => [x]
  | x :: y :: l => (x + 65536 * y) :: pack16 l
theorem pack16_val : ∀ l : List Int, val B32 (pack16 l) = val R16 l
  | [] => rfl
  | [x] => by simp [pack16, val]
  | x :: y :: l => by
    have h := pack16_val l
    have e : B32 = 4294967296 := rfl
    have e2 : R16 = 65536 := rfl
    rw [e, e2] at h
    simp only [pack16, val, h, e, e2]
    omega
theorem pack16_len : ∀ l : List Int, (pack16 l).length = (l.length + 1) / 2
  | [] => rfl
  | [x] => by simp [pack16]
  | x :: y :: l => by simp only [pack16, List.length_cons, pack16_len l]; omega
theorem pack16_dig : ∀ {l : List Int}, Dig R16 l → Dig B32 (pack16 l)
  | [], _ => Dig.nil _
  | [x], h => by
    have h1 := h.head; unfold R16 at h1
    exact Dig.cons h1.1 (by unfold B32; omega) (Dig.nil _)
  | x :: y :: l, h => by
    have h1 := h.head; have h2 := h.tail.head; unfold R16 at h1 h2
    exact Dig.cons (by omega) (by unfold B32; omega) (pack16_dig h.tail.tail)
theorem pack16_nrm {l : List Int} (hd : Dig R16 l) (hn : Nrm l) : Nrm (pack16 l) := by
  rcases Nat.eq_zero_or_pos l.length with h0 | h0
  · rw [List.eq_nil_of_length_eq_zero h0]; rfl
  · have lo := hn.low R16_pos hd h0
    obtain ⟨q, hq⟩ : ∃ q, (l.length + 1) / 2 = q + 1 := ⟨(l.length + 1) / 2 - 1, by omega⟩
    refine nrm_of_low B32_pos (pack16_dig hd) (by rw [pack16_len, hq]) ?_
    rw [pack16_val]
    have e : B32 ^ q = R16 ^ (2 * q) := by rw [Int.pow_mul]; rfl
    rw [e]
    exact Int.le_trans (pow_mono R16_pos (by omega)) lo
theorem pack16_step : ∀ (k : Nat) (L : List Int), 2 * k < L.length → pack16 (L.take (2 * k + 2)) = pack16 (L.take (2 * k)) ++ [L[2 * k]?.getD 0 + 65536 * L[2 * k + 1]?.getD 0]
  | 0, [], h => by simp at h
  | 0, [x], _ => by simp [pack16]
  | 0, x :: y :: l, _ => by simp [pack16]
  | k + 1, [], h => by simp at h
  | k + 1, [x], h => by simp at h
  | k + 1, x :: y :: l, h => by
    have ih := pack16_step k l (by simp at h; omega)
    have e1 : 2 * (k + 1) + 2 = (2 * k + 2) + 1 + 1 := by omega
    have e2 : 2 * (k + 1) = 2 * k + 1 + 1 := by omega
    rw [e1, e2]
    simp only [List.take_succ_cons, pack16, ih, List.cons_append]
    simp

/-- The value v (an api.Int) is the normal form of z. -/
def An (w : World) (v : Value) (z : Int) (K : Nat) : Prop := ∃ ao c L, v = .agg #[.bool (decide (z < 0)), .slice ao L.length c] ∧ Rd w .u32 ao c L ∧ Dig B32 L ∧ Nrm L ∧ val B32 L = (z.natAbs : Int) ∧ L.length ≤ K
theorem An.below {w w' : World} {v : Value} {n : Int} {K B : Nat} (h : An w v n K) (hb : Below B w w') (hB : w.heap.size ≤ B) : An w' v n K := by
  obtain ⟨ao, c, L, e, hr, h⟩ := h; exact ⟨ao, c, L, e, hr.below hb hB, h⟩
theorem An.set {w : World} {s : Value} {n : Int} {K : Nat} (h : An w s n K) {a : Addr} {u : Value} (hu : w.cell? a = some u) (hn : ∀ x, u ≠ .int .u32 x) (v : Value) : An (w.setCell a v) s n K := by
  obtain ⟨ao, c, L, e, hr, h⟩ := h; exact ⟨ao, c, L, e, hr.set hu hn v, h⟩
def RetAn (w : World) (z : Int) (K : Nat) (e : Ending) (w' : World) : Prop := ∃ v, e = .returned v ∧ An w' v z K ∧ Below w.heap.size w w'

theorem owns_slice {w : World} {base n s : Nat} {e : TypeId} {v : Value} {xs : List Value} (h : w.ownsRow base e s v n xs) : ∃ ao cap, v = .slice ao n cap := by
  rcases h.2 with ⟨rfl, rfl⟩ | ⟨g, cap, cur, rfl, _⟩
  · exact ⟨_, _, rfl⟩
  · exact ⟨_, _, rfl⟩

theorem owns_any {w : World} {base n c : Nat} {e : TypeId} {k : IntKind} {vo : Option Addr} {L : List Int} (h : w.ownsRow base e 1 (.slice vo n c) n (L.map (Value.int k))) (hl : L.length = n) : Rd w k vo c L := by
  rcases h.2 with ⟨e, rfl⟩ | ⟨g, cap, cur, e, hb, hh, hn, hcm, _⟩
  · obtain rfl : L = [] := List.eq_nil_of_length_eq_zero hl
    obtain ⟨rfl, _, rfl⟩ := Value.slice.inj e
    exact Rd.nil _ _
  · obtain ⟨rfl, _, rfl⟩ := Value.slice.inj e
    subst hl
    exact owns_rd h hcm

/-- The words so far. -/
structure InI (w W0 wr : World) (nb : Bool) (L : List Int) (k : Nat) (ov : Value) : Prop where
  ob : wr.heap[w.heap.size + 2]? = some (.cells #[.bool nb, ov] 24 (0, 0))
  own : wr.ownsRow W0.heap.size 74 1 ov k ((pack16 (L.take (2 * k))).map (Value.int .u32))
  low : Below (w.heap.size + 2) W0 wr
  siz : W0.heap.size ≤ wr.heap.size

theorem InI.cells {w W0 wr : World} {nb : Bool} {L : List Int} {k : Nat} {ov : Value} (H : InI w W0 wr nb L k ov) :
    wr.cell? ⟨w.heap.size + 2, 0, none⟩ = some (.bool nb) ∧ wr.cell? ⟨w.heap.size + 2, 1, none⟩ = some ov ∧ wr.frozen? ⟨w.heap.size + 2, 1, none⟩ = false :=
  ⟨(cell_of_row wr _ 0 _ _ (0, 0) H.ob).trans rfl, (cell_of_row wr _ 1 _ _ (0, 0) H.ob).trans rfl, frozen_of_row wr _ 1 _ _ H.ob⟩

theorem InI.kept3 {w W0 wr w3 : World} {nb : Bool} {L : List Int} {k : Nat} {ov : Value} (H : InI w W0 wr nb L k ov) (hw0 : W0.heap.size = w.heap.size + 3) {o : Obj} (hg : (wr.alloc o).grownBy w3 ov.ownBlock) : w3.heap[w.heap.size + 2]? = some (.cells #[.bool nb, ov] 24 (0, 0)) := by
  rw [hg.block (w.heap.size + 2) (by have := H.siz; simp; omega) (fun e => by have := owns_block H.own _ e.symm; omega)]
  show (wr.heap.push o)[w.heap.size + 2]? = _
  rw [Array.getElem?_push_lt (by have := H.siz; omega)]
  have h := H.ob
  rw [Array.getElem?_eq_getElem (by have := H.siz; omega)] at h
  exact h
theorem InI.next {w W0 wr w3 : World} {nb : Bool} {L : List Int} {k : Nat} {ov ov' : Value} (H : InI w W0 wr nb L k ov) (hw0 : W0.heap.size = w.heap.size + 3) (o : Obj) (y : Int) (hk : 2 * k < L.length) (hy : y = L[2 * k]?.getD 0 + 65536 * L[2 * k + 1]?.getD 0)
    (hown : w3.ownsRow W0.heap.size 74 1 ov' (k + 1) ((pack16 (L.take (2 * k))).map (Value.int .u32) ++ [.int .u32 y])) (hg : (wr.alloc o).grownBy w3 ov.ownBlock) :
    InI w W0 (w3.setCell ⟨w.heap.size + 2, 1, none⟩ ov') nb L (k + 1) ov' := by
  have hlow3 : Below (w.heap.size + 2) W0 w3 := (H.low.alloc (by have := H.siz; omega) o).grown hg (by have := H.siz; simp; omega) (fun i e => by have := owns_block H.own i e; omega)
  have hsz3 : W0.heap.size ≤ w3.heap.size := by have := hg.size; simp at this; have := H.siz; omega
  have hob3 : w3.heap[w.heap.size + 2]? = some (.cells #[.bool nb, ov] 24 (0, 0)) := by
    rw [hg.block (w.heap.size + 2) (by have := H.siz; simp; omega) (fun e => by have := owns_block H.own _ e.symm; omega)]
    show (wr.heap.push o)[w.heap.size + 2]? = _
    rw [Array.getElem?_push_lt (by have := H.siz; omega)]
    have h := H.ob
    rw [Array.getElem?_eq_getElem (by have := H.siz; omega)] at h
    exact h
  refine ⟨?_, ?_, hlow3.setCell (Nat.le_refl _) _, by simpa using hsz3⟩
  · rw [heap_setCell_same w3 _ 1 _ _ _ hob3]; rfl
  · have h := ownsRow_setCell_below hown (a := ⟨w.heap.size + 2, 1, none⟩) (by simp; omega) ov'
    rw [show 2 * (k + 1) = 2 * k + 2 by omega, pack16_step k L hk, ← hy, List.map_append]
    exact h

set_option maxRecDepth 100000 in
set_option maxHeartbeats 8000000 in
theorem rint_any (v : Value) (z : Int) (K : Nat) (w : World) (h : Zt w v z K) (hK : K ≤ 268435456) :
    Calls Try.prog 61 #[v] w (RetAn w z ((K + 1) / 2)) := by
  obtain ⟨_, rfl, ao, c, L, rfl, h⟩ := h
  obtain ⟨n, hn⟩ : ∃ n, n = L.length := ⟨_, rfl⟩
  have hnK := h.le
  rw [← hn] at hnK ⊢
  obtain ⟨nb, hnb⟩ : ∃ nb, nb = decide (z < 0) := ⟨_, rfl⟩
  rw [← hnb]
  have H := hid h; have Hn := hid hn; have Hnb := hid hnb
  clear h hn hnb
  obtain ⟨i0, hi, hz0, hz1, hz2⟩ := info_parts Try.info74
  go_enter Try.func61, Try.ntmps61
  go_upto_region 2 with (fail)
  obtain ⟨W0, hW0⟩ : ∃ W0, W0 = (((w.alloc (.cells #[.bool nb, .slice ao n c] 28)).alloc (.cells #[.bool false, .slice none 0 0] 24)).alloc (.cells #[.bool nb, .slice none 0 0] 24)) := ⟨_, rfl⟩
  have hB0 : Below w.heap.size w W0 := by rw [hW0]; exact (((Below.refl _ _).alloc (Nat.le_refl _) _).alloc (by simp) _).alloc (by simp; omega) _
  have hw0 : W0.heap.size = w.heap.size + 3 := by rw [hW0]; simp
  have HS : Hid (∀ w', Below (w.heap.size + 2) W0 w' → w'.cell? ⟨w.heap.size, 0, none⟩ = some (.bool nb) ∧ w'.cell? ⟨w.heap.size, 1, none⟩ = some (.slice ao n c)) := hid (fun w' hb => by
    refine ⟨?_, ?_⟩ <;> (rw [hb.cell (by simp <;> omega), hW0]; simp [go_sem]))
  have HT : Hid (∀ w', Below (w.heap.size + 2) W0 w' → w'.cell? ⟨w.heap.size + 1, 0, none⟩ = some (.bool false) ∧ w'.cell? ⟨w.heap.size + 1, 1, none⟩ = some (.slice none 0 0) ∧ w'.frozen? ⟨w.heap.size + 1, 0, none⟩ = false ∧ w'.frozen? ⟨w.heap.size + 1, 1, none⟩ = false) := hid (fun w' hb => by
    refine ⟨?_, ?_, ?_, ?_⟩ <;> (first | (rw [hb.cell (by simp <;> omega), hW0]; simp [go_sem]; done) | (rw [hb.frozen (by simp <;> omega), hW0]; simp [go_sem]; done)))
  have hI0 : InI w W0 W0 nb L 0 (.slice none 0 0) := by
    refine ⟨?_, ⟨by simp [pack16], .inl ⟨rfl, rfl⟩⟩, Below.refl _ _, Nat.le_refl _⟩
    rw [hW0]
    show ((((w.heap.push _).push _).push _))[w.heap.size + 2]? = _
    have e : w.heap.size + 2 = ((w.heap.push (.cells #[.bool nb, .slice ao n c] 28)).push (.cells #[.bool false, .slice none 0 0] 24)).size := by simp
    rw [e, Array.getElem?_push_size]
  rw [← hW0, show w.heap.size + 1 + 1 = w.heap.size + 2 from rfl]
  clear hW0
  have HI0 := hid hI0; have HB0 := hid hB0; have Hw0 := hid hw0
  clear hI0 hB0 hw0
  go_wp2
  go_loopw [4] (fun iv wr => ∃ j k : Nat, ∃ ov, j ≤ n + 1 ∧ iv = .int .i64 j ∧ Hid (j = 2 * k) ∧ InI w W0 wr nb L k ov) (fun iv _ => n + 2 - (intOf iv).toNat)
  case atStart => exact ⟨0, 0, _, Nat.zero_le _, rfl, hid rfl, HI0.out⟩
  case round =>
    obtain ⟨j, k, ov, hj, rfl, HJ, HI⟩ := hrel
    obtain ⟨hs0, hs1⟩ := HS.out _ HI.low
    obtain ⟨vo, vc, rfl⟩ := owns_slice HI.own
    obtain ⟨c0, c1, f1⟩ := HI.cells
    by_cases hlt : j < n
    · obtain ⟨b, o, rfl⟩ := H.out.rd.adr (by have := Hn.out; omega)
      have hrd : Rd wr .i64 (some ⟨b, o, none⟩) c L := H.out.rd.below (HB0.out.trans (HI.low.mono (by omega))) (Nat.le_refl _)
      have hx := hrd.cell b o rfl j (by have := Hn.out; omega)
      have dx := H.out.dig.at R16_pos j
      have dy := H.out.dig.at R16_pos (j + 1)
      obtain ⟨x, hxe⟩ : ∃ x, x = L[j]?.getD 0 := ⟨_, rfl⟩
      rw [← hxe] at hx dx
      have x0 := dx.1; have x1 : x < 65536 := dx.2
      have y0 := dy.1; have y1 : L[j + 1]?.getD 0 < 65536 := dy.2
      have hj0 : (0 : Int) ≤ (j : Int) := by omega
      by_cases h2 : j + 1 < n
      · have hy := hrd.cell b o rfl (j + 1) (by have := Hn.out; omega)
        obtain ⟨y, hye⟩ : ∃ y, y = L[j + 1]?.getD 0 := ⟨_, rfl⟩
        rw [← hye] at hy y0 y1
        have HT2 : Hid (x + 65536 * y = L[2 * k]?.getD 0 + 65536 * L[2 * k + 1]?.getD 0) := hid (by rw [← HJ.out, ← hxe, ← hye])
        obtain ⟨t, ht⟩ : ∃ t, x + 65536 * y = t := ⟨_, rfl⟩
        have t0 : 0 ≤ t := by omega
        have t1 : t < 4294967296 := by omega
        have q1 : IntKind.u32.wrap t = t := by rw [IntKind.wrap_u32]; omega
        rw [ht] at HT2
        have h2i : (j : Int) + 1 < (n : Int) := by omega
        have HH := hid HI
        clear hxe hye dx dy hrd HI HI0
        go_wp2_with (at_builtin; refine wpList_append_own _ rfl _ _ 22 rfl W0.heap.size 74 i0 (.int .u32 0) 1 4 Try.underlying22 hi hz0 hz1 hz2 rfl (by decide) _ k _ rfl (HH.out.own.alloc _) ⟨wr.heap.size, 0, none⟩ 1 1 [.int .u32 t] rfl rfl (fun j u hj => new_one0 j u hj) ?c2 ?c3 ?c4 ?c5 ?_)
        case c2 => first | rfl | (intro u hu; simp at hu; subst hu; rfl)
        case c3 => have := HJ.out; unfold maxLen; omega
        case c4 => have := HJ.out; omega
        case c5 => have := HH.out.siz; simp; omega
        intro ov' w3 hown hg _
        obtain ⟨no, nc, rfl⟩ := owns_slice hown
        have hn := HH.out.next Hw0.out _ t (by have := HJ.out; have := Hn.out; omega) HT2.out hown hg
        have ho := hn.cells
        have hf3 : w3.cell? ⟨w.heap.size + 2, 1, none⟩ = some (.slice vo k vc) ∧ w3.frozen? ⟨w.heap.size + 2, 1, none⟩ = false := by
          have hne : (Value.slice vo k vc).ownBlock ≠ some (w.heap.size + 2) := fun e => by have := owns_block HH.out.own _ e; have := Hw0.out; omega
          exact ⟨hg.cell (a := ⟨w.heap.size + 2, 1, none⟩) (by rw [(Below.refl _ _).alloc (Nat.le_refl wr.heap.size) _ |>.cell (by have := HH.out.siz; have := Hw0.out; simp; omega)]; exact HH.out.cells.2.1) (Ne.symm hne), frozen_of_row w3 _ 1 _ _ (HH.out.kept3 Hw0.out hg)⟩
        obtain ⟨g1, g2⟩ := hf3
        have HN := hid hn
        clear hown hg hn ho
        go_wp2
        go_roundw
        case rel => exact ⟨j + 2, k + 1, _, by omega, by go_num, hid (by have := HJ.out; omega), HN.out⟩
        case measure => simp [intOf]; omega
      · have hye : L[j + 1]?.getD 0 = 0 := by
          have : L.length ≤ j + 1 := by have := Hn.out; omega
          simp [this]
        have HT2 : Hid (x = L[2 * k]?.getD 0 + 65536 * L[2 * k + 1]?.getD 0) := hid (by rw [← HJ.out, hye, ← hxe]; omega)
        obtain ⟨t, ht⟩ : ∃ t, x = t := ⟨_, rfl⟩
        subst ht
        have q1 : IntKind.u32.wrap x = x := by rw [IntKind.wrap_u32]; omega
        obtain rfl : n = j + 1 := by omega
        have h2i : ¬ (j : Int) + 1 < ((j + 1 : Nat) : Int) := by omega
        clear h2
        have HH := hid HI
        clear hxe hye dx dy hrd HI HI0
        go_wp2_with (at_builtin; refine wpList_append_own _ rfl _ _ 22 rfl W0.heap.size 74 i0 (.int .u32 0) 1 4 Try.underlying22 hi hz0 hz1 hz2 rfl (by decide) _ k _ rfl (HH.out.own.alloc _) ⟨wr.heap.size, 0, none⟩ 1 1 [.int .u32 x] rfl rfl (fun j u hj => new_one0 j u hj) ?c2 ?c3 ?c4 ?c5 ?_)
        case c2 => first | rfl | (intro u hu; simp at hu; subst hu; rfl)
        case c3 => have := HJ.out; unfold maxLen; omega
        case c4 => have := HJ.out; omega
        case c5 => have := HH.out.siz; simp; omega
        intro ov' w3 hown hg _
        obtain ⟨no, nc, rfl⟩ := owns_slice hown
        have hn := HH.out.next Hw0.out _ x (by have := HJ.out; have := Hn.out; omega) HT2.out hown hg
        have ho := hn.cells
        have hf3 : w3.cell? ⟨w.heap.size + 2, 1, none⟩ = some (.slice vo k vc) ∧ w3.frozen? ⟨w.heap.size + 2, 1, none⟩ = false := by
          have hne : (Value.slice vo k vc).ownBlock ≠ some (w.heap.size + 2) := fun e => by have := owns_block HH.out.own _ e; have := Hw0.out; omega
          exact ⟨hg.cell (a := ⟨w.heap.size + 2, 1, none⟩) (by rw [(Below.refl _ _).alloc (Nat.le_refl wr.heap.size) _ |>.cell (by have := HH.out.siz; have := Hw0.out; simp; omega)]; exact HH.out.cells.2.1) (Ne.symm hne), frozen_of_row w3 _ 1 _ _ (HH.out.kept3 Hw0.out hg)⟩
        obtain ⟨g1, g2⟩ := hf3
        have HN := hid hn
        clear hown hg hn ho
        go_wp2
        go_roundw
        case rel => exact ⟨j + 2, k + 1, _, by omega, by go_num, hid (by have := HJ.out; omega), HN.out⟩
        case measure => simp [intOf]; omega
    · have hall : L.take (2 * k) = L := List.take_of_length_le (by have := HJ.out; have := Hn.out; omega)
      have ho := HI.own
      rw [hall] at ho
      have hkl : (pack16 L).length = k := by have := ho.1; simpa using this
      have hrd := owns_any ho hkl
      have hAn : An wr (.agg #[.bool nb, .slice vo k vc]) z ((K + 1) / 2) := by
        have hl := pack16_len L
        rw [Hnb.out]
        exact ⟨vo, vc, pack16 L, by rw [hkl], hrd, pack16_dig H.out.dig, pack16_nrm H.out.dig H.out.nrm, by rw [pack16_val]; exact H.out.eq, by have := H.out.le; omega⟩
      have hlow := HB0.out.trans (HI.low.mono (by omega))
      obtain ⟨hr0, hr1, hr2, hr3⟩ := HT.out _ HI.low
      have HAn := hid hAn; have HLow := hid hlow
      clear hall ho hkl hrd hAn hlow HI HI0
      go_wp2
      refine bodyPost_ret (v := .agg #[.bool nb, .slice vo k vc]) (by simp [results, Try.results61, go_sem, hr0, hr1]) rfl ⟨_, rfl, ?_, (HLow.out.setCell (by simp <;> omega) _).setCell (by simp <;> omega) _⟩
      exact (HAn.out.set hr0 (fun x h => (by cases h)) _).set (u := .slice none 0 0) (by simp [go_sem, hr1]) (fun x h => (by cases h)) _

end Go.Proofs.Ytbmdjimfncgomaa
