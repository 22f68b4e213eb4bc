/- The document's own integers: Gcd. -/
import Derived.Test.YtbapeilpkhbbeaaGreatDoorYn24
import Derived.Test.YtbapeilpkhbbeaaGreatDoorYn13
import Derived.Test.YtbapeilpkhbbeaaGreatDoorYn09
import Derived.Deep.DeepCutAuto
import Derived.Deep.CutBlock
/- The document's own integers: Gcd. -/
namespace Go.Proofs.YtbapeilpkhbbeaaGreatDoor
open Go.RowKit

theorem gcd_ev_ev {X Y : Int} (hx : X % 2 = 0) (hy : Y % 2 = 0) : Int.gcd X Y = 2 * Int.gcd (X / 2) (Y / 2) := by
  have e1 : X = 2 * (X / 2) := by omega
  have e2 : Y = 2 * (Y / 2) := by omega
  have := Int.gcd_mul_left 2 (X / 2) (Y / 2)
  rw [← e1, ← e2] at this
  exact this
theorem gcd_ev_odd {X Y : Int} (hx : X % 2 = 0) (hy : Y % 2 ≠ 0) : Int.gcd (X / 2) Y = Int.gcd X Y := by
  have e1 : X = 2 * (X / 2) := by omega
  have e2 : Y = 2 * (Y / 2) + 1 := by omega
  apply Nat.dvd_antisymm
  · apply Int.dvd_gcd
    · have := Int.gcd_dvd_left (X / 2) Y
      have h := Int.dvd_mul_of_dvd_right this (b := 2)
      rw [← e1] at h; exact h
    · exact Int.gcd_dvd_right (X / 2) Y
  · apply Int.dvd_gcd
    · have h1 := Int.gcd_dvd_left X Y
      have h2 := Int.gcd_dvd_right X Y
      have h := Int.dvd_sub (Int.dvd_mul_of_dvd_right h2 (b := X / 2)) (Int.dvd_mul_of_dvd_right h1 (b := Y / 2))
      have e : X / 2 * Y - Y / 2 * X = X / 2 := by
        generalize X / 2 = a at *
        generalize Y / 2 = b at *
        subst e1; subst e2; grind
      rw [e] at h; exact h
    · exact Int.gcd_dvd_right X Y
theorem gcd_odd_ev {X Y : Int} (hx : X % 2 ≠ 0) (hy : Y % 2 = 0) : Int.gcd X (Y / 2) = Int.gcd X Y := by
  rw [Int.gcd_comm, gcd_ev_odd hy hx, Int.gcd_comm]
theorem gcd_less_l (X Y : Int) : Int.gcd (X - Y) Y = Int.gcd X Y := by
  rw [Int.gcd_comm]; have := gcd_sub_mul X Y 1; rw [Int.one_mul] at this; exact this
theorem gcd_less_r (X Y : Int) : Int.gcd X (Y - X) = Int.gcd X Y := by
  rw [Int.gcd_comm, gcd_less_l, Int.gcd_comm]
theorem gcd_pos {X Y : Int} (h : 0 < X) : 0 < Int.gcd X Y := by
  rcases Nat.eq_zero_or_pos (Int.gcd X Y) with h0 | h0
  · have := Int.gcd_dvd_left X Y
    rw [h0] at this
    have := Int.zero_dvd.1 this; omega
  · exact h0
theorem gcd_le {X Y : Int} (hx : 0 < X) : (Int.gcd X Y : Int) ≤ X := Int.le_of_dvd hx (Int.gcd_dvd_left X Y)
theorem gcd_lt_of {X Y M : Int} (hx : 0 ≤ X) (hy : 0 ≤ Y) (h1 : X < M) (h2 : Y < M) : (Int.gcd X Y : Int) < M := by
  rcases Int.lt_or_eq_of_le hx with h | h
  · exact Int.lt_of_le_of_lt (gcd_le h) h1
  · rw [← h]; simp [Int.gcd]; omega

theorem Md.unique {w : World} {v : Value} {n n' : Int} {K K' : Nat} (h : Md w v n K) (h' : Md w v n' K') : n = n' := by
  obtain ⟨ao, c, L, rfl, h⟩ := h
  obtain ⟨ao', c', L', e, h'⟩ := h'
  obtain ⟨e1, e2, _⟩ := Value.slice.inj e
  subst e1
  rw [← h.eq, ← h'.eq, h.rd.unique h'.rd e2]
open Classical in
/-- The number that digits stand for, 0 if none. -/
noncomputable def mdOf (w : World) (v : Value) : Nat := if h : ∃ n : Int, ∃ K, Md w v n K then (Classical.choose h).toNat else 0
theorem mdOf_eq {w : World} {v : Value} {n : Int} {K : Nat} (h : Md w v n K) : mdOf w v = n.toNat := by
  have hx : ∃ n : Int, ∃ K, Md w v n K := ⟨n, K, h⟩
  unfold mdOf
  rw [dif_pos hx]
  obtain ⟨K', h'⟩ := Classical.choose_spec hx
  rw [h'.unique h]
noncomputable def rgM (w : World) (x y : Value) : Nat := 2 * (mdOf w x + mdOf w y) + if mdOf w x < mdOf w y then 1 else 0

/-- What holds ahead of a round. -/
structure RgI (W0 wr : World) (xv yv : Value) (X Y : Int) (t G K : Nat) : Prop where
  x : Md wr xv X K
  y : Md wr yv Y K
  g : 2 ^ t * Int.gcd X Y = G
  lt : (G : Int) < R16 ^ K
  low : Below W0.heap.size W0 wr

theorem rgM_lt {w w' : World} {xv yv xv' yv' : Value} {X Y X' Y' : Int} {K K' : Nat} (hx : Md w xv X K) (hy : Md w yv Y K) (hx' : Md w' xv' X' K') (hy' : Md w' yv' Y' K') (h : X' + Y' < X + Y ∨ (X' = Y ∧ Y' = X ∧ X < Y)) : rgM w' xv' yv' < rgM w xv yv := by
  unfold rgM
  rw [mdOf_eq hx, mdOf_eq hy, mdOf_eq hx', mdOf_eq hy']
  have a := hx.nonneg; have b := hy.nonneg; have c := hx'.nonneg; have d := hy'.nonneg
  rcases h with h | ⟨h1, h2, h3⟩
  · split <;> split <;> omega
  · subst h1; subst h2; split <;> split <;> omega

theorem RgI.few {W0 wr : World} {xv yv : Value} {X Y : Int} {t G K : Nat} (H : RgI W0 wr xv yv X Y t G K) (hx : 0 < X) : t < 16 * K := by
  have h1 : (2 : Int) ^ t ≤ G := by
    have hg := H.g
    have hp : 0 < Int.gcd X Y := gcd_pos hx
    have hn : 2 ^ t * 1 ≤ 2 ^ t * Int.gcd X Y := Nat.mul_le_mul_left _ hp
    rw [hg] at hn
    have : ((2 ^ t * 1 : Nat) : Int) ≤ (G : Int) := by exact_mod_cast hn
    simpa using this
  have h2 : R16 ^ K = (2 : Int) ^ (16 * K) := by rw [Int.pow_mul]; rfl
  have h3 := H.lt
  rw [h2] at h3
  exact pow_lt_gen (by decide) (Int.lt_of_le_of_lt h1 h3)

theorem Md.few3 {w : World} {ao : Option Addr} {n c : Nat} {x : Int} {K : Nat} (h : Md w (.slice ao n c) x K) (hn : n ≤ 3) : Md w (.slice ao n c) x 3 := by
  obtain ⟨ao', c', L, e, h⟩ := h
  obtain ⟨e1, e2, e3⟩ := Value.slice.inj e
  subst e1; subst e3
  exact ⟨ao, c, L, e, h.rd, h.dig, h.nrm, h.eq, by omega⟩
theorem Md.pos_iff {w : World} {ao : Option Addr} {n c : Nat} {x : Int} {K : Nat} (h : Md w (.slice ao n c) x K) : 0 < n ↔ 0 < x := by
  have h0 := h.nonneg
  obtain ⟨ao', c', L, e, h⟩ := h
  obtain ⟨e1, e2, e3⟩ := Value.slice.inj e
  have := h.zero_iff
  omega
theorem Md.many {w : World} {ao : Option Addr} {n c : Nat} {x : Int} {K : Nat} (h : Md w (.slice ao n c) x K) (hn : ¬ n ≤ 3) : R16 ^ 3 ≤ x := by
  obtain ⟨ao', c', L, e, h⟩ := h
  obtain ⟨e1, e2, e3⟩ := Value.slice.inj e
  have := h.nrm.low R16_pos h.dig (by omega)
  rw [h.eq] at this
  exact Int.le_trans (pow_mono R16_pos (by omega)) this
theorem even_md {w : World} {va : Value} {a : Int} {K : Nat} (hA : Md w va a K) :
    Calls Tryz.prog 87 #[va] w fun e w' => e = .returned (.bool (decide (a % 2 = 0))) ∧ w' = w := by
  obtain ⟨ao, ca, L, rfl, hA⟩ := hA
  have h := even_any ao ca L w hA.rd hA.dig
  rw [hA.eq] at h
  exact h


theorem mod_dec {X Y : Int} (hx : 0 ≤ X) (hy : 0 < Y) : Y + X % Y < X + Y ∨ (Y = Y ∧ X % Y = X ∧ X < Y) := by
  have h1 := Int.emod_lt_of_pos X hy
  by_cases h : X < Y
  · right; exact ⟨rfl, Int.emod_eq_of_lt hx h, h⟩
  · left; omega
theorem order_same (va vb : Value) (a b : Int) (Ka Kb : Nat) (w : World) (hA : Md w va a Ka) (hB : Md w vb b Kb) :
    Calls Tryz.prog 89 #[va, vb] w fun e w' => e = .returned (.int .i64 (cmpI a b)) ∧ w = w' :=
  (order_md va vb a b Ka Kb w hA hB).mono fun _ _ h => ⟨h.1, h.2.symm⟩
theorem even_same {w : World} {va : Value} {a : Int} {K : Nat} (hA : Md w va a K) :
    Calls Tryz.prog 87 #[va] w fun e w' => e = .returned (.bool (decide (a % 2 = 0))) ∧ w = w' :=
  (even_md hA).mono fun _ _ h => ⟨h.1, h.2.symm⟩

theorem few_same (ao : Option Addr) (c n : Nat) (w : World) : Calls Tryz.prog 85 #[.slice ao n c] w fun e w' => e = .returned (.bool (decide (n ≤ 3))) ∧ w = w' :=
  (few_any ao c n w).mono fun _ _ h => ⟨h.1, h.2.symm⟩

theorem RgI.next {W0 wr w' : World} {xv yv xv' yv' : Value} {X Y X' Y' : Int} {t t' G K : Nat} (H : RgI W0 wr xv yv X Y t G K) (hx : Md w' xv' X' K) (hy : Md w' yv' Y' K) (hg : 2 ^ t' * Int.gcd X' Y' = 2 ^ t * Int.gcd X Y) (hb : Below wr.heap.size wr w') : RgI W0 w' xv' yv' X' Y' t' G K :=
  ⟨hx, hy, by rw [hg]; exact H.g, H.lt, H.low.trans (hb.mono H.low.size)⟩

set_option maxRecDepth 100000 in
set_option maxHeartbeats 16000000 in
theorem rgcd_any (u v : Value) (x y : Int) (K : Nat) (w : World) (hu : Zt w u x K) (hv : Zt w v y K) (hK : K ≤ 67108864) (hK1 : 4 ≤ K) :
    Calls Tryz.prog 47 #[u, v] w (RetZ w (Int.gcd x y : Int) (K + 1)) := by
  obtain ⟨xb, xo, xm, xc, rfl, Hx, Hxs, Hxb⟩ := Zt.opened hu
  obtain ⟨yb, yo, ym, yc, rfl, Hy, Hys, Hyb⟩ := Zt.opened hv
  clear hu hv
  obtain ⟨G, hG⟩ : ∃ G, Int.gcd (x.natAbs : Int) (y.natAbs : Int) = G := ⟨_, rfl⟩
  have eG : Int.gcd x y = G := by rw [← hG]; simp [Int.gcd]
  rw [eG]
  have HG := hid hG
  clear hG eG
  go_enter Tryz.func47, Tryz.ntmps47
  go_upto_region 1 with (fail)
  obtain ⟨W0, hW0⟩ : ∃ W0, W0 = (((w.alloc (.cells #[.bool xb, .slice xo xm xc] 31)).alloc (.cells #[.bool yb, .slice yo ym yc] 31)).alloc (.cells #[.bool false, .slice none 0 0] 31)) := ⟨_, rfl⟩
  have hB0 : Below w.heap.size w W0 := by rw [hW0]; exact (((Below.refl _ _).alloc (Nat.le_refl _) _).alloc (by simp) _).alloc (by simp; omega) _
  have hw0 : W0.heap.size = w.heap.size + 3 := by rw [hW0]; simp
  have HS : Hid (∀ w', Below W0.heap.size W0 w' → w'.cell? ⟨w.heap.size, 0, none⟩ = some (.bool xb) ∧ w'.cell? ⟨w.heap.size, 1, none⟩ = some (.slice xo xm xc) ∧ w'.cell? ⟨w.heap.size + 1, 0, none⟩ = some (.bool yb) ∧ w'.cell? ⟨w.heap.size + 1, 1, none⟩ = some (.slice yo ym yc)) := hid (fun w' hb => by
    refine ⟨?_, ?_, ?_, ?_⟩ <;> (rw [hb.cell (by rw [hw0]; simp <;> omega), hW0]; simp [go_sem]))
  have HT : Hid (∀ w', Below W0.heap.size W0 w' → w'.cell? ⟨w.heap.size + 2, 0, none⟩ = some (.bool false) ∧ w'.cell? ⟨w.heap.size + 2, 1, none⟩ = some (.slice none 0 0) ∧ w'.frozen? ⟨w.heap.size + 2, 0, none⟩ = false ∧ w'.frozen? ⟨w.heap.size + 2, 1, none⟩ = false) := hid (fun w' hb => by
    refine ⟨?_, ?_, ?_, ?_⟩ <;> (first | (rw [hb.cell (by rw [hw0]; simp <;> omega), hW0]; simp [go_sem]; done) | (rw [hb.frozen (by rw [hw0]; simp <;> omega), hW0]; simp [go_sem]; done)))
  rw [← hW0, show w.heap.size + 1 + 1 = w.heap.size + 2 from rfl]
  clear hW0
  obtain ⟨hs0, hs1, hs2, hs3⟩ := HS.out W0 (Below.refl _ _)
  have hlt : (G : Int) < R16 ^ K := by
    have a := (Hxs.out w (Below.refl _ _)); have b := (Hys.out w (Below.refl _ _))
    rw [← HG.out]; exact gcd_lt_of a.nonneg b.nonneg a.lt b.lt
  have HI0 := hid (show RgI W0 W0 (.slice xo xm xc) (.slice yo ym yc) (x.natAbs : Int) (y.natAbs : Int) 0 G K from ⟨Hxs.out _ hB0, Hys.out _ hB0, by rw [HG.out]; omega, hlt, Below.refl _ _⟩)
  have HB0 := hid hB0; have Hw0 := hid hw0; have Hlt := hid hlt
  clear hB0 hw0 hlt
  go_upto_block 0 with (fail)
  go_cut [5, 6, 7] (fun xv yv tv wx => ∃ X Y : Int, ∃ t : Nat, tv = .int .i64 t ∧ t ≤ 16 * K ∧ (X = 0 ∨ Y = 0) ∧ RgI W0 wx xv yv X Y t G K)
  case first =>
    clear hs0 hs1 hs2 hs3
    go_wp2
    go_loopw [5, 6, 7] (fun xv yv tv wr => ∃ X Y : Int, ∃ t : Nat, tv = .int .i64 t ∧ t ≤ 16 * K ∧ RgI W0 wr xv yv X Y t G K) (fun xv yv _ wr => rgM wr xv yv)
    case atStart => exact ⟨_, _, 0, rfl, Nat.zero_le _, HI0.out⟩
    case round =>
      obtain ⟨X, Y, t, rfl, ht, H⟩ := hrel
      have hX := H.x; have hY := H.y
      obtain ⟨xo, xn, xc, rfl, HX⟩ := Md.opened H.x
      obtain ⟨yo, yn, yc, rfl, HY⟩ := Md.opened H.y
      have px := hX.pos_iff; have py := hY.pos_iff
      have HH := hid H; have Ht := hid ht; have HPx := hid px; have HPy := hid py
      clear H HI0 ht hX hY px py
      by_cases hx0 : 0 < xn
      · by_cases hy0 : 0 < yn
        · have hXp : 0 < X := HPx.out.1 hx0
          have hYp : 0 < Y := HPy.out.1 hy0
          have HXp := hid hXp; have HYp := hid hYp
          clear hXp hYp
          by_cases hy3 : yn ≤ 3
          · have ty : decide (yn ≤ 3) = true := decide_eq_true hy3
            rcases (show decide (xn ≤ 3) = true ∨ decide (xn ≤ 3) = false by cases decide (xn ≤ 3) <;> simp) with tx | tx
            all_goals
            have hbf := byFew_any _ _ X Y K wr (HX.out _ (Below.refl _ _)) ((HY.out _ (Below.refl _ _)).few3 hy3) HYp.out (by omega)
            have HBf := hid hbf
            clear hbf
            go_wp2_with (first
              | (go_at_call 85; refine (few_same _ _ _ _).mono ?_; rintro e w1 ⟨rfl, rfl⟩)
              | (go_at_call 86; refine HBf.out.mono ?_; rintro e w2 ⟨_, v2, rfl, _, hv2, hb2⟩))
            have hm0 := Int.emod_nonneg X (show Y ≠ 0 by have := HYp.out; omega)
            have hm1 := Int.emod_lt_of_pos X HYp.out
            have HN := hid (HH.out.next ((HY.out _ hb2)) ((hv2.mono (by omega))) (by rw [gcd_step HH.out.x.nonneg HYp.out]) hb2)
            have HM := hid (show Y + X % Y < X + Y ∨ (Y = Y ∧ X % Y = X ∧ X < Y) from mod_dec HH.out.x.nonneg HYp.out)
            clear hv2 hb2 hm0 hm1
            go_roundw
            case rel => exact ⟨_, _, t, rfl, Ht.out, HN.out⟩
            case measure => exact rgM_lt HH.out.x HH.out.y HN.out.x HN.out.y HM.out
          · have ty : decide (yn ≤ 3) = false := decide_eq_false hy3
            by_cases hx3 : xn ≤ 3
            · have tx : decide (xn ≤ 3) = true := decide_eq_true hx3
              have hbf := byFew_any _ _ Y X K wr (HY.out _ (Below.refl _ _)) ((HX.out _ (Below.refl _ _)).few3 hx3) HXp.out (by omega)
              have HBf := hid hbf
              clear hbf
              go_wp2_with (first
                | (go_at_call 85; refine (few_same _ _ _ _).mono ?_; rintro e w1 ⟨rfl, rfl⟩)
                | (go_at_call 86; refine HBf.out.mono ?_; rintro e w2 ⟨_, v2, rfl, _, hv2, hb2⟩))
              have hm0 := Int.emod_nonneg Y (show X ≠ 0 by have := HXp.out; omega)
              have hm1 := Int.emod_lt_of_pos Y HXp.out
              have HN := hid (HH.out.next ((hv2.mono (by omega))) ((HX.out _ hb2)) (by rw [Int.gcd_comm, gcd_step HH.out.y.nonneg HXp.out, Int.gcd_comm]) hb2)
              have HM := hid (show Y % X + X < X + Y ∨ (Y % X = Y ∧ X = X ∧ X < Y) by (left; have := (HX.out _ (Below.refl _ _)).few3 hx3; have := this.lt; have := (HY.out _ (Below.refl _ _)).many hy3; omega))
              clear hv2 hb2 hm0 hm1
              go_roundw
              case rel => exact ⟨_, _, t, rfl, Ht.out, HN.out⟩
              case measure => exact rgM_lt HH.out.x HH.out.y HN.out.x HN.out.y HM.out
            · have tx : decide (xn ≤ 3) = false := decide_eq_false hx3
              have hex := even_same HH.out.x
              have hey := even_same HH.out.y
              have hhx := half_any _ X K wr HH.out.x (by omega)
              have Hhx := hid hhx
              have hYhalf := fun (w' : World) (hb : Below wr.heap.size wr w') => half_any _ Y K w' (HY.out _ hb) (by omega)
              have Hhy := hid hYhalf
              have hfw := HH.out.few HXp.out
              have Hfw := hid hfw
              clear hhx hYhalf hfw
              by_cases px : X % 2 = 0
              · rw [decide_eq_true px] at hex
                by_cases py : Y % 2 = 0
                · rw [decide_eq_true py] at hey
                  have HEx := hid hex; have HEy := hid hey; have HG2 := hid (gcd_ev_ev px py)
                  have ht1 := Ht.out
                  clear hex hey px py
                  go_wp2_with (first
                    | (go_at_call 85; refine (few_same _ _ _ _).mono ?_; rintro e w1 ⟨rfl, rfl⟩)
                    | (go_at_call_of 87 (xo); refine HEx.out.mono ?_; rintro e w1 ⟨rfl, rfl⟩)
                    | (go_at_call_of 87 (yo); refine HEy.out.mono ?_; rintro e w1 ⟨rfl, rfl⟩)
                    | (go_at_call_of 88 (xo); refine Hhx.out.mono ?_; rintro e w2 ⟨v2, rfl, hv2, hb2⟩)
                    | (go_at_call_of 88 (yo); refine (Hhy.out _ hb2).mono ?_; rintro e w3 ⟨v3, rfl, hv3, hb3⟩))
                  have HN := hid (HH.out.next (t' := t + 1) (hv2.below hb3 (Nat.le_refl _)) hv3 (by rw [HG2.out, Nat.pow_succ, Nat.mul_assoc]) (hb2.trans (hb3.mono hb2.size)))
                  clear hv2 hb2 hv3 hb3
                  go_roundw
                  case rel => exact ⟨_, _, t + 1, by go_num, by have := Hfw.out; omega, HN.out⟩
                  case measure => exact rgM_lt HH.out.x HH.out.y HN.out.x HN.out.y (.inl (by have := HXp.out; have := HYp.out; omega))
                · rw [decide_eq_false py] at hey
                  have HEx := hid hex; have HEy := hid hey; have HG2 := hid (gcd_ev_odd px py)
                  clear hex hey px py
                  go_wp2_with (first
                    | (go_at_call 85; refine (few_same _ _ _ _).mono ?_; rintro e w1 ⟨rfl, rfl⟩)
                    | (go_at_call_of 87 (xo); refine HEx.out.mono ?_; rintro e w1 ⟨rfl, rfl⟩)
                    | (go_at_call_of 87 (yo); refine HEy.out.mono ?_; rintro e w1 ⟨rfl, rfl⟩)
                    | (go_at_call_of 88 (xo); refine Hhx.out.mono ?_; rintro e w2 ⟨v2, rfl, hv2, hb2⟩))
                  have HN := hid (HH.out.next (t' := t) hv2 (HY.out _ hb2) (by rw [HG2.out]) hb2)
                  clear hv2 hb2
                  go_roundw
                  case rel => exact ⟨_, _, t, rfl, Ht.out, HN.out⟩
                  case measure => exact rgM_lt HH.out.x HH.out.y HN.out.x HN.out.y (.inl (by have := HXp.out; have := HYp.out; omega))
              · rw [decide_eq_false px] at hex
                by_cases py : Y % 2 = 0
                · rw [decide_eq_true py] at hey
                  have HEx := hid hex; have HEy := hid hey; have HG2 := hid (gcd_odd_ev px py)
                  clear hex hey px py
                  go_wp2_with (first
                    | (go_at_call 85; refine (few_same _ _ _ _).mono ?_; rintro e w1 ⟨rfl, rfl⟩)
                    | (go_at_call_of 87 (xo); refine HEx.out.mono ?_; rintro e w1 ⟨rfl, rfl⟩)
                    | (go_at_call_of 87 (yo); refine HEy.out.mono ?_; rintro e w1 ⟨rfl, rfl⟩)
                    | (go_at_call_of 88 (yo); refine (Hhy.out _ (Below.refl _ _)).mono ?_; rintro e w3 ⟨v3, rfl, hv3, hb3⟩))
                  have HN := hid (HH.out.next (t' := t) (HX.out _ hb3) hv3 (by rw [HG2.out]) hb3)
                  clear hv3 hb3
                  go_roundw
                  case rel => exact ⟨_, _, t, rfl, Ht.out, HN.out⟩
                  case measure => exact rgM_lt HH.out.x HH.out.y HN.out.x HN.out.y (.inl (by have := HXp.out; have := HYp.out; omega))
                · rw [decide_eq_false py] at hey
                  have hor := order_same _ _ X Y K K wr HH.out.x HH.out.y
                  have HEx := hid hex; have HEy := hid hey
                  clear hex hey px py
                  by_cases hxy : Y ≤ X
                  · have hcv : 0 ≤ cmpI X Y := by unfold cmpI; (repeat split) <;> omega
                    obtain ⟨cv, hcve⟩ : ∃ cv, cmpI X Y = cv := ⟨_, rfl⟩
                    rw [hcve] at hor hcv
                    have hls := less_any _ _ X Y K K wr HH.out.x HH.out.y hxy (by omega)
                    have HOr := hid hor; have HLs := hid hls
                    clear hor hls hcve
                    go_wp2_with (first
                      | (go_at_call 85; refine (few_same _ _ _ _).mono ?_; rintro e w1 ⟨rfl, rfl⟩)
                      | (go_at_call_of 87 (xo); refine HEx.out.mono ?_; rintro e w1 ⟨rfl, rfl⟩)
                      | (go_at_call_of 87 (yo); refine HEy.out.mono ?_; rintro e w1 ⟨rfl, rfl⟩)
                      | (go_at_call 89; refine HOr.out.mono ?_; rintro e w1 ⟨rfl, rfl⟩)
                      | (go_at_call 90; refine HLs.out.mono ?_; rintro e w2 ⟨v2, rfl, hv2, hb2⟩))
                    have HN := hid (HH.out.next (t' := t) hv2 (HY.out _ hb2) (by rw [gcd_less_l]) hb2)
                    clear hv2 hb2
                    go_roundw
                    case rel => exact ⟨_, _, t, rfl, Ht.out, HN.out⟩
                    case measure => exact rgM_lt HH.out.x HH.out.y HN.out.x HN.out.y (.inl (by have := HXp.out; have := HYp.out; omega))
                  · have hcv : ¬ 0 ≤ cmpI X Y := by unfold cmpI; (repeat split) <;> omega
                    obtain ⟨cv, hcve⟩ : ∃ cv, cmpI X Y = cv := ⟨_, rfl⟩
                    rw [hcve] at hor hcv
                    have hls := less_any _ _ Y X K K wr HH.out.y HH.out.x (by omega) (by omega)
                    have HOr := hid hor; have HLs := hid hls
                    clear hor hls hcve
                    go_wp2_with (first
                      | (go_at_call 85; refine (few_same _ _ _ _).mono ?_; rintro e w1 ⟨rfl, rfl⟩)
                      | (go_at_call_of 87 (xo); refine HEx.out.mono ?_; rintro e w1 ⟨rfl, rfl⟩)
                      | (go_at_call_of 87 (yo); refine HEy.out.mono ?_; rintro e w1 ⟨rfl, rfl⟩)
                      | (go_at_call 89; refine HOr.out.mono ?_; rintro e w1 ⟨rfl, rfl⟩)
                      | (go_at_call 90; refine HLs.out.mono ?_; rintro e w2 ⟨v2, rfl, hv2, hb2⟩))
                    have HN := hid (HH.out.next (t' := t) (HX.out _ hb2) hv2 (by rw [gcd_less_r]) hb2)
                    clear hv2 hb2
                    go_roundw
                    case rel => exact ⟨_, _, t, rfl, Ht.out, HN.out⟩
                    case measure => exact rgM_lt HH.out.x HH.out.y HN.out.x HN.out.y (.inl (by have := HXp.out; have := HYp.out; omega))
        · have HF := hid (show X = 0 ∨ Y = 0 from .inr (by have := HPy.out.2; have := HH.out.y.nonneg; omega))
          have hyz : yn = 0 := by omega
          subst hyz
          go_wp2
          go_meet
          exact ⟨X, Y, t, rfl, Ht.out, HF.out, HH.out⟩
      · have HF := hid (show X = 0 ∨ Y = 0 from .inl (by have := HPx.out.2; have := HH.out.x.nonneg; omega))
        have hxz : xn = 0 := by omega
        subst hxz
        go_wp2
        go_meet
        exact ⟨X, Y, t, rfl, Ht.out, HF.out, HH.out⟩
  case rest =>
    obtain ⟨X, Y, t, rfl, ht, hz, H⟩ := hcut
    have hsm := sum_md _ _ X Y K wc H.x H.y (by omega)
    have hXY : ((Int.gcd X Y : Nat) : Int) = X + Y := by
      have a := H.x.nonneg; have b := H.y.nonneg
      rcases hz with h | h
      · rw [h]; simp [Int.gcd]; omega
      · rw [h]; simp [Int.gcd]; omega
    have hGg : (G : Int) = 2 ^ t * (X + Y) := by rw [← H.g, ← hXY]; simp
    have hnn : 0 ≤ X + Y := by have a := H.x.nonneg; have b := H.y.nonneg; omega
    obtain ⟨g0, hg0⟩ : ∃ g0, g0 = X + Y := ⟨_, rfl⟩
    rw [← hg0] at hsm hGg hnn
    have HSm := hid hsm; have HGg := hid hGg; have Hnn := hid hnn; have HLow := hid H.low; have Ht := hid ht
    clear hsm hXY hGg hnn H hz hg0 HI0 ht
    go_wp2_with fail
    refine HSm.out.mono ?_
    rintro e w1 ⟨v1, rfl, hv1, hb1⟩
    have hlow1 : Below W0.heap.size W0 w1 := HLow.out.trans (hb1.mono HLow.out.size)
    have HI1 := hid hv1; have HL1 := hid hlow1
    clear hv1 hb1 hlow1
    have ht30 : t ≤ 1073741824 := by have := Ht.out; omega
    go_wp2
    go_loopw [14, 15] (fun gv iv wr => ∃ i : Nat, i ≤ t ∧ iv = .int .i64 i ∧ Dg wr gv (2 ^ i * g0) (K + 1) ∧ Below W0.heap.size W0 wr) (fun _ iv _ => t - (intOf iv).toNat)
    case atStart => exact ⟨0, Nat.zero_le _, rfl, by rw [Int.pow_zero, Int.one_mul]; exact HI1.out, HL1.out⟩
    case round =>
      obtain ⟨i, hi, rfl, hg, hl⟩ := hrel
      by_cases hlt : i < t
      · have hdb := double_dg _ _ 0 (K + 1) wr hg (Int.le_refl 0) (by decide) (by omega)
        have hbound : 2 * (2 ^ i * g0) + 0 < R16 ^ (K + 1) := by
          have h1 := Hlt.out
          rw [HGg.out] at h1
          have h2 : (2 : Int) ^ (i + 1) ≤ 2 ^ t := pow_mono (by decide) (by omega)
          have h3 : (2 : Int) ^ (i + 1) * g0 ≤ 2 ^ t * g0 := Int.mul_le_mul_of_nonneg_right h2 Hnn.out
          have h4 : R16 ^ K ≤ R16 ^ (K + 1) := pow_mono R16_pos (by omega)
          rw [Int.pow_succ] at h3
          have h5 : 2 * (2 ^ i * g0) = 2 ^ i * 2 * g0 := by grind
          omega
        have HDb := hid hdb; have HBo := hid hbound; have HL := hid hl
        have hi0 : (0 : Int) ≤ (i : Int) := by omega
        clear hdb hbound hg hl HI1
        go_wp2_with fail
        refine HDb.out.mono ?_
        rintro e w2 ⟨v2, rfl, hv2, hb2⟩
        have hv3 := (hv2.tight HBo.out).dg
        have e2 : 2 * (2 ^ i * g0) + 0 = 2 ^ (i + 1) * g0 := by rw [Int.pow_succ]; grind
        rw [e2] at hv3
        have HV := hid hv3; have HL2 := hid (HL.out.trans (hb2.mono HL.out.size))
        clear hv2 hb2 hv3 e2
        go_wp2
        go_roundw
        case rel => exact ⟨i + 1, by omega, by go_num, HV.out, HL2.out⟩
        case measure => simp [intOf]; omega
      · obtain rfl : i = t := by omega
        rw [← HGg.out] at hg
        have hm := made_any false _ _ _ wr hg
        rw [show sgn false (G : Int) = (G : Int) from rfl] at hm
        have HM := hid hm; have HL := hid hl
        clear hm hg hl HI1
        go_wp2_with fail
        refine HM.out.mono ?_
        rintro e w2 ⟨_, rfl, hv1, hb1⟩
        obtain ⟨b1, o1, m1, c1, rfl, H1, H1s, H1b⟩ := Zt.opened hv1
        have hB1 : Below W0.heap.size W0 w2 := HL.out.trans (hb1.mono HL.out.size)
        obtain ⟨hr0, hr1, hr2, hr3⟩ := HT.out _ hB1
        go_wp2
        have hbel : Below w.heap.size w w2 := HB0.out.trans (hB1.mono (by have := Hw0.out; omega))
        refine bodyPost_ret (v := .agg #[.bool b1, .slice o1 m1 c1]) (by simp [results, Tryz.results47, go_sem, hr0, hr1]) rfl ⟨_, rfl, ?_, (hbel.setCell (by simp <;> omega) _).setCell (by simp <;> omega) _⟩
        exact ((H1.out _ (Below.refl _ _)).set hr0 (fun x h => (by cases h)) _).set (u := .slice none 0 0) (by simp [go_sem, hr1]) (fun x h => (by cases h)) _

end Go.Proofs.YtbapeilpkhbbeaaGreatDoor
