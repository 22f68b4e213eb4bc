/- exact.foresee: steps that the highest bits tell. (*exact.difference).limb: a limb of the difference of two products. -/
import Derived.Test.YtbapeilpkhbbeaaGreatBn09
import Derived.Test.YtbapeilpkhbbeaaGreatBn10
import Derived.Test.YtbapeilpkhbbeaaGreatBn03
import Derived.Deep.DeepCutAuto
import Derived.Deep.CutBlock
import Derived.IntWalk
import Derived.Test.YtbapeilpkhbbeaaGreatBn07
/- exact.foresee: steps that the highest bits tell. -/
namespace Go.Proofs.YtbapeilpkhbbeaaGreat
open Go.RowKit

/-- Block g is a struct with the fields vs. -/
def Obs (T : TypeId) (w : World) (g : Nat) (vs : List Value) : Prop := w.heap[g]? = some (.cells vs.toArray T (0, 0))
theorem Obs.lt {T : TypeId} {w : World} {g : Nat} {vs : List Value} (h : Obs T w g vs) : g < w.heap.size := (Array.getElem?_eq_some_iff.1 h).1
theorem Obs.cell {T : TypeId} {w : World} {g : Nat} {vs : List Value} (h : Obs T w g vs) (i : Nat) (v : Value) (hi : vs[i]? = some v) : w.cell? ⟨g, i, none⟩ = some v := by
  rw [cell_of_row w g i _ T (0, 0) h]; simpa using hi
theorem Obs.frozen {T : TypeId} {w : World} {g : Nat} {vs : List Value} (h : Obs T w g vs) (i : Nat) : w.frozen? ⟨g, i, none⟩ = false := frozen_of_row w g i _ T h
theorem Obs.set {T : TypeId} {w : World} {g : Nat} {vs : List Value} (h : Obs T w g vs) (i : Nat) (v : Value) : Obs T (w.setCell ⟨g, i, none⟩ v) g (vs.set i v) := by
  unfold Obs
  rw [heap_setCell_same w g i _ T _ h]; simp
theorem Obs.kept {T : TypeId} {w w' : World} {g : Nat} {vs : List Value} {r : Option Nat} (h : Obs T w g vs) (hg : w.grownBy w' r) (hne : some g ≠ r) : Obs T w' g vs := by
  unfold Obs; rw [hg.block g h.lt hne]; exact h
theorem Obs.alloc {T : TypeId} {w : World} {g : Nat} {vs : List Value} (h : Obs T w g vs) (o : Obj) : Obs T (w.alloc o) g vs := h.kept (World.grownBy_alloc w o none) (by simp)
theorem Obs.other {T : TypeId} {w : World} {g : Nat} {vs : List Value} (h : Obs T w g vs) {g' : Nat} (hne : g' ≠ g) (i : Nat) (v : Value) : Obs T (w.setCell ⟨g', i, none⟩ v) g vs :=
  h.kept (grown_set w g' i v) (by simp; exact fun e => hne e.symm)
theorem Obs.drewN {T : TypeId} {w : World} {g : Nat} {vs : List Value} (h : Obs T w g vs) (n : Nat) : Obs T (w.drewN n) g vs := h
theorem Obs.new (T : TypeId) (w : World) (vs : List Value) : Obs T (w.alloc (.cells vs.toArray T (0, 0))) w.heap.size vs := by
  unfold Obs; show (w.heap.push _)[w.heap.size]? = _; simp

/-- The fields of steps. -/
def stepL (c a0 b0 a1 b1 : Int) : List Value := [.int .i64 c, .int .u64 a0, .int .u64 b0, .int .u64 a1, .int .u64 b1]

structure ForeI (w wr : World) (c a0 b0 a1 b1 : Int) : Prop where
  o4 : Obs 143 wr w.heap.size (stepL 0 0 0 0 0)
  o5 : Obs 143 wr (w.heap.size + 1) (stepL c a0 b0 a1 b1)
  low : Below w.heap.size w wr

theorem ForeI.cells {w wr : World} {c a0 b0 a1 b1 : Int} (H : ForeI w wr c a0 b0 a1 b1) :
    wr.cell? ⟨w.heap.size + 1, 0, none⟩ = some (.int .i64 c) ∧ wr.cell? ⟨w.heap.size + 1, 1, none⟩ = some (.int .u64 a0) ∧ wr.cell? ⟨w.heap.size + 1, 2, none⟩ = some (.int .u64 b0) ∧ wr.cell? ⟨w.heap.size + 1, 3, none⟩ = some (.int .u64 a1) ∧ wr.cell? ⟨w.heap.size + 1, 4, none⟩ = some (.int .u64 b1) :=
  ⟨H.o5.cell 0 _ rfl, H.o5.cell 1 _ rfl, H.o5.cell 2 _ rfl, H.o5.cell 3 _ rfl, H.o5.cell 4 _ rfl⟩
theorem ForeI.frozen {w wr : World} {c a0 b0 a1 b1 : Int} (H : ForeI w wr c a0 b0 a1 b1) :
    wr.frozen? ⟨w.heap.size + 1, 0, none⟩ = false ∧ wr.frozen? ⟨w.heap.size + 1, 1, none⟩ = false ∧ wr.frozen? ⟨w.heap.size + 1, 2, none⟩ = false ∧ wr.frozen? ⟨w.heap.size + 1, 3, none⟩ = false ∧ wr.frozen? ⟨w.heap.size + 1, 4, none⟩ = false :=
  ⟨H.o5.frozen 0, H.o5.frozen 1, H.o5.frozen 2, H.o5.frozen 3, H.o5.frozen 4⟩

theorem ForeI.olds {w wr : World} {c a0 b0 a1 b1 : Int} (H : ForeI w wr c a0 b0 a1 b1) :
    wr.cell? ⟨w.heap.size, 0, none⟩ = some (.int .i64 0) ∧ wr.cell? ⟨w.heap.size, 1, none⟩ = some (.int .u64 0) ∧ wr.cell? ⟨w.heap.size, 2, none⟩ = some (.int .u64 0) ∧ wr.cell? ⟨w.heap.size, 3, none⟩ = some (.int .u64 0) ∧ wr.cell? ⟨w.heap.size, 4, none⟩ = some (.int .u64 0) ∧
    wr.frozen? ⟨w.heap.size, 0, none⟩ = false ∧ wr.frozen? ⟨w.heap.size, 1, none⟩ = false ∧ wr.frozen? ⟨w.heap.size, 2, none⟩ = false ∧ wr.frozen? ⟨w.heap.size, 3, none⟩ = false ∧ wr.frozen? ⟨w.heap.size, 4, none⟩ = false :=
  ⟨H.o4.cell 0 _ rfl, H.o4.cell 1 _ rfl, H.o4.cell 2 _ rfl, H.o4.cell 3 _ rfl, H.o4.cell 4 _ rfl, H.o4.frozen 0, H.o4.frozen 1, H.o4.frozen 2, H.o4.frozen 3, H.o4.frozen 4⟩
theorem ForeI.drewN {w wr : World} {c a0 b0 a1 b1 : Int} (H : ForeI w wr c a0 b0 a1 b1) (n : Nat) : ForeI w (wr.drewN n) c a0 b0 a1 b1 := ⟨H.o4, H.o5, below_drewN H.low n⟩
theorem ForeI.sets {w wr : World} {c a0 b0 a1 b1 c' a0' b0' a1' b1' : Int} (H : ForeI w wr c a0 b0 a1 b1) : ForeI w (((((wr.setCell ⟨w.heap.size + 1, 0, none⟩ (.int .i64 c')).setCell ⟨w.heap.size + 1, 1, none⟩ (.int .u64 a0')).setCell ⟨w.heap.size + 1, 2, none⟩ (.int .u64 b0')).setCell ⟨w.heap.size + 1, 3, none⟩ (.int .u64 a1')).setCell ⟨w.heap.size + 1, 4, none⟩ (.int .u64 b1')) c' a0' b0' a1' b1' :=
  ⟨((((H.o4.other (by omega) 0 _).other (by omega) 1 _).other (by omega) 2 _).other (by omega) 3 _).other (by omega) 4 _, ((((H.o5.set 0 _).set 1 _).set 2 _).set 3 _).set 4 _, ((((H.low.setCell (by simp) _).setCell (by simp) _).setCell (by simp) _).setCell (by simp) _).setCell (by simp) _⟩

set_option maxRecDepth 100000 in
set_option maxHeartbeats 4000000 in
theorem foresee_any (ao bo : Option Addr) (ca cb : Nat) (LA LB : List Int) (a b : Int) (Ka Kb : Nat) (w : World) (hA : NtL w ao ca LA a Ka) (hB : NtL w bo cb LB b Kb) (hab : b ≤ a) (hl : 2 ≤ LB.length) (hK : Ka ≤ 1073741824) :
    Calls Tryz.prog 129 #[.slice ao LA.length ca, .slice bo LB.length cb] w fun e w' => ∃ cnt a0 b0 a1 b1, e = .returned (.agg #[.int .i64 cnt, .int .u64 a0, .int .u64 b0, .int .u64 a1, .int .u64 b1]) ∧ StepsN a b cnt a0 b0 a1 b1 ∧ Below w.heap.size w w' := by
  have hle := len_of_le hA.dig hB.dig hB.nrm (by rw [hA.eq, hB.eq]; exact hab)
  obtain ⟨m, hm⟩ : ∃ m, LA.length = m + 2 := ⟨LA.length - 2, by omega⟩
  obtain ⟨n, hn⟩ : ∃ n, n = LB.length := ⟨_, rfl⟩
  obtain ⟨ba, oa, rfl⟩ := hA.rd.adr (by omega)
  obtain ⟨bb, ob, rfl⟩ := hB.rd.adr (by omega)
  have hm30 : m + 2 ≤ 1073741824 := by have := hA.le; omega
  have cA1 : w.cell? ⟨ba, oa + (m + 2 - 1), none⟩ = _ := hA.rd.cell ba oa rfl (m + 1) (by omega)
  have cA0 : w.cell? ⟨ba, oa + (m + 2 - 2), none⟩ = _ := hA.rd.cell ba oa rfl m (by omega)
  have hba : ba < w.heap.size := World.block_lt_of_cell? w _ cA1
  have hba1 : ba < w.heap.size + 1 := by omega
  have hy := hA.dig.at B64_pos (m + 1)
  have hz := hA.dig.at B64_pos m
  have hy0 := hA.nrm.top hm
  obtain ⟨y, hye⟩ : ∃ y, y = LA[m + 1]?.getD 0 := ⟨_, rfl⟩
  obtain ⟨z, hze⟩ : ∃ z, z = LA[m]?.getD 0 := ⟨_, rfl⟩
  rw [← hye] at cA1 hy hy0; rw [← hze] at cA0 hz
  have hlz := fun w => lz64 y (by omega) hy.2 w
  have hz0 := hz.1
  have hyn := hy.1
  have Hlz := hid hlz; have HA := hid hA; have HB := hid hB; have Hy := hid hye; have Hz := hid hze; have Hn := hid hn; have Hm := hid hm; have Hab := hid hab; have HY := hid hy
  rw [hm, ← hn]
  rw [hm, ← hn] at hle
  rw [← hn] at hl
  clear hlz hA hB hye hze hn hm hab hy hy0 hz
  go_enter Tryz.func129, Tryz.ntmps129
  go_upto_region 3 with (fail)
  obtain ⟨W0, hW0⟩ : ∃ W0, W0 = ((w.alloc (.cells #[.int .i64 0, .int .u64 0, .int .u64 0, .int .u64 0, .int .u64 0] 143)).alloc (.cells #[.int .i64 0, .int .u64 1, .int .u64 0, .int .u64 0, .int .u64 1] 143)) := ⟨_, rfl⟩
  have hI0 : ForeI w W0 0 1 0 0 1 := by
    rw [hW0]
    exact ⟨(Obs.new _ w _).alloc _, by have := Obs.new 143 (w.alloc (.cells #[.int .i64 0, .int .u64 0, .int .u64 0, .int .u64 0, .int .u64 0] 143)) (stepL 0 1 0 0 1); simpa [stepL] using this, ((Below.refl _ _).alloc (Nat.le_refl _) _).alloc (by simp) _⟩
  have HI0 := hid hI0
  clear hI0
  rw [← hW0]
  clear hW0
  have cA1' := (HA.out.rd.below HI0.out.low (Nat.le_refl _)).cell ba oa rfl (m + 1) (by have := Hm.out; omega)
  have cA0' := (HA.out.rd.below HI0.out.low (Nat.le_refl _)).cell ba oa rfl m (by have := Hm.out; omega)
  rw [← Hy.out] at cA1'; rw [← Hz.out] at cA0'
  clear cA1 cA0 hba hba1
  go_wp2_with fail
  refine (Hlz.out _).mono ?_
  rintro e wz ⟨s, rfl, hs63, _, hs2, rfl⟩
  have hwr : IntKind.u64.wrap (y * 2 ^ s) = y * 2 ^ s := by
    rw [IntKind.wrap_u64]
    exact Int.emod_eq_of_lt (Int.mul_nonneg hyn (Int.le_of_lt (Int.pow_pos (by decide)))) hs2
  have hA8 : bits .or .u64 (IntKind.u64.wrap (y * 2 ^ s)) (z / 2 ^ (64 - s)) = a / topS m s := by
    rw [hwr, Hy.out, Hz.out, top_two HA.out.dig Hm.out hs63 (by rw [← Hy.out]; exact hs2), HA.out.eq]
  have Hs2 := hid hs2; have HA8 := hid hA8
  clear hs2 hwr hA8
  go_wp2
  go_quiet (fail)
  go_upto_block 0 with (fail)
  rw [HA8.out]
  have hSp := topS_pos (m := m) hs63
  have hA0 : 0 ≤ a / topS m s := Int.ediv_nonneg HA.out.nonneg (Int.le_of_lt hSp)
  have hBp : 0 ≤ b / topS m s := Int.ediv_nonneg HB.out.nonneg (Int.le_of_lt hSp)
  have hBA : b / topS m s ≤ a / topS m s := Int.ediv_le_ediv hSp Hab.out
  have hA64 : a / topS m s < 18446744073709551616 := by
    have := top_lt HA.out.dig HA.out.nrm Hm.out hs63 (by rw [← Hy.out]; exact Hs2.out)
    rw [HA.out.eq] at this; exact this
  have hAe := Int.emod_add_mul_ediv a (topS m s)
  have hBe := Int.emod_add_mul_ediv b (topS m s)
  have hAm := And.intro (Int.emod_nonneg a (show topS m s ≠ 0 by omega)) (Int.emod_lt_of_pos a hSp)
  have hBm := And.intro (Int.emod_nonneg b (show topS m s ≠ 0 by omega)) (Int.emod_lt_of_pos b hSp)
  obtain ⟨A, hAA⟩ : ∃ A, A = a / topS m s := ⟨_, rfl⟩
  obtain ⟨B, hBB⟩ : ∃ B, B = b / topS m s := ⟨_, rfl⟩
  rw [← hAA] at hA0 hBA hA64 hAe ⊢
  rw [← hBB] at hBp hBA hBe
  have HBB := hid hBB; have HBA := hid hBA; have HAe := hid hAe; have HBe := hid hBe; have HAm := hid hAm; have HBm := hid hBm; have HBp := hid hBp
  clear hAA hBB hBA hAe hBe hAm hBm hSp
  go_cut [9] (fun lv wx => lv = .int .u64 B ∧ ∃ nq', wx = W0.drewN nq')
  case first =>
    by_cases h1 : n = m + 2
    · subst h1
      have cB1 := (HB.out.rd.below HI0.out.low (Nat.le_refl _)).cell bb ob rfl (m + 1) (by have := Hn.out; omega)
      have cB0 := (HB.out.rd.below HI0.out.low (Nat.le_refl _)).cell bb ob rfl m (by have := Hn.out; omega)
      have e1 := hid (top_le HA.out.dig HB.out.dig (k := m + 1) Hm.out Hn.out.symm (by rw [HA.out.eq, HB.out.eq]; exact Hab.out))
      have t1 := HB.out.dig.at B64_pos (m + 1)
      have t0 := (HB.out.dig.at B64_pos m).1
      have e2 : LB[m + 1]?.getD 0 * 2 ^ s < B64 := by
        have := Int.mul_le_mul_of_nonneg_right e1.out (Int.le_of_lt (Int.pow_pos (m := s) (show (0 : Int) < 2 by decide)))
        rw [← Hy.out] at this; have := Hs2.out; omega
      have e3 : IntKind.u64.wrap (LB[m + 1]?.getD 0 * 2 ^ s) = LB[m + 1]?.getD 0 * 2 ^ s := by
        rw [IntKind.wrap_u64]
        exact Int.emod_eq_of_lt (Int.mul_nonneg t1.1 (Int.le_of_lt (Int.pow_pos (by decide)))) e2
      have e4 : bits .or .u64 (IntKind.u64.wrap (LB[m + 1]?.getD 0 * 2 ^ s)) (LB[m]?.getD 0 / 2 ^ (64 - s)) = B := by
        rw [e3, top_two HB.out.dig Hn.out.symm hs63 e2, HB.out.eq, ← HBB.out]
      obtain ⟨y2, hy2⟩ : ∃ y2, y2 = LB[m + 1]?.getD 0 := ⟨_, rfl⟩
      obtain ⟨z2, hz2⟩ : ∃ z2, z2 = LB[m]?.getD 0 := ⟨_, rfl⟩
      rw [← hy2] at cB1 e4 t1
      rw [← hz2] at cB0 e4 t0
      have y20 := t1.1
      have HE4 := hid e4
      have hb : ((m : Int) + 2 == (m : Int) + 2) = true := by simp
      clear e1 e2 e3 e4 hy2 hz2 t1
      go_wp2
      go_quiet (fail)
      go_wp2
      go_meet
      exact ⟨by rw [HE4.out], _, World.drewN_drewN _ _ _⟩
    · have hb1 : ((n : Int) == (m : Int) + 2) = false := by rw [beq_eq_false_iff_ne]; omega
      by_cases h2 : n = m + 1
      · subst h2
        have cB0 := (HB.out.rd.below HI0.out.low (Nat.le_refl _)).cell bb ob rfl m (by have := Hn.out; omega)
        have t0 := (HB.out.dig.at B64_pos m).1
        have e4 := top_one (s := s) HB.out.dig Hn.out.symm
        rw [HB.out.eq, ← HBB.out] at e4
        obtain ⟨z2, hz2⟩ : ∃ z2, z2 = LB[m]?.getD 0 := ⟨_, rfl⟩
        rw [← hz2] at cB0 e4 t0
        have HE4 := hid e4
        clear e4 hz2 h1
        go_wp2
        go_meet
        exact ⟨by rw [HE4.out], _, rfl⟩
      · have hb2 : ((n : Int) == (m : Int) + 2 - 1) = false := by rw [beq_eq_false_iff_ne]; omega
        have hb3 : ((n : Int) == (m : Int) + 1) = false := by rw [beq_eq_false_iff_ne]; omega
        have e4 := top_none HB.out.dig (show LB.length ≤ m by have := Hn.out; omega) hs63
        rw [HB.out.eq, ← HBB.out] at e4
        have HE4 := hid e4
        clear e4 h1 h2
        go_wp2
        go_meet
        exact ⟨by rw [HE4.out], _, rfl⟩
  case rest =>
    obtain ⟨rfl, nq', rfl⟩ := hcut
    have HL0 := hid (LehN.start (a := a) HB.out.nonneg HBp.out HBA.out)
    go_wp2
    go_loopw [8, 9] (fun hv lv wr => ∃ cnt a0 b0 a1 b1 hi lo, hv = .int .u64 hi ∧ lv = .int .u64 lo ∧ LehN a b A B cnt a0 b0 a1 b1 hi lo ∧ ForeI w wr cnt a0 b0 a1 b1) (fun _ lv _ => (intOf lv).toNat)
    case atStart => exact ⟨0, 1, 0, 0, 1, A, B, rfl, rfl, HL0.out, HI0.out.drewN _⟩
    case round =>
      obtain ⟨cnt, a0, b0, a1, b1, hi, lo, rfl, rfl, HL, HF⟩ := hrel
      obtain ⟨x0, x1, x2, x3, x4⟩ := HF.cells
      obtain ⟨f0, f1, f2, f3, f4⟩ := HF.frozen
      obtain ⟨r0, r1, r2, r3, r4, g0, g1, g2, g3, g4⟩ := HF.olds
      have HSt := hid HL.steps
      have hfin : ∀ wx v0 v1 v2 v3 v4, Below w.heap.size w wx → Below w.heap.size w (((((wx.setCell ⟨w.heap.size, 0, none⟩ v0).setCell ⟨w.heap.size, 1, none⟩ v1).setCell ⟨w.heap.size, 2, none⟩ v2).setCell ⟨w.heap.size, 3, none⟩ v3).setCell ⟨w.heap.size, 4, none⟩ v4) := fun _ _ _ _ _ _ h =>
        ((((h.setCell (Nat.le_refl _) _).setCell (Nat.le_refl _) _).setCell (Nat.le_refl _) _).setCell (Nat.le_refl _) _).setCell (Nat.le_refl _) _
      have HFin := hid hfin
      clear hfin
      by_cases hlo : 0 < lo
      · have hB := HL.bounds hlo
        have hF := hB.fits HL.eA HL.eB HL.b11 HL.a10
        obtain ⟨q, hq⟩ : ∃ q, hi / lo = q := ⟨_, rfl⟩
        rw [hq] at hB hF
        obtain ⟨rs, hrs⟩ : ∃ rs, hi - q * lo = rs := ⟨_, rfl⟩
        obtain ⟨a2, ha2⟩ : ∃ a2, a0 + q * a1 = a2 := ⟨_, rfl⟩
        obtain ⟨b2, hb2⟩ : ∃ b2, b0 + q * b1 = b2 := ⟨_, rfl⟩
        rw [hrs, ha2, hb2] at hB hF
        have hhi : hi ≤ A := by
          have h1 := HL.eA; have h2 := HL.b11; have h3 := HL.b00; have h4 := HL.le
          have h5 : 1 * hi ≤ b1 * hi := Int.mul_le_mul_of_nonneg_right h2 (by omega)
          have h6 := Int.mul_nonneg h3 (Int.le_of_lt hlo)
          omega
        have h0hi : 0 ≤ hi := by have := HL.le; omega
        have hlohi : lo ≤ hi := HL.le
        have q0 : 0 ≤ q := by have := hB.q1; omega
        have p1 : 0 ≤ q * lo := Int.mul_nonneg q0 (Int.le_of_lt hlo)
        have p2 := hB.qh; have p3 := hB.r0; have p4 := hB.r1
        have p5 := hB.qa0; have p6 := hB.qa; have p7 := hB.qb0; have p8 := hB.qb; have p9 := hB.a20; have p10 := hB.ab2; have p11 := hB.b21
        have s1 := HL.a00; have s2 := HL.b00; have s3 := HL.a10; have s4 := HL.b11
        have u1 : IntKind.u64.wrap (q * lo) = q * lo := by rw [IntKind.wrap_u64]; omega
        have u2 : IntKind.u64.wrap (hi - q * lo) = rs := by rw [IntKind.wrap_u64]; omega
        have u3 : IntKind.u64.wrap (q * a1) = q * a1 := by rw [IntKind.wrap_u64]; omega
        have u4 : IntKind.u64.wrap (a0 + q * a1) = a2 := by rw [IntKind.wrap_u64]; omega
        have u5 : IntKind.u64.wrap (q * b1) = q * b1 := by rw [IntKind.wrap_u64]; omega
        have u6 : IntKind.u64.wrap (b0 + q * b1) = b2 := by rw [IntKind.wrap_u64]; omega
        have u7 : IntKind.u64.wrap rs = rs := by rw [IntKind.wrap_u64]; omega
        have u8 : IntKind.u64.wrap a2 = a2 := by rw [IntKind.wrap_u64]; omega
        have u9 : IntKind.u64.wrap b2 = b2 := by rw [IntKind.wrap_u64]; omega
        have HNext := hid (fun k1 k2 => HL.next hB hrs.symm ha2.symm hb2.symm (show a = A * topS m s + a % topS m s by rw [Int.mul_comm A]; have := HAe.out; omega) (show b = B * topS m s + b % topS m s by rw [Int.mul_comm B]; have := HBe.out; omega) HAm.out.1 HAm.out.2 HBm.out.1 HBm.out.2 hA64 k1 k2)
        have hcnt := HL.steps.c
        have hc0 := hcnt.1; have hc1 := hcnt.2
        have HHF := hid HF
        clear HL hB hcnt p1 p2 p5 p6 p7 p8 p10 s1 s2
        by_cases k1 : rs < b2
        · clear hF
          go_wp2
          go_quiet (fail)
          go_wp2
          refine bodyPost_ret (v := .agg #[.int .i64 cnt, .int .u64 a0, .int .u64 b0, .int .u64 a1, .int .u64 b1]) (by simp [results, Tryz.results129, go_sem, r0, r1, r2, r3, r4]) rfl ⟨_, _, _, _, _, rfl, HSt.out, HFin.out _ _ _ _ _ _ (below_drewN HHF.out.low _)⟩
        · obtain ⟨hF3, _⟩ := hF.2.2 (by omega)
          clear hF
          have w1 : IntKind.u64.wrap (lo - rs) = lo - rs := by rw [IntKind.wrap_u64]; omega
          have w2 : IntKind.u64.wrap (b1 + b2) = b1 + b2 := by rw [IntKind.wrap_u64]; omega
          by_cases k2 : lo - rs < b1 + b2
          · go_wp2
            go_quiet (fail)
            go_wp2
            refine bodyPost_ret (v := .agg #[.int .i64 cnt, .int .u64 a0, .int .u64 b0, .int .u64 a1, .int .u64 b1]) (by simp [results, Tryz.results129, go_sem, r0, r1, r2, r3, r4]) rfl ⟨_, _, _, _, _, rfl, HSt.out, HFin.out _ _ _ _ _ _ (below_drewN HHF.out.low _)⟩
          · have k1' : b2 ≤ rs := by omega
            have k2' : b1 + b2 ≤ lo - rs := by omega
            have HN := hid (HNext.out k1' k2')
            have hp4 := hid p4
            go_wp2
            go_quiet (fail)
            go_wp2
            go_roundw
            case rel => exact ⟨cnt + 1, a1, b1, a2, b2, lo, rs, rfl, rfl, HN.out, (HHF.out.drewN _).sets⟩
            case measure => simp [intOf]; have := hp4.out; omega
      · have HHF := hid HF; have HHL := hid HL
        clear HF HL
        go_wp2
        refine bodyPost_ret (v := .agg #[.int .i64 cnt, .int .u64 a0, .int .u64 b0, .int .u64 a1, .int .u64 b1]) (by simp [results, Tryz.results129, go_sem, r0, r1, r2, r3, r4]) rfl ⟨_, _, _, _, _, rfl, HSt.out, HFin.out _ _ _ _ _ _ HHF.out.low⟩

end Go.Proofs.YtbapeilpkhbbeaaGreat

/- (*exact.difference).limb: a limb of the difference of two products. -/
namespace Go.Proofs.YtbapeilpkhbbeaaGreat
open Go.RowKit

theorem limb_step {x u cc hi lo l1 c1 : Int} (hx : 0 ≤ x ∧ x < B64) (hu : 0 ≤ u ∧ u < B64) (hc : 0 ≤ cc ∧ cc < B64) (h1 : lo + B64 * hi = x * u) (h2 : l1 + B64 * c1 = lo + cc) (hl : 0 ≤ l1) :
    hi + c1 ≤ 18446744073709551615 ∧ l1 + B64 * (hi + c1) = x * u + cc := by
  have h := (mul_le x u hx.1 hx.2 hu.1 hu.2).2
  generalize x * u = p at *
  unfold B64 at *
  constructor <;> omega

/-- Behind a limb: what it is, and what is carried on. -/
structure LimbN (x u y v P M Bo r P' M' Bo' : Int) : Prop where
  hr : 0 ≤ r ∧ r < B64
  hp : 0 ≤ P' ∧ P' < B64
  hm : 0 ≤ M' ∧ M' < B64
  hb : 0 ≤ Bo' ∧ Bo' ≤ 1
  eq : r + B64 * (P' - M' - Bo') = x * u - y * v + (P - M - Bo)

set_option maxRecDepth 100000 in
set_option maxHeartbeats 4000000 in
theorem limb_any (d : Nat) (x u y v P M Bo : Int) (w : World) (hx : 0 ≤ x ∧ x < B64) (hu : 0 ≤ u ∧ u < B64) (hy : 0 ≤ y ∧ y < B64) (hv : 0 ≤ v ∧ v < B64) (hP : 0 ≤ P ∧ P < B64) (hM : 0 ≤ M ∧ M < B64) (hB : 0 ≤ Bo ∧ Bo ≤ 1)
    (c0 : w.cell? ⟨d, 0, none⟩ = some (.int .u64 P)) (c1 : w.cell? ⟨d, 1, none⟩ = some (.int .u64 M)) (c2 : w.cell? ⟨d, 2, none⟩ = some (.int .u64 Bo)) (f0 : w.frozen? ⟨d, 0, none⟩ = false) (f1 : w.frozen? ⟨d, 1, none⟩ = false) (f2 : w.frozen? ⟨d, 2, none⟩ = false) :
    Calls Tryz.prog 145 #[.pointer (some ⟨d, 0, none⟩), .int .u64 x, .int .u64 u, .int .u64 y, .int .u64 v] w fun e w' => ∃ r P' M' Bo', e = .returned (.int .u64 r) ∧ LimbN x u y v P M Bo r P' M' Bo' ∧
      w' = ((w.setCell ⟨d, 0, none⟩ (.int .u64 P')).setCell ⟨d, 1, none⟩ (.int .u64 M')).setCell ⟨d, 2, none⟩ (.int .u64 Bo') := by
  have Hx := hid hx; have Hu := hid hu; have Hy := hid hy; have Hv := hid hv; have HP := hid hP; have HM := hid hM; have HB := hid hB
  clear hx hu hy hv hP hM hB
  go_enter Tryz.func145, Tryz.ntmps145
  go_wp2_with fail
  refine (mul64_ex x u Hx.out.1 Hx.out.2 Hu.out.1 Hu.out.2 _).mono ?_
  rintro e w' ⟨hi, lo, rfl, ⟨hi0, lo0, lo1, hi1, HPr⟩, rfl⟩
  obtain ⟨l1, k1, ha1, ⟨l10, l11, k10, k11⟩, hl1⟩ := add64_ex lo P 0 lo0 lo1 HP.out.1 HP.out.2 (Int.le_refl 0) (by decide)
  have hms := limb_step Hx.out Hu.out HP.out HPr.out (by simpa using hl1) l10
  have hle := hms.1
  have Hms := hid hms; have Hl1 := hid (show 0 ≤ l1 ∧ l1 < B64 from ⟨l10, l11⟩)
  clear hms hl1 lo1 l11
  go_wp2_with fail
  refine (mul64_ex y v Hy.out.1 Hy.out.2 Hv.out.1 Hv.out.2 _).mono ?_
  rintro e w' ⟨gi, go, rfl, ⟨gi0, go0, go1, gi1, GPr⟩, rfl⟩
  obtain ⟨m1, j1, hb1, ⟨m10, m11, j10, j11⟩, hm1⟩ := add64_ex go M 0 go0 go1 HM.out.1 HM.out.2 (Int.le_refl 0) (by decide)
  have hmt := limb_step Hy.out Hv.out HM.out GPr.out (by simpa using hm1) m10
  have hle2 := hmt.1
  obtain ⟨r, b2, hs2, ⟨r0, r1, b20, b21⟩, hr, _⟩ := sub64_ex l1 m1 Bo Hl1.out.1 Hl1.out.2 m10 m11 HB.out.1 HB.out.2
  have HN := hid (show LimbN x u y v P M Bo r (hi + k1) (gi + j1) b2 from ⟨⟨r0, r1⟩, ⟨by omega, by unfold B64; omega⟩, ⟨by omega, by unfold B64; omega⟩, ⟨b20, b21⟩, by
    have e1 := Hms.out.2; have e2 := hmt.2
    simp only [Int.mul_sub]
    omega⟩)
  clear hmt hm1 go1 m11 hr r1
  go_wp2
  go_ret
  exact ⟨r, _, _, _, rfl, HN.out, rfl⟩

end Go.Proofs.YtbapeilpkhbbeaaGreat
