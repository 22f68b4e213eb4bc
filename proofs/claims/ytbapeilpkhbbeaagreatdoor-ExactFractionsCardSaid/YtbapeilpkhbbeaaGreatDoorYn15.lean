/- exact.gcd: the greatest common divisor. exact.Gcd. exact.Of: the integer of a number of 64 bits, in normal form and new memory; divideBoth: two naturals divided by one that divides both; divided: the fraction of two integers. (exact.fraction).value: a fraction in lowest terms, both numbers in normal form and new memory. -/
import Derived.Test.YtbapeilpkhbbeaaGreatDoorYn14
import Derived.Test.YtbapeilpkhbbeaaGreatDoorYn09
import Derived.Test.YtbapeilpkhbbeaaGreatDoorYn08
import Derived.Test.YtbapeilpkhbbeaaGreatDoorYn10
import Derived.Test.YtbapeilpkhbbeaaGreatDoorYn11
import Derived.Deep.DeepCutAuto
import Derived.BigQuiet
import Derived.Deep.QuietTactic
/- exact.gcd: the greatest common divisor. -/
namespace Go.Proofs.YtbapeilpkhbbeaaGreatDoor
open Go.RowKit

/-- What holds ahead of a round: both numbers lie in rows of their own. -/
structure GcdL (w wr : World) (ga ca : Nat) (LA SA : List Int) (bv : Value) (x y : Int) (G K : Nat) : Prop where
  ox : OwnL wr w.heap.size ga ca LA SA x
  lx : LA.length ≤ K
  oy : OwnV wr w.heap.size bv y K
  ne : ∀ g c n, bv = .slice (some ⟨g, 0, none⟩) n c → g ≠ ga
  le : y ≤ x
  g : Int.gcd x y = G
  low : Below w.heap.size w wr
def GcdI (w wr : World) (av bv : Value) (x y : Int) (G K : Nat) : Prop := ∃ ga ca LA SA, av = .slice (some ⟨ga, 0, none⟩) LA.length ca ∧ GcdL w wr ga ca LA SA bv x y G K

/-- Which of the two is the greater. -/
def GcdS (w wx : World) (av bv : Value) (G K : Nat) : Prop := ∃ x y : Int, Nt wx av x K ∧ Nt wx bv y K ∧ y ≤ x ∧ Int.gcd x y = G ∧ Below w.heap.size w wx

theorem GcdL.next {w wr w' : World} {ga gb ca cb m : Nat} {LA SA LX SX LY SY : List Int} {bv : Value} {x y R0 R1 : Int} {G K : Nat} (H : GcdL w wr ga ca LA SA bv x y G K) (hm : m ≤ K) {wm : World} {e : Ending} (h : RetAp wm w.heap.size ga gb ca cb m x y e w' LX SX LY SY R0 R1) (hne : ga ≠ gb) (hb : Below w.heap.size wr wm) :
    GcdI w w' (.slice (some ⟨ga, 0, none⟩) LX.length ca) (.slice (some ⟨gb, 0, none⟩) LY.length cb) R0 R1 G K :=
  ⟨ga, ca, LX, SX, rfl, h.x, Nat.le_trans h.lx hm, .inl ⟨gb, cb, LY, SY, rfl, h.y, Nat.le_trans h.ly hm⟩, (by intro g c n e; simp at e; omega), (by have := h.p0; omega), (by rw [h.g]; exact H.g), (H.low.trans (hb.trans h.low))⟩

set_option maxRecDepth 100000 in
set_option maxHeartbeats 8000000 in
theorem gcd_any (va vb : Value) (a b : Int) (K : Nat) (w : World) (hA : Nt w va a K) (hB : Nt w vb b K) (hK : K ≤ 1073741823) :
    Calls Tryz.prog 73 #[va, vb] w (RetN w (Int.gcd a b : Int) K) := by
  obtain ⟨G, hG⟩ : ∃ G, Int.gcd a b = G := ⟨_, rfl⟩
  rw [hG]
  have hcp := compare_any va vb a b K K w hA hB
  obtain ⟨ao, am, ac, rfl, HA⟩ := Nt.opened hA
  obtain ⟨bo, bm, bc, rfl, HB⟩ := Nt.opened hB
  have HC := hid hcp; have HG := hid hG
  clear hA hB hcp hG
  go_enter Tryz.func73, Tryz.ntmps73
  go_upto_if 13 with (go_at_call 99; refine HC.out.mono ?_; rintro e w1 ⟨nq, rfl, rfl⟩)
  go_cut [0, 1] (fun av bv wx => GcdS w wx av bv G K)
  case first =>
    have hb := below_drewN (Below.refl w.heap.size w) nq
    by_cases hab : a < b
    · have hgs : GcdS w (w.drewN nq) (.slice bo bm bc) (.slice ao am ac) G K := ⟨b, a, HB.out _ hb, HA.out _ hb, Int.le_of_lt hab, by rw [Int.gcd_comm]; exact HG.out, hb⟩
      have HGs := hid hgs
      rw [cmpI_lt hab]
      clear hgs
      go_wp2
      go_meet
      exact HGs.out
    · have hgs : GcdS w (w.drewN nq) (.slice ao am ac) (.slice bo bm bc) G K := ⟨a, b, HA.out _ hb, HB.out _ hb, by omega, HG.out, hb⟩
      have hcv : ¬ cmpI a b < 0 := by unfold cmpI; rw [if_neg hab]; split <;> omega
      have HGs := hid hgs
      clear hgs hab
      go_wp2
      go_meet
      exact HGs.out
  case rest =>
    obtain ⟨x, y, hx, hy, hyx, hg, hlow⟩ := hcut
    obtain ⟨ao, ac, LA, rfl, hx⟩ := hx
    obtain ⟨bo, bc, LB, rfl, hy⟩ := hy
    have hcx := clone_any ao ac LA x K wc hx (by omega)
    have HCx := hid hcx
    have Hy := hid hy; have Hx := hid hx; have Hyx := hid hyx; have Hg := hid hg; have Hlow := hid hlow
    obtain ⟨n, hn⟩ : ∃ n, LA.length = n := ⟨_, rfl⟩
    obtain ⟨m, hm⟩ : ∃ m, LB.length = m := ⟨_, rfl⟩
    rw [hn] at HCx; rw [hn, hm]
    have Hn := hid hn; have Hm := hid hm
    clear hx hy hyx hg hlow hcx hn hm HA HB HC HG
    go_wp2_with fail
    refine HCx.out.mono ?_
    rintro e w1 ⟨rfl, hr1, hb1⟩
    have hcy := clone_any bo bc LB y K w1 ⟨Hy.out.rd.below hb1 (Nat.le_refl _), Hy.out.dig, Hy.out.nrm, Hy.out.eq, Hy.out.le⟩ (by omega)
    have HCy := hid hcy; have Hr1 := hid hr1; have Hb1 := hid hb1
    rw [Hm.out] at HCy
    clear hcy hr1 hb1
    go_wp2_with fail
    refine HCy.out.mono ?_
    rintro e w2 ⟨rfl, hr2, hb2⟩
    have hlow2 : Below w.heap.size w w2 := (Hlow.out.trans (Hb1.out.mono Hlow.out.size)).trans (hb2.mono (by have := Hlow.out.size; have := Hb1.out.size; omega))
    have hr1' : Row .u64 63 w2 wc.heap.size (LA ++ []) := by rw [List.append_nil]; exact Hr1.out.kept (below_grown hb2) (by simp)
    have hlt := Hr1.out.lt
    have h62 : n ≤ 9223372036854775807 ∧ m ≤ 9223372036854775807 := by have := Hx.out.le; have := Hy.out.le; have := Hn.out; have := Hm.out; omega
    have hI0 : GcdI w w2 (.slice (some ⟨wc.heap.size, 0, none⟩) n n) (.slice (some ⟨w1.heap.size, 0, none⟩) m m) x y G K :=
      ⟨wc.heap.size, n, LA, [], by rw [Hn.out], ⟨hr1', Hx.out.dig, Hx.out.nrm, Hx.out.eq, by rw [Hn.out]; exact Nat.le_refl _, h62.1, Hlow.out.size⟩, Hx.out.le,
        .inl ⟨w1.heap.size, m, LB, [], by rw [Hm.out], ⟨by rw [List.append_nil]; exact hr2, Hy.out.dig, Hy.out.nrm, Hy.out.eq, by rw [Hm.out]; exact Nat.le_refl _, h62.2, by have := Hlow.out.size; omega⟩, Hy.out.le⟩, (by intro g c n e; simp at e; omega), Hyx.out, Hg.out, hlow2⟩
    have HI0 := hid hI0
    clear hI0 hr1' hr2 hb2 hlow2 hlt h62 Hr1 Hb1 HCx HCy
    go_wp2
    go_loopw [0, 1] (fun av bv wr => ∃ x y : Int, GcdI w wr av bv x y G K) (fun _ bv wr => natOf wr bv)
    case atStart => exact ⟨x, y, HI0.out⟩
    case round =>
      obtain ⟨x, y, ga, ca, LA, SA, rfl, H⟩ := hrel
      obtain ⟨n, hn⟩ : ∃ n, LA.length = n := ⟨_, rfl⟩
      rw [hn]
      have hy := H.oy
      rcases hy with ⟨gb, cb, LB, SB, rfl, hy, hly⟩ | ⟨rfl, rfl⟩
      · obtain ⟨m, hm⟩ : ∃ m, LB.length = m := ⟨_, rfl⟩
        rw [hm]
        rcases m with _ | _ | m
        · have hy0 : y = 0 := by rw [← hy.eq, List.eq_nil_of_length_eq_zero hm]; rfl
          subst hy0
          have hres : RetN w (G : Int) K (.returned (.slice (some ⟨ga, 0, none⟩) n ca)) wr := ⟨_, rfl, by
            have hx0 := H.ox.ntl.nonneg
            have e : (G : Int) = x := by rw [← H.g]; simp [Int.gcd]; omega
            rw [e, ← hn]; exact H.ox.nt H.lx, H.low⟩
          have HRes := hid hres
          clear hres H hy hm HI0
          go_wp2
          go_ret
          exact HRes.out
        · obtain ⟨y1, rfl⟩ : ∃ y1, LB = [y1] := List.length_eq_one_iff.1 (by omega)
          have hy1 : y1 = y := by have := hy.eq; simpa [val] using this
          subst hy1
          have hcell := hy.rd.cell gb 0 rfl 0 (by simp)
          have hdg := hy.dig.head
          have hyp : y1 ≠ 0 := by have := hy.nrm.top (k := 0) (by simp); simpa using this
          simp at hcell
          have hdv := divideLimb_any _ x y1 K wr (H.ox.nt H.lx) (by omega) (by omega) hdg.2
          have hx0 := H.ox.ntl.nonneg
          have hm0 := Int.emod_nonneg x hyp
          have hm1 := Int.emod_lt_of_pos x (show 0 < y1 by omega)
          have hgg := fun w => gcdLimb_any y1 (x % y1) w hdg ⟨hm0, by have := hdg.2; omega⟩
          have hG2 : Int.gcd y1 (x % y1) = G := by rw [gcd_step hx0 (by omega)]; exact H.g
          rw [hG2] at hgg
          have hGle : (G : Int) < B64 := by
            have h1 : (G : Int) ∣ y1 := by rw [← hG2]; exact Int.gcd_dvd_left y1 (x % y1)
            have := Int.le_of_dvd (by omega) h1
            have := hdg.2; omega
          rw [hn] at hdv
          have HDv := hid hdv; have HGg := hid hgg; have HGl := hid hGle; have HLow := hid H.low
          have HCell := hid (fun (w' : World) (hb : Below wr.heap.size wr w') => (hb.cell (p := ⟨gb, 0, none⟩) (World.block_lt_of_cell? wr _ hcell)).trans hcell)
          have HK := hid hly
          clear hdv hgg hGle H hy hm hm0 hm1 hdg hx0 hG2 hly HI0
          go_wp2_with fail
          refine HDv.out.mono ?_
          rintro e w1 ⟨v1, rfl, _, hb1⟩
          have hc1 := HCell.out _ hb1
          have Hb1 := hid hb1
          clear hb1 hcell
          go_wp2_with fail
          refine (HGg.out _).mono ?_
          rintro e w2 ⟨rfl, nq, rfl⟩
          go_wp2_with fail
          refine (fromLimb_any (G : Int) _ (by omega) HGl.out).mono ?_
          rintro e w3 ⟨v3, rfl, hv3, hb3⟩
          go_wp2
          go_ret
          exact ⟨_, rfl, hv3.mono (by have := HK.out; simp at this; omega), (below_drewN (HLow.out.trans (Hb1.out.mono HLow.out.size)) nq).trans (hb3.mono (by have := HLow.out.size; have := Hb1.out.size; simp; omega))⟩
        · have hnm : m + 2 ≤ n := by
            have := len_of_le H.ox.dig hy.dig hy.nrm (by rw [H.ox.eq, hy.eq]; exact H.le)
            omega
          have hm2 : LB.length = m + 2 := by omega
          have hne : gb ≠ ga := H.ne gb cb LB.length rfl
          have hfs := foresee_any _ _ ca cb LA LB x y _ _ wr H.ox.ntl hy.ntl H.le (by omega) (by have := H.lx; omega)
          rw [hn, hm] at hfs
          have hyn := hy.ntl.nonneg
          have hyp : 0 < y := by
            have lo := hy.nrm.low B64_pos hy.dig (by omega)
            rw [hy.eq] at lo
            exact Int.lt_of_lt_of_le (Int.pow_pos B64_pos) lo
          have HF := hid hfs; have HH := hid H; have HY := hid hy; have HN := hid hn; have HM := hid hm; have HLy := hid hly; have HM2 := hid hm2; have HYp := hid hyp
          clear hfs H hy hn hm hly hm2 hyn hyp HI0
          go_wp2_with fail
          refine HF.out.mono ?_
          rintro e w1 ⟨cnt, a0, b0, a1, b1, rfl, hS, hb1⟩
          obtain ⟨W1, hW1⟩ : ∃ W1, W1 = w1.alloc (.cells #[.int .i64 cnt, .int .u64 a0, .int .u64 b0, .int .u64 a1, .int .u64 b1] 161) := ⟨_, rfl⟩
          have hbW : Below w.heap.size wr W1 := by rw [hW1]; exact (hb1.mono HH.out.low.size).alloc (by have := HH.out.low.size; have := hb1.size; omega) _
          have hbW2 : Below wr.heap.size wr W1 := by rw [hW1]; exact hb1.alloc hb1.size _
          have hoX := HH.out.ox.below hbW2 (Nat.le_refl _)
          have hoY := HY.out.below hbW2 (Nat.le_refl _)
          by_cases hc : 0 < cnt
          · have hap := apply_any w.heap.size ga gb ca cb LA SA LB SB x y cnt a0 b0 a1 b1 W1 hoX hoY (fun e => hne e.symm) (by have := HN.out; have := HM2.out; omega) hc hS
            rw [HN.out, HM.out] at hap
            rw [hW1] at hap
            have HAp := hid hap; have HbW := hid hbW; have HW1 := hid hW1
            clear hap hbW hbW2 hoX hoY hS hb1 hW1 HF
            go_wp2_with fail
            refine HAp.out.mono ?_
            rintro e w2 ⟨LX, SX, LY, SY, R0, R1, hr⟩
            obtain rfl := hr.e
            rw [← HW1.out] at hr
            have hnx := HH.out.next (show m + 1 + 1 ≤ K by have := HLy.out; have := HM2.out; omega) hr (fun e => hne e.symm) HbW.out
            have hny := hr.y.nt (K := K) (by have := hr.ly; have := HLy.out; have := HM2.out; omega)
            have hlt : R1 < y := by have := hr.p0; have := hr.pb; omega
            have HNx := hid hnx; have HNy := hid hny; have HLt := hid hlt; have HR1 := hid hr.p1
            clear hr hnx hny hlt
            go_wp2
            go_roundw
            case rel => exact ⟨R0, R1, HNx.out⟩
            case measure =>
              have hyo := HY.out.nt (K := K) HLy.out
              rw [HM.out] at hyo
              rw [natOf_eq HNy.out, natOf_eq hyo]
              have := HLt.out; have := HR1.out; omega
          · have hdv := divide_long _ _ ca cb m LA LB x y K K W1 ⟨hoX.rd, hoX.dig, hoX.nrm, hoX.eq, HH.out.lx⟩ ⟨hoY.rd, hoY.dig, hoY.nrm, hoY.eq, HLy.out⟩ HM2.out HH.out.le hK
            rw [HN.out, HM.out] at hdv
            have hsz : gb < W1.heap.size := hoY.row.lt
            rw [hW1] at hdv
            have HDv := hid hdv; have HbW := hid hbW; have HW1 := hid hW1; have HoY := hid hoY; have Hsz := hid hsz
            clear hdv hbW hbW2 hoX hoY hS hb1 hW1 HF hsz
            go_wp2_with fail
            refine HDv.out.mono ?_
            rintro e w2 ⟨v1, v2, rfl, _, hv2, hb2⟩
            rw [← HW1.out] at hv2 hb2
            have hlow2 : Below w.heap.size wr w2 := HbW.out.trans (hb2.mono (by have := HbW.out.size; have := HH.out.low.size; omega))
            have hoY2 := HoY.out.below hb2 (Nat.le_refl _)
            have hm0 := Int.emod_nonneg x (show y ≠ 0 by have := HYp.out; omega)
            have hm1 := Int.emod_lt_of_pos x HYp.out
            have hnx : GcdI w w2 (.slice (some ⟨gb, 0, none⟩) (m + 1 + 1) cb) v2 y (x % y) G K := by
              refine ⟨gb, cb, LB, SB, by rw [HM.out], hoY2, HLy.out, hv2.base_le (by have := HbW.out.size; have := HH.out.low.size; omega), ?_, by omega, ?_, HH.out.low.trans hlow2⟩
              · intro g c n e
                rcases hv2 with ⟨g', c', L', S', rfl, h, _⟩ | ⟨rfl, _⟩
                · simp at e
                  have := h.base; have := Hsz.out; omega
                · simp at e
              · rw [gcd_step HH.out.ox.ntl.nonneg HYp.out]; exact HH.out.g
            have HNx := hid hnx; have HNy := hid hv2.nt; have HLt := hid hm1; have HR1 := hid hm0
            clear hnx hv2 hm0 hm1 hb2 hlow2 hoY2
            go_wp2
            go_roundw
            case rel => exact ⟨y, x % y, HNx.out⟩
            case measure =>
              have hyo := HY.out.nt (K := K) HLy.out
              rw [HM.out] at hyo
              rw [natOf_eq HNy.out, natOf_eq hyo]
              have := HLt.out; have := HR1.out; omega
      · have hres : RetN w (G : Int) K (.returned (.slice (some ⟨ga, 0, none⟩) n ca)) wr := ⟨_, rfl, by
          have hx0 := H.ox.ntl.nonneg
          have e : (G : Int) = x := by rw [← H.g]; simp [Int.gcd]; omega
          rw [e, ← hn]; exact H.ox.nt H.lx, H.low⟩
        have HRes := hid hres
        clear hres H HI0
        go_wp2
        go_ret
        exact HRes.out

end Go.Proofs.YtbapeilpkhbbeaaGreatDoor

/- exact.Gcd. -/
namespace Go.Proofs.YtbapeilpkhbbeaaGreatDoor
open Go.RowKit

end Go.Proofs.YtbapeilpkhbbeaaGreatDoor

/- exact.Of: the integer of a number of 64 bits, in normal form and new memory; divideBoth: two naturals divided by one that divides both; divided: the fraction of two integers. -/
namespace Go.Proofs.YtbapeilpkhbbeaaGreatDoor
open Go.RowKit

set_option maxRecDepth 100000 in
set_option maxHeartbeats 1000000 in
theorem divideBoth_any (va vb vc : Value) (a b c : Int) (K : Nat) (w : World) (hA : Nt w va a K) (hB : Nt w vb b K) (hC : Nt w vc c K) (hc : 0 < c) (hK : K ≤ 1073741823) :
    Calls Tryz.prog 72 #[va, vb, vc] w (RetQR w (a / c) (b / c) K K) := by
  have h1 := isOne_any vc c K w hC
  by_cases h : c = 1
  · subst h
    rw [Int.ediv_one, Int.ediv_one]
    rw [decide_eq_true rfl] at h1
    have H1 := hid h1; have HA := hid hA; have HB := hid hB
    clear h1 hA hB hC
    go_enter Tryz.func72, Tryz.ntmps72
    go_wp2_with fail
    refine H1.out.mono ?_
    rintro e w0 ⟨rfl, h0⟩
    obtain rfl : w = w0 := h0.symm
    go_wp2
    go_ret2
    exact ⟨_, _, rfl, HA.out, HB.out, Below.refl _ _⟩
  · rw [decide_eq_false h] at h1
    have H1 := hid h1; have HA := hid hA; have HB := hid hB; have HC := hid hC
    clear h1 hA hB hC
    go_enter Tryz.func72, Tryz.ntmps72
    go_wp2_with fail
    refine H1.out.mono ?_
    rintro e w0 ⟨rfl, h0⟩
    obtain rfl : w = w0 := h0.symm
    go_wp2_with fail
    refine (divide_any _ _ a c K K w HA.out HC.out hc hK).mono ?_
    rintro e w1 ⟨v1, r1, rfl, hq1, _, hb1⟩
    go_wp2_with fail
    refine (divide_any _ _ b c K K w1 (HB.out.below hb1 (Nat.le_refl _)) (HC.out.below hb1 (Nat.le_refl _)) hc hK).mono ?_
    rintro e w2 ⟨v2, r2, rfl, hq2, _, hb2⟩
    go_wp2
    go_ret2
    exact ⟨_, _, rfl, hq1.below hb2 (Nat.le_refl _), hq2, hb1.trans (hb2.mono hb1.size)⟩
end Go.Proofs.YtbapeilpkhbbeaaGreatDoor

/- (exact.fraction).value: a fraction in lowest terms, both numbers in normal form and new memory. -/
namespace Go.Proofs.YtbapeilpkhbbeaaGreatDoor
open Go.RowKit

/-- A fraction inside: a signed number over a natural. -/
def Ft (w : World) (v : Value) (z d : Int) (K : Nat) : Prop := ∃ s1 s2, v = .agg #[.bool (decide (z < 0)), s1, s2] ∧ Nt w s1 (z.natAbs : Int) K ∧ Nt w s2 d K
/-- A ratio whose two numbers are new memory. -/
def FrR (w0 w : World) (v : Value) (x y : Int) (K : Nat) : Prop := ∃ b1 s1 b2 s2, v = .agg #[b1, s1, b2, s2] ∧ FrA w0 w (.agg #[b1, s1]) x K ∧ FrA w0 w (.agg #[b2, s2]) y K
def RetR (w : World) (x y : Int) (K : Nat) (e : Ending) (w' : World) : Prop := ∃ v, e = .returned v ∧ FrR w w' v x y K ∧ Below w.heap.size w w'
/-- The numbers of a fraction in lowest terms. -/
def lowN (z d : Int) : Int := sgn (decide (z < 0)) ((z.natAbs : Int) / (Int.gcd (z.natAbs : Int) d : Int))
def lowD (z d : Int) : Int := d / (Int.gcd (z.natAbs : Int) d : Int)

theorem Ft.below {w w' : World} {v : Value} {z d : Int} {K B : Nat} (h : Ft w v z d K) (hb : Below B w w') (hB : w.heap.size ≤ B) : Ft w' v z d K := by
  obtain ⟨s1, s2, rfl, h1, h2⟩ := h
  exact ⟨s1, s2, rfl, h1.below hb hB, h2.below hb hB⟩

theorem FrW.below {w1 w w' : World} {v : Value} {n : Int} {K B : Nat} (h : FrW w1 w v n K) (hb : Below B w w') (hB : w.heap.size ≤ B) : FrW w1 w' v n K := by
  obtain ⟨L, h, r⟩ := h
  refine ⟨L, ⟨h.1, ?_⟩, r⟩
  rcases h.2 with h2 | ⟨g, cap, cur, hv, hg, hh, rest⟩
  · exact .inl h2
  · have hl : g < B := Nat.lt_of_lt_of_le (Array.getElem?_eq_some_iff.1 hh).1 hB
    exact .inr ⟨g, cap, cur, hv, hg, (hb.block g hl).trans hh, rest⟩

set_option maxRecDepth 100000 in
set_option maxHeartbeats 2000000 in
theorem fracValue_any (v : Value) (z d : Int) (K : Nat) (w : World) (hv : Ft w v z d K) (hd : 0 < d) (hK : K ≤ 1073741823) :
    Calls Tryz.prog 33 #[v] w (RetR w (lowN z d) (lowD z d) (2 * K)) := by
  obtain ⟨_, _, rfl, hA, hB⟩ := hv
  obtain ⟨no, nm, nc, rfl, HA⟩ := Nt.opened hA
  obtain ⟨o, m, c, rfl, HB⟩ := Nt.opened hB
  obtain ⟨sb, hsb⟩ : ∃ sb, sb = decide (z < 0) := ⟨_, rfl⟩
  rw [← hsb]
  have Hsb := hid hsb
  clear hA hB hsb
  obtain ⟨W0, hW0⟩ : ∃ W0, W0 = ((w.alloc (.cells #[.bool sb, .slice no nm nc, .slice o m c] 58)).alloc (.cells #[.bool false, .slice none 0 0, .bool false, .slice none 0 0] 26)) := ⟨_, rfl⟩
  have hB0 : Below w.heap.size w W0 := by rw [hW0]; exact ((Below.refl _ _).alloc (Nat.le_refl _) _).alloc (by simp) _
  have hz0 : W0.heap.size = w.heap.size + 2 := by rw [hW0]; simp
  have HS : Hid (∀ w', Below W0.heap.size W0 w' → w'.cell? ⟨w.heap.size, 0, none⟩ = some (.bool sb) ∧ w'.cell? ⟨w.heap.size, 1, none⟩ = some (.slice no nm nc) ∧ w'.cell? ⟨w.heap.size, 2, none⟩ = some (.slice o m c)) := hid (fun w' hb => by
    refine ⟨?_, ?_, ?_⟩ <;> (rw [hb.cell (by rw [hz0]; simp <;> omega), hW0]; simp [go_sem]))
  have HT : Hid (∀ w', Below W0.heap.size W0 w' → (w'.cell? ⟨w.heap.size + 1, 0, none⟩ = some (.bool false) ∧ w'.cell? ⟨w.heap.size + 1, 1, none⟩ = some (.slice none 0 0) ∧ w'.cell? ⟨w.heap.size + 1, 2, none⟩ = some (.bool false) ∧ w'.cell? ⟨w.heap.size + 1, 3, none⟩ = some (.slice none 0 0)) ∧ (w'.frozen? ⟨w.heap.size + 1, 0, none⟩ = false ∧ w'.frozen? ⟨w.heap.size + 1, 1, none⟩ = false ∧ w'.frozen? ⟨w.heap.size + 1, 2, none⟩ = false ∧ w'.frozen? ⟨w.heap.size + 1, 3, none⟩ = false)) := hid (fun w' hb => by
    refine ⟨⟨?_, ?_, ?_, ?_⟩, ?_, ?_, ?_, ?_⟩ <;> (first | (rw [hb.cell (by rw [hz0]; simp), hW0]; simp [go_sem]; done) | (rw [hb.frozen (by rw [hz0]; simp), hW0]; simp [go_sem]; done)))
  have HB0 := hid hB0; have Hz0 := hid hz0; have HW := hid hW0
  clear hB0 hz0 hW0
  by_cases h1 : d = 1
  · have HO := hid (fun (w' : World) (hb : Below w.heap.size w w') => by have h := isOne_any _ d K w' (HB.out w' hb); rw [decide_eq_true h1] at h; exact h)
    have HE : Hid (lowN z d = sgn sb (z.natAbs : Int) ∧ lowD z d = d) := hid (by subst h1; rw [Hsb.out]; unfold lowN lowD; simp)
    clear h1
    go_enter Tryz.func33, Tryz.ntmps33
    go_upto_region 1 with (fail)
    rw [← HW.out]
    obtain ⟨k0, k1, k2⟩ := HS.out _ (Below.refl _ _)
    go_wp2_with fail
    go_quiet (fail)
    have hq : Below W0.heap.size W0 (W0.drewN nq) := below_drewN (Below.refl _ _) nq
    have hqw := HB0.out.trans (hq.mono (by have := Hz0.out; omega))
    clear k0 k1 k2
    obtain ⟨k0, k1, k2⟩ := HS.out _ hq
    go_wp2_with fail
    refine (HO.out _ hqw).mono ?_
    rintro e w1 ⟨rfl, h1⟩
    obtain rfl : W0.drewN nq = w1 := h1.symm
    have hX := hq
    go_wp2_with fail
    refine (signed_any sb _ (z.natAbs : Int) K _ (HA.out _ hqw)).mono ?_
    rintro e w2 ⟨_, rfl, hv2, hb2⟩
    obtain ⟨b2, o2, m2, c2, rfl, H2, _, _⟩ := It.opened hv2
    have hB2 : Below W0.heap.size W0 w2 := hX.trans (hb2.mono hX.size)
    go_wp2_with fail
    refine (value_any _ _ _ _ (H2.out _ (Below.refl _ _)) (by omega)).mono ?_
    rintro e w3 ⟨_, rfl, ⟨_, rfl, hv3⟩, hb3⟩
    obtain ⟨o3, m3, c3, rfl, H3⟩ := FrW.opened hv3
    obtain ⟨zb, hzb⟩ : ∃ zb, zb = decide (sgn sb (z.natAbs : Int) < 0) := ⟨_, rfl⟩
    rw [← hzb]
    have HZ := hid hzb
    clear hzb hv3 hv2
    have hB3 : Below W0.heap.size W0 w3 := hB2.trans (hb3.mono hB2.size)
    go_wp2_with fail
    refine (signed_any false _ d K _ (HB.out _ (HB0.out.trans (hB3.mono (by have := Hz0.out; omega))))).mono ?_
    rintro e w4 ⟨_, rfl, hv4, hb4⟩
    obtain ⟨b4, o4, m4, c4, rfl, H4, _, _⟩ := It.opened hv4
    have hB4 : Below W0.heap.size W0 w4 := hB3.trans (hb4.mono hB3.size)
    go_wp2_with fail
    refine (value_any _ _ _ _ (H4.out _ (Below.refl _ _)) (by omega)).mono ?_
    rintro e w5 ⟨_, rfl, ⟨_, rfl, hv5⟩, hb5⟩
    obtain ⟨o5, m5, c5, rfl, H5⟩ := FrW.opened hv5
    obtain ⟨yb, hyb⟩ : ∃ yb, yb = decide (sgn false d < 0) := ⟨_, rfl⟩
    rw [← hyb]
    have HY := hid hyb
    clear hyb hv5 hv4
    have hB5 : Below W0.heap.size W0 w5 := hB4.trans (hb5.mono hB4.size)
    obtain ⟨⟨hr0, hr1, hr2, hr3⟩, hf0, hf1, hf2, hf3⟩ := HT.out _ hB5
    go_wp2
    have hw0 := Hz0.out
    have hbel : Below w.heap.size w w5 := HB0.out.trans (hB5.mono (by omega))
    have h35 := FrW.below H3.out (hb4.trans (hb5.mono hb4.size)) (Nat.le_refl _)
    refine bodyPost_ret (v := .agg #[.bool zb, .slice o3 m3 c3, .bool yb, .slice o5 m5 c5]) (by simp [results, Tryz.results33, go_sem, hr0, hr1, hr2, hr3]) rfl ⟨_, rfl, ?_, (((hbel.setCell (by simp) _).setCell (by simp) _).setCell (by simp) _).setCell (by simp) _⟩
    rw [HE.out.1, HE.out.2, HZ.out, HY.out]
    have hs3 := hB3.size; have hs4 := hB4.size; have hs2 := hB2.size
    exact ⟨_, _, _, _, rfl, ⟨_, rfl, ((((h35.set (by simp; omega) _).set (by simp; omega) _).set (by simp; omega) _).set (by simp; omega) _).base (by omega)⟩, ⟨_, rfl, by rw [← (show sgn false d = d by simp [sgn])]; exact ((((H5.out.set (by simp; omega) _).set (by simp; omega) _).set (by simp; omega) _).set (by simp; omega) _).base (by omega)⟩⟩
  · have HO := hid (fun (w' : World) (hb : Below w.heap.size w w') => by have h := isOne_any _ d K w' (HB.out w' hb); rw [decide_eq_false h1] at h; exact h)
    obtain ⟨g, hg⟩ : ∃ g : Int, g = (Int.gcd (z.natAbs : Int) d : Int) := ⟨_, rfl⟩
    have hg0 : 0 < g := by rw [hg]; have := Int.gcd_pos_of_ne_zero_right (z.natAbs : Int) (show d ≠ 0 by omega); omega
    obtain ⟨qn, hqn⟩ : ∃ qn, qn = (z.natAbs : Int) / g := ⟨_, rfl⟩
    obtain ⟨qd, hqd⟩ : ∃ qd, qd = d / g := ⟨_, rfl⟩
    have HE : Hid (lowN z d = sgn sb qn ∧ lowD z d = qd) := hid (by rw [Hsb.out, hqn, hqd, hg]; exact ⟨rfl, rfl⟩)
    have HG := hid hg; have HQN := hid hqn; have HQD := hid hqd
    clear h1 hg hqn hqd
    go_enter Tryz.func33, Tryz.ntmps33
    go_upto_region 1 with (fail)
    rw [← HW.out]
    obtain ⟨k0, k1, k2⟩ := HS.out _ (Below.refl _ _)
    go_wp2_with fail
    go_quiet (fail)
    have hq : Below W0.heap.size W0 (W0.drewN nq) := below_drewN (Below.refl _ _) nq
    have hqw := HB0.out.trans (hq.mono (by have := Hz0.out; omega))
    clear k0 k1 k2
    go_wp2_with fail
    refine (HO.out _ hqw).mono ?_
    rintro e w1 ⟨rfl, h1⟩
    obtain rfl : W0.drewN nq = w1 := h1.symm
    go_wp2_with fail
    refine (gcd_any _ _ _ _ K _ (HA.out _ hqw) (HB.out _ hqw) hK).mono ?_
    rintro e wg ⟨vg, rfl, hvg, hbg⟩
    rw [← HG.out] at hvg
    have hqg := hqw.trans (hbg.mono hqw.size)
    go_wp2_with fail
    refine (divideBoth_any _ _ vg _ _ g K _ (HA.out _ hqg) (HB.out _ hqg) hvg hg0 hK).mono ?_
    rintro e wd ⟨_, _, rfl, hqn1, hqd1, hbd⟩
    rw [← HQN.out] at hqn1
    rw [← HQD.out] at hqd1
    obtain ⟨no1, nm1, nc1, rfl, HQ1⟩ := Nt.opened hqn1
    obtain ⟨do1, dm1, dc1, rfl, HQ2⟩ := Nt.opened hqd1
    have hX : Below W0.heap.size W0 wd := hq.trans ((hbg.mono hq.size).trans (hbd.mono (by have := hbg.size; have := hq.size; omega)))
    obtain ⟨k0, k1, k2⟩ := HS.out _ hX
    clear hqn1 hqd1 hvg hbg hbd hqg hqw hq
    go_wp2_with fail
    refine (signed_any sb _ qn K _ (HQ1.out _ (Below.refl _ _))).mono ?_
    rintro e w2 ⟨_, rfl, hv2, hb2⟩
    obtain ⟨b2, o2, m2, c2, rfl, H2, _, _⟩ := It.opened hv2
    have hB2 : Below W0.heap.size W0 w2 := hX.trans (hb2.mono hX.size)
    go_wp2_with fail
    refine (value_any _ _ _ _ (H2.out _ (Below.refl _ _)) (by omega)).mono ?_
    rintro e w3 ⟨_, rfl, ⟨_, rfl, hv3⟩, hb3⟩
    obtain ⟨o3, m3, c3, rfl, H3⟩ := FrW.opened hv3
    obtain ⟨zb, hzb⟩ : ∃ zb, zb = decide (sgn sb qn < 0) := ⟨_, rfl⟩
    rw [← hzb]
    have HZ := hid hzb
    clear hzb hv3 hv2
    have hB3 : Below W0.heap.size W0 w3 := hB2.trans (hb3.mono hB2.size)
    go_wp2_with fail
    refine (signed_any false _ qd K _ (HQ2.out _ (hb2.trans (hb3.mono hb2.size)))).mono ?_
    rintro e w4 ⟨_, rfl, hv4, hb4⟩
    obtain ⟨b4, o4, m4, c4, rfl, H4, _, _⟩ := It.opened hv4
    have hB4 : Below W0.heap.size W0 w4 := hB3.trans (hb4.mono hB3.size)
    go_wp2_with fail
    refine (value_any _ _ _ _ (H4.out _ (Below.refl _ _)) (by omega)).mono ?_
    rintro e w5 ⟨_, rfl, ⟨_, rfl, hv5⟩, hb5⟩
    obtain ⟨o5, m5, c5, rfl, H5⟩ := FrW.opened hv5
    obtain ⟨yb, hyb⟩ : ∃ yb, yb = decide (sgn false qd < 0) := ⟨_, rfl⟩
    rw [← hyb]
    have HY := hid hyb
    clear hyb hv5 hv4
    have hB5 : Below W0.heap.size W0 w5 := hB4.trans (hb5.mono hB4.size)
    obtain ⟨⟨hr0, hr1, hr2, hr3⟩, hf0, hf1, hf2, hf3⟩ := HT.out _ hB5
    go_wp2
    have hw0 := Hz0.out
    have hbel : Below w.heap.size w w5 := HB0.out.trans (hB5.mono (by omega))
    have h35 := FrW.below H3.out (hb4.trans (hb5.mono hb4.size)) (Nat.le_refl _)
    refine bodyPost_ret (v := .agg #[.bool zb, .slice o3 m3 c3, .bool yb, .slice o5 m5 c5]) (by simp [results, Tryz.results33, go_sem, hr0, hr1, hr2, hr3]) rfl ⟨_, rfl, ?_, (((hbel.setCell (by simp) _).setCell (by simp) _).setCell (by simp) _).setCell (by simp) _⟩
    rw [HE.out.1, HE.out.2, HZ.out, HY.out]
    have hs3 := hB3.size; have hs4 := hB4.size; have hs2 := hB2.size
    exact ⟨_, _, _, _, rfl, ⟨_, rfl, ((((h35.set (by simp; omega) _).set (by simp; omega) _).set (by simp; omega) _).set (by simp; omega) _).base (by omega)⟩, ⟨_, rfl, by rw [← (show sgn false qd = qd by simp [sgn])]; exact ((((H5.out.set (by simp; omega) _).set (by simp; omega) _).set (by simp; omega) _).set (by simp; omega) _).base (by omega)⟩⟩
end Go.Proofs.YtbapeilpkhbbeaaGreatDoor
