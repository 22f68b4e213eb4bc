/- exact.add, exact.subtract, exact.clone. exact.integer: signed, read, value, negated. exact.integer: value, negated, plus; exact.Normal, Neg, Add, Sub. Written by gen_int2.py. exact.Sign, exact.Cmp. The document's own integers: made, Sign, Neg. -/
import Derived.Test.YtbmdjimfncgomaaSa01
import Derived.Test.YtbmdjimfncgomaaSa02
import Derived.Deep.RegionHeld3
/- exact.add, exact.subtract, exact.clone. -/
namespace Go.Proofs.Ytbmdjimfncgomaa
open Go.RowKit

set_option maxRecDepth 100000 in
set_option maxHeartbeats 1000000 in
theorem add_ge (ao bo : Option Addr) (ca cb : Nat) (LA LB : List Int) (a b : Int) (Ka Kb : Nat) (w : World) (hA : NtL w ao ca LA a Ka) (hB : NtL w bo cb LB b Kb) (hk : Ka ≤ 1073741824) (hle : LB.length ≤ LA.length) :
    Calls Try.prog 81 #[.slice ao LA.length ca, .slice bo LB.length cb] w (RetN w (a + b) (Ka + 1)) := by
  obtain ⟨n, hn⟩ : ∃ n, n = LA.length := ⟨_, rfl⟩
  obtain ⟨m, hm⟩ : ∃ m, m = LB.length := ⟨_, rfl⟩
  have hn30 : n ≤ 1073741824 := by have := hA.le; omega
  have hmn : m ≤ n := by omega
  rw [← hn, ← hm]
  have HA := hid hA; have HB := hid hB; have Hn := hid hn; have Hm := hid hm
  clear hA hB hn hm hle
  obtain ⟨i0, hi, hz0, hz1, hz2⟩ := info_parts Try.info105
  go_enter Try.func81, Try.ntmps81
  go_wp2_with (at_make; refine wpList_make_row w rfl _ _ 77 rfl 105 i0 .u64 Try.underlying77 hi hz0 hz1 .i64 .i64 _ _ (n + 1) rfl rfl (by omega) (by omega) (by rw [hz2]; omega) (by unfold maxLen; omega) ?_)
  intro w1 hrow hg1
  have hg1b := grown_below hg1
  have HRA := hid ((HA.out.rd).below hg1b (Nat.le_refl _))
  go_wp2_with ((with_reducible refine wpList_copy_row rfl _ _ _ _ rfl 105 Try.underlying77 Try.size105 .u64 105 w.heap.size [] (List.replicate (n + 1) 0) [] LA 0 (n + 1) n (n + 1) ao ca rfl rfl rfl (by simp) Hn.out (by simpa using hrow) HRA.out (by have := Hn.out; simp; omega) ?_))
  intro w2 hrow2 hg2
  have HG := hid (HB.out.rd.ne (Nat.le_refl w.heap.size))
  have HRB := hid ((HB.out.rd.below hg1b (Nat.le_refl _)).keptNew hg2 HG.out)
  have hrow2' : Row .u64 105 w2 w.heap.size ([] ++ (LA ++ [0]) ++ []) := by
    have e : n + 1 - LA.length = 1 := by have := Hn.out; omega
    rw [e] at hrow2; simpa using hrow2
  have Hrow2 := hid hrow2'; have Hb := hid hg1b; have Hg2 := hid hg2
  clear hrow2 hrow2' hrow hg1 hg1b hg2
  have hdd : Dig B64 (LA ++ [0]) := HA.out.dig.append (Dig.cons (Int.le_refl 0) (by decide) (Dig.nil _))
  have hc := addTo_any w.heap.size [] (LA ++ [0]) [] LB (n + 1) cb bo w2 Hrow2.out hdd HB.out.dig (by have := Hn.out; simp; omega) (by omega) HRB.out (by have := Hn.out; have := Hm.out; simp; omega) HG.out
  rw [show ([] : List Int).length = 0 from rfl, show (LA ++ [(0 : Int)]).length = n + 1 from by rw [Hn.out]; simp, ← Hm.out] at hc
  have Hc := hid hc; clear hc hdd
  go_wp2_with (go_at_call 101; refine Hc.out.mono ?_; rintro e w3 ⟨A1, cc, rfl, HI⟩)
  rw [show n + 1 = (LA ++ [(0 : Int)]).length from by rw [Hn.out]; simp] at HI
  obtain ⟨hrow3, hd3, hv3, hl3⟩ := add_done HA.out.dig HB.out.dig (by have := Hn.out; have := Hm.out; omega) HI
  have hg3 := HI.gr
  have ht := trim64_any (some ⟨w.heap.size, 0, none⟩) (n + 1) A1 w3 (row_rd hrow3 (by have := Hn.out; omega) (by omega))
  rw [hl3, ← Hn.out] at ht
  have HT := hid ht
  have hres : Nt w3 (.slice (some ⟨w.heap.size, 0, none⟩) (trimL A1).length (n + 1)) (a + b) (Ka + 1) :=
    nt_row hrow3 hd3 (by rw [hv3, HA.out.eq, HB.out.eq]) (by have := Hn.out; omega) (by omega) (by have := HA.out.le; omega)
  have hbel : Below w.heap.size w w3 := (Hb.out.grown Hg2.out Hb.out.size (fun k e => by cases e; exact Nat.le_refl _)).grown hg3 (by have := Hb.out.size; have := Hg2.out.size; omega) (fun k e => by cases e; exact Nat.le_refl _)
  have Hres := hid hres; have Hbel := hid hbel
  clear ht hres hbel hrow3 hd3 hv3 hl3 hg3 HI
  refine HT.out.mono ?_
  rintro e w4 ⟨rfl, rfl⟩
  go_wp2
  go_ret
  exact ⟨_, rfl, Hres.out, Hbel.out⟩

set_option maxRecDepth 100000 in
set_option maxHeartbeats 1000000 in
theorem add_lt (ao bo : Option Addr) (ca cb : Nat) (LA LB : List Int) (a b : Int) (Ka Kb : Nat) (w : World) (hA : NtL w ao ca LA a Ka) (hB : NtL w bo cb LB b Kb) (hk : Ka ≤ 1073741824) (hle : LB.length < LA.length) :
    Calls Try.prog 81 #[.slice bo LB.length cb, .slice ao LA.length ca] w (RetN w (a + b) (Ka + 1)) := by
  obtain ⟨n, hn⟩ : ∃ n, n = LA.length := ⟨_, rfl⟩
  obtain ⟨m, hm⟩ : ∃ m, m = LB.length := ⟨_, rfl⟩
  have hn30 : n ≤ 1073741824 := by have := hA.le; omega
  have hmn : m < n := by omega
  rw [← hn, ← hm]
  have HA := hid hA; have HB := hid hB; have Hn := hid hn; have Hm := hid hm
  clear hA hB hn hm hle
  obtain ⟨i0, hi, hz0, hz1, hz2⟩ := info_parts Try.info105
  have hmn' : m ≤ n := by omega
  go_enter Try.func81, Try.ntmps81
  go_wp2_with (at_make; refine wpList_make_row w rfl _ _ 77 rfl 105 i0 .u64 Try.underlying77 hi hz0 hz1 .i64 .i64 _ _ (n + 1) rfl rfl (by omega) (by omega) (by rw [hz2]; omega) (by unfold maxLen; omega) ?_)
  intro w1 hrow hg1
  have hg1b := grown_below hg1
  have HRA := hid ((HA.out.rd).below hg1b (Nat.le_refl _))
  go_wp2_with ((with_reducible refine wpList_copy_row rfl _ _ _ _ rfl 105 Try.underlying77 Try.size105 .u64 105 w.heap.size [] (List.replicate (n + 1) 0) [] LA 0 (n + 1) n (n + 1) ao ca rfl rfl rfl (by simp) Hn.out (by simpa using hrow) HRA.out (by have := Hn.out; simp; omega) ?_))
  intro w2 hrow2 hg2
  have HG := hid (HB.out.rd.ne (Nat.le_refl w.heap.size))
  have HRB := hid ((HB.out.rd.below hg1b (Nat.le_refl _)).keptNew hg2 HG.out)
  have hrow2' : Row .u64 105 w2 w.heap.size ([] ++ (LA ++ [0]) ++ []) := by
    have e : n + 1 - LA.length = 1 := by have := Hn.out; omega
    rw [e] at hrow2; simpa using hrow2
  have Hrow2 := hid hrow2'; have Hb := hid hg1b; have Hg2 := hid hg2
  clear hrow2 hrow2' hrow hg1 hg1b hg2
  have hdd : Dig B64 (LA ++ [0]) := HA.out.dig.append (Dig.cons (Int.le_refl 0) (by decide) (Dig.nil _))
  have hc := addTo_any w.heap.size [] (LA ++ [0]) [] LB (n + 1) cb bo w2 Hrow2.out hdd HB.out.dig (by have := Hn.out; simp; omega) (by omega) HRB.out (by have := Hn.out; have := Hm.out; simp; omega) HG.out
  rw [show ([] : List Int).length = 0 from rfl, show (LA ++ [(0 : Int)]).length = n + 1 from by rw [Hn.out]; simp, ← Hm.out] at hc
  have Hc := hid hc; clear hc hdd
  go_wp2_with (go_at_call 101; refine Hc.out.mono ?_; rintro e w3 ⟨A1, cc, rfl, HI⟩)
  rw [show n + 1 = (LA ++ [(0 : Int)]).length from by rw [Hn.out]; simp] at HI
  obtain ⟨hrow3, hd3, hv3, hl3⟩ := add_done HA.out.dig HB.out.dig (by have := Hn.out; have := Hm.out; omega) HI
  have hg3 := HI.gr
  have ht := trim64_any (some ⟨w.heap.size, 0, none⟩) (n + 1) A1 w3 (row_rd hrow3 (by have := Hn.out; omega) (by omega))
  rw [hl3, ← Hn.out] at ht
  have HT := hid ht
  have hres : Nt w3 (.slice (some ⟨w.heap.size, 0, none⟩) (trimL A1).length (n + 1)) (a + b) (Ka + 1) :=
    nt_row hrow3 hd3 (by rw [hv3, HA.out.eq, HB.out.eq]) (by have := Hn.out; omega) (by omega) (by have := HA.out.le; omega)
  have hbel : Below w.heap.size w w3 := (Hb.out.grown Hg2.out Hb.out.size (fun k e => by cases e; exact Nat.le_refl _)).grown hg3 (by have := Hb.out.size; have := Hg2.out.size; omega) (fun k e => by cases e; exact Nat.le_refl _)
  have Hres := hid hres; have Hbel := hid hbel
  clear ht hres hbel hrow3 hd3 hv3 hl3 hg3 HI
  refine HT.out.mono ?_
  rintro e w4 ⟨rfl, rfl⟩
  go_wp2
  go_ret
  exact ⟨_, rfl, Hres.out, Hbel.out⟩

theorem add_any (va vb : Value) (a b : Int) (Ka Kb K : Nat) (w : World) (hA : Nt w va a Ka) (hB : Nt w vb b Kb) (h1 : Ka ≤ 1073741824) (h2 : Kb ≤ 1073741824) (hK : Ka < K) (hK' : Kb < K) :
    Calls Try.prog 81 #[va, vb] w (RetN w (a + b) K) := by
  obtain ⟨ao, ca, LA, rfl, hA⟩ := hA
  obtain ⟨bo, cb, LB, rfl, hB⟩ := hB
  by_cases h : LB.length ≤ LA.length
  · refine (add_ge ao bo ca cb LA LB a b Ka Kb w hA hB h1 h).mono ?_
    rintro e w' ⟨v, rfl, hv, hb⟩
    exact ⟨v, rfl, hv.mono hK, hb⟩
  · refine (add_lt bo ao cb ca LB LA b a Kb Ka w hB hA h2 (by omega)).mono ?_
    rintro e w' ⟨v, rfl, hv, hb⟩
    exact ⟨v, rfl, by rw [Int.add_comm]; exact hv.mono hK', hb⟩

theorem sub_done {w wr : World} {g : Nat} {LA LB A1 : List Int} {cc : Int} (hle : val B64 LB ≤ val B64 LA)
    (h : SubI w wr g [] LA [] LA.length (val B64 LB) A1 cc) : Row .u64 105 wr g A1 ∧ Dig B64 A1 ∧ val B64 A1 = val B64 LA - val B64 LB ∧ A1.length = LA.length := by
  have e := h.eq
  have h1 := val_lt B64_pos h.dig
  rw [h.len] at h1
  have hcc : cc = 0 := by
    rcases (show cc = 0 ∨ cc = 1 by have := h.c0; have := h.c1; omega) with h | h
    · exact h
    · subst h; omega
  subst hcc
  exact ⟨by simpa using h.row, h.dig, by simpa using e, h.len⟩

set_option maxRecDepth 100000 in
set_option maxHeartbeats 1000000 in
theorem subtract_le (ao bo : Option Addr) (ca cb : Nat) (LA LB : List Int) (a b : Int) (Ka Kb : Nat) (w : World) (hA : NtL w ao ca LA a Ka) (hB : NtL w bo cb LB b Kb) (hk : Ka ≤ 1073741824) (hle : LB.length ≤ LA.length) (hba : b ≤ a) :
    Calls Try.prog 82 #[.slice ao LA.length ca, .slice bo LB.length cb] w (RetN w (a - b) Ka) := by
  obtain ⟨n, hn⟩ : ∃ n, n = LA.length := ⟨_, rfl⟩
  obtain ⟨m, hm⟩ : ∃ m, m = LB.length := ⟨_, rfl⟩
  have hn30 : n ≤ 1073741824 := by have := hA.le; omega
  have hmn : m ≤ n := by omega
  rw [← hn, ← hm]
  have HA := hid hA; have HB := hid hB; have Hn := hid hn; have Hm := hid hm
  clear hA hB hn hm hle
  obtain ⟨i0, hi, hz0, hz1, hz2⟩ := info_parts Try.info105
  go_enter Try.func82, Try.ntmps82
  go_wp2_with (at_make; refine wpList_make_row w rfl _ _ 77 rfl 105 i0 .u64 Try.underlying77 hi hz0 hz1 .i64 .i64 _ _ n rfl rfl (by omega) (by omega) (by rw [hz2]; omega) (by unfold maxLen; omega) ?_)
  intro w1 hrow hg1
  have hg1b := grown_below hg1
  have HRA := hid ((HA.out.rd).below hg1b (Nat.le_refl _))
  go_wp2_with ((with_reducible refine wpList_copy_row rfl _ _ _ _ rfl 105 Try.underlying77 Try.size105 .u64 105 w.heap.size [] (List.replicate n 0) [] LA 0 n n n ao ca rfl rfl rfl (by simp) Hn.out (by simpa using hrow) HRA.out (by have := Hn.out; simp; omega) ?_))
  intro w2 hrow2 hg2
  have HG := hid (HB.out.rd.ne (Nat.le_refl w.heap.size))
  have HRB := hid ((HB.out.rd.below hg1b (Nat.le_refl _)).keptNew hg2 HG.out)
  have hrow2' : Row .u64 105 w2 w.heap.size ([] ++ (LA) ++ []) := by
    have e : n - LA.length = 0 := by have := Hn.out; omega
    rw [e] at hrow2; simpa using hrow2
  have Hrow2 := hid hrow2'; have Hb := hid hg1b; have Hg2 := hid hg2
  clear hrow2 hrow2' hrow hg1 hg1b hg2
  have hdd : Dig B64 LA := HA.out.dig
  have hc := subFrom_any w.heap.size [] (LA) [] LB n cb bo w2 Hrow2.out hdd HB.out.dig (by have := Hn.out; simp; omega) (by omega) HRB.out (by have := Hn.out; have := Hm.out; simp; omega) HG.out
  rw [show ([] : List Int).length = 0 from rfl, ← Hn.out, ← Hm.out] at hc
  have Hc := hid hc; clear hc hdd
  go_wp2_with (go_at_call 102; refine Hc.out.mono ?_; rintro e w3 ⟨A1, cc, rfl, HI⟩)
  rw [Hn.out] at HI
  obtain ⟨hrow3, hd3, hv3, hl3⟩ := sub_done (by rw [HA.out.eq, HB.out.eq]; exact hba) HI
  have hg3 := HI.gr
  have ht := trim64_any (some ⟨w.heap.size, 0, none⟩) n A1 w3 (row_rd hrow3 (by have := Hn.out; omega) (by omega))
  rw [hl3, ← Hn.out] at ht
  have HT := hid ht
  have hres : Nt w3 (.slice (some ⟨w.heap.size, 0, none⟩) (trimL A1).length n) (a - b) Ka :=
    nt_row hrow3 hd3 (by rw [hv3, HA.out.eq, HB.out.eq]) (by have := Hn.out; omega) (by omega) (by have := HA.out.le; omega)
  have hbel : Below w.heap.size w w3 := (Hb.out.grown Hg2.out Hb.out.size (fun k e => by cases e; exact Nat.le_refl _)).grown hg3 (by have := Hb.out.size; have := Hg2.out.size; omega) (fun k e => by cases e; exact Nat.le_refl _)
  have Hres := hid hres; have Hbel := hid hbel
  clear ht hres hbel hrow3 hd3 hv3 hl3 hg3 HI
  refine HT.out.mono ?_
  rintro e w4 ⟨rfl, rfl⟩
  go_wp2
  go_ret
  exact ⟨_, rfl, Hres.out, Hbel.out⟩

theorem len_of_le {LA LB : List Int} (hA : Dig B64 LA) (hB : Dig B64 LB) (nB : Nrm LB) (h : val B64 LB ≤ val B64 LA) : LB.length ≤ LA.length := by
  by_cases hl : LB.length ≤ LA.length
  · exact hl
  · exfalso
    have h1 := val_lt B64_pos hA
    have h2 := Nrm.low B64_pos hB nB (by omega)
    have h3 := pow_mono B64_pos (show LA.length ≤ LB.length - 1 by omega)
    omega

theorem subtract_any (va vb : Value) (a b : Int) (Ka Kb : Nat) (w : World) (hA : Nt w va a Ka) (hB : Nt w vb b Kb) (h1 : Ka ≤ 1073741824) (hba : b ≤ a) :
    Calls Try.prog 82 #[va, vb] w (RetN w (a - b) Ka) := by
  obtain ⟨ao, ca, LA, rfl, hA⟩ := hA
  obtain ⟨bo, cb, LB, rfl, hB⟩ := hB
  exact subtract_le ao bo ca cb LA LB a b Ka Kb w hA hB h1 (len_of_le hA.dig hB.dig hB.nrm (by rw [hA.eq, hB.eq]; exact hba)) hba

set_option maxRecDepth 100000 in
set_option maxHeartbeats 1000000 in
theorem clone_any (ao : Option Addr) (ca : Nat) (LA : List Int) (a : Int) (Ka : Nat) (w : World) (hA : NtL w ao ca LA a Ka) (hk : Ka ≤ 1073741824) :
    Calls Try.prog 84 #[.slice ao LA.length ca] w fun e w' => e = .returned (.slice (some ⟨w.heap.size, 0, none⟩) LA.length LA.length) ∧ Row .u64 105 w' w.heap.size LA ∧ Below w.heap.size w w' := by
  obtain ⟨n, hn⟩ : ∃ n, n = LA.length := ⟨_, rfl⟩
  have hn30 : n ≤ 1073741824 := by have := hA.le; omega
  rw [← hn]
  have HA := hid hA; have Hn := hid hn
  clear hA hn
  obtain ⟨i0, hi, hz0, hz1, hz2⟩ := info_parts Try.info105
  go_enter Try.func84, Try.ntmps84
  go_wp2_with (at_make; refine wpList_make_row w rfl _ _ 77 rfl 105 i0 .u64 Try.underlying77 hi hz0 hz1 .i64 .i64 _ _ n rfl rfl (by omega) (by omega) (by rw [hz2]; omega) (by unfold maxLen; omega) ?_)
  intro w1 hrow hg1
  have hg1b := grown_below hg1
  have HRA := hid ((HA.out.rd).below hg1b (Nat.le_refl _))
  go_wp2_with ((with_reducible refine wpList_copy_row rfl _ _ _ _ rfl 105 Try.underlying77 Try.size105 .u64 105 w.heap.size [] (List.replicate n 0) [] LA 0 n n n ao ca rfl rfl rfl (by simp) Hn.out (by simpa using hrow) HRA.out (by have := Hn.out; simp; omega) ?_))
  intro w2 hrow2 hg2
  have hrow2' : Row .u64 105 w2 w.heap.size LA := by
    have e : n - LA.length = 0 := by have := Hn.out; omega
    rw [e] at hrow2; simpa using hrow2
  have Hrow2 := hid hrow2'; have Hb := hid (hg1b.grown hg2 hg1b.size (fun k e => by cases e; exact Nat.le_refl _))
  clear hrow2 hrow2' hrow hg1 hg1b hg2
  go_wp2
  go_ret
  exact ⟨rfl, Hrow2.out, Hb.out⟩

end Go.Proofs.Ytbmdjimfncgomaa

/- exact.integer: signed, read, value, negated. -/
namespace Go.Proofs.Ytbmdjimfncgomaa
open Go.RowKit

/-- The value v reads in w as the integer z. -/
def It (w : World) (v : Value) (z : Int) (K : Nat) : Prop := ∃ s, v = .agg #[.bool (decide (z < 0)), s] ∧ Nt w s (z.natAbs : Int) K
def RetI (w : World) (z : Int) (K : Nat) (e : Ending) (w' : World) : Prop := ∃ v, e = .returned v ∧ It w' v z K ∧ Below w.heap.size w w'
theorem It.below {w w' : World} {v : Value} {n : Int} {K B : Nat} (h : It w v n K) (hb : Below B w w') (hB : w.heap.size ≤ B) : It w' v n K := by
  obtain ⟨s, rfl, h⟩ := h; exact ⟨s, rfl, h.below hb hB⟩
theorem It.mono {w : World} {v : Value} {n : Int} {K K' : Nat} (h : It w v n K) (hk : K ≤ K') : It w v n K' := by
  obtain ⟨s, rfl, h⟩ := h; exact ⟨s, rfl, h.mono hk⟩

theorem Nt.set {w : World} {s : Value} {n : Int} {K : Nat} (h : Nt w s n K) {a : Addr} {u : Value} (hu : w.cell? a = some u) (hn : ∀ x, u ≠ .int .u64 x) (v : Value) : Nt (w.setCell a v) s n K := by
  obtain ⟨ao, c, L, rfl, h⟩ := h; exact ⟨ao, c, L, rfl, h.rd.set hu hn v, h.dig, h.nrm, h.eq, h.le⟩
theorem It.set {w : World} {s : Value} {n : Int} {K : Nat} (h : It w s n K) {a : Addr} {u : Value} (hu : w.cell? a = some u) (hn : ∀ x, u ≠ .int .u64 x) (v : Value) : It (w.setCell a v) s n K := by
  obtain ⟨s, rfl, h⟩ := h; exact ⟨s, rfl, h.set hu hn v⟩

theorem NtL.zero_iff {w : World} {ao : Option Addr} {c : Nat} {L : List Int} {n : Int} {K : Nat} (h : NtL w ao c L n K) : L.length = 0 ↔ n = 0 := by
  constructor
  · intro hl; rw [← h.eq, List.eq_nil_of_length_eq_zero hl]; rfl
  · intro hn; rw [Nrm.eq_nil B64_pos h.dig h.nrm (by rw [h.eq, hn])]; rfl

/-- A number of which a sign and a size are known. -/
def sgn (neg : Bool) (n : Int) : Int := if neg then -n else n
theorem sgn_abs (neg : Bool) {n : Int} (h : 0 ≤ n) : ((sgn neg n).natAbs : Int) = n := by unfold sgn; split <;> omega
theorem sgn_lt (neg : Bool) {n : Int} (h : 0 ≤ n) : decide (sgn neg n < 0) = (neg && decide (0 < n)) := by
  unfold sgn; cases neg <;> simp <;> omega

set_option maxHeartbeats 1000000 in
theorem signed_any (neg : Bool) (s : Value) (n : Int) (K : Nat) (w : World) (h : Nt w s n K) :
    Calls Try.prog 50 #[.bool neg, s] w (RetI w (sgn neg n) K) := by
  have h0 := h.nonneg
  have hab := sgn_abs neg h0
  have hlt := sgn_lt neg h0
  obtain ⟨ao, c, L, rfl, h⟩ := h
  obtain ⟨m, hm⟩ : ∃ m, m = L.length := ⟨_, rfl⟩
  have hz := h.zero_iff
  have hd : decide (0 < n) = decide ((0 : Int) < (m : Int)) := by rw [hm]; apply decide_eq_decide.2; constructor <;> intro hh <;> omega
  rw [hd] at hlt
  rw [← hm]
  have H : Hid (∀ w', Below w.heap.size w w' → It w' (.agg #[.bool (neg && decide ((0 : Int) < (m : Int))), .slice ao m c]) (sgn neg n) K) := hid (fun w' hb => ⟨_, by rw [hlt], by rw [hab, hm]; exact ⟨ao, c, L, rfl, h.rd.below hb (Nat.le_refl _), h.dig, h.nrm, h.eq, h.le⟩⟩)
  clear hd hz hlt hab h0 h hm
  cases neg with
  | false =>
    go_enter Try.func50, Try.ntmps50
    go_wp2
    refine bodyPost_ret (v := .agg #[.bool false, .slice ao m c]) (by simp [results, Try.results50, go_sem]) rfl ⟨_, rfl, ?_, (Below.refl _ _).alloc (Nat.le_refl _) _⟩
    exact H.out _ ((Below.refl _ _).alloc (Nat.le_refl _) _)
  | true =>
    go_enter Try.func50, Try.ntmps50
    go_wp2
    refine bodyPost_ret (v := .agg #[.bool (decide ((0 : Int) < (m : Int))), .slice ao m c]) (by simp [results, Try.results50, go_sem]) rfl ⟨_, rfl, ?_, (Below.refl _ _).alloc (Nat.le_refl _) _⟩
    exact H.out _ ((Below.refl _ _).alloc (Nat.le_refl _) _)

/-- The value v (an api.Int) stands in w for the integer z. -/
structure AiL (w : World) (neg : Bool) (ao : Option Addr) (c : Nat) (W : List Int) (z : Int) (K : Nat) : Prop where
  rd : Rd w .u32 ao c W
  dig : Dig B32 W
  le : W.length ≤ K
  eq : z = sgn neg (val B32 W)
def Ai (w : World) (v : Value) (z : Int) (K : Nat) : Prop := ∃ neg ao c W, v = .agg #[.bool neg, .slice ao W.length c] ∧ AiL w neg ao c W z K
theorem Ai.below {w w' : World} {v : Value} {n : Int} {K B : Nat} (h : Ai w v n K) (hb : Below B w w') (hB : w.heap.size ≤ B) : Ai w' v n K := by
  obtain ⟨neg, ao, c, W, rfl, h⟩ := h; exact ⟨neg, ao, c, W, rfl, h.rd.below hb hB, h.dig, h.le, h.eq⟩

set_option maxRecDepth 100000 in
set_option maxHeartbeats 2000000 in
theorem read_any (v : Value) (z : Int) (K : Nat) (w : World) (h : Ai w v z K) (hK : K ≤ 1073741824) :
    Calls Try.prog 45 #[v] w (RetI w z ((K + 1) / 2)) := by
  obtain ⟨neg, ao, c, W, rfl, h⟩ := h
  obtain ⟨n, hn⟩ : ∃ n, n = W.length := ⟨_, rfl⟩
  have hf := fun (w' : World) (hb : Below w.heap.size w w') => fromWords_any ao c W w' (h.rd.below hb (Nat.le_refl _)) h.dig (by have := h.le; omega)
  rw [← hn] at hf ⊢
  have HF := hid hf; have H := hid h; have Hn := hid hn
  clear hf h hn
  go_enter Try.func45, Try.ntmps45
  go_wp2
  obtain ⟨W0, hW0⟩ : ∃ W0, W0 = ((w.alloc (.cells #[.bool neg, .slice ao n c] 24)).alloc (.cells #[.bool false, .slice none 0 0] 79)) := ⟨_, rfl⟩
  have hB0 : Below w.heap.size w W0 := by rw [hW0]; exact ((Below.refl _ _).alloc (Nat.le_refl _) _).alloc (by simp) _
  have hz0 : W0.heap.size = w.heap.size + 2 := by rw [hW0]; simp
  have HS : Hid (∀ w', Below (w.heap.size + 1) W0 w' → w'.cell? ⟨w.heap.size, 0, none⟩ = some (.bool neg) ∧ w'.cell? ⟨w.heap.size, 1, none⟩ = some (.slice ao n c)) := hid (fun w' hb => by
    constructor
    · rw [hb.cell (by simp), hW0]; simp [go_sem, World.cell?_alloc_past]
    · rw [hb.cell (by simp), hW0]; simp [go_sem, World.cell?_alloc_past])
  have HT : Hid (∀ w', Below (w.heap.size + 2) W0 w' → w'.cell? ⟨w.heap.size + 1, 0, none⟩ = some (.bool false) ∧ w'.cell? ⟨w.heap.size + 1, 1, none⟩ = some (.slice none 0 0) ∧ w'.frozen? ⟨w.heap.size + 1, 0, none⟩ = false ∧ w'.frozen? ⟨w.heap.size + 1, 1, none⟩ = false) := hid (fun w' hb => by
    refine ⟨?_, ?_, ?_, ?_⟩
    · rw [hb.cell (by simp), hW0]; simp [go_sem]
    · rw [hb.cell (by simp), hW0]; simp [go_sem]
    · rw [hb.frozen (by simp), hW0]; simp [go_sem]
    · rw [hb.frozen (by simp), hW0]; simp [go_sem])
  rw [← hW0]
  clear hW0
  go_region_held3 (fun w' => w'.cell? ⟨w.heap.size, 0, none⟩ = some (.bool neg) ∧ w'.cell? ⟨w.heap.size, 1, none⟩ = some (.slice ao n c)) ((refine HS.out _ ?_; first | assumption | exact Below.refl _ _ | exact (Below.refl _ _).drew | exact ((hB2.mono (Nat.le_succ _)).setCell (Nat.le_refl _) _).setCell (Nat.le_refl _) _)) (first
    | (go_at_call 79; refine (HF.out _ hB0.drew).mono ?_; rintro e w1 ⟨s, rfl, hs, hb1⟩; have hB1 : Below (w.heap.size + 2) W0 w1 := ((Below.refl _ _).drew).trans (hb1.mono (by simp; omega)); have hB1s := hB1.mono (Nat.le_succ _))
    | (go_at_call 50; refine (signed_any neg s _ _ _ hs).mono ?_; rintro e w2 ⟨_, rfl, ⟨_, rfl, qo, qc, QL, rfl, hq⟩, hb2⟩; have hB2 : Below (w.heap.size + 2) W0 w2 := hB1.trans (hb2.mono (by have := hB1.size; omega)); have hB2s := hB2.mono (Nat.le_succ _); obtain ⟨hr0, hr1, hr2, hr3⟩ := HT.out _ hB2))
  go_wp2
  have hbel : Below w.heap.size w w2 := hB0.trans (hB2.mono (by omega))
  refine bodyPost_ret (v := .agg #[.bool (decide (sgn neg (val B32 W) < 0)), .slice qo QL.length qc]) (by simp [results, Try.results45, go_sem, hr0, hr1]) rfl ⟨_, rfl, ?_, (hbel.setCell (by simp) _).setCell (by simp) _⟩
  have hfin : It w2 (.agg #[.bool (decide (sgn neg (val B32 W) < 0)), .slice qo QL.length qc]) z ((K + 1) / 2) := by
    rw [H.out.eq]
    exact ⟨_, rfl, qo, qc, QL, rfl, hq.rd, hq.dig, hq.nrm, hq.eq, by have := hq.le; have := Hn.out; have := H.out.le; omega⟩
  exact (hfin.set hr0 (fun x h => (by cases h)) _).set (u := .slice none 0 0) (by simp [go_sem, hr1]) (fun x h => (by cases h)) _

/-! Arguments, opened for a walk. -/
theorem It.opened {w : World} {v : Value} {z : Int} {K : Nat} (h : It w v z K) : ∃ b ao m c, v = .agg #[.bool b, .slice ao m c] ∧ Hid (∀ w', Below w.heap.size w w' → It w' (.agg #[.bool b, .slice ao m c]) z K) ∧ Hid (∀ w', Below w.heap.size w w' → Nt w' (.slice ao m c) (z.natAbs : Int) K) ∧ Hid (b = decide (z < 0)) := by
  obtain ⟨s, rfl, ao, c, L, rfl, h⟩ := h
  have hN : ∀ w', Below w.heap.size w w' → Nt w' (.slice ao L.length c) (z.natAbs : Int) K := fun w' hb => ⟨ao, c, L, rfl, h.rd.below hb (Nat.le_refl _), h.dig, h.nrm, h.eq, h.le⟩
  exact ⟨_, ao, L.length, c, rfl, hid (fun w' hb => ⟨_, rfl, hN w' hb⟩), hid hN, hid rfl⟩
theorem Ai.opened {w : World} {v : Value} {z : Int} {K : Nat} (h : Ai w v z K) : ∃ b ao m c, v = .agg #[.bool b, .slice ao m c] ∧ Hid (∀ w', Below w.heap.size w w' → Ai w' (.agg #[.bool b, .slice ao m c]) z K) := by
  obtain ⟨neg, ao, c, W, rfl, h⟩ := h
  exact ⟨neg, ao, W.length, c, rfl, hid (fun w' hb => ⟨neg, ao, c, W, rfl, h.rd.below hb (Nat.le_refl _), h.dig, h.le, h.eq⟩)⟩
theorem Nt.opened {w : World} {v : Value} {n : Int} {K : Nat} (h : Nt w v n K) : ∃ ao m c, v = .slice ao m c ∧ Hid (∀ w', Below w.heap.size w w' → Nt w' (.slice ao m c) n K) := by
  obtain ⟨ao, c, L, rfl, h⟩ := h
  exact ⟨ao, L.length, c, rfl, hid (fun w' hb => ⟨ao, c, L, rfl, h.rd.below hb (Nat.le_refl _), h.dig, h.nrm, h.eq, h.le⟩)⟩

/-! Results in new memory. -/
theorem owns_base {w : World} {B B' : Nat} {e : TypeId} {size n : Nat} {v : Value} {xs : List Value} (h : w.ownsRow B e size v n xs) (hb : B' ≤ B) : w.ownsRow B' e size v n xs := by
  refine ⟨h.1, ?_⟩
  rcases h.2 with h2 | ⟨g, cap, cur, hv, hg, r⟩
  · exact .inl h2
  · exact .inr ⟨g, cap, cur, hv, Nat.le_trans hb hg, r⟩
theorem FrW.base {w0 w1 w : World} {v : Value} {n : Int} {K : Nat} (h : FrW w1 w v n K) (hb : w0.heap.size ≤ w1.heap.size) : FrW w0 w v n K := by
  obtain ⟨L, h, r⟩ := h; exact ⟨L, owns_base h hb, r⟩
theorem FrW.set {w1 w : World} {v : Value} {n : Int} {K : Nat} (h : FrW w1 w v n K) {a : Addr} (ha : a.block < w1.heap.size) (u : Value) : FrW w1 (w.setCell a u) v n K := by
  obtain ⟨L, h, r⟩ := h; exact ⟨L, ownsRow_setCell_below h ha u, r⟩
theorem FrW.opened {w1 w : World} {v : Value} {n : Int} {K : Nat} (h : FrW w1 w v n K) : ∃ ao m c, v = .slice ao m c ∧ Hid (FrW w1 w (.slice ao m c) n K) := by
  obtain ⟨L, h, r⟩ := h
  rcases h.2 with ⟨rfl, _⟩ | ⟨g, cap, cur, rfl, _⟩
  · exact ⟨_, _, _, rfl, hid ⟨L, h, r⟩⟩
  · exact ⟨_, _, _, rfl, hid ⟨L, h, r⟩⟩
/-- A value of api.Int that the call has made, in normal form, which is z. -/
def FrA (w0 w : World) (v : Value) (z : Int) (K : Nat) : Prop := ∃ s, v = .agg #[.bool (decide (z < 0)), s] ∧ FrW w0 w s (z.natAbs : Int) K
def RetA (w : World) (z : Int) (K : Nat) (e : Ending) (w' : World) : Prop := ∃ v, e = .returned v ∧ FrA w w' v z K ∧ Below w.heap.size w w'

end Go.Proofs.Ytbmdjimfncgomaa

/- exact.integer: value, negated, plus; exact.Normal, Neg, Add, Sub. Written by gen_int2.py. -/
namespace Go.Proofs.Ytbmdjimfncgomaa
open Go.RowKit

theorem sgn_diff (x y : Int) (hs : decide (x < 0) ≠ decide (y < 0)) : sgn (decide (x < 0)) ((x.natAbs : Int) - (y.natAbs : Int)) = x + y := by
  by_cases h1 : x < 0
  · by_cases h2 : y < 0
    · simp [h1, h2] at hs
    · rw [decide_eq_true h1]; show -((x.natAbs : Int) - (y.natAbs : Int)) = x + y; omega
  · by_cases h2 : y < 0
    · rw [decide_eq_false h1]; show (x.natAbs : Int) - (y.natAbs : Int) = x + y; omega
    · simp [h1, h2] at hs

set_option maxRecDepth 100000 in
set_option maxHeartbeats 4000000 in
theorem value_any (v : Value) (z : Int) (K : Nat) (w : World) (h : It w v z K) (hK : K ≤ 1073741824) :
    Calls Try.prog 46 #[v] w (RetA w z (2 * K)) := by
  obtain ⟨xb, xo, xm, xc, rfl, Hx, Hxs, Hxb⟩ := It.opened h
  go_enter Try.func46, Try.ntmps46
  go_wp2
  obtain ⟨W0, hW0⟩ : ∃ W0, W0 = ((w.alloc (.cells #[.bool xb, .slice xo xm xc] 79)).alloc (.cells #[.bool false, .slice none 0 0] 24)) := ⟨_, rfl⟩
  have hB0 : Below w.heap.size w W0 := by rw [hW0]; exact ((Below.refl _ _).alloc (by simp <;> omega) _).alloc (by simp <;> omega) _
  have hz0 : W0.heap.size = w.heap.size + 2 := by rw [hW0]; simp
  have HS : Hid (∀ w', Below (w.heap.size + 1) W0 w' → w'.cell? ⟨w.heap.size, 0, none⟩ = some (.bool xb) ∧ w'.cell? ⟨w.heap.size, 1, none⟩ = some (.slice xo xm xc)) := hid (fun w' hb => by
    refine ⟨?_, ?_⟩ <;> (first | (rw [hb.cell (by simp <;> omega), hW0]; simp [go_sem]; done) | (rw [hb.frozen (by simp <;> omega), hW0]; simp [go_sem]; done)))
  have HT : Hid (∀ w', Below (w.heap.size + 2) W0 w' → w'.cell? ⟨w.heap.size + 1, 0, none⟩ = some (.bool false) ∧ w'.cell? ⟨w.heap.size + 1, 1, none⟩ = some (.slice none 0 0) ∧ w'.frozen? ⟨w.heap.size + 1, 0, none⟩ = false ∧ w'.frozen? ⟨w.heap.size + 1, 1, none⟩ = false) := hid (fun w' hb => by
    refine ⟨?_, ?_, ?_, ?_⟩ <;> (first | (rw [hb.cell (by simp <;> omega), hW0]; simp [go_sem]; done) | (rw [hb.frozen (by simp <;> omega), hW0]; simp [go_sem]; done)))
  rw [← hW0]
  clear hW0
  go_region_held3 (fun w' => w'.cell? ⟨w.heap.size, 0, none⟩ = some (.bool xb) ∧ w'.cell? ⟨w.heap.size, 1, none⟩ = some (.slice xo xm xc)) ((refine HS.out _ ?_; first | assumption | exact Below.refl _ _ | exact (Below.refl _ _).drew | exact ((hB1.mono (Nat.le_succ _)).setCell (Nat.le_refl _) _).setCell (Nat.le_refl _) _)) (first
    | (go_at_call 80; refine (words_any _ _ _ _ (Hxs.out _ hB0.drew) hK).mono ?_; rintro e w1 ⟨v1, rfl, hv1, hb1⟩; obtain ⟨o1, m1, c1, rfl, HV⟩ := FrW.opened hv1; have hB1 : Below (w.heap.size + 2) W0 w1 := ((Below.refl _ _).drew).trans (hb1.mono (by simp; omega)); have hB1s := hB1.mono (Nat.le_succ _); obtain ⟨hr0, hr1, hr2, hr3⟩ := HT.out _ hB1))
  go_wp2
  have hbel : Below w.heap.size w w1 := hB0.trans (hB1.mono (by omega))
  refine bodyPost_ret (v := .agg #[.bool xb, .slice o1 m1 c1]) (by simp [results, Try.results46, go_sem, hr0, hr1]) rfl ⟨_, rfl, ?_, (hbel.setCell (by simp <;> omega) _).setCell (by simp <;> omega) _⟩
  rw [Hxb.out]
  exact ⟨_, rfl, ((HV.out.set (by simp; omega) _).set (by simp; omega) _).base (by simp; omega)⟩

set_option maxRecDepth 100000 in
set_option maxHeartbeats 4000000 in
theorem negated_any (v : Value) (z : Int) (K : Nat) (w : World) (h : It w v z K) :
    Calls Try.prog 47 #[v] w (RetI w (-z) K) := by
  obtain ⟨xb, xo, xm, xc, rfl, Hx, Hxs, Hxb⟩ := It.opened h
  go_enter Try.func47, Try.ntmps47
  go_wp2_with fail
  obtain ⟨W0, hW0⟩ : ∃ W0, W0 = ((w.alloc (.cells #[.bool xb, .slice xo xm xc] 79)).alloc (.cells #[.bool false, .slice none 0 0] 79)) := ⟨_, rfl⟩
  have hB0 : Below w.heap.size w W0 := by rw [hW0]; exact ((Below.refl _ _).alloc (by simp <;> omega) _).alloc (by simp <;> omega) _
  have hz0 : W0.heap.size = w.heap.size + 2 := by rw [hW0]; simp
  have _HS : Hid (∀ w', Below (w.heap.size + 1) W0 w' → w'.cell? ⟨w.heap.size, 0, none⟩ = some (.bool xb) ∧ w'.cell? ⟨w.heap.size, 1, none⟩ = some (.slice xo xm xc)) := hid (fun w' hb => by
    refine ⟨?_, ?_⟩ <;> (first | (rw [hb.cell (by simp <;> omega), hW0]; simp [go_sem]; done) | (rw [hb.frozen (by simp <;> omega), hW0]; simp [go_sem]; done)))
  have HT : Hid (∀ w', Below (w.heap.size + 2) W0 w' → w'.cell? ⟨w.heap.size + 1, 0, none⟩ = some (.bool false) ∧ w'.cell? ⟨w.heap.size + 1, 1, none⟩ = some (.slice none 0 0) ∧ w'.frozen? ⟨w.heap.size + 1, 0, none⟩ = false ∧ w'.frozen? ⟨w.heap.size + 1, 1, none⟩ = false) := hid (fun w' hb => by
    refine ⟨?_, ?_, ?_, ?_⟩ <;> (first | (rw [hb.cell (by simp <;> omega), hW0]; simp [go_sem]; done) | (rw [hb.frozen (by simp <;> omega), hW0]; simp [go_sem]; done)))
  rw [← hW0]
  clear hW0
  refine (signed_any (!xb) _ _ _ _ (Hxs.out _ hB0)).mono ?_
  rintro e w1 ⟨_, rfl, ⟨_, rfl, qo, qc, QL, rfl, hq⟩, hb1⟩
  have hB1 : Below (w.heap.size + 2) W0 w1 := hb1.mono (by omega)
  obtain ⟨hr0, hr1, hr2, hr3⟩ := HT.out _ hB1
  go_wp2
  have hbel : Below w.heap.size w w1 := hB0.trans (hB1.mono (by omega))
  refine bodyPost_ret (v := .agg #[.bool (decide (sgn (!xb) (z.natAbs : Int) < 0)), .slice qo QL.length qc]) (by simp [results, Try.results47, go_sem, hr0, hr1]) rfl ⟨_, rfl, ?_, (hbel.setCell (by simp <;> omega) _).setCell (by simp <;> omega) _⟩
  have e : sgn (!xb) (z.natAbs : Int) = -z := by rw [Hxb.out]; unfold sgn; by_cases hz : z < 0 <;> simp [hz] <;> omega
  have hfin : It w1 (.agg #[.bool (decide (sgn (!xb) (z.natAbs : Int) < 0)), .slice qo QL.length qc]) (-z) K := by
    rw [← e]; exact ⟨_, rfl, qo, qc, QL, rfl, hq⟩
  exact (hfin.set hr0 (fun x h => (by cases h)) _).set (u := .slice none 0 0) (by simp [go_sem, hr1]) (fun x h => (by cases h)) _

set_option maxRecDepth 100000 in
set_option maxHeartbeats 4000000 in
theorem plus_same (u v : Value) (x y : Int) (Kx Ky K : Nat) (w : World) (hu : It w u x Kx) (hv : It w v y Ky) (hKx : Kx ≤ 1073741824) (hKy : Ky ≤ 1073741824) (h1 : Kx < K) (h2 : Ky < K) (hs : decide (x < 0) = decide (y < 0)) :
    Calls Try.prog 48 #[u, v] w (RetI w (x + y) K) := by
  obtain ⟨xb, xo, xm, xc, rfl, Hx, Hxs, Hxb⟩ := It.opened hu
  obtain ⟨yb, yo, ym, yc, rfl, Hy, Hys, Hyb⟩ := It.opened hv
  have hb : yb = xb := by rw [Hxb.out, Hyb.out, hs]
  subst hb
  have Hs := hid hs
  clear hs hu hv
  go_enter Try.func48, Try.ntmps48
  go_wp2
  obtain ⟨W0, hW0⟩ : ∃ W0, W0 = (((w.alloc (.cells #[.bool yb, .slice xo xm xc] 79)).alloc (.cells #[.bool yb, .slice yo ym yc] 79)).alloc (.cells #[.bool false, .slice none 0 0] 79)) := ⟨_, rfl⟩
  have hB0 : Below w.heap.size w W0 := by rw [hW0]; exact (((Below.refl _ _).alloc (by simp <;> omega) _).alloc (by simp <;> omega) _).alloc (by simp <;> omega) _
  have hz0 : W0.heap.size = w.heap.size + 3 := by rw [hW0]; simp
  have HS : Hid (∀ w', Below (w.heap.size + 2) W0 w' → w'.cell? ⟨w.heap.size, 0, none⟩ = some (.bool yb) ∧ w'.cell? ⟨w.heap.size, 1, none⟩ = some (.slice xo xm xc) ∧ w'.cell? ⟨w.heap.size + 1, 0, none⟩ = some (.bool yb) ∧ w'.cell? ⟨w.heap.size + 1, 1, none⟩ = some (.slice yo ym yc)) := hid (fun w' hb => by
    refine ⟨?_, ?_, ?_, ?_⟩ <;> (first | (rw [hb.cell (by simp <;> omega), hW0]; simp [go_sem]; done) | (rw [hb.frozen (by simp <;> omega), hW0]; simp [go_sem]; done)))
  have HT : Hid (∀ w', Below (w.heap.size + 3) W0 w' → w'.cell? ⟨w.heap.size + 2, 0, none⟩ = some (.bool false) ∧ w'.cell? ⟨w.heap.size + 2, 1, none⟩ = some (.slice none 0 0) ∧ w'.frozen? ⟨w.heap.size + 2, 0, none⟩ = false ∧ w'.frozen? ⟨w.heap.size + 2, 1, none⟩ = false) := hid (fun w' hb => by
    refine ⟨?_, ?_, ?_, ?_⟩ <;> (first | (rw [hb.cell (by simp <;> omega), hW0]; simp [go_sem]; done) | (rw [hb.frozen (by simp <;> omega), hW0]; simp [go_sem]; done)))
  rw [← hW0]
  clear hW0
  go_region_held3 (fun w' => w'.cell? ⟨w.heap.size, 0, none⟩ = some (.bool yb) ∧ w'.cell? ⟨w.heap.size, 1, none⟩ = some (.slice xo xm xc) ∧ w'.cell? ⟨w.heap.size + 1, 0, none⟩ = some (.bool yb) ∧ w'.cell? ⟨w.heap.size + 1, 1, none⟩ = some (.slice yo ym yc)) ((refine HS.out _ ?_; first | assumption | exact Below.refl _ _ | exact (Below.refl _ _).drew | exact ((hB2.mono (Nat.le_succ _)).setCell (Nat.le_refl _) _).setCell (Nat.le_refl _) _)) (first
    | (go_at_call 81; refine (add_any _ _ _ _ _ _ K _ (Hxs.out _ hB0.drew) (Hys.out _ hB0.drew) hKx hKy h1 h2).mono ?_; rintro e w1 ⟨v1, rfl, hv1, hb1⟩; have hB1 : Below (w.heap.size + 3) W0 w1 := ((Below.refl _ _).drew).trans (hb1.mono (by simp; omega)); have hB1s := hB1.mono (Nat.le_succ _))
    | (go_at_call 50; refine (signed_any yb v1 _ _ _ hv1).mono ?_; rintro e w2 ⟨_, rfl, ⟨_, rfl, qo, qc, QL, rfl, hq⟩, hb2⟩; have hB2 : Below (w.heap.size + 3) W0 w2 := hB1.trans (hb2.mono (by have := hB1.size; omega)); have hB2s := hB2.mono (Nat.le_succ _); obtain ⟨hr0, hr1, hr2, hr3⟩ := HT.out _ hB2))
  go_wp2
  have hbel : Below w.heap.size w w2 := hB0.trans (hB2.mono (by omega))
  refine bodyPost_ret (v := .agg #[.bool (decide (sgn yb ((x.natAbs : Int) + (y.natAbs : Int)) < 0)), .slice qo QL.length qc]) (by simp [results, Try.results48, go_sem, hr0, hr1]) rfl ⟨_, rfl, ?_, (hbel.setCell (by simp <;> omega) _).setCell (by simp <;> omega) _⟩
  have e : sgn yb ((x.natAbs : Int) + (y.natAbs : Int)) = (x + y) := by rw [Hyb.out]; have := Hs.out; unfold sgn; by_cases h : y < 0 <;> simp [h] at this ⊢ <;> omega
  have hfin : It w2 (.agg #[.bool (decide (sgn yb ((x.natAbs : Int) + (y.natAbs : Int)) < 0)), .slice qo QL.length qc]) (x + y) K := by
    rw [← e]; exact ⟨_, rfl, qo, qc, QL, rfl, hq.rd, hq.dig, hq.nrm, hq.eq, Nat.le_trans hq.le (by omega)⟩
  exact (hfin.set hr0 (fun x h => (by cases h)) _).set (u := .slice none 0 0) (by simp [go_sem, hr1]) (fun x h => (by cases h)) _

set_option maxRecDepth 100000 in
set_option maxHeartbeats 4000000 in
theorem plus_keep (u v : Value) (x y : Int) (Kx Ky K : Nat) (w : World) (hu : It w u x Kx) (hv : It w v y Ky) (hKx : Kx ≤ 1073741824) (_hKy : Ky ≤ 1073741824) (h1 : Kx < K) (_h2 : Ky < K) (hs : decide (x < 0) ≠ decide (y < 0)) (hc : y.natAbs ≤ x.natAbs) :
    Calls Try.prog 48 #[u, v] w (RetI w (x + y) K) := by
  obtain ⟨xb, xo, xm, xc, rfl, Hx, Hxs, Hxb⟩ := It.opened hu
  obtain ⟨yb, yo, ym, yc, rfl, Hy, Hys, Hyb⟩ := It.opened hv
  have hb : xb ≠ yb := by rw [Hxb.out, Hyb.out]; exact hs
  have hb1 : (xb == yb) = false := by simpa using hb
  have hcm : 0 ≤ cmpI (x.natAbs : Int) (y.natAbs : Int) := (by unfold cmpI; split <;> (try split) <;> omega)
  obtain ⟨cm, hcm'⟩ : ∃ cm, cm = cmpI (x.natAbs : Int) (y.natAbs : Int) := ⟨_, rfl⟩
  rw [← hcm'] at hcm
  have Hcm := hid hcm'
  have Hs := hid hs; have Hc := hid hc
  clear hs hu hv hc hcm'
  go_enter Try.func48, Try.ntmps48
  go_wp2_with fail
  refine (compare_any _ _ _ _ Kx Ky _ (Hxs.out _ (by repeat (first | exact Below.refl _ _ | refine Below.alloc ?_ (by simp <;> omega) _))) (Hys.out _ (by repeat (first | exact Below.refl _ _ | refine Below.alloc ?_ (by simp <;> omega) _)))).mono ?_
  rintro e w' ⟨nq, rfl, rfl⟩
  rw [← Hcm.out]
  go_wp2
  obtain ⟨W0, hW0⟩ : ∃ W0, W0 = (((w.alloc (.cells #[.bool xb, .slice xo xm xc] 79)).alloc (.cells #[.bool yb, .slice yo ym yc] 79)).alloc (.cells #[.bool false, .slice none 0 0] 79)).drewN nq := ⟨_, rfl⟩
  have hB0 : Below w.heap.size w W0 := by rw [hW0]; exact below_drewN ((((Below.refl _ _).alloc (by simp <;> omega) _).alloc (by simp <;> omega) _).alloc (by simp <;> omega) _) nq
  have hz0 : W0.heap.size = w.heap.size + 3 := by rw [hW0]; simp
  have HS : Hid (∀ w', Below (w.heap.size + 2) W0 w' → w'.cell? ⟨w.heap.size, 0, none⟩ = some (.bool xb) ∧ w'.cell? ⟨w.heap.size, 1, none⟩ = some (.slice xo xm xc) ∧ w'.cell? ⟨w.heap.size + 1, 0, none⟩ = some (.bool yb) ∧ w'.cell? ⟨w.heap.size + 1, 1, none⟩ = some (.slice yo ym yc)) := hid (fun w' hb => by
    refine ⟨?_, ?_, ?_, ?_⟩ <;> (first | (rw [hb.cell (by simp <;> omega), hW0]; simp [go_sem]; done) | (rw [hb.frozen (by simp <;> omega), hW0]; simp [go_sem]; done)))
  have HT : Hid (∀ w', Below (w.heap.size + 3) W0 w' → w'.cell? ⟨w.heap.size + 2, 0, none⟩ = some (.bool false) ∧ w'.cell? ⟨w.heap.size + 2, 1, none⟩ = some (.slice none 0 0) ∧ w'.frozen? ⟨w.heap.size + 2, 0, none⟩ = false ∧ w'.frozen? ⟨w.heap.size + 2, 1, none⟩ = false) := hid (fun w' hb => by
    refine ⟨?_, ?_, ?_, ?_⟩ <;> (first | (rw [hb.cell (by simp <;> omega), hW0]; simp [go_sem]; done) | (rw [hb.frozen (by simp <;> omega), hW0]; simp [go_sem]; done)))
  rw [← hW0]
  clear hW0
  go_region_held3 (fun w' => w'.cell? ⟨w.heap.size, 0, none⟩ = some (.bool xb) ∧ w'.cell? ⟨w.heap.size, 1, none⟩ = some (.slice xo xm xc) ∧ w'.cell? ⟨w.heap.size + 1, 0, none⟩ = some (.bool yb) ∧ w'.cell? ⟨w.heap.size + 1, 1, none⟩ = some (.slice yo ym yc)) ((refine HS.out _ ?_; first | assumption | exact Below.refl _ _ | exact (Below.refl _ _).drew | exact ((hB2.mono (Nat.le_succ _)).setCell (Nat.le_refl _) _).setCell (Nat.le_refl _) _)) (first
    | (go_at_call 82; refine (subtract_any _ _ _ _ Kx Ky _ (Hxs.out _ hB0.drew) (Hys.out _ hB0.drew) hKx (by have := Hc.out; omega)).mono ?_; rintro e w1 ⟨v1, rfl, hv1, hb1⟩; have hB1 : Below (w.heap.size + 3) W0 w1 := ((Below.refl _ _).drew).trans (hb1.mono (by simp; omega)); have hB1s := hB1.mono (Nat.le_succ _))
    | (go_at_call 50; refine (signed_any xb v1 _ _ _ hv1).mono ?_; rintro e w2 ⟨_, rfl, ⟨_, rfl, qo, qc, QL, rfl, hq⟩, hb2⟩; have hB2 : Below (w.heap.size + 3) W0 w2 := hB1.trans (hb2.mono (by have := hB1.size; omega)); have hB2s := hB2.mono (Nat.le_succ _); obtain ⟨hr0, hr1, hr2, hr3⟩ := HT.out _ hB2))
  go_wp2
  have hbel : Below w.heap.size w w2 := hB0.trans (hB2.mono (by omega))
  refine bodyPost_ret (v := .agg #[.bool (decide (sgn xb ((x.natAbs : Int) - (y.natAbs : Int)) < 0)), .slice qo QL.length qc]) (by simp [results, Try.results48, go_sem, hr0, hr1]) rfl ⟨_, rfl, ?_, (hbel.setCell (by simp <;> omega) _).setCell (by simp <;> omega) _⟩
  have e : sgn xb ((x.natAbs : Int) - (y.natAbs : Int)) = (x + y) := by rw [Hxb.out]; exact sgn_diff x y Hs.out
  have hfin : It w2 (.agg #[.bool (decide (sgn xb ((x.natAbs : Int) - (y.natAbs : Int)) < 0)), .slice qo QL.length qc]) (x + y) K := by
    rw [← e]; exact ⟨_, rfl, qo, qc, QL, rfl, hq.rd, hq.dig, hq.nrm, hq.eq, Nat.le_trans hq.le (by omega)⟩
  exact (hfin.set hr0 (fun x h => (by cases h)) _).set (u := .slice none 0 0) (by simp [go_sem, hr1]) (fun x h => (by cases h)) _

set_option maxRecDepth 100000 in
set_option maxHeartbeats 4000000 in
theorem plus_swap (u v : Value) (x y : Int) (Kx Ky K : Nat) (w : World) (hu : It w u x Kx) (hv : It w v y Ky) (_hKx : Kx ≤ 1073741824) (hKy : Ky ≤ 1073741824) (_h1 : Kx < K) (h2 : Ky < K) (hs : decide (x < 0) ≠ decide (y < 0)) (hc : x.natAbs < y.natAbs) :
    Calls Try.prog 48 #[u, v] w (RetI w (x + y) K) := by
  obtain ⟨xb, xo, xm, xc, rfl, Hx, Hxs, Hxb⟩ := It.opened hu
  obtain ⟨yb, yo, ym, yc, rfl, Hy, Hys, Hyb⟩ := It.opened hv
  have hb : xb ≠ yb := by rw [Hxb.out, Hyb.out]; exact hs
  have hb1 : (xb == yb) = false := by simpa using hb
  have hcm : cmpI (x.natAbs : Int) (y.natAbs : Int) < 0 := (by rw [cmpI_lt (by omega)]; decide)
  obtain ⟨cm, hcm'⟩ : ∃ cm, cm = cmpI (x.natAbs : Int) (y.natAbs : Int) := ⟨_, rfl⟩
  rw [← hcm'] at hcm
  have Hcm := hid hcm'
  have Hs := hid hs; have Hc := hid hc
  clear hs hu hv hc hcm'
  go_enter Try.func48, Try.ntmps48
  go_wp2_with fail
  refine (compare_any _ _ _ _ Kx Ky _ (Hxs.out _ (by repeat (first | exact Below.refl _ _ | refine Below.alloc ?_ (by simp <;> omega) _))) (Hys.out _ (by repeat (first | exact Below.refl _ _ | refine Below.alloc ?_ (by simp <;> omega) _)))).mono ?_
  rintro e w' ⟨nq, rfl, rfl⟩
  rw [← Hcm.out]
  obtain ⟨W0, hW0⟩ : ∃ W0, W0 = (((w.alloc (.cells #[.bool xb, .slice xo xm xc] 79)).alloc (.cells #[.bool yb, .slice yo ym yc] 79)).alloc (.cells #[.bool false, .slice none 0 0] 79)).drewN nq := ⟨_, rfl⟩
  rw [← hW0]
  obtain ⟨k0, k1, k2, k3, k4, k5, f0, f1, f2, f3, f4, f5⟩ : W0.cell? ⟨w.heap.size, 0, none⟩ = some (.bool xb) ∧ W0.cell? ⟨w.heap.size, 1, none⟩ = some (.slice xo xm xc) ∧ W0.cell? ⟨w.heap.size + 1, 0, none⟩ = some (.bool yb) ∧ W0.cell? ⟨w.heap.size + 1, 1, none⟩ = some (.slice yo ym yc) ∧ W0.cell? ⟨w.heap.size + 2, 0, none⟩ = some (.bool false) ∧ W0.cell? ⟨w.heap.size + 2, 1, none⟩ = some (.slice none 0 0) ∧ W0.frozen? ⟨w.heap.size, 0, none⟩ = false ∧ W0.frozen? ⟨w.heap.size, 1, none⟩ = false ∧ W0.frozen? ⟨w.heap.size + 1, 0, none⟩ = false ∧ W0.frozen? ⟨w.heap.size + 1, 1, none⟩ = false ∧ W0.frozen? ⟨w.heap.size + 2, 0, none⟩ = false ∧ W0.frozen? ⟨w.heap.size + 2, 1, none⟩ = false := by
    rw [hW0]; refine ⟨?_, ?_, ?_, ?_, ?_, ?_, ?_, ?_, ?_, ?_, ?_, ?_⟩ <;> first | (rw [cell_drewN]; simp [go_sem]; done) | (simp [go_sem]; done)
  have hb00 : Below w.heap.size w W0 := by rw [hW0]; exact below_drewN ((((Below.refl _ _).alloc (by simp <;> omega) _).alloc (by simp <;> omega) _).alloc (by simp <;> omega) _) nq
  have hz00 : W0.heap.size = w.heap.size + 3 := by rw [hW0]; simp
  clear hW0
  go_wp2
  obtain ⟨W1, hW1⟩ : ∃ W1, W1 = ((((W0.setCell ⟨w.heap.size, 0, none⟩ (.bool yb)).setCell ⟨w.heap.size, 1, none⟩ (.slice yo ym yc)).setCell ⟨w.heap.size + 1, 0, none⟩ (.bool xb)).setCell ⟨w.heap.size + 1, 1, none⟩ (.slice xo xm xc)) := ⟨_, rfl⟩
  have hB0 : Below w.heap.size w W1 := by rw [hW1]; exact (((hb00.setCell (by simp <;> omega) _).setCell (by simp <;> omega) _).setCell (by simp <;> omega) _).setCell (by simp <;> omega) _
  have hz0 : W1.heap.size = w.heap.size + 3 := by rw [hW1]; simp [hz00]
  have HS : Hid (∀ w', Below (w.heap.size + 2) W1 w' → w'.cell? ⟨w.heap.size, 0, none⟩ = some (.bool yb) ∧ w'.cell? ⟨w.heap.size, 1, none⟩ = some (.slice yo ym yc) ∧ w'.cell? ⟨w.heap.size + 1, 0, none⟩ = some (.bool xb) ∧ w'.cell? ⟨w.heap.size + 1, 1, none⟩ = some (.slice xo xm xc)) := hid (fun w' hb => by
    refine ⟨?_, ?_, ?_, ?_⟩ <;> (first | (rw [hb.cell (by simp <;> omega), hW1]; simp [go_sem, *]; done) | (rw [hb.frozen (by simp <;> omega), hW1]; simp [go_sem, *]; done)))
  have HT : Hid (∀ w', Below (w.heap.size + 3) W1 w' → w'.cell? ⟨w.heap.size + 2, 0, none⟩ = some (.bool false) ∧ w'.cell? ⟨w.heap.size + 2, 1, none⟩ = some (.slice none 0 0) ∧ w'.frozen? ⟨w.heap.size + 2, 0, none⟩ = false ∧ w'.frozen? ⟨w.heap.size + 2, 1, none⟩ = false) := hid (fun w' hb => by
    refine ⟨?_, ?_, ?_, ?_⟩ <;> (first | (rw [hb.cell (by simp <;> omega), hW1]; simp [go_sem, *]; done) | (rw [hb.frozen (by simp <;> omega), hW1]; simp [go_sem, *]; done)))
  rw [← hW1]
  clear hW1 k0 k1 k2 k3 k4 k5 f0 f1 f2 f3 f4 f5
  go_region_held3 (fun w' => w'.cell? ⟨w.heap.size, 0, none⟩ = some (.bool yb) ∧ w'.cell? ⟨w.heap.size, 1, none⟩ = some (.slice yo ym yc) ∧ w'.cell? ⟨w.heap.size + 1, 0, none⟩ = some (.bool xb) ∧ w'.cell? ⟨w.heap.size + 1, 1, none⟩ = some (.slice xo xm xc)) ((refine HS.out _ ?_; first | assumption | exact Below.refl _ _ | exact (Below.refl _ _).drew | exact ((hB2.mono (Nat.le_succ _)).setCell (Nat.le_refl _) _).setCell (Nat.le_refl _) _)) (first
    | (go_at_call 82; refine (subtract_any _ _ _ _ Ky Kx _ (Hys.out _ hB0.drew) (Hxs.out _ hB0.drew) hKy (by have := Hc.out; omega)).mono ?_; rintro e w1 ⟨v1, rfl, hv1, hb1⟩; have hB1 : Below (w.heap.size + 3) W1 w1 := ((Below.refl _ _).drew).trans (hb1.mono (by simp; omega)); have hB1s := hB1.mono (Nat.le_succ _))
    | (go_at_call 50; refine (signed_any yb v1 _ _ _ hv1).mono ?_; rintro e w2 ⟨_, rfl, ⟨_, rfl, qo, qc, QL, rfl, hq⟩, hb2⟩; have hB2 : Below (w.heap.size + 3) W1 w2 := hB1.trans (hb2.mono (by have := hB1.size; omega)); have hB2s := hB2.mono (Nat.le_succ _); obtain ⟨hr0, hr1, hr2, hr3⟩ := HT.out _ hB2))
  go_wp2
  have hbel : Below w.heap.size w w2 := hB0.trans (hB2.mono (by omega))
  refine bodyPost_ret (v := .agg #[.bool (decide (sgn yb ((y.natAbs : Int) - (x.natAbs : Int)) < 0)), .slice qo QL.length qc]) (by simp [results, Try.results48, go_sem, hr0, hr1]) rfl ⟨_, rfl, ?_, (hbel.setCell (by simp <;> omega) _).setCell (by simp <;> omega) _⟩
  have e : sgn yb ((y.natAbs : Int) - (x.natAbs : Int)) = (x + y) := by rw [Hyb.out]; rw [Int.add_comm]; exact sgn_diff y x (Ne.symm Hs.out)
  have hfin : It w2 (.agg #[.bool (decide (sgn yb ((y.natAbs : Int) - (x.natAbs : Int)) < 0)), .slice qo QL.length qc]) (x + y) K := by
    rw [← e]; exact ⟨_, rfl, qo, qc, QL, rfl, hq.rd, hq.dig, hq.nrm, hq.eq, Nat.le_trans hq.le (by omega)⟩
  exact (hfin.set hr0 (fun x h => (by cases h)) _).set (u := .slice none 0 0) (by simp [go_sem, hr1]) (fun x h => (by cases h)) _

theorem plus_any (u v : Value) (x y : Int) (Kx Ky K : Nat) (w : World) (hu : It w u x Kx) (hv : It w v y Ky) (hKx : Kx ≤ 1073741824) (hKy : Ky ≤ 1073741824) (h1 : Kx < K) (h2 : Ky < K) :
    Calls Try.prog 48 #[u, v] w (RetI w (x + y) K) := by
  by_cases hs : decide (x < 0) = decide (y < 0)
  · exact plus_same u v x y Kx Ky K w hu hv hKx hKy h1 h2 hs
  · by_cases hc : y.natAbs ≤ x.natAbs
    · exact plus_keep u v x y Kx Ky K w hu hv hKx hKy h1 h2 hs hc
    · exact plus_swap u v x y Kx Ky K w hu hv hKx hKy h1 h2 hs (by omega)

end Go.Proofs.Ytbmdjimfncgomaa

/- exact.Sign, exact.Cmp. -/
namespace Go.Proofs.Ytbmdjimfncgomaa
open Go.RowKit

theorem Nt.zero {w : World} {ao : Option Addr} {m c : Nat} {n : Int} {K : Nat} (h : Nt w (.slice ao m c) n K) : m = 0 ↔ n = 0 := by
  obtain ⟨ao, c, L, e, h⟩ := h
  cases e
  exact h.zero_iff

set_option maxHeartbeats 1000000 in
theorem sign_any (v : Value) (z : Int) (K : Nat) (w : World) (h : It w v z K) :
    Calls Try.prog 63 #[v] w fun e w' => e = .returned (.int .i64 (cmpI z 0)) ∧ Below w.heap.size w w' := by
  obtain ⟨xb, xo, xm, xc, rfl, Hx, Hxs, Hxb⟩ := It.opened h
  have hz := (Hxs.out w (Below.refl _ _)).zero
  by_cases h0 : z = 0
  · obtain rfl : xm = 0 := hz.2 (by omega)
    have e : cmpI z 0 = 0 := by rw [h0]; rfl
    rw [e]
    clear hz h h0 e
    go_enter Try.func63, Try.ntmps63
    go_wp2
    go_ret
    exact ⟨rfl, (Below.refl _ _).alloc (Nat.le_refl _) _⟩
  · have hm : ((xm : Int) == 0) = false := by rw [beq_eq_false_iff_ne]; have := hz.1; omega
    by_cases h1 : z < 0
    · obtain rfl : xb = true := by rw [Hxb.out]; exact decide_eq_true h1
      rw [cmpI_lt h1]
      clear hz h h0 h1
      go_enter Try.func63, Try.ntmps63
      go_wp2
      go_ret
      exact ⟨rfl, (Below.refl _ _).alloc (Nat.le_refl _) _⟩
    · obtain rfl : xb = false := by rw [Hxb.out]; exact decide_eq_false h1
      rw [cmpI_gt (show 0 < z by omega)]
      clear hz h h0 h1
      go_enter Try.func63, Try.ntmps63
      go_wp2
      go_ret
      exact ⟨rfl, (Below.refl _ _).alloc (Nat.le_refl _) _⟩

set_option maxHeartbeats 1000000 in
theorem Sign_any (v : Value) (z : Int) (K : Nat) (w : World) (h : Ai w v z K) (hK : K ≤ 1073741824) :
    Calls Try.prog 21 #[v] w fun e w' => e = .returned (.int .i64 (cmpI z 0)) ∧ Below w.heap.size w w' := by
  obtain ⟨xb, xo, xm, xc, rfl, Hx⟩ := Ai.opened h
  go_enter Try.func21, Try.ntmps21
  go_wp2_with fail
  refine (read_any _ z K _ (Hx.out _ ((Below.refl _ _).alloc (Nat.le_refl _) _)) hK).mono ?_
  rintro e w1 ⟨v1, rfl, hv1, hb1⟩
  go_wp2_with fail
  refine (sign_any _ z _ _ hv1).mono ?_
  rintro e w2 ⟨rfl, hb2⟩
  go_wp2
  go_ret
  exact ⟨rfl, (((Below.refl w.heap.size w).alloc (Nat.le_refl _) _).trans (hb1.mono (by simp))).trans (hb2.mono (by have := hb1.size; simp at this; omega))⟩

set_option maxHeartbeats 1000000 in
/-- The closure that compares the sizes: the two integers lie in the blocks p and q. -/
theorem closure_any (p q : Nat) (xo yo : Option Addr) (xm xc ym yc : Nat) (a b : Int) (Ka Kb : Nat) (w : World)
    (hp1 : w.cell? ⟨p, 1, none⟩ = some (.slice xo xm xc)) (hq1 : w.cell? ⟨q, 1, none⟩ = some (.slice yo ym yc))
    (ha : Nt w (.slice xo xm xc) a Ka) (hb : Nt w (.slice yo ym yc) b Kb) :
    Calls Try.prog 65 #[.pointer (some ⟨p, 0, none⟩), .pointer (some ⟨q, 0, none⟩)] w fun e w' => ∃ nq, e = .returned (.int .i64 (cmpI a b)) ∧ w' = w.drewN nq := by
  have HC := hid (compare_any _ _ a b Ka Kb w ha hb)
  clear ha hb
  go_enter Try.func65, Try.ntmps65
  go_wp2_with fail
  refine HC.out.mono ?_
  rintro e w' ⟨nq, rfl, rfl⟩
  go_wp2
  go_ret
  exact ⟨nq, rfl, rfl⟩

set_option maxHeartbeats 1000000 in
theorem order_ne (a b : Int) (f : Value) (w : World) (hne : a ≠ b) :
    Calls Try.prog 64 #[.int .i64 a, .int .i64 b, f] w fun e w' => e = .returned (.int .i64 (cmpI a b)) ∧ w' = w := by
  have hb : ((a : Int) != b) = true := by rw [bne_iff_ne]; exact hne
  go_enter Try.func64, Try.ntmps64
  go_wp2_with (go_at_call 92; refine (cmpInt _ _ _).mono ?_; rintro e w' ⟨rfl, rfl⟩)
  go_ret
  exact ⟨rfl, rfl⟩

theorem cmpI_bd (a b : Int) : -1 ≤ cmpI a b ∧ cmpI a b ≤ 1 := by unfold cmpI; split <;> (try split) <;> decide

set_option maxHeartbeats 1000000 in
theorem order_eq (s : Int) (hs : -1 ≤ s ∧ s ≤ 1) (p q : Nat) (xo yo : Option Addr) (xm xc ym yc : Nat) (a b : Int) (Ka Kb : Nat) (w : World)
    (hp1 : w.cell? ⟨p, 1, none⟩ = some (.slice xo xm xc)) (hq1 : w.cell? ⟨q, 1, none⟩ = some (.slice yo ym yc))
    (ha : Nt w (.slice xo xm xc) a Ka) (hb : Nt w (.slice yo ym yc) b Kb) :
    Calls Try.prog 64 #[.int .i64 s, .int .i64 s, .func (.func 65) #[] #[.pointer (some ⟨p, 0, none⟩), .pointer (some ⟨q, 0, none⟩)]] w fun e w' => ∃ nq, e = .returned (.int .i64 (s * cmpI a b)) ∧ w' = w.drewN nq := by
  have HC := hid (closure_any p q xo yo xm xc ym yc a b Ka Kb w hp1 hq1 ha hb)
  have hc := cmpI_bd a b
  obtain ⟨c, hce⟩ : ∃ c, c = cmpI a b := ⟨_, rfl⟩
  rw [← hce] at hc HC ⊢
  clear ha hb hp1 hq1 hce
  rcases (show s = -1 ∨ s = 0 ∨ s = 1 by omega) with rfl | rfl | rfl
  all_goals
    clear hs
    go_enter Try.func64, Try.ntmps64
    go_wp2_with (go_at_call 65; refine HC.out.mono ?_; rintro e w' ⟨nq, rfl, rfl⟩)
    go_ret
    exact ⟨nq, by simp, rfl⟩

end Go.Proofs.Ytbmdjimfncgomaa

/- The document's own integers: made, Sign, Neg. -/
namespace Go.Proofs.Ytbmdjimfncgomaa
open Go.RowKit

/-- The value v reads in w as the document's integer z, of at most K digits. -/
def Zt (w : World) (v : Value) (z : Int) (K : Nat) : Prop := ∃ s, v = .agg #[.bool (decide (z < 0)), s] ∧ Md w s (z.natAbs : Int) K
def RetZ (w : World) (z : Int) (K : Nat) (e : Ending) (w' : World) : Prop := ∃ v, e = .returned v ∧ Zt w' v z K ∧ Below w.heap.size w w'
theorem Zt.below {w w' : World} {v : Value} {n : Int} {K B : Nat} (h : Zt w v n K) (hb : Below B w w') (hB : w.heap.size ≤ B) : Zt w' v n K := by
  obtain ⟨s, rfl, h⟩ := h; exact ⟨s, rfl, h.below hb hB⟩
theorem Zt.mono {w : World} {v : Value} {n : Int} {K K' : Nat} (h : Zt w v n K) (hk : K ≤ K') : Zt w v n K' := by
  obtain ⟨s, rfl, h⟩ := h; exact ⟨s, rfl, h.mono hk⟩
theorem Md.set {w : World} {s : Value} {n : Int} {K : Nat} (h : Md w s n K) {a : Addr} {u : Value} (hu : w.cell? a = some u) (hn : ∀ x, u ≠ .int .i64 x) (v : Value) : Md (w.setCell a v) s n K := by
  obtain ⟨ao, c, L, rfl, h⟩ := h; exact ⟨ao, c, L, rfl, h.rd.set hu hn v, h.dig, h.nrm, h.eq, h.le⟩
theorem Zt.set {w : World} {s : Value} {n : Int} {K : Nat} (h : Zt w s n K) {a : Addr} {u : Value} (hu : w.cell? a = some u) (hn : ∀ x, u ≠ .int .i64 x) (v : Value) : Zt (w.setCell a v) s n K := by
  obtain ⟨s, rfl, h⟩ := h; exact ⟨s, rfl, h.set hu hn v⟩
theorem MdL.zero_iff {w : World} {ao : Option Addr} {c : Nat} {L : List Int} {n : Int} {K : Nat} (h : MdL w ao c L n K) : L.length = 0 ↔ n = 0 := by
  constructor
  · intro hl; rw [← h.eq, List.eq_nil_of_length_eq_zero hl]; rfl
  · intro hn; rw [Nrm.eq_nil R16_pos h.dig h.nrm (by rw [h.eq, hn])]; rfl
theorem Zt.opened {w : World} {v : Value} {z : Int} {K : Nat} (h : Zt w v z K) : ∃ b ao m c, v = .agg #[.bool b, .slice ao m c] ∧ Hid (∀ w', Below w.heap.size w w' → Zt w' (.agg #[.bool b, .slice ao m c]) z K) ∧ Hid (∀ w', Below w.heap.size w w' → Md w' (.slice ao m c) (z.natAbs : Int) K) ∧ Hid (b = decide (z < 0)) := by
  obtain ⟨s, rfl, ao, c, L, rfl, h⟩ := h
  have hN : ∀ w', Below w.heap.size w w' → Md w' (.slice ao L.length c) (z.natAbs : Int) K := fun w' hb => ⟨ao, c, L, rfl, h.rd.below hb (Nat.le_refl _), h.dig, h.nrm, h.eq, h.le⟩
  exact ⟨_, ao, L.length, c, rfl, hid (fun w' hb => ⟨_, rfl, hN w' hb⟩), hid hN, hid rfl⟩
theorem Md.opened {w : World} {v : Value} {n : Int} {K : Nat} (h : Md w v n K) : ∃ ao m c, v = .slice ao m c ∧ Hid (∀ w', Below w.heap.size w w' → Md w' (.slice ao m c) n K) := by
  obtain ⟨ao, c, L, rfl, h⟩ := h
  exact ⟨ao, L.length, c, rfl, hid (fun w' hb => ⟨ao, c, L, rfl, h.rd.below hb (Nat.le_refl _), h.dig, h.nrm, h.eq, h.le⟩)⟩

/-- Digits, not cut: what reads as them. -/
def Dg (w : World) (v : Value) (n : Int) (K : Nat) : Prop := ∃ ao c L, v = .slice ao L.length c ∧ Rd w .i64 ao c L ∧ Dig R16 L ∧ val R16 L = n ∧ L.length ≤ K
theorem Md.dg {w : World} {v : Value} {n : Int} {K : Nat} (h : Md w v n K) : Dg w v n K := by
  obtain ⟨ao, c, L, rfl, h⟩ := h; exact ⟨ao, c, L, rfl, h.rd, h.dig, h.eq, h.le⟩
theorem Dg.below {w w' : World} {v : Value} {n : Int} {K B : Nat} (h : Dg w v n K) (hb : Below B w w') (hB : w.heap.size ≤ B) : Dg w' v n K := by
  obtain ⟨ao, c, L, rfl, hr, h⟩ := h; exact ⟨ao, c, L, rfl, hr.below hb hB, h⟩
theorem Dg.mono {w : World} {v : Value} {n : Int} {K K' : Nat} (h : Dg w v n K) (hk : K ≤ K') : Dg w v n K' := by
  obtain ⟨ao, c, L, rfl, hr, hd, hv, hl⟩ := h; exact ⟨ao, c, L, rfl, hr, hd, hv, Nat.le_trans hl hk⟩
theorem Dg.opened {w : World} {v : Value} {n : Int} {K : Nat} (h : Dg w v n K) : ∃ ao m c, v = .slice ao m c ∧ Hid (∀ w', Below w.heap.size w w' → Dg w' (.slice ao m c) n K) := by
  obtain ⟨ao, c, L, rfl, h⟩ := h
  exact ⟨ao, L.length, c, rfl, hid (fun w' hb => Dg.below ⟨ao, c, L, rfl, h⟩ hb (Nat.le_refl _))⟩

set_option maxRecDepth 100000 in
set_option maxHeartbeats 2000000 in
theorem made_any (below : Bool) (v : Value) (n : Int) (K : Nat) (w : World) (h : Dg w v n K) :
    Calls Try.prog 44 #[.bool below, v] w (RetZ w (sgn below n) K) := by
  obtain ⟨ao, c, L, rfl, hr, hd, hv, hl⟩ := h
  have h0 : 0 ≤ n := by rw [← hv]; exact val_nonneg R16_pos hd
  have hb0 : Below w.heap.size w (w.alloc (.cells #[.bool false, .slice none 0 0] 28)) := (Below.refl _ _).alloc (Nat.le_refl _) _
  have hc := cut_any ao c L _ (hr.below hb0 (Nat.le_refl _))
  have hfin : ∀ w', Below w.heap.size w w' → Zt w' (.agg #[.bool (below && decide ((0 : Int) < ((trimL L).length : Int))), .slice ao (trimL L).length c]) (sgn below n) K := fun w' hb => by
    have hM : MdL w' ao c (trimL L) n K := ⟨by rw [trimL_take L]; exact (hr.take _).below hb (Nat.le_refl _), hd.trim, Nrm.trim L, by rw [val_trim]; exact hv, Nat.le_trans (trimL_len L) hl⟩
    have hz := hM.zero_iff
    have e : decide ((0 : Int) < ((trimL L).length : Int)) = decide (0 < n) := by apply decide_eq_decide.2; constructor <;> intro hh <;> omega
    rw [e]
    exact ⟨_, by rw [sgn_lt below h0], by rw [sgn_abs below h0]; exact ⟨ao, c, trimL L, rfl, hM⟩⟩
  obtain ⟨m, hm⟩ : ∃ m, m = (trimL L).length := ⟨_, rfl⟩
  rw [← hm] at hc hfin
  have HC := hid hc; have HF := hid hfin
  clear hc hfin hm hr hd hv hl h0 hb0
  cases below with
  | false =>
    go_enter Try.func44, Try.ntmps44
    go_wp2_with (go_at_call 78; refine HC.out.mono ?_; rintro e w1 ⟨rfl, rfl⟩)
    refine bodyPost_ret (v := .agg #[.bool false, .slice ao m c]) (by simp [results, Try.results44, go_sem]) rfl ⟨_, rfl, ?_, (Below.refl _ _).alloc (Nat.le_refl _) _⟩
    exact HF.out _ ((Below.refl _ _).alloc (Nat.le_refl _) _)
  | true =>
    go_enter Try.func44, Try.ntmps44
    go_wp2_with (go_at_call 78; refine HC.out.mono ?_; rintro e w1 ⟨rfl, rfl⟩)
    refine bodyPost_ret (v := .agg #[.bool (decide ((0 : Int) < (m : Int))), .slice ao m c]) (by simp [results, Try.results44, go_sem]) rfl ⟨_, rfl, ?_, (Below.refl _ _).alloc (Nat.le_refl _) _⟩
    exact HF.out _ ((Below.refl _ _).alloc (Nat.le_refl _) _)

end Go.Proofs.Ytbmdjimfncgomaa
