/- exact.add, exact.subtract, exact.clone. exact.compare. -/
import Derived.Test.YtilpkocmdpofpaaGreatDoorSq02
/- exact.add, exact.subtract, exact.clone. -/
namespace Go.Proofs.YtilpkocmdpofpaaGreatDoor
open Go.RowKit

set_option maxRecDepth 100000 in
set_option maxHeartbeats 1000000 in
theorem add_ge (ao bo : Option Addr) (ca cb : Nat) (LA LB : List Int) (a b : Int) (Ka Kb : Nat) (w : World) (hA : NtL w ao ca LA a Ka) (hB : NtL w bo cb LB b Kb) (hk : Ka ≤ 1073741824) (hle : LB.length ≤ LA.length) :
    Calls Tryz.prog 133 #[.slice ao LA.length ca, .slice bo LB.length cb] w (RetN w (a + b) (Ka + 1)) := by
  obtain ⟨n, hn⟩ : ∃ n, n = LA.length := ⟨_, rfl⟩
  obtain ⟨m, hm⟩ : ∃ m, m = LB.length := ⟨_, rfl⟩
  have hn30 : n ≤ 1073741824 := by have := hA.le; omega
  have hmn : m ≤ n := by omega
  rw [← hn, ← hm]
  have HA := hid hA; have HB := hid hB; have Hn := hid hn; have Hm := hid hm
  clear hA hB hn hm hle
  obtain ⟨i0, hi, hz0, hz1, hz2⟩ := info_parts Tryz.info91
  go_enter Tryz.func133, Tryz.ntmps133
  go_wp2_with (at_make; refine wpList_make_row w rfl _ _ 82 rfl 91 i0 .u64 Tryz.underlying82 hi hz0 hz1 .i64 .i64 _ _ (n + 1) rfl rfl (by omega) (by omega) (by rw [hz2]; omega) (by unfold maxLen; omega) ?_)
  intro w1 hrow hg1
  have hg1b := grown_below hg1
  have HRA := hid ((HA.out.rd).below hg1b (Nat.le_refl _))
  go_wp2_with ((with_reducible refine wpList_copy_row rfl _ _ _ _ rfl 91 Tryz.underlying82 Tryz.size91 .u64 91 w.heap.size [] (List.replicate (n + 1) 0) [] LA 0 (n + 1) n (n + 1) ao ca rfl rfl rfl (by simp) Hn.out (by simpa using hrow) HRA.out (by have := Hn.out; simp; omega) ?_))
  intro w2 hrow2 hg2
  have HG := hid (HB.out.rd.ne (Nat.le_refl w.heap.size))
  have HRB := hid ((HB.out.rd.below hg1b (Nat.le_refl _)).keptNew hg2 HG.out)
  have hrow2' : Row .u64 91 w2 w.heap.size ([] ++ (LA ++ [0]) ++ []) := by
    have e : n + 1 - LA.length = 1 := by have := Hn.out; omega
    rw [e] at hrow2; simpa using hrow2
  have Hrow2 := hid hrow2'; have Hb := hid hg1b; have Hg2 := hid hg2
  clear hrow2 hrow2' hrow hg1 hg1b hg2
  have hdd : Dig B64 (LA ++ [0]) := HA.out.dig.append (Dig.cons (Int.le_refl 0) (by decide) (Dig.nil _))
  have hc := addTo_any w.heap.size [] (LA ++ [0]) [] LB (n + 1) cb bo w2 Hrow2.out hdd HB.out.dig (by have := Hn.out; simp; omega) (by omega) HRB.out (by have := Hn.out; have := Hm.out; simp; omega) HG.out
  rw [show ([] : List Int).length = 0 from rfl, show (LA ++ [(0 : Int)]).length = n + 1 from by rw [Hn.out]; simp, ← Hm.out] at hc
  have Hc := hid hc; clear hc hdd
  go_wp2_with (go_at_call 177; refine Hc.out.mono ?_; rintro e w3 ⟨A1, cc, rfl, HI⟩)
  rw [show n + 1 = (LA ++ [(0 : Int)]).length from by rw [Hn.out]; simp] at HI
  obtain ⟨hrow3, hd3, hv3, hl3⟩ := add_done HA.out.dig HB.out.dig (by have := Hn.out; have := Hm.out; omega) HI
  have hg3 := HI.gr
  have ht := trim64_any (some ⟨w.heap.size, 0, none⟩) (n + 1) A1 w3 (row_rd hrow3 (by have := Hn.out; omega) (by omega))
  rw [hl3, ← Hn.out] at ht
  have HT := hid ht
  have hres : Nt w3 (.slice (some ⟨w.heap.size, 0, none⟩) (trimL A1).length (n + 1)) (a + b) (Ka + 1) :=
    nt_row hrow3 hd3 (by rw [hv3, HA.out.eq, HB.out.eq]) (by have := Hn.out; omega) (by omega) (by have := HA.out.le; omega)
  have hbel : Below w.heap.size w w3 := (Hb.out.grown Hg2.out Hb.out.size (fun k e => by cases e; exact Nat.le_refl _)).grown hg3 (by have := Hb.out.size; have := Hg2.out.size; omega) (fun k e => by cases e; exact Nat.le_refl _)
  have Hres := hid hres; have Hbel := hid hbel
  clear ht hres hbel hrow3 hd3 hv3 hl3 hg3 HI
  refine HT.out.mono ?_
  rintro e w4 ⟨rfl, rfl⟩
  go_wp2
  go_ret
  exact ⟨_, rfl, Hres.out, Hbel.out⟩

set_option maxRecDepth 100000 in
set_option maxHeartbeats 1000000 in
theorem add_lt (ao bo : Option Addr) (ca cb : Nat) (LA LB : List Int) (a b : Int) (Ka Kb : Nat) (w : World) (hA : NtL w ao ca LA a Ka) (hB : NtL w bo cb LB b Kb) (hk : Ka ≤ 1073741824) (hle : LB.length < LA.length) :
    Calls Tryz.prog 133 #[.slice bo LB.length cb, .slice ao LA.length ca] w (RetN w (a + b) (Ka + 1)) := by
  obtain ⟨n, hn⟩ : ∃ n, n = LA.length := ⟨_, rfl⟩
  obtain ⟨m, hm⟩ : ∃ m, m = LB.length := ⟨_, rfl⟩
  have hn30 : n ≤ 1073741824 := by have := hA.le; omega
  have hmn : m < n := by omega
  rw [← hn, ← hm]
  have HA := hid hA; have HB := hid hB; have Hn := hid hn; have Hm := hid hm
  clear hA hB hn hm hle
  obtain ⟨i0, hi, hz0, hz1, hz2⟩ := info_parts Tryz.info91
  have hmn' : m ≤ n := by omega
  go_enter Tryz.func133, Tryz.ntmps133
  go_wp2_with (at_make; refine wpList_make_row w rfl _ _ 82 rfl 91 i0 .u64 Tryz.underlying82 hi hz0 hz1 .i64 .i64 _ _ (n + 1) rfl rfl (by omega) (by omega) (by rw [hz2]; omega) (by unfold maxLen; omega) ?_)
  intro w1 hrow hg1
  have hg1b := grown_below hg1
  have HRA := hid ((HA.out.rd).below hg1b (Nat.le_refl _))
  go_wp2_with ((with_reducible refine wpList_copy_row rfl _ _ _ _ rfl 91 Tryz.underlying82 Tryz.size91 .u64 91 w.heap.size [] (List.replicate (n + 1) 0) [] LA 0 (n + 1) n (n + 1) ao ca rfl rfl rfl (by simp) Hn.out (by simpa using hrow) HRA.out (by have := Hn.out; simp; omega) ?_))
  intro w2 hrow2 hg2
  have HG := hid (HB.out.rd.ne (Nat.le_refl w.heap.size))
  have HRB := hid ((HB.out.rd.below hg1b (Nat.le_refl _)).keptNew hg2 HG.out)
  have hrow2' : Row .u64 91 w2 w.heap.size ([] ++ (LA ++ [0]) ++ []) := by
    have e : n + 1 - LA.length = 1 := by have := Hn.out; omega
    rw [e] at hrow2; simpa using hrow2
  have Hrow2 := hid hrow2'; have Hb := hid hg1b; have Hg2 := hid hg2
  clear hrow2 hrow2' hrow hg1 hg1b hg2
  have hdd : Dig B64 (LA ++ [0]) := HA.out.dig.append (Dig.cons (Int.le_refl 0) (by decide) (Dig.nil _))
  have hc := addTo_any w.heap.size [] (LA ++ [0]) [] LB (n + 1) cb bo w2 Hrow2.out hdd HB.out.dig (by have := Hn.out; simp; omega) (by omega) HRB.out (by have := Hn.out; have := Hm.out; simp; omega) HG.out
  rw [show ([] : List Int).length = 0 from rfl, show (LA ++ [(0 : Int)]).length = n + 1 from by rw [Hn.out]; simp, ← Hm.out] at hc
  have Hc := hid hc; clear hc hdd
  go_wp2_with (go_at_call 177; refine Hc.out.mono ?_; rintro e w3 ⟨A1, cc, rfl, HI⟩)
  rw [show n + 1 = (LA ++ [(0 : Int)]).length from by rw [Hn.out]; simp] at HI
  obtain ⟨hrow3, hd3, hv3, hl3⟩ := add_done HA.out.dig HB.out.dig (by have := Hn.out; have := Hm.out; omega) HI
  have hg3 := HI.gr
  have ht := trim64_any (some ⟨w.heap.size, 0, none⟩) (n + 1) A1 w3 (row_rd hrow3 (by have := Hn.out; omega) (by omega))
  rw [hl3, ← Hn.out] at ht
  have HT := hid ht
  have hres : Nt w3 (.slice (some ⟨w.heap.size, 0, none⟩) (trimL A1).length (n + 1)) (a + b) (Ka + 1) :=
    nt_row hrow3 hd3 (by rw [hv3, HA.out.eq, HB.out.eq]) (by have := Hn.out; omega) (by omega) (by have := HA.out.le; omega)
  have hbel : Below w.heap.size w w3 := (Hb.out.grown Hg2.out Hb.out.size (fun k e => by cases e; exact Nat.le_refl _)).grown hg3 (by have := Hb.out.size; have := Hg2.out.size; omega) (fun k e => by cases e; exact Nat.le_refl _)
  have Hres := hid hres; have Hbel := hid hbel
  clear ht hres hbel hrow3 hd3 hv3 hl3 hg3 HI
  refine HT.out.mono ?_
  rintro e w4 ⟨rfl, rfl⟩
  go_wp2
  go_ret
  exact ⟨_, rfl, Hres.out, Hbel.out⟩

theorem add_any (va vb : Value) (a b : Int) (Ka Kb K : Nat) (w : World) (hA : Nt w va a Ka) (hB : Nt w vb b Kb) (h1 : Ka ≤ 1073741824) (h2 : Kb ≤ 1073741824) (hK : Ka < K) (hK' : Kb < K) :
    Calls Tryz.prog 133 #[va, vb] w (RetN w (a + b) K) := by
  obtain ⟨ao, ca, LA, rfl, hA⟩ := hA
  obtain ⟨bo, cb, LB, rfl, hB⟩ := hB
  by_cases h : LB.length ≤ LA.length
  · refine (add_ge ao bo ca cb LA LB a b Ka Kb w hA hB h1 h).mono ?_
    rintro e w' ⟨v, rfl, hv, hb⟩
    exact ⟨v, rfl, hv.mono hK, hb⟩
  · refine (add_lt bo ao cb ca LB LA b a Kb Ka w hB hA h2 (by omega)).mono ?_
    rintro e w' ⟨v, rfl, hv, hb⟩
    exact ⟨v, rfl, by rw [Int.add_comm]; exact hv.mono hK', hb⟩

theorem sub_done {w wr : World} {g : Nat} {LA LB A1 : List Int} {cc : Int} (hle : val B64 LB ≤ val B64 LA)
    (h : SubI w wr g [] LA [] LA.length (val B64 LB) A1 cc) : Row .u64 91 wr g A1 ∧ Dig B64 A1 ∧ val B64 A1 = val B64 LA - val B64 LB ∧ A1.length = LA.length := by
  have e := h.eq
  have h1 := val_lt B64_pos h.dig
  rw [h.len] at h1
  have hcc : cc = 0 := by
    rcases (show cc = 0 ∨ cc = 1 by have := h.c0; have := h.c1; omega) with h | h
    · exact h
    · subst h; omega
  subst hcc
  exact ⟨by simpa using h.row, h.dig, by simpa using e, h.len⟩

set_option maxRecDepth 100000 in
set_option maxHeartbeats 1000000 in
theorem subtract_le (ao bo : Option Addr) (ca cb : Nat) (LA LB : List Int) (a b : Int) (Ka Kb : Nat) (w : World) (hA : NtL w ao ca LA a Ka) (hB : NtL w bo cb LB b Kb) (hk : Ka ≤ 1073741824) (hle : LB.length ≤ LA.length) (hba : b ≤ a) :
    Calls Tryz.prog 134 #[.slice ao LA.length ca, .slice bo LB.length cb] w (RetN w (a - b) Ka) := by
  obtain ⟨n, hn⟩ : ∃ n, n = LA.length := ⟨_, rfl⟩
  obtain ⟨m, hm⟩ : ∃ m, m = LB.length := ⟨_, rfl⟩
  have hn30 : n ≤ 1073741824 := by have := hA.le; omega
  have hmn : m ≤ n := by omega
  rw [← hn, ← hm]
  have HA := hid hA; have HB := hid hB; have Hn := hid hn; have Hm := hid hm
  clear hA hB hn hm hle
  obtain ⟨i0, hi, hz0, hz1, hz2⟩ := info_parts Tryz.info91
  go_enter Tryz.func134, Tryz.ntmps134
  go_wp2_with (at_make; refine wpList_make_row w rfl _ _ 82 rfl 91 i0 .u64 Tryz.underlying82 hi hz0 hz1 .i64 .i64 _ _ n rfl rfl (by omega) (by omega) (by rw [hz2]; omega) (by unfold maxLen; omega) ?_)
  intro w1 hrow hg1
  have hg1b := grown_below hg1
  have HRA := hid ((HA.out.rd).below hg1b (Nat.le_refl _))
  go_wp2_with ((with_reducible refine wpList_copy_row rfl _ _ _ _ rfl 91 Tryz.underlying82 Tryz.size91 .u64 91 w.heap.size [] (List.replicate n 0) [] LA 0 n n n ao ca rfl rfl rfl (by simp) Hn.out (by simpa using hrow) HRA.out (by have := Hn.out; simp; omega) ?_))
  intro w2 hrow2 hg2
  have HG := hid (HB.out.rd.ne (Nat.le_refl w.heap.size))
  have HRB := hid ((HB.out.rd.below hg1b (Nat.le_refl _)).keptNew hg2 HG.out)
  have hrow2' : Row .u64 91 w2 w.heap.size ([] ++ (LA) ++ []) := by
    have e : n - LA.length = 0 := by have := Hn.out; omega
    rw [e] at hrow2; simpa using hrow2
  have Hrow2 := hid hrow2'; have Hb := hid hg1b; have Hg2 := hid hg2
  clear hrow2 hrow2' hrow hg1 hg1b hg2
  have hdd : Dig B64 LA := HA.out.dig
  have hc := subFrom_any w.heap.size [] (LA) [] LB n cb bo w2 Hrow2.out hdd HB.out.dig (by have := Hn.out; simp; omega) (by omega) HRB.out (by have := Hn.out; have := Hm.out; simp; omega) HG.out
  rw [show ([] : List Int).length = 0 from rfl, ← Hn.out, ← Hm.out] at hc
  have Hc := hid hc; clear hc hdd
  go_wp2_with (go_at_call 178; refine Hc.out.mono ?_; rintro e w3 ⟨A1, cc, rfl, HI⟩)
  rw [Hn.out] at HI
  obtain ⟨hrow3, hd3, hv3, hl3⟩ := sub_done (by rw [HA.out.eq, HB.out.eq]; exact hba) HI
  have hg3 := HI.gr
  have ht := trim64_any (some ⟨w.heap.size, 0, none⟩) n A1 w3 (row_rd hrow3 (by have := Hn.out; omega) (by omega))
  rw [hl3, ← Hn.out] at ht
  have HT := hid ht
  have hres : Nt w3 (.slice (some ⟨w.heap.size, 0, none⟩) (trimL A1).length n) (a - b) Ka :=
    nt_row hrow3 hd3 (by rw [hv3, HA.out.eq, HB.out.eq]) (by have := Hn.out; omega) (by omega) (by have := HA.out.le; omega)
  have hbel : Below w.heap.size w w3 := (Hb.out.grown Hg2.out Hb.out.size (fun k e => by cases e; exact Nat.le_refl _)).grown hg3 (by have := Hb.out.size; have := Hg2.out.size; omega) (fun k e => by cases e; exact Nat.le_refl _)
  have Hres := hid hres; have Hbel := hid hbel
  clear ht hres hbel hrow3 hd3 hv3 hl3 hg3 HI
  refine HT.out.mono ?_
  rintro e w4 ⟨rfl, rfl⟩
  go_wp2
  go_ret
  exact ⟨_, rfl, Hres.out, Hbel.out⟩

theorem len_of_le {LA LB : List Int} (hA : Dig B64 LA) (hB : Dig B64 LB) (nB : Nrm LB) (h : val B64 LB ≤ val B64 LA) : LB.length ≤ LA.length := by
  by_cases hl : LB.length ≤ LA.length
  · exact hl
  · exfalso
    have h1 := val_lt B64_pos hA
    have h2 := Nrm.low B64_pos hB nB (by omega)
    have h3 := pow_mono B64_pos (show LA.length ≤ LB.length - 1 by omega)
    omega

theorem subtract_any (va vb : Value) (a b : Int) (Ka Kb : Nat) (w : World) (hA : Nt w va a Ka) (hB : Nt w vb b Kb) (h1 : Ka ≤ 1073741824) (hba : b ≤ a) :
    Calls Tryz.prog 134 #[va, vb] w (RetN w (a - b) Ka) := by
  obtain ⟨ao, ca, LA, rfl, hA⟩ := hA
  obtain ⟨bo, cb, LB, rfl, hB⟩ := hB
  exact subtract_le ao bo ca cb LA LB a b Ka Kb w hA hB h1 (len_of_le hA.dig hB.dig hB.nrm (by rw [hA.eq, hB.eq]; exact hba)) hba

set_option maxRecDepth 100000 in
set_option maxHeartbeats 1000000 in
theorem clone_any (ao : Option Addr) (ca : Nat) (LA : List Int) (a : Int) (Ka : Nat) (w : World) (hA : NtL w ao ca LA a Ka) (hk : Ka ≤ 1073741824) :
    Calls Tryz.prog 169 #[.slice ao LA.length ca] w fun e w' => e = .returned (.slice (some ⟨w.heap.size, 0, none⟩) LA.length LA.length) ∧ Row .u64 91 w' w.heap.size LA ∧ Below w.heap.size w w' := by
  obtain ⟨n, hn⟩ : ∃ n, n = LA.length := ⟨_, rfl⟩
  have hn30 : n ≤ 1073741824 := by have := hA.le; omega
  rw [← hn]
  have HA := hid hA; have Hn := hid hn
  clear hA hn
  obtain ⟨i0, hi, hz0, hz1, hz2⟩ := info_parts Tryz.info91
  go_enter Tryz.func169, Tryz.ntmps169
  go_wp2_with (at_make; refine wpList_make_row w rfl _ _ 82 rfl 91 i0 .u64 Tryz.underlying82 hi hz0 hz1 .i64 .i64 _ _ n rfl rfl (by omega) (by omega) (by rw [hz2]; omega) (by unfold maxLen; omega) ?_)
  intro w1 hrow hg1
  have hg1b := grown_below hg1
  have HRA := hid ((HA.out.rd).below hg1b (Nat.le_refl _))
  go_wp2_with ((with_reducible refine wpList_copy_row rfl _ _ _ _ rfl 91 Tryz.underlying82 Tryz.size91 .u64 91 w.heap.size [] (List.replicate n 0) [] LA 0 n n n ao ca rfl rfl rfl (by simp) Hn.out (by simpa using hrow) HRA.out (by have := Hn.out; simp; omega) ?_))
  intro w2 hrow2 hg2
  have hrow2' : Row .u64 91 w2 w.heap.size LA := by
    have e : n - LA.length = 0 := by have := Hn.out; omega
    rw [e] at hrow2; simpa using hrow2
  have Hrow2 := hid hrow2'; have Hb := hid (hg1b.grown hg2 hg1b.size (fun k e => by cases e; exact Nat.le_refl _))
  clear hrow2 hrow2' hrow hg1 hg1b hg2
  go_wp2
  go_ret
  exact ⟨rfl, Hrow2.out, Hb.out⟩

end Go.Proofs.YtilpkocmdpofpaaGreatDoor

/- exact.compare. -/
namespace Go.Proofs.YtilpkocmdpofpaaGreatDoor
open Go.RowKit

theorem val_take_drop (B : Int) (l : List Int) (k : Nat) (hk : k ≤ l.length) : val B l = val B (l.take k) + B ^ k * val B (l.drop k) := by
  have h := val_append B (l.take k) (l.drop k)
  rw [List.take_append_drop, List.length_take, Nat.min_eq_left hk] at h
  exact h

/-- The highest digit that differs decides. -/
theorem cmp_top {B : Int} (hB : 0 < B) {l m : List Int} {k : Nat} (hl : Dig B l) (hm : Dig B m) (hkl : k < l.length) (hkm : k < m.length) (he : l.drop (k + 1) = m.drop (k + 1)) (hne : l[k]?.getD 0 ≠ m[k]?.getD 0) :
    cmpI (val B l) (val B m) = cmpI (l[k]?.getD 0) (m[k]?.getD 0) := by
  rw [val_take_drop B l (k + 1) hkl, val_take_drop B m (k + 1) hkm, he, take_succ_getD l k hkl, take_succ_getD m k hkm, val_snoc, val_snoc, List.length_take, List.length_take, Nat.min_eq_left (Nat.le_of_lt hkl), Nat.min_eq_left (Nat.le_of_lt hkm)]
  have h1 := val_lt hB (hl.take k); have h2 := val_lt hB (hm.take k)
  have h3 := val_nonneg hB (hl.take k); have h4 := val_nonneg hB (hm.take k)
  rw [List.length_take, Nat.min_eq_left (Nat.le_of_lt hkl)] at h1
  rw [List.length_take, Nat.min_eq_left (Nat.le_of_lt hkm)] at h2
  have hp : 0 < B ^ k := Int.pow_pos hB
  generalize l[k]?.getD 0 = x at *
  generalize m[k]?.getD 0 = y at *
  generalize B ^ k = p at *
  rcases Int.lt_trichotomy x y with h | h | h
  · have := Int.mul_le_mul_of_nonneg_left (show x + 1 ≤ y by omega) (Int.le_of_lt hp)
    rw [Int.mul_add] at this
    rw [cmpI_lt h, cmpI_lt (by omega)]
  · exact absurd h hne
  · have := Int.mul_le_mul_of_nonneg_left (show y + 1 ≤ x by omega) (Int.le_of_lt hp)
    rw [Int.mul_add] at this
    rw [cmpI_gt h, cmpI_gt (by omega)]

theorem cmp_len {B : Int} (hB : 0 < B) {l m : List Int} (hl : Dig B l) (hm : Dig B m) (nl : Nrm l) (nm : Nrm m) (hne : l.length ≠ m.length) : cmpI (val B l) (val B m) = cmpI l.length m.length := by
  rcases Nat.lt_or_gt_of_ne hne with h | h
  · have h1 := val_lt hB hl
    have h2 := Nrm.low hB hm nm (by omega)
    have h3 := pow_mono hB (show l.length ≤ m.length - 1 by omega)
    rw [cmpI_lt (by omega), cmpI_lt (by omega)]
  · have h1 := val_lt hB hm
    have h2 := Nrm.low hB hl nl (by omega)
    have h3 := pow_mono hB (show m.length ≤ l.length - 1 by omega)
    rw [cmpI_gt (by omega), cmpI_gt (by omega)]

theorem drop_step (l m : List Int) (k : Nat) (hl : k < l.length) (hm : k < m.length) (he : l.drop (k + 1) = m.drop (k + 1)) (h : l[k]?.getD 0 = m[k]?.getD 0) : l.drop k = m.drop k := by
  rw [List.drop_eq_getElem_cons hl, List.drop_eq_getElem_cons hm, he]
  have e1 : l[k]?.getD 0 = l[k] := by simp [hl]
  have e2 : m[k]?.getD 0 = m[k] := by simp [hm]
  rw [← e1, ← e2, h]

set_option maxRecDepth 100000 in
set_option maxHeartbeats 1000000 in
theorem compare_any (va vb : Value) (a b : Int) (Ka Kb : Nat) (w : World) (hA : Nt w va a Ka) (hB : Nt w vb b Kb) :
    Calls Tryz.prog 96 #[va, vb] w fun e w' => ∃ nq, e = .returned (.int .i64 (cmpI a b)) ∧ w' = w.drewN nq := by
  obtain ⟨ao, ca, LA, rfl, hA⟩ := hA
  obtain ⟨bo, cb, LB, rfl, hB⟩ := hB
  obtain ⟨n, hn⟩ : ∃ n, n = LA.length := ⟨_, rfl⟩
  obtain ⟨m, hm⟩ : ∃ m, m = LB.length := ⟨_, rfl⟩
  have hn63 : n ≤ 9223372036854775807 := by have := hA.rd.cap; have := hA.rd.most; omega
  have hm63 : m ≤ 9223372036854775807 := by have := hB.rd.cap; have := hB.rd.most; omega
  have hcmp : n ≠ m → cmpI a b = cmpI n m := fun h => by rw [← hA.eq, ← hB.eq, hn, hm]; exact cmp_len B64_pos hA.dig hB.dig hA.nrm hB.nrm (by omega)
  rw [← hn, ← hm]
  have HA := hid hA; have HB := hid hB; have Hn := hid hn; have Hm := hid hm; have Hcmp := hid hcmp
  clear hA hB hn hm hcmp
  by_cases hne : n = m
  · subst hne
    go_enter Tryz.func96, Tryz.ntmps96
    go_wp2
    go_loopw [5] (fun iv wr => ∃ k : Nat, ∃ nq, k ≤ n ∧ iv = .int .i64 ((k : Int) - 1) ∧ Hid (LA.drop k = LB.drop k) ∧ Hid (wr = w.drewN nq)) (fun iv _ => (intOf iv + 1).toNat)
    case atStart => exact ⟨n, 0, Nat.le_refl _, rfl, hid (by rw [List.drop_of_length_le (by have := Hn.out; omega), List.drop_of_length_le (by have := Hm.out; omega)]), hid rfl⟩
    case round =>
      obtain ⟨k, nq, hk, rfl, HD, HW⟩ := hrel
      cases k with
      | zero =>
        have hab : a = b := by
          have h := HD.out
          simp only [List.drop_zero] at h
          rw [← HA.out.eq, ← HB.out.eq, h]
        have he : cmpI a b = 0 := by rw [hab]; exact cmpI_self b
        have HE := hid he; clear he hab
        go_wp2
        go_ret
        exact ⟨nq, by rw [HE.out]; rfl, HW.out⟩
      | succ k =>
        have hkn : k < n := by omega
        obtain ⟨b1, o1, rfl⟩ := HA.out.rd.adr (by have := Hn.out; omega)
        obtain ⟨b2, o2, rfl⟩ := HB.out.rd.adr (by have := Hm.out; omega)
        have h1 : wr.cell? ⟨b1, o1 + k, none⟩ = some (.int .u64 (LA[k]?.getD 0)) := by rw [HW.out, cell_drewN]; exact HA.out.rd.cell b1 o1 rfl k (by have := Hn.out; omega)
        have h2 : wr.cell? ⟨b2, o2 + k, none⟩ = some (.int .u64 (LB[k]?.getD 0)) := by rw [HW.out, cell_drewN]; exact HB.out.rd.cell b2 o2 rfl k (by have := Hm.out; omega)
        have d1 := HA.out.dig.at B64_pos k
        have d2 := HB.out.dig.at B64_pos k
        obtain ⟨x, hx⟩ : ∃ x, x = LA[k]?.getD 0 := ⟨_, rfl⟩
        obtain ⟨y, hy⟩ : ∃ y, y = LB[k]?.getD 0 := ⟨_, rfl⟩
        rw [← hx] at h1 d1; rw [← hy] at h2 d2
        have hk0 : (0 : Int) ≤ (k : Int) := by omega
        have hk1 : (k : Int) < (n : Int) := by omega
        by_cases hxy : x = y
        · have hd := drop_step LA LB k (by have := Hn.out; omega) (by have := Hm.out; omega) HD.out (by rw [← hx, ← hy, hxy])
          have HD' := hid hd
          subst hxy
          clear hd hx hy HD
          go_wp2
          go_quiet (fail)
          go_wp2
          go_roundw
          case rel => exact ⟨k, _, by omega, by go_num, HD', hid (by rw [HW.out, World.drewN_drewN])⟩
          case measure => simp [intOf]
        · have hc := cmp_top B64_pos HA.out.dig HB.out.dig (show k < LA.length by have := Hn.out; omega) (show k < LB.length by have := Hm.out; omega) HD.out (by rw [← hx, ← hy]; exact hxy)
          rw [HA.out.eq, HB.out.eq, ← hx, ← hy] at hc
          have HC := hid hc
          clear hc hx hy HD
          have hb : ((x : Int) != y) = true := by rw [bne_iff_ne]; exact hxy
          go_wp2
          go_quiet (fail)
          go_wp2
          go_quiet ((go_at_call 142; exact quietMore (cmpU64' _ _ _)))
          go_wp2
          go_ret
          exact ⟨_, by rw [HC.out]; rfl, by rw [HW.out, World.drewN_drewN, World.drewN_drewN]⟩
  · have HC := hid (Hcmp.out hne)
    have hb : ((n : Int) != (m : Int)) = true := by rw [bne_iff_ne]; omega
    go_enter Tryz.func96, Tryz.ntmps96
    go_wp2_with (go_at_call 141; refine (cmpInt _ _ _).mono ?_; rintro e w' ⟨rfl, rfl⟩)
    go_ret
    exact ⟨0, by rw [HC.out]; rfl, rfl⟩

end Go.Proofs.YtilpkocmdpofpaaGreatDoor
