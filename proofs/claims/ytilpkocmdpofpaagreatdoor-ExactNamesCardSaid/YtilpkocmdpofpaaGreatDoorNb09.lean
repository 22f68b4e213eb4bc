/- exact.add, exact.subtract, exact.clone. exact.bitLength, root. exact.root: its walk. -/
import Derived.Test.YtilpkocmdpofpaaGreatDoorNb03
import Derived.Test.YtilpkocmdpofpaaGreatDoorNb08
import Derived.Test.YtilpkocmdpofpaaGreatDoorNb06
/- exact.add, exact.subtract, exact.clone. -/
namespace Go.Proofs.YtilpkocmdpofpaaGreatDoor
open Go.RowKit

set_option maxRecDepth 100000 in
set_option maxHeartbeats 1000000 in
theorem add_ge (ao bo : Option Addr) (ca cb : Nat) (LA LB : List Int) (a b : Int) (Ka Kb : Nat) (w : World) (hA : NtL w ao ca LA a Ka) (hB : NtL w bo cb LB b Kb) (hk : Ka ≤ 1073741824) (hle : LB.length ≤ LA.length) :
    Calls Tryz.prog 133 #[.slice ao LA.length ca, .slice bo LB.length cb] w (RetN w (a + b) (Ka + 1)) := by
  obtain ⟨n, hn⟩ : ∃ n, n = LA.length := ⟨_, rfl⟩
  obtain ⟨m, hm⟩ : ∃ m, m = LB.length := ⟨_, rfl⟩
  have hn30 : n ≤ 1073741824 := by have := hA.le; omega
  have hmn : m ≤ n := by omega
  rw [← hn, ← hm]
  have HA := hid hA; have HB := hid hB; have Hn := hid hn; have Hm := hid hm
  clear hA hB hn hm hle
  obtain ⟨i0, hi, hz0, hz1, hz2⟩ := info_parts Tryz.info91
  go_enter Tryz.func133, Tryz.ntmps133
  go_wp2_with (at_make; refine wpList_make_row w rfl _ _ 82 rfl 91 i0 .u64 Tryz.underlying82 hi hz0 hz1 .i64 .i64 _ _ (n + 1) rfl rfl (by omega) (by omega) (by rw [hz2]; omega) (by unfold maxLen; omega) ?_)
  intro w1 hrow hg1
  have hg1b := grown_below hg1
  have HRA := hid ((HA.out.rd).below hg1b (Nat.le_refl _))
  go_wp2_with ((with_reducible refine wpList_copy_row rfl _ _ _ _ rfl 91 Tryz.underlying82 Tryz.size91 .u64 91 w.heap.size [] (List.replicate (n + 1) 0) [] LA 0 (n + 1) n (n + 1) ao ca rfl rfl rfl (by simp) Hn.out (by simpa using hrow) HRA.out (by have := Hn.out; simp; omega) ?_))
  intro w2 hrow2 hg2
  have HG := hid (HB.out.rd.ne (Nat.le_refl w.heap.size))
  have HRB := hid ((HB.out.rd.below hg1b (Nat.le_refl _)).keptNew hg2 HG.out)
  have hrow2' : Row .u64 91 w2 w.heap.size ([] ++ (LA ++ [0]) ++ []) := by
    have e : n + 1 - LA.length = 1 := by have := Hn.out; omega
    rw [e] at hrow2; simpa using hrow2
  have Hrow2 := hid hrow2'; have Hb := hid hg1b; have Hg2 := hid hg2
  clear hrow2 hrow2' hrow hg1 hg1b hg2
  have hdd : Dig B64 (LA ++ [0]) := HA.out.dig.append (Dig.cons (Int.le_refl 0) (by decide) (Dig.nil _))
  have hc := addTo_any w.heap.size [] (LA ++ [0]) [] LB (n + 1) cb bo w2 Hrow2.out hdd HB.out.dig (by have := Hn.out; simp; omega) (by omega) HRB.out (by have := Hn.out; have := Hm.out; simp; omega) HG.out
  rw [show ([] : List Int).length = 0 from rfl, show (LA ++ [(0 : Int)]).length = n + 1 from by rw [Hn.out]; simp, ← Hm.out] at hc
  have Hc := hid hc; clear hc hdd
  go_wp2_with (go_at_call 177; refine Hc.out.mono ?_; rintro e w3 ⟨A1, cc, rfl, HI⟩)
  rw [show n + 1 = (LA ++ [(0 : Int)]).length from by rw [Hn.out]; simp] at HI
  obtain ⟨hrow3, hd3, hv3, hl3⟩ := add_done HA.out.dig HB.out.dig (by have := Hn.out; have := Hm.out; omega) HI
  have hg3 := HI.gr
  have ht := trim64_any (some ⟨w.heap.size, 0, none⟩) (n + 1) A1 w3 (row_rd hrow3 (by have := Hn.out; omega) (by omega))
  rw [hl3, ← Hn.out] at ht
  have HT := hid ht
  have hres : Nt w3 (.slice (some ⟨w.heap.size, 0, none⟩) (trimL A1).length (n + 1)) (a + b) (Ka + 1) :=
    nt_row hrow3 hd3 (by rw [hv3, HA.out.eq, HB.out.eq]) (by have := Hn.out; omega) (by omega) (by have := HA.out.le; omega)
  have hbel : Below w.heap.size w w3 := (Hb.out.grown Hg2.out Hb.out.size (fun k e => by cases e; exact Nat.le_refl _)).grown hg3 (by have := Hb.out.size; have := Hg2.out.size; omega) (fun k e => by cases e; exact Nat.le_refl _)
  have Hres := hid hres; have Hbel := hid hbel
  clear ht hres hbel hrow3 hd3 hv3 hl3 hg3 HI
  refine HT.out.mono ?_
  rintro e w4 ⟨rfl, rfl⟩
  go_wp2
  go_ret
  exact ⟨_, rfl, Hres.out, Hbel.out⟩

set_option maxRecDepth 100000 in
set_option maxHeartbeats 1000000 in
theorem add_lt (ao bo : Option Addr) (ca cb : Nat) (LA LB : List Int) (a b : Int) (Ka Kb : Nat) (w : World) (hA : NtL w ao ca LA a Ka) (hB : NtL w bo cb LB b Kb) (hk : Ka ≤ 1073741824) (hle : LB.length < LA.length) :
    Calls Tryz.prog 133 #[.slice bo LB.length cb, .slice ao LA.length ca] w (RetN w (a + b) (Ka + 1)) := by
  obtain ⟨n, hn⟩ : ∃ n, n = LA.length := ⟨_, rfl⟩
  obtain ⟨m, hm⟩ : ∃ m, m = LB.length := ⟨_, rfl⟩
  have hn30 : n ≤ 1073741824 := by have := hA.le; omega
  have hmn : m < n := by omega
  rw [← hn, ← hm]
  have HA := hid hA; have HB := hid hB; have Hn := hid hn; have Hm := hid hm
  clear hA hB hn hm hle
  obtain ⟨i0, hi, hz0, hz1, hz2⟩ := info_parts Tryz.info91
  have hmn' : m ≤ n := by omega
  go_enter Tryz.func133, Tryz.ntmps133
  go_wp2_with (at_make; refine wpList_make_row w rfl _ _ 82 rfl 91 i0 .u64 Tryz.underlying82 hi hz0 hz1 .i64 .i64 _ _ (n + 1) rfl rfl (by omega) (by omega) (by rw [hz2]; omega) (by unfold maxLen; omega) ?_)
  intro w1 hrow hg1
  have hg1b := grown_below hg1
  have HRA := hid ((HA.out.rd).below hg1b (Nat.le_refl _))
  go_wp2_with ((with_reducible refine wpList_copy_row rfl _ _ _ _ rfl 91 Tryz.underlying82 Tryz.size91 .u64 91 w.heap.size [] (List.replicate (n + 1) 0) [] LA 0 (n + 1) n (n + 1) ao ca rfl rfl rfl (by simp) Hn.out (by simpa using hrow) HRA.out (by have := Hn.out; simp; omega) ?_))
  intro w2 hrow2 hg2
  have HG := hid (HB.out.rd.ne (Nat.le_refl w.heap.size))
  have HRB := hid ((HB.out.rd.below hg1b (Nat.le_refl _)).keptNew hg2 HG.out)
  have hrow2' : Row .u64 91 w2 w.heap.size ([] ++ (LA ++ [0]) ++ []) := by
    have e : n + 1 - LA.length = 1 := by have := Hn.out; omega
    rw [e] at hrow2; simpa using hrow2
  have Hrow2 := hid hrow2'; have Hb := hid hg1b; have Hg2 := hid hg2
  clear hrow2 hrow2' hrow hg1 hg1b hg2
  have hdd : Dig B64 (LA ++ [0]) := HA.out.dig.append (Dig.cons (Int.le_refl 0) (by decide) (Dig.nil _))
  have hc := addTo_any w.heap.size [] (LA ++ [0]) [] LB (n + 1) cb bo w2 Hrow2.out hdd HB.out.dig (by have := Hn.out; simp; omega) (by omega) HRB.out (by have := Hn.out; have := Hm.out; simp; omega) HG.out
  rw [show ([] : List Int).length = 0 from rfl, show (LA ++ [(0 : Int)]).length = n + 1 from by rw [Hn.out]; simp, ← Hm.out] at hc
  have Hc := hid hc; clear hc hdd
  go_wp2_with (go_at_call 177; refine Hc.out.mono ?_; rintro e w3 ⟨A1, cc, rfl, HI⟩)
  rw [show n + 1 = (LA ++ [(0 : Int)]).length from by rw [Hn.out]; simp] at HI
  obtain ⟨hrow3, hd3, hv3, hl3⟩ := add_done HA.out.dig HB.out.dig (by have := Hn.out; have := Hm.out; omega) HI
  have hg3 := HI.gr
  have ht := trim64_any (some ⟨w.heap.size, 0, none⟩) (n + 1) A1 w3 (row_rd hrow3 (by have := Hn.out; omega) (by omega))
  rw [hl3, ← Hn.out] at ht
  have HT := hid ht
  have hres : Nt w3 (.slice (some ⟨w.heap.size, 0, none⟩) (trimL A1).length (n + 1)) (a + b) (Ka + 1) :=
    nt_row hrow3 hd3 (by rw [hv3, HA.out.eq, HB.out.eq]) (by have := Hn.out; omega) (by omega) (by have := HA.out.le; omega)
  have hbel : Below w.heap.size w w3 := (Hb.out.grown Hg2.out Hb.out.size (fun k e => by cases e; exact Nat.le_refl _)).grown hg3 (by have := Hb.out.size; have := Hg2.out.size; omega) (fun k e => by cases e; exact Nat.le_refl _)
  have Hres := hid hres; have Hbel := hid hbel
  clear ht hres hbel hrow3 hd3 hv3 hl3 hg3 HI
  refine HT.out.mono ?_
  rintro e w4 ⟨rfl, rfl⟩
  go_wp2
  go_ret
  exact ⟨_, rfl, Hres.out, Hbel.out⟩

theorem add_any (va vb : Value) (a b : Int) (Ka Kb K : Nat) (w : World) (hA : Nt w va a Ka) (hB : Nt w vb b Kb) (h1 : Ka ≤ 1073741824) (h2 : Kb ≤ 1073741824) (hK : Ka < K) (hK' : Kb < K) :
    Calls Tryz.prog 133 #[va, vb] w (RetN w (a + b) K) := by
  obtain ⟨ao, ca, LA, rfl, hA⟩ := hA
  obtain ⟨bo, cb, LB, rfl, hB⟩ := hB
  by_cases h : LB.length ≤ LA.length
  · refine (add_ge ao bo ca cb LA LB a b Ka Kb w hA hB h1 h).mono ?_
    rintro e w' ⟨v, rfl, hv, hb⟩
    exact ⟨v, rfl, hv.mono hK, hb⟩
  · refine (add_lt bo ao cb ca LB LA b a Kb Ka w hB hA h2 (by omega)).mono ?_
    rintro e w' ⟨v, rfl, hv, hb⟩
    exact ⟨v, rfl, by rw [Int.add_comm]; exact hv.mono hK', hb⟩

theorem sub_done {w wr : World} {g : Nat} {LA LB A1 : List Int} {cc : Int} (hle : val B64 LB ≤ val B64 LA)
    (h : SubI w wr g [] LA [] LA.length (val B64 LB) A1 cc) : Row .u64 91 wr g A1 ∧ Dig B64 A1 ∧ val B64 A1 = val B64 LA - val B64 LB ∧ A1.length = LA.length := by
  have e := h.eq
  have h1 := val_lt B64_pos h.dig
  rw [h.len] at h1
  have hcc : cc = 0 := by
    rcases (show cc = 0 ∨ cc = 1 by have := h.c0; have := h.c1; omega) with h | h
    · exact h
    · subst h; omega
  subst hcc
  exact ⟨by simpa using h.row, h.dig, by simpa using e, h.len⟩

set_option maxRecDepth 100000 in
set_option maxHeartbeats 1000000 in
theorem subtract_le (ao bo : Option Addr) (ca cb : Nat) (LA LB : List Int) (a b : Int) (Ka Kb : Nat) (w : World) (hA : NtL w ao ca LA a Ka) (hB : NtL w bo cb LB b Kb) (hk : Ka ≤ 1073741824) (hle : LB.length ≤ LA.length) (hba : b ≤ a) :
    Calls Tryz.prog 134 #[.slice ao LA.length ca, .slice bo LB.length cb] w (RetN w (a - b) Ka) := by
  obtain ⟨n, hn⟩ : ∃ n, n = LA.length := ⟨_, rfl⟩
  obtain ⟨m, hm⟩ : ∃ m, m = LB.length := ⟨_, rfl⟩
  have hn30 : n ≤ 1073741824 := by have := hA.le; omega
  have hmn : m ≤ n := by omega
  rw [← hn, ← hm]
  have HA := hid hA; have HB := hid hB; have Hn := hid hn; have Hm := hid hm
  clear hA hB hn hm hle
  obtain ⟨i0, hi, hz0, hz1, hz2⟩ := info_parts Tryz.info91
  go_enter Tryz.func134, Tryz.ntmps134
  go_wp2_with (at_make; refine wpList_make_row w rfl _ _ 82 rfl 91 i0 .u64 Tryz.underlying82 hi hz0 hz1 .i64 .i64 _ _ n rfl rfl (by omega) (by omega) (by rw [hz2]; omega) (by unfold maxLen; omega) ?_)
  intro w1 hrow hg1
  have hg1b := grown_below hg1
  have HRA := hid ((HA.out.rd).below hg1b (Nat.le_refl _))
  go_wp2_with ((with_reducible refine wpList_copy_row rfl _ _ _ _ rfl 91 Tryz.underlying82 Tryz.size91 .u64 91 w.heap.size [] (List.replicate n 0) [] LA 0 n n n ao ca rfl rfl rfl (by simp) Hn.out (by simpa using hrow) HRA.out (by have := Hn.out; simp; omega) ?_))
  intro w2 hrow2 hg2
  have HG := hid (HB.out.rd.ne (Nat.le_refl w.heap.size))
  have HRB := hid ((HB.out.rd.below hg1b (Nat.le_refl _)).keptNew hg2 HG.out)
  have hrow2' : Row .u64 91 w2 w.heap.size ([] ++ (LA) ++ []) := by
    have e : n - LA.length = 0 := by have := Hn.out; omega
    rw [e] at hrow2; simpa using hrow2
  have Hrow2 := hid hrow2'; have Hb := hid hg1b; have Hg2 := hid hg2
  clear hrow2 hrow2' hrow hg1 hg1b hg2
  have hdd : Dig B64 LA := HA.out.dig
  have hc := subFrom_any w.heap.size [] (LA) [] LB n cb bo w2 Hrow2.out hdd HB.out.dig (by have := Hn.out; simp; omega) (by omega) HRB.out (by have := Hn.out; have := Hm.out; simp; omega) HG.out
  rw [show ([] : List Int).length = 0 from rfl, ← Hn.out, ← Hm.out] at hc
  have Hc := hid hc; clear hc hdd
  go_wp2_with (go_at_call 178; refine Hc.out.mono ?_; rintro e w3 ⟨A1, cc, rfl, HI⟩)
  rw [Hn.out] at HI
  obtain ⟨hrow3, hd3, hv3, hl3⟩ := sub_done (by rw [HA.out.eq, HB.out.eq]; exact hba) HI
  have hg3 := HI.gr
  have ht := trim64_any (some ⟨w.heap.size, 0, none⟩) n A1 w3 (row_rd hrow3 (by have := Hn.out; omega) (by omega))
  rw [hl3, ← Hn.out] at ht
  have HT := hid ht
  have hres : Nt w3 (.slice (some ⟨w.heap.size, 0, none⟩) (trimL A1).length n) (a - b) Ka :=
    nt_row hrow3 hd3 (by rw [hv3, HA.out.eq, HB.out.eq]) (by have := Hn.out; omega) (by omega) (by have := HA.out.le; omega)
  have hbel : Below w.heap.size w w3 := (Hb.out.grown Hg2.out Hb.out.size (fun k e => by cases e; exact Nat.le_refl _)).grown hg3 (by have := Hb.out.size; have := Hg2.out.size; omega) (fun k e => by cases e; exact Nat.le_refl _)
  have Hres := hid hres; have Hbel := hid hbel
  clear ht hres hbel hrow3 hd3 hv3 hl3 hg3 HI
  refine HT.out.mono ?_
  rintro e w4 ⟨rfl, rfl⟩
  go_wp2
  go_ret
  exact ⟨_, rfl, Hres.out, Hbel.out⟩

theorem len_of_le {LA LB : List Int} (hA : Dig B64 LA) (hB : Dig B64 LB) (nB : Nrm LB) (h : val B64 LB ≤ val B64 LA) : LB.length ≤ LA.length := by
  by_cases hl : LB.length ≤ LA.length
  · exact hl
  · exfalso
    have h1 := val_lt B64_pos hA
    have h2 := Nrm.low B64_pos hB nB (by omega)
    have h3 := pow_mono B64_pos (show LA.length ≤ LB.length - 1 by omega)
    omega

theorem subtract_any (va vb : Value) (a b : Int) (Ka Kb : Nat) (w : World) (hA : Nt w va a Ka) (hB : Nt w vb b Kb) (h1 : Ka ≤ 1073741824) (hba : b ≤ a) :
    Calls Tryz.prog 134 #[va, vb] w (RetN w (a - b) Ka) := by
  obtain ⟨ao, ca, LA, rfl, hA⟩ := hA
  obtain ⟨bo, cb, LB, rfl, hB⟩ := hB
  exact subtract_le ao bo ca cb LA LB a b Ka Kb w hA hB h1 (len_of_le hA.dig hB.dig hB.nrm (by rw [hA.eq, hB.eq]; exact hba)) hba

set_option maxRecDepth 100000 in
set_option maxHeartbeats 1000000 in
theorem clone_any (ao : Option Addr) (ca : Nat) (LA : List Int) (a : Int) (Ka : Nat) (w : World) (hA : NtL w ao ca LA a Ka) (hk : Ka ≤ 1073741824) :
    Calls Tryz.prog 169 #[.slice ao LA.length ca] w fun e w' => e = .returned (.slice (some ⟨w.heap.size, 0, none⟩) LA.length LA.length) ∧ Row .u64 91 w' w.heap.size LA ∧ Below w.heap.size w w' := by
  obtain ⟨n, hn⟩ : ∃ n, n = LA.length := ⟨_, rfl⟩
  have hn30 : n ≤ 1073741824 := by have := hA.le; omega
  rw [← hn]
  have HA := hid hA; have Hn := hid hn
  clear hA hn
  obtain ⟨i0, hi, hz0, hz1, hz2⟩ := info_parts Tryz.info91
  go_enter Tryz.func169, Tryz.ntmps169
  go_wp2_with (at_make; refine wpList_make_row w rfl _ _ 82 rfl 91 i0 .u64 Tryz.underlying82 hi hz0 hz1 .i64 .i64 _ _ n rfl rfl (by omega) (by omega) (by rw [hz2]; omega) (by unfold maxLen; omega) ?_)
  intro w1 hrow hg1
  have hg1b := grown_below hg1
  have HRA := hid ((HA.out.rd).below hg1b (Nat.le_refl _))
  go_wp2_with ((with_reducible refine wpList_copy_row rfl _ _ _ _ rfl 91 Tryz.underlying82 Tryz.size91 .u64 91 w.heap.size [] (List.replicate n 0) [] LA 0 n n n ao ca rfl rfl rfl (by simp) Hn.out (by simpa using hrow) HRA.out (by have := Hn.out; simp; omega) ?_))
  intro w2 hrow2 hg2
  have hrow2' : Row .u64 91 w2 w.heap.size LA := by
    have e : n - LA.length = 0 := by have := Hn.out; omega
    rw [e] at hrow2; simpa using hrow2
  have Hrow2 := hid hrow2'; have Hb := hid (hg1b.grown hg2 hg1b.size (fun k e => by cases e; exact Nat.le_refl _))
  clear hrow2 hrow2' hrow hg1 hg1b hg2
  go_wp2
  go_ret
  exact ⟨rfl, Hrow2.out, Hb.out⟩

end Go.Proofs.YtilpkocmdpofpaaGreatDoor

/- exact.bitLength, root. -/
namespace Go.Proofs.YtilpkocmdpofpaaGreatDoor
open Go.RowKit Go.Shelf

/-- math/bits.Len64 of a number that is not 0. -/
theorem len64 (y : Int) (h0 : 0 < y) (h1 : y < B64) (w : World) : Calls Tryz.prog 179 #[.int .u64 y] w fun e w' => ∃ s : Nat, e = .returned (.int .i64 s) ∧ 1 ≤ s ∧ s ≤ 64 ∧ 2 ^ (s - 1) ≤ y ∧ y < 2 ^ s ∧ w = w' := by
  unfold B64 at h1
  refine (Any.bits_Len64 { lz_lays with } y w (by omega) (by omega)).mono ?_
  rintro e w' ⟨rfl, rfl⟩
  have hb := bitLen_bd y.toNat (by omega) (by omega)
  obtain ⟨a, b, c, d⟩ := hb
  have e : (y.toNat : Int) = y := Int.toNat_of_nonneg (by omega)
  refine ⟨Lib.bitLen y.toNat, rfl, a, d, ?_, ?_, rfl⟩
  · have : ((2 ^ (Lib.bitLen y.toNat - 1) : Nat) : Int) ≤ (y.toNat : Int) := by exact_mod_cast b
    rw [e, Int.natCast_pow] at this; exact this
  · have : (y.toNat : Int) < ((2 ^ Lib.bitLen y.toNat : Nat) : Int) := by exact_mod_cast c
    rw [e, Int.natCast_pow] at this; exact this

/-- How many bits a number has. -/
def Bits (a : Int) (l : Nat) : Prop := (a = 0 ∧ l = 0) ∨ (1 ≤ l ∧ 2 ^ (l - 1) ≤ a ∧ a < 2 ^ l)

theorem bits_top {L : List Int} {k s : Nat} (hd : Dig B64 L) (hl : L.length = k + 1) (h1 : 1 ≤ s) (hlo : 2 ^ (s - 1) ≤ L[k]?.getD 0) (hhi : L[k]?.getD 0 < 2 ^ s) : Bits (val B64 L) (64 * k + s) := by
  have e := take_succ_getD L k (by omega)
  rw [List.take_of_length_le (by omega)] at e
  have hlen : (L.take k).length = k := by rw [List.length_take]; omega
  have ev : val B64 L = val B64 (L.take k) + B64 ^ k * L[k]?.getD 0 := by conv => lhs; rw [e, val_snoc, hlen]
  have hv := val_lt B64_pos (hd.take k)
  have hv0 := val_nonneg B64_pos (hd.take k)
  rw [hlen] at hv
  have hp : 0 < B64 ^ k := Int.pow_pos B64_pos
  have hB : B64 ^ k = 2 ^ (64 * k) := by rw [Int.pow_mul]; rfl
  refine .inr ⟨by omega, ?_, ?_⟩
  · rw [show 64 * k + s - 1 = 64 * k + (s - 1) by omega, Int.pow_add, ← hB]
    have := Int.mul_le_mul_of_nonneg_left hlo (Int.le_of_lt hp)
    omega
  · rw [Int.pow_add, ← hB]
    have := Int.mul_le_mul_of_nonneg_left (show L[k]?.getD 0 + 1 ≤ 2 ^ s from hhi) (Int.le_of_lt hp)
    rw [Int.mul_add, Int.mul_one] at this
    omega

set_option maxRecDepth 100000 in
set_option maxHeartbeats 1000000 in
theorem bitLength_any (va : Value) (a : Int) (K : Nat) (w : World) (hA : Nt w va a K) (hK : K ≤ 1073741824) :
    Calls Tryz.prog 139 #[va] w fun e w' => ∃ l : Nat, e = .returned (.int .i64 l) ∧ l ≤ 64 * K ∧ Bits a l ∧ w' = w := by
  obtain ⟨ao, c, LA, rfl, hA⟩ := hA
  by_cases h0 : LA.length = 0
  · have ha : a = 0 := by rw [← hA.eq, List.eq_nil_of_length_eq_zero h0]; rfl
    have HA0 := hid ha
    rw [h0]
    clear hA h0 ha
    go_enter Tryz.func139, Tryz.ntmps139
    go_wp2
    go_ret
    exact ⟨0, rfl, Nat.zero_le _, .inl ⟨HA0.out, rfl⟩, rfl⟩
  · obtain ⟨k, hk⟩ : ∃ k, LA.length = k + 1 := ⟨LA.length - 1, by omega⟩
    obtain ⟨b, o, rfl⟩ := hA.rd.adr (by omega)
    have hc := hA.rd.cell b o rfl k (by omega)
    have ht := hA.nrm.top hk
    have hd := hA.dig.at B64_pos k
    have hbt := fun (s : Nat) h1 h2 h3 => bits_top (s := s) hA.dig hk h1 h2 h3
    rw [hA.eq] at hbt
    have hkK : k + 1 ≤ K := by have := hA.le; omega
    obtain ⟨y, hy⟩ : ∃ y, y = LA[k]?.getD 0 := ⟨_, rfl⟩
    rw [← hy] at hc ht hd hbt
    have hz := len64 y (by omega) hd.2 w
    have HZ := hid hz; have HBt := hid hbt
    rw [hk]
    clear hz hbt hy ht hd hA h0 hk
    go_enter Tryz.func139, Tryz.ntmps139
    go_wp2_with (go_at_call 179; refine HZ.out.mono ?_; rintro e w' ⟨s, rfl, s1, s64, s2, s3, rfl⟩)
    go_ret
    exact ⟨64 * k + s, by go_num, by omega, HBt.out s s1 s2 s3, rfl⟩

/-- A step of Newton's from above stays above. -/
theorem newton_up {a g : Int} (ha : 0 ≤ a) (hg : 0 < g) : a < ((g + a / g) / 2 + 1) * ((g + a / g) / 2 + 1) := by
  obtain ⟨q, hq⟩ : ∃ q, q = a / g := ⟨_, rfl⟩
  have q0 : 0 ≤ q := by rw [hq]; exact Int.ediv_nonneg ha (Int.le_of_lt hg)
  have e := Int.emod_add_mul_ediv a g
  have r1 := Int.emod_lt_of_pos a hg
  rw [← hq] at e ⊢
  obtain ⟨n, hn⟩ : ∃ n, n = (g + q) / 2 := ⟨_, rfl⟩
  rw [← hn]
  have h1 : g + q ≤ 2 * n + 1 := by omega
  -- a < g (q + 1), and (q + 1) + g ≤ 2 (n + 1)
  have h2 : a < g * (q + 1) := by rw [Int.mul_add, Int.mul_one]; omega
  have h3 : g * (q + 1) ≤ (n + 1) * (n + 1) := by
    obtain ⟨u, hu⟩ : ∃ u, u = q + 1 := ⟨_, rfl⟩
    rw [← hu]
    have hs : g + u ≤ 2 * (n + 1) := by omega
    -- 4 g u = (g + u)^2 - (g - u)^2
    have sq : 0 ≤ (g - u) * (g - u) := by
      rcases Int.le_total 0 (g - u) with h | h
      · exact Int.mul_nonneg h h
      · have := Int.mul_nonneg (show 0 ≤ -(g - u) by omega) (show 0 ≤ -(g - u) by omega); rwa [Int.neg_mul_neg] at this
    have m1 := Int.mul_le_mul hs hs (by omega) (by omega)
    have e1 : (g + u) * (g + u) = (g - u) * (g - u) + 4 * (g * u) := by grind
    have e2 : 2 * (n + 1) * (2 * (n + 1)) = 4 * ((n + 1) * (n + 1)) := by grind
    omega
  omega

theorem newton_stop {a g : Int} (hg : 0 < g) (h : g ≤ (g + a / g) / 2) : g * g ≤ a := by
  have : g ≤ a / g := by omega
  exact (Int.le_ediv_iff_mul_le hg).1 this

theorem newton_pos {a n : Int} (ha : 0 < a) (h : a < (n + 1) * (n + 1)) (hn : 0 ≤ n) : 0 < n := by
  rcases Int.lt_or_le 0 n with k | k
  · exact k
  · have : n = 0 := by omega
    subst this; omega

theorem newton_begin {a : Int} {l : Nat} (h : Bits a l) (ha : 0 < a) : a < (2 ^ ((l + 1) / 2) + 1) * (2 ^ ((l + 1) / 2) + 1) := by
  rcases h with h | h
  · omega
  · have e : (2 : Int) ^ l ≤ 2 ^ ((l + 1) / 2 + (l + 1) / 2) := pow_mono (by decide) (by omega)
    rw [Int.pow_add] at e
    have p : (0 : Int) < 2 ^ ((l + 1) / 2) := Int.pow_pos (by decide)
    have := h.2.2
    rw [Int.mul_add, Int.add_mul]
    omega

end Go.Proofs.YtilpkocmdpofpaaGreatDoor

/- exact.root: its walk. -/
namespace Go.Proofs.YtilpkocmdpofpaaGreatDoor
open Go.RowKit

theorem Rd.unique {w : World} {k : IntKind} {ao : Option Addr} {c c' : Nat} {L L' : List Int} (h : Rd w k ao c L) (h' : Rd w k ao c' L') (hl : L.length = L'.length) : L = L' := by
  by_cases h0 : L.length = 0
  · rw [List.eq_nil_of_length_eq_zero h0, List.eq_nil_of_length_eq_zero (l := L') (by omega)]
  · obtain ⟨b, o, rfl⟩ := h.adr (by omega)
    refine List.ext_getElem hl fun i h1 h2 => ?_
    have a := h.cell b o rfl i h1
    rw [h'.cell b o rfl i h2] at a
    have e := Value.int.inj (Option.some.inj a)
    simpa [h1, h2] using e.2.symm
theorem Nt.unique {w : World} {v : Value} {n n' : Int} {K K' : Nat} (h : Nt w v n K) (h' : Nt w v n' K') : n = n' := by
  obtain ⟨ao, c, L, rfl, h⟩ := h
  obtain ⟨ao', c', L', e, h'⟩ := h'
  obtain ⟨e1, e2, _⟩ := Value.slice.inj e
  subst e1
  rw [← h.eq, ← h'.eq, h.rd.unique h'.rd e2]

open Classical in
/-- The number that a value stands for, 0 if none. -/
noncomputable def natOf (w : World) (v : Value) : Nat := if h : ∃ n : Int, ∃ K, Nt w v n K then (Classical.choose h).toNat else 0
theorem natOf_eq {w : World} {v : Value} {n : Int} {K : Nat} (h : Nt w v n K) : natOf w v = n.toNat := by
  have hx : ∃ n : Int, ∃ K, Nt w v n K := ⟨n, K, h⟩
  unfold natOf
  rw [dif_pos hx]
  obtain ⟨K', h'⟩ := Classical.choose_spec hx
  rw [h'.unique h]

theorem one_row (w : World) : Nt (w.alloc (Obj.cells #[Value.int IntKind.u64 1] 91)) (.slice (some ⟨w.heap.size, 0, none⟩) 1 1) 1 1 := by
  have hrow : Row .u64 91 (w.alloc (Obj.cells #[Value.int IntKind.u64 1] 91)) w.heap.size [1] := by unfold Row World.alloc; simp
  have h := nt_row (c := 1) (K := 1) hrow (Dig.cons (by decide) (by decide) (Dig.nil _)) (n := 1) (by simp [val]) (by simp) (by decide) (by simp)
  simpa [trimL] using h

structure RootI (w wr : World) (a : Int) (Kg : Nat) (gv : Value) (g : Int) : Prop where
  nt : Nt wr gv g Kg
  pos : 0 < g
  up : a < (g + 1) * (g + 1)
  low : Below w.heap.size w wr

def RetRoot (w : World) (a : Int) (K : Nat) (e : Ending) (w' : World) : Prop := ∃ r : Int, 0 ≤ r ∧ r * r ≤ a ∧ a < (r + 1) * (r + 1) ∧ RetN w r K e w'

set_option maxRecDepth 100000 in
set_option maxHeartbeats 4000000 in
theorem root_any (va : Value) (a : Int) (K : Nat) (w : World) (hA : Nt w va a K) (hK : K ≤ 10000000) :
    Calls Tryz.prog 90 #[va] w (RetRoot w a (K + 3)) := by
  by_cases ha0 : a = 0
  · subst ha0
    obtain ⟨ao, c, LA, rfl, hA⟩ := hA
    have hl : LA = [] := hA.nrm.eq_nil B64_pos hA.dig hA.eq
    subst hl
    clear hA
    go_enter Tryz.func90, Tryz.ntmps90
    go_wp2
    go_ret
    exact ⟨0, Int.le_refl 0, by decide, by decide, _, rfl, (Nt.nil _).mono (Nat.zero_le _), Below.refl _ _⟩
  · have ha : 0 < a := by have := hA.nonneg; omega
    obtain ⟨ao, c, LA, rfl, hA'⟩ := hA
    have hl0 : LA.length ≠ 0 := by
      intro h
      have e := hA'.eq
      rw [List.eq_nil_of_length_eq_zero h] at e
      exact ha0 e.symm
    obtain ⟨n, hn⟩ : ∃ n, n = LA.length := ⟨_, rfl⟩
    have hNa : Nt w (.slice ao n c) a K := ⟨ao, c, LA, by rw [hn], hA'⟩
    rw [← hn] at hl0 ⊢
    have hn0 : ¬ (n : Int) = 0 := by omega
    have hb0 : Below w.heap.size w (w.alloc (Obj.cells #[Value.int IntKind.u64 1] 91)) := (Below.refl _ _).alloc (Nat.le_refl _) _
    have hbl := bitLength_any _ a K _ (hNa.below hb0 (Nat.le_refl _)) (by omega)
    have HBl := hid hbl; have HNa := hid hNa; have HB0 := hid hb0; have Ha := hid ha
    have HOne := hid (one_row w)
    clear hbl hNa hb0 hA' hn ha ha0
    go_enter Tryz.func90, Tryz.ntmps90
    go_wp2_with fail
    refine HBl.out.mono ?_
    rintro e w' ⟨l, rfl, hl, hbits, rfl⟩
    obtain ⟨s, hs⟩ : ∃ s, s = (l + 1) / 2 := ⟨_, rfl⟩
    have e1 : ((l : Int) + 1) / 2 = (s : Int) := by omega
    have e2 : ((l : Int) + 1).tdiv 2 = (s : Int) := by rw [Int.tdiv_eq_ediv_of_nonneg (by omega)]; exact e1
    have hnb := newton_begin hbits Ha.out
    rw [← hs] at hnb
    have hsh := shiftLeft_any _ 1 s 1 _ HOne.out (by decide) (by omega)
    have hs2 : s ≤ 32 * K + 1 := by omega
    have HSh := hid hsh; have HNb := hid hnb
    clear hsh hnb hbits hs
    go_wp2_with fail
    refine HSh.out.mono ?_
    rintro e w1 ⟨gv, rfl, hg, hb1⟩
    rw [Int.one_mul] at hg
    obtain ⟨Kg, hKg⟩ : ∃ Kg, Kg = 1 + s / 64 + 1 := ⟨_, rfl⟩
    rw [← hKg] at hg
    have hKg2 : Kg ≤ K + 3 := by omega
    have HI0 := hid (show RootI w w1 a Kg gv (2 ^ s) from ⟨hg, Int.pow_pos (by decide), HNb.out, HB0.out.trans (hb1.mono HB0.out.size)⟩)
    clear hg hb1 hKg HSh HNb HOne
    go_wp2
    go_loopw [3] (fun gv wr => ∃ g, RootI w wr a Kg gv g) (fun gv wr => natOf wr gv)
    case atStart => exact ⟨_, HI0.out⟩
    case round =>
      obtain ⟨g, H⟩ := hrel
      have hna := HNa.out.below H.low (Nat.le_refl _)
      have hdv := divide_any _ _ a g K Kg wr hna H.nt H.pos (by omega)
      have hup := newton_up (Int.le_of_lt Ha.out) H.pos
      have hstop := newton_stop (a := a) H.pos
      have q0 : 0 ≤ a / g := Int.ediv_nonneg (Int.le_of_lt Ha.out) (Int.le_of_lt H.pos)
      have hn0' : 0 ≤ (g + a / g) / 2 := by have := H.pos; omega
      have hnp := newton_pos Ha.out hup hn0'
      obtain ⟨nx, hnx⟩ : ∃ nx, nx = (g + a / g) / 2 := ⟨_, rfl⟩
      rw [← hnx] at hup hstop hnp hn0'
      have Hnx := hid hnx; have Hup := hid hup; have Hnp := hid hnp; have Hstop := hid hstop
      have HDv := hid hdv; have HH := hid H
      clear hdv hna H HI0 hup hstop q0 hn0' hnp hnx
      go_wp2_with fail
      refine HDv.out.mono ?_
      rintro e w2 ⟨v1, v2, rfl, hv1, _, hb2⟩
      have hlow2 := HH.out.low.trans (hb2.mono HH.out.low.size)
      have had := add_any _ v1 g (a / g) Kg K (K + Kg + 1) w2 (HH.out.nt.below hb2 (Nat.le_refl _)) hv1 (by omega) (by omega) (by omega) (by omega)
      have HAd := hid had; have Hlow2 := hid hlow2; have Hb2 := hid hb2
      clear had hlow2 hb2 hv1
      go_wp2_with fail
      refine HAd.out.mono ?_
      rintro e w3 ⟨vs, rfl, hvs, hb3⟩
      have hsr := shiftRight_any vs (g + a / g) 1 (K + Kg + 1) w3 hvs (by omega) (by decide)
      rw [Int.pow_succ, Int.pow_zero, Int.one_mul, ← Hnx.out] at hsr
      have HSr := hid hsr; have Hlow3 := hid (Hlow2.out.trans (hb3.mono Hlow2.out.size)); have Hb3 := hid (Hb2.out.trans (hb3.mono Hb2.out.size))
      clear hsr hvs hb3
      go_wp2_with fail
      refine HSr.out.mono ?_
      rintro e w4 ⟨vn, rfl, hvn, hb4⟩
      have Hlow4 := hid (Hlow3.out.trans (hb4.mono Hlow3.out.size)); have Hb4 := hid (Hb3.out.trans (hb4.mono Hb3.out.size))
      have hg4 := HH.out.nt.below Hb4.out (Nat.le_refl _)
      have hcp := compare_any vn _ nx g (K + Kg + 1) Kg w4 hvn hg4
      by_cases hge : g ≤ nx
      · have hcv : 0 ≤ cmpI nx g := by unfold cmpI; rw [if_neg (by omega)]; split <;> omega
        obtain ⟨cv, hcve⟩ : ∃ cv, cv = cmpI nx g := ⟨_, rfl⟩
        rw [← hcve] at hcp hcv
        have HCp := hid hcp; have HG4 := hid hg4; have HSt := hid (Hstop.out hge)
        clear hcp hcve hg4 hvn hb4 hge
        go_wp2_with fail
        refine HCp.out.mono ?_
        rintro e w5 ⟨nq, rfl, rfl⟩
        go_wp2
        go_ret
        have hb := below_drewN (Below.refl w4.heap.size w4) nq
        exact ⟨g, Int.le_of_lt HH.out.pos, HSt.out, HH.out.up, _, rfl, (HG4.out.below hb (Nat.le_refl _)).mono (by omega), below_drewN Hlow4.out nq⟩
      · have hlt : nx < g := by omega
        rw [cmpI_lt hlt] at hcp
        have hn5 := hvn.tight (Int.lt_trans hlt HH.out.nt.lt)
        have HCp := hid hcp; have HN5 := hid hn5
        clear hcp hn5 hg4 hvn hb4
        go_wp2_with fail
        refine HCp.out.mono ?_
        rintro e w5 ⟨nq, rfl, rfl⟩
        go_wp2
        have hb := below_drewN (Below.refl w4.heap.size w4) nq
        go_roundw
        case rel => exact ⟨nx, HN5.out.below hb (Nat.le_refl _), Hnp.out, Hup.out, below_drewN Hlow4.out nq⟩
        case measure => rw [natOf_eq (HN5.out.below hb (Nat.le_refl _)), natOf_eq HH.out.nt]; have := Hnp.out; omega

end Go.Proofs.YtilpkocmdpofpaaGreatDoor
