/- exact.add, exact.subtract, exact.clone. exact.bitLength, root. exact.root: its walk. (exact.natural).words: the words of a natural, in new memory. -/
import Derived.Test.YtbapeilpkhbbeaaGreatDoorYn03
import Derived.Test.YtbapeilpkhbbeaaGreatDoorYn08
import Derived.Test.YtbapeilpkhbbeaaGreatDoorYn06
/- exact.add, exact.subtract, exact.clone. -/
namespace Go.Proofs.YtbapeilpkhbbeaaGreatDoor
open Go.RowKit

set_option maxRecDepth 100000 in
set_option maxHeartbeats 1000000 in
theorem add_ge (ao bo : Option Addr) (ca cb : Nat) (LA LB : List Int) (a b : Int) (Ka Kb : Nat) (w : World) (hA : NtL w ao ca LA a Ka) (hB : NtL w bo cb LB b Kb) (hk : Ka ≤ 1073741824) (hle : LB.length ≤ LA.length) :
    Calls Tryz.prog 98 #[.slice ao LA.length ca, .slice bo LB.length cb] w (RetN w (a + b) (Ka + 1)) := by
  obtain ⟨n, hn⟩ : ∃ n, n = LA.length := ⟨_, rfl⟩
  obtain ⟨m, hm⟩ : ∃ m, m = LB.length := ⟨_, rfl⟩
  have hn30 : n ≤ 1073741824 := by have := hA.le; omega
  have hmn : m ≤ n := by omega
  rw [← hn, ← hm]
  have HA := hid hA; have HB := hid hB; have Hn := hid hn; have Hm := hid hm
  clear hA hB hn hm hle
  obtain ⟨i0, hi, hz0, hz1, hz2⟩ := info_parts Tryz.info63
  go_enter Tryz.func98, Tryz.ntmps98
  go_wp2_with (at_make; refine wpList_make_row w rfl _ _ 54 rfl 63 i0 .u64 Tryz.underlying54 hi hz0 hz1 .i64 .i64 _ _ (n + 1) rfl rfl (by omega) (by omega) (by rw [hz2]; omega) (by unfold maxLen; omega) ?_)
  intro w1 hrow hg1
  have hg1b := grown_below hg1
  have HRA := hid ((HA.out.rd).below hg1b (Nat.le_refl _))
  go_wp2_with ((with_reducible refine wpList_copy_row rfl _ _ _ _ rfl 63 Tryz.underlying54 Tryz.size63 .u64 63 w.heap.size [] (List.replicate (n + 1) 0) [] LA 0 (n + 1) n (n + 1) ao ca rfl rfl rfl (by simp) Hn.out (by simpa using hrow) HRA.out (by have := Hn.out; simp; omega) ?_))
  intro w2 hrow2 hg2
  have HG := hid (HB.out.rd.ne (Nat.le_refl w.heap.size))
  have HRB := hid ((HB.out.rd.below hg1b (Nat.le_refl _)).keptNew hg2 HG.out)
  have hrow2' : Row .u64 63 w2 w.heap.size ([] ++ (LA ++ [0]) ++ []) := by
    have e : n + 1 - LA.length = 1 := by have := Hn.out; omega
    rw [e] at hrow2; simpa using hrow2
  have Hrow2 := hid hrow2'; have Hb := hid hg1b; have Hg2 := hid hg2
  clear hrow2 hrow2' hrow hg1 hg1b hg2
  have hdd : Dig B64 (LA ++ [0]) := HA.out.dig.append (Dig.cons (Int.le_refl 0) (by decide) (Dig.nil _))
  have hc := addTo_any w.heap.size [] (LA ++ [0]) [] LB (n + 1) cb bo w2 Hrow2.out hdd HB.out.dig (by have := Hn.out; simp; omega) (by omega) HRB.out (by have := Hn.out; have := Hm.out; simp; omega) HG.out
  rw [show ([] : List Int).length = 0 from rfl, show (LA ++ [(0 : Int)]).length = n + 1 from by rw [Hn.out]; simp, ← Hm.out] at hc
  have Hc := hid hc; clear hc hdd
  go_wp2_with (go_at_call 127; refine Hc.out.mono ?_; rintro e w3 ⟨A1, cc, rfl, HI⟩)
  rw [show n + 1 = (LA ++ [(0 : Int)]).length from by rw [Hn.out]; simp] at HI
  obtain ⟨hrow3, hd3, hv3, hl3⟩ := add_done HA.out.dig HB.out.dig (by have := Hn.out; have := Hm.out; omega) HI
  have hg3 := HI.gr
  have ht := trim64_any (some ⟨w.heap.size, 0, none⟩) (n + 1) A1 w3 (row_rd hrow3 (by have := Hn.out; omega) (by omega))
  rw [hl3, ← Hn.out] at ht
  have HT := hid ht
  have hres : Nt w3 (.slice (some ⟨w.heap.size, 0, none⟩) (trimL A1).length (n + 1)) (a + b) (Ka + 1) :=
    nt_row hrow3 hd3 (by rw [hv3, HA.out.eq, HB.out.eq]) (by have := Hn.out; omega) (by omega) (by have := HA.out.le; omega)
  have hbel : Below w.heap.size w w3 := (Hb.out.grown Hg2.out Hb.out.size (fun k e => by cases e; exact Nat.le_refl _)).grown hg3 (by have := Hb.out.size; have := Hg2.out.size; omega) (fun k e => by cases e; exact Nat.le_refl _)
  have Hres := hid hres; have Hbel := hid hbel
  clear ht hres hbel hrow3 hd3 hv3 hl3 hg3 HI
  refine HT.out.mono ?_
  rintro e w4 ⟨rfl, rfl⟩
  go_wp2
  go_ret
  exact ⟨_, rfl, Hres.out, Hbel.out⟩

set_option maxRecDepth 100000 in
set_option maxHeartbeats 1000000 in
theorem add_lt (ao bo : Option Addr) (ca cb : Nat) (LA LB : List Int) (a b : Int) (Ka Kb : Nat) (w : World) (hA : NtL w ao ca LA a Ka) (hB : NtL w bo cb LB b Kb) (hk : Ka ≤ 1073741824) (hle : LB.length < LA.length) :
    Calls Tryz.prog 98 #[.slice bo LB.length cb, .slice ao LA.length ca] w (RetN w (a + b) (Ka + 1)) := by
  obtain ⟨n, hn⟩ : ∃ n, n = LA.length := ⟨_, rfl⟩
  obtain ⟨m, hm⟩ : ∃ m, m = LB.length := ⟨_, rfl⟩
  have hn30 : n ≤ 1073741824 := by have := hA.le; omega
  have hmn : m < n := by omega
  rw [← hn, ← hm]
  have HA := hid hA; have HB := hid hB; have Hn := hid hn; have Hm := hid hm
  clear hA hB hn hm hle
  obtain ⟨i0, hi, hz0, hz1, hz2⟩ := info_parts Tryz.info63
  have hmn' : m ≤ n := by omega
  go_enter Tryz.func98, Tryz.ntmps98
  go_wp2_with (at_make; refine wpList_make_row w rfl _ _ 54 rfl 63 i0 .u64 Tryz.underlying54 hi hz0 hz1 .i64 .i64 _ _ (n + 1) rfl rfl (by omega) (by omega) (by rw [hz2]; omega) (by unfold maxLen; omega) ?_)
  intro w1 hrow hg1
  have hg1b := grown_below hg1
  have HRA := hid ((HA.out.rd).below hg1b (Nat.le_refl _))
  go_wp2_with ((with_reducible refine wpList_copy_row rfl _ _ _ _ rfl 63 Tryz.underlying54 Tryz.size63 .u64 63 w.heap.size [] (List.replicate (n + 1) 0) [] LA 0 (n + 1) n (n + 1) ao ca rfl rfl rfl (by simp) Hn.out (by simpa using hrow) HRA.out (by have := Hn.out; simp; omega) ?_))
  intro w2 hrow2 hg2
  have HG := hid (HB.out.rd.ne (Nat.le_refl w.heap.size))
  have HRB := hid ((HB.out.rd.below hg1b (Nat.le_refl _)).keptNew hg2 HG.out)
  have hrow2' : Row .u64 63 w2 w.heap.size ([] ++ (LA ++ [0]) ++ []) := by
    have e : n + 1 - LA.length = 1 := by have := Hn.out; omega
    rw [e] at hrow2; simpa using hrow2
  have Hrow2 := hid hrow2'; have Hb := hid hg1b; have Hg2 := hid hg2
  clear hrow2 hrow2' hrow hg1 hg1b hg2
  have hdd : Dig B64 (LA ++ [0]) := HA.out.dig.append (Dig.cons (Int.le_refl 0) (by decide) (Dig.nil _))
  have hc := addTo_any w.heap.size [] (LA ++ [0]) [] LB (n + 1) cb bo w2 Hrow2.out hdd HB.out.dig (by have := Hn.out; simp; omega) (by omega) HRB.out (by have := Hn.out; have := Hm.out; simp; omega) HG.out
  rw [show ([] : List Int).length = 0 from rfl, show (LA ++ [(0 : Int)]).length = n + 1 from by rw [Hn.out]; simp, ← Hm.out] at hc
  have Hc := hid hc; clear hc hdd
  go_wp2_with (go_at_call 127; refine Hc.out.mono ?_; rintro e w3 ⟨A1, cc, rfl, HI⟩)
  rw [show n + 1 = (LA ++ [(0 : Int)]).length from by rw [Hn.out]; simp] at HI
  obtain ⟨hrow3, hd3, hv3, hl3⟩ := add_done HA.out.dig HB.out.dig (by have := Hn.out; have := Hm.out; omega) HI
  have hg3 := HI.gr
  have ht := trim64_any (some ⟨w.heap.size, 0, none⟩) (n + 1) A1 w3 (row_rd hrow3 (by have := Hn.out; omega) (by omega))
  rw [hl3, ← Hn.out] at ht
  have HT := hid ht
  have hres : Nt w3 (.slice (some ⟨w.heap.size, 0, none⟩) (trimL A1).length (n + 1)) (a + b) (Ka + 1) :=
    nt_row hrow3 hd3 (by rw [hv3, HA.out.eq, HB.out.eq]) (by have := Hn.out; omega) (by omega) (by have := HA.out.le; omega)
  have hbel : Below w.heap.size w w3 := (Hb.out.grown Hg2.out Hb.out.size (fun k e => by cases e; exact Nat.le_refl _)).grown hg3 (by have := Hb.out.size; have := Hg2.out.size; omega) (fun k e => by cases e; exact Nat.le_refl _)
  have Hres := hid hres; have Hbel := hid hbel
  clear ht hres hbel hrow3 hd3 hv3 hl3 hg3 HI
  refine HT.out.mono ?_
  rintro e w4 ⟨rfl, rfl⟩
  go_wp2
  go_ret
  exact ⟨_, rfl, Hres.out, Hbel.out⟩

theorem add_any (va vb : Value) (a b : Int) (Ka Kb K : Nat) (w : World) (hA : Nt w va a Ka) (hB : Nt w vb b Kb) (h1 : Ka ≤ 1073741824) (h2 : Kb ≤ 1073741824) (hK : Ka < K) (hK' : Kb < K) :
    Calls Tryz.prog 98 #[va, vb] w (RetN w (a + b) K) := by
  obtain ⟨ao, ca, LA, rfl, hA⟩ := hA
  obtain ⟨bo, cb, LB, rfl, hB⟩ := hB
  by_cases h : LB.length ≤ LA.length
  · refine (add_ge ao bo ca cb LA LB a b Ka Kb w hA hB h1 h).mono ?_
    rintro e w' ⟨v, rfl, hv, hb⟩
    exact ⟨v, rfl, hv.mono hK, hb⟩
  · refine (add_lt bo ao cb ca LB LA b a Kb Ka w hB hA h2 (by omega)).mono ?_
    rintro e w' ⟨v, rfl, hv, hb⟩
    exact ⟨v, rfl, by rw [Int.add_comm]; exact hv.mono hK', hb⟩

theorem sub_done {w wr : World} {g : Nat} {LA LB A1 : List Int} {cc : Int} (hle : val B64 LB ≤ val B64 LA)
    (h : SubI w wr g [] LA [] LA.length (val B64 LB) A1 cc) : Row .u64 63 wr g A1 ∧ Dig B64 A1 ∧ val B64 A1 = val B64 LA - val B64 LB ∧ A1.length = LA.length := by
  have e := h.eq
  have h1 := val_lt B64_pos h.dig
  rw [h.len] at h1
  have hcc : cc = 0 := by
    rcases (show cc = 0 ∨ cc = 1 by have := h.c0; have := h.c1; omega) with h | h
    · exact h
    · subst h; omega
  subst hcc
  exact ⟨by simpa using h.row, h.dig, by simpa using e, h.len⟩

set_option maxRecDepth 100000 in
set_option maxHeartbeats 1000000 in
theorem subtract_le (ao bo : Option Addr) (ca cb : Nat) (LA LB : List Int) (a b : Int) (Ka Kb : Nat) (w : World) (hA : NtL w ao ca LA a Ka) (hB : NtL w bo cb LB b Kb) (hk : Ka ≤ 1073741824) (hle : LB.length ≤ LA.length) (hba : b ≤ a) :
    Calls Tryz.prog 100 #[.slice ao LA.length ca, .slice bo LB.length cb] w (RetN w (a - b) Ka) := by
  obtain ⟨n, hn⟩ : ∃ n, n = LA.length := ⟨_, rfl⟩
  obtain ⟨m, hm⟩ : ∃ m, m = LB.length := ⟨_, rfl⟩
  have hn30 : n ≤ 1073741824 := by have := hA.le; omega
  have hmn : m ≤ n := by omega
  rw [← hn, ← hm]
  have HA := hid hA; have HB := hid hB; have Hn := hid hn; have Hm := hid hm
  clear hA hB hn hm hle
  obtain ⟨i0, hi, hz0, hz1, hz2⟩ := info_parts Tryz.info63
  go_enter Tryz.func100, Tryz.ntmps100
  go_wp2_with (at_make; refine wpList_make_row w rfl _ _ 54 rfl 63 i0 .u64 Tryz.underlying54 hi hz0 hz1 .i64 .i64 _ _ n rfl rfl (by omega) (by omega) (by rw [hz2]; omega) (by unfold maxLen; omega) ?_)
  intro w1 hrow hg1
  have hg1b := grown_below hg1
  have HRA := hid ((HA.out.rd).below hg1b (Nat.le_refl _))
  go_wp2_with ((with_reducible refine wpList_copy_row rfl _ _ _ _ rfl 63 Tryz.underlying54 Tryz.size63 .u64 63 w.heap.size [] (List.replicate n 0) [] LA 0 n n n ao ca rfl rfl rfl (by simp) Hn.out (by simpa using hrow) HRA.out (by have := Hn.out; simp; omega) ?_))
  intro w2 hrow2 hg2
  have HG := hid (HB.out.rd.ne (Nat.le_refl w.heap.size))
  have HRB := hid ((HB.out.rd.below hg1b (Nat.le_refl _)).keptNew hg2 HG.out)
  have hrow2' : Row .u64 63 w2 w.heap.size ([] ++ (LA) ++ []) := by
    have e : n - LA.length = 0 := by have := Hn.out; omega
    rw [e] at hrow2; simpa using hrow2
  have Hrow2 := hid hrow2'; have Hb := hid hg1b; have Hg2 := hid hg2
  clear hrow2 hrow2' hrow hg1 hg1b hg2
  have hdd : Dig B64 LA := HA.out.dig
  have hc := subFrom_any w.heap.size [] (LA) [] LB n cb bo w2 Hrow2.out hdd HB.out.dig (by have := Hn.out; simp; omega) (by omega) HRB.out (by have := Hn.out; have := Hm.out; simp; omega) HG.out
  rw [show ([] : List Int).length = 0 from rfl, ← Hn.out, ← Hm.out] at hc
  have Hc := hid hc; clear hc hdd
  go_wp2_with (go_at_call 128; refine Hc.out.mono ?_; rintro e w3 ⟨A1, cc, rfl, HI⟩)
  rw [Hn.out] at HI
  obtain ⟨hrow3, hd3, hv3, hl3⟩ := sub_done (by rw [HA.out.eq, HB.out.eq]; exact hba) HI
  have hg3 := HI.gr
  have ht := trim64_any (some ⟨w.heap.size, 0, none⟩) n A1 w3 (row_rd hrow3 (by have := Hn.out; omega) (by omega))
  rw [hl3, ← Hn.out] at ht
  have HT := hid ht
  have hres : Nt w3 (.slice (some ⟨w.heap.size, 0, none⟩) (trimL A1).length n) (a - b) Ka :=
    nt_row hrow3 hd3 (by rw [hv3, HA.out.eq, HB.out.eq]) (by have := Hn.out; omega) (by omega) (by have := HA.out.le; omega)
  have hbel : Below w.heap.size w w3 := (Hb.out.grown Hg2.out Hb.out.size (fun k e => by cases e; exact Nat.le_refl _)).grown hg3 (by have := Hb.out.size; have := Hg2.out.size; omega) (fun k e => by cases e; exact Nat.le_refl _)
  have Hres := hid hres; have Hbel := hid hbel
  clear ht hres hbel hrow3 hd3 hv3 hl3 hg3 HI
  refine HT.out.mono ?_
  rintro e w4 ⟨rfl, rfl⟩
  go_wp2
  go_ret
  exact ⟨_, rfl, Hres.out, Hbel.out⟩

theorem len_of_le {LA LB : List Int} (hA : Dig B64 LA) (hB : Dig B64 LB) (nB : Nrm LB) (h : val B64 LB ≤ val B64 LA) : LB.length ≤ LA.length := by
  by_cases hl : LB.length ≤ LA.length
  · exact hl
  · exfalso
    have h1 := val_lt B64_pos hA
    have h2 := Nrm.low B64_pos hB nB (by omega)
    have h3 := pow_mono B64_pos (show LA.length ≤ LB.length - 1 by omega)
    omega

theorem subtract_any (va vb : Value) (a b : Int) (Ka Kb : Nat) (w : World) (hA : Nt w va a Ka) (hB : Nt w vb b Kb) (h1 : Ka ≤ 1073741824) (hba : b ≤ a) :
    Calls Tryz.prog 100 #[va, vb] w (RetN w (a - b) Ka) := by
  obtain ⟨ao, ca, LA, rfl, hA⟩ := hA
  obtain ⟨bo, cb, LB, rfl, hB⟩ := hB
  exact subtract_le ao bo ca cb LA LB a b Ka Kb w hA hB h1 (len_of_le hA.dig hB.dig hB.nrm (by rw [hA.eq, hB.eq]; exact hba)) hba

set_option maxRecDepth 100000 in
set_option maxHeartbeats 1000000 in
theorem clone_any (ao : Option Addr) (ca : Nat) (LA : List Int) (a : Int) (Ka : Nat) (w : World) (hA : NtL w ao ca LA a Ka) (hk : Ka ≤ 1073741824) :
    Calls Tryz.prog 116 #[.slice ao LA.length ca] w fun e w' => e = .returned (.slice (some ⟨w.heap.size, 0, none⟩) LA.length LA.length) ∧ Row .u64 63 w' w.heap.size LA ∧ Below w.heap.size w w' := by
  obtain ⟨n, hn⟩ : ∃ n, n = LA.length := ⟨_, rfl⟩
  have hn30 : n ≤ 1073741824 := by have := hA.le; omega
  rw [← hn]
  have HA := hid hA; have Hn := hid hn
  clear hA hn
  obtain ⟨i0, hi, hz0, hz1, hz2⟩ := info_parts Tryz.info63
  go_enter Tryz.func116, Tryz.ntmps116
  go_wp2_with (at_make; refine wpList_make_row w rfl _ _ 54 rfl 63 i0 .u64 Tryz.underlying54 hi hz0 hz1 .i64 .i64 _ _ n rfl rfl (by omega) (by omega) (by rw [hz2]; omega) (by unfold maxLen; omega) ?_)
  intro w1 hrow hg1
  have hg1b := grown_below hg1
  have HRA := hid ((HA.out.rd).below hg1b (Nat.le_refl _))
  go_wp2_with ((with_reducible refine wpList_copy_row rfl _ _ _ _ rfl 63 Tryz.underlying54 Tryz.size63 .u64 63 w.heap.size [] (List.replicate n 0) [] LA 0 n n n ao ca rfl rfl rfl (by simp) Hn.out (by simpa using hrow) HRA.out (by have := Hn.out; simp; omega) ?_))
  intro w2 hrow2 hg2
  have hrow2' : Row .u64 63 w2 w.heap.size LA := by
    have e : n - LA.length = 0 := by have := Hn.out; omega
    rw [e] at hrow2; simpa using hrow2
  have Hrow2 := hid hrow2'; have Hb := hid (hg1b.grown hg2 hg1b.size (fun k e => by cases e; exact Nat.le_refl _))
  clear hrow2 hrow2' hrow hg1 hg1b hg2
  go_wp2
  go_ret
  exact ⟨rfl, Hrow2.out, Hb.out⟩

end Go.Proofs.YtbapeilpkhbbeaaGreatDoor

/- exact.bitLength, root. -/
namespace Go.Proofs.YtbapeilpkhbbeaaGreatDoor
open Go.RowKit Go.Shelf

/-- How many bits a number has. -/
def Bits (a : Int) (l : Nat) : Prop := (a = 0 ∧ l = 0) ∨ (1 ≤ l ∧ 2 ^ (l - 1) ≤ a ∧ a < 2 ^ l)

end Go.Proofs.YtbapeilpkhbbeaaGreatDoor

/- exact.root: its walk. -/
namespace Go.Proofs.YtbapeilpkhbbeaaGreatDoor
open Go.RowKit

theorem Rd.unique {w : World} {k : IntKind} {ao : Option Addr} {c c' : Nat} {L L' : List Int} (h : Rd w k ao c L) (h' : Rd w k ao c' L') (hl : L.length = L'.length) : L = L' := by
  by_cases h0 : L.length = 0
  · rw [List.eq_nil_of_length_eq_zero h0, List.eq_nil_of_length_eq_zero (l := L') (by omega)]
  · obtain ⟨b, o, rfl⟩ := h.adr (by omega)
    refine List.ext_getElem hl fun i h1 h2 => ?_
    have a := h.cell b o rfl i h1
    rw [h'.cell b o rfl i h2] at a
    have e := Value.int.inj (Option.some.inj a)
    simpa [h1, h2] using e.2.symm
theorem Nt.unique {w : World} {v : Value} {n n' : Int} {K K' : Nat} (h : Nt w v n K) (h' : Nt w v n' K') : n = n' := by
  obtain ⟨ao, c, L, rfl, h⟩ := h
  obtain ⟨ao', c', L', e, h'⟩ := h'
  obtain ⟨e1, e2, _⟩ := Value.slice.inj e
  subst e1
  rw [← h.eq, ← h'.eq, h.rd.unique h'.rd e2]

open Classical in
/-- The number that a value stands for, 0 if none. -/
noncomputable def natOf (w : World) (v : Value) : Nat := if h : ∃ n : Int, ∃ K, Nt w v n K then (Classical.choose h).toNat else 0
theorem natOf_eq {w : World} {v : Value} {n : Int} {K : Nat} (h : Nt w v n K) : natOf w v = n.toNat := by
  have hx : ∃ n : Int, ∃ K, Nt w v n K := ⟨n, K, h⟩
  unfold natOf
  rw [dif_pos hx]
  obtain ⟨K', h'⟩ := Classical.choose_spec hx
  rw [h'.unique h]

theorem one_row (w : World) : Nt (w.alloc (Obj.cells #[Value.int IntKind.u64 1] 63)) (.slice (some ⟨w.heap.size, 0, none⟩) 1 1) 1 1 := by
  have hrow : Row .u64 63 (w.alloc (Obj.cells #[Value.int IntKind.u64 1] 63)) w.heap.size [1] := by unfold Row World.alloc; simp
  have h := nt_row (c := 1) (K := 1) hrow (Dig.cons (by decide) (by decide) (Dig.nil _)) (n := 1) (by simp [val]) (by simp) (by decide) (by simp)
  simpa [trimL] using h

end Go.Proofs.YtbapeilpkhbbeaaGreatDoor

/- (exact.natural).words: the words of a natural, in new memory. -/
namespace Go.Proofs.YtbapeilpkhbbeaaGreatDoor
open Go.RowKit

def unpack : List Int → List Int
  | [] => []
  | x :: l => x % B32 :: x / B32 :: unpack l

theorem unpack_val : ∀ l : List Int, val B32 (unpack l) = val B64 l
  | [] => rfl
  | x :: l => by
    have h := unpack_val l
    have e : B64 = B32 * B32 := by decide
    have d := Int.emod_add_mul_ediv x B32
    simp only [unpack, val, h, e]; grind
theorem unpack_len : ∀ l : List Int, (unpack l).length = 2 * l.length
  | [] => rfl
  | x :: l => by simp only [unpack, List.length_cons, unpack_len l]; omega
theorem unpack_dig : ∀ {l : List Int}, Dig B64 l → Dig B32 (unpack l)
  | [], _ => Dig.nil _
  | x :: l, h => by
    have := h.head
    refine Dig.cons (Int.emod_nonneg _ (by decide)) (Int.emod_lt_of_pos _ B32_pos) (Dig.cons (Int.ediv_nonneg this.1 (by decide)) ?_ (unpack_dig h.tail))
    exact Int.ediv_lt_of_lt_mul B32_pos (by have := this.2; have e : B32 * B32 = B64 := by decide
                                            omega)
theorem unpack_snoc : ∀ (l : List Int) (x : Int), unpack (l ++ [x]) = unpack l ++ [x % B32, x / B32]
  | [], x => rfl
  | y :: l, x => by simp [unpack, unpack_snoc l x]

/-- A slice of words that the call has made, in normal form, whose number is n. -/
def FrW (w0 w : World) (v : Value) (n : Int) (K : Nat) : Prop := ∃ L : List Int, w.ownsRow w0.heap.size 89 1 v L.length (L.map (Value.int .u32)) ∧ Dig B32 L ∧ Nrm L ∧ val B32 L = n ∧ L.length ≤ K
def RetW (w : World) (n : Int) (K : Nat) (e : Ending) (w' : World) : Prop := ∃ v, e = .returned v ∧ FrW w w' v n K ∧ Below w.heap.size w w'

theorem owns_take {w : World} {base g n cap : Nat} {e : TypeId} {xs : List Value} (h : w.ownsRow base e 1 (.slice (some ⟨g, 0, none⟩) n cap) n xs) (m : Nat) (hm : m ≤ n) :
    w.ownsRow base e 1 (.slice (some ⟨g, 0, none⟩) m cap) m (xs.take m) := by
  rcases h.2 with ⟨h', _⟩ | ⟨g', cap', cur, h', hb, hg, hnc, hcm, hcs, ht⟩
  · simp at h'
  · simp only [Value.slice.injEq, Option.some.injEq, Addr.mk.injEq, and_true, true_and] at h'
    obtain ⟨rfl, rfl⟩ := h'
    refine ⟨by have := h.1; simp at this ⊢; omega, .inr ⟨g, cap, cur, rfl, hb, hg, by omega, hcm, hcs, ?_⟩⟩
    rw [← ht, List.take_take, Nat.min_eq_left (by omega)]; simp
theorem owns_rd {w : World} {base g cap : Nat} {e : TypeId} {k : IntKind} {L : List Int} (h : w.ownsRow base e 1 (.slice (some ⟨g, 0, none⟩) L.length cap) L.length (L.map (Value.int k))) (hc : cap ≤ 9223372036854775807) :
    Rd w k (some ⟨g, 0, none⟩) cap L := by
  have hcap : L.length ≤ cap := by
    rcases h.2 with ⟨h', _⟩ | ⟨g', cap', cur, h', hb, hg, hnc, _⟩
    · simp at h'
    · simp only [Value.slice.injEq, Option.some.injEq, Addr.mk.injEq, and_true, true_and] at h'
      obtain ⟨rfl, rfl⟩ := h'; exact hnc
  refine ⟨hcap, hc, fun _ => ⟨_, _, rfl⟩, fun b off e i hi => ?_⟩
  cases e
  rw [Nat.zero_add, h.cellAt i (by omega)]
  simp [hi]

theorem Tryz.info89 : (Tryz.prog.info? 89).map (fun i => (i.zero, i.size, i.bytes)) = some (some (.int .u32 0), 1, 4) := by kernel_rfl

set_option maxRecDepth 100000 in
set_option maxHeartbeats 1000000 in
theorem words_any (va : Value) (a : Int) (K : Nat) (w : World) (hA : Nt w va a K) (hk : K ≤ 1073741824) :
    Calls Tryz.prog 121 #[va] w (RetW w a (2 * K)) := by
  obtain ⟨ao, ca, L, rfl, hA⟩ := hA
  obtain ⟨n, hn⟩ : ∃ n, n = L.length := ⟨_, rfl⟩
  have hnK : n ≤ K := by have := hA.le; omega
  have hn30 : n ≤ 1073741824 := by omega
  rw [← hn]
  have HA := hid hA; have Hn := hid hn
  clear hA hn
  obtain ⟨i0, hi, hz0, hz1, hz2⟩ := info_parts Tryz.info89
  by_cases h0 : n = 0
  · subst h0
    go_enter Tryz.func121, Tryz.ntmps121
    go_wp2
    go_ret
    obtain rfl : L = [] := List.eq_nil_of_length_eq_zero Hn.out.symm
    exact ⟨_, rfl, ⟨[], World.ownsRow_nil _ _ _ _, Dig.nil _, rfl, HA.out.eq, Nat.zero_le _⟩, Below.refl _ _⟩
  · have hb0 : ((n : Int) == 0) = false := by rw [beq_eq_false_iff_ne]; omega
    obtain ⟨b, o, rfl⟩ := HA.out.rd.adr (by have := Hn.out; omega)
    go_enter Tryz.func121, Tryz.ntmps121
    go_wp2_with (at_make; refine wpList_make_own w rfl _ _ 22 rfl w.heap.size 89 i0 (.int .u32 0) 1 Tryz.underlying22 hi hz0 hz1 _ _ _ (2 * n) rfl rfl (by omega) (by rw [hz2]; omega) (by unfold maxLen; omega) (Nat.le_refl _) ?_)
    intro w1 hown1 hg1
    have hb1 := grown_below hg1
    go_wp2
    go_loopw [3, 15] (fun v iv wr => ∃ k : Nat, k ≤ n ∧ iv = .int .i64 k ∧ v = .slice (some ⟨w.heap.size, 0, none⟩) (2 * k) (2 * n) ∧ wr.ownsRow w.heap.size 89 1 (.slice (some ⟨w.heap.size, 0, none⟩) (2 * k) (2 * n)) (2 * k) ((unpack (L.take k)).map (Value.int .u32)) ∧ Below w.heap.size w wr) (fun _ iv _ => n - (intOf iv).toNat)
    case atStart => exact ⟨0, Nat.zero_le _, rfl, rfl, hown1, hb1⟩
    case round =>
      obtain ⟨k, hk, rfl, rfl, hown, hb⟩ := hrel
      by_cases hlt : k < n
      · have hx : wr.cell? ⟨b, o + k, none⟩ = some (.int .u64 (L[k]?.getD 0)) := (HA.out.rd.below hb (Nat.le_refl _)).cell b o rfl k (by have := Hn.out; omega)
        have hd := HA.out.dig.at B64_pos k
        have hts := take_succ_getD L k (by have := Hn.out; omega)
        have hus := unpack_snoc (L.take k) (L[k]?.getD 0)
        rw [← hts] at hus
        obtain ⟨x, hxe⟩ : ∃ x, x = L[k]?.getD 0 := ⟨_, rfl⟩
        rw [← hxe] at hx hd hus
        have HU := hid hus; have HX := hid hxe
        have d0 := hd.1; have d1 := hd.2; unfold B64 at d1
        clear hts hus hxe hown1 hg1 hb1
        go_wp2_with (at_builtin; refine wpList_append_fits _ rfl _ _ 22 rfl w.heap.size 89 i0 1 Tryz.underlying22 hi hz1 w.heap.size (2 * k) (2 * n) _ rfl (hown.alloc _) ⟨wr.heap.size, 0, none⟩ 2 2 [.int .u32 (x % 4294967296), .int .u32 (x / 4294967296)] rfl rfl ?c1 ?c2 ?c3 ?_)
        case c1 =>
          intro j u hj
          match j, hj with
          | 0, hj => simp at hj; subst hj; simp [Addr.add]
          | 1, hj => simp at hj; subst hj; simp [Addr.add]
        case c2 => intro u hu; simp at hu; rcases hu with rfl | rfl <;> rfl
        case c3 => omega
        intro w2 hown2 hg2
        have hb2 := (hb.alloc hb.size (.cells #[.int .u32 (x % 4294967296), .int .u32 (x / 4294967296)] 89)).grown hg2 (by simp; have := hb.size; omega) (fun k e => by cases e; exact Nat.le_refl _)
        have hown3 : w2.ownsRow w.heap.size 89 1 (.slice (some ⟨w.heap.size, 0, none⟩) (2 * (k + 1)) (2 * n)) (2 * (k + 1)) ((unpack (L.take (k + 1))).map (Value.int .u32)) := by
          rw [HU.out, List.map_append]; exact hown2
        clear hown2 hg2 hown hb
        have Hown := hid hown3; clear hown3
        go_wp2
        go_roundw
        case rel => exact ⟨k + 1, by omega, by go_num, rfl, Hown.out, hb2⟩
        case measure => simp [intOf]; omega
      · obtain rfl : k = n := by omega
        have hl : 2 * k = (unpack L).length := by rw [unpack_len, ← Hn.out]
        have hown4 : wr.ownsRow w.heap.size 89 1 (.slice (some ⟨w.heap.size, 0, none⟩) (unpack L).length (2 * k)) (unpack L).length ((unpack L).map (Value.int .u32)) := by
          have := hown; rw [Hn.out, List.take_length, ← Hn.out] at this; rw [← hl]; exact this
        have ht := trim32_any (some ⟨w.heap.size, 0, none⟩) (2 * k) (unpack L) wr (owns_rd hown4 (by omega))
        rw [← hl] at ht
        have HT := hid ht; have Hown := hid hown4; have Hb := hid hb
        clear ht hown4 hown hb hl hown1 hg1 hb1
        go_wp2_with (go_at_call 122; refine HT.out.mono ?_; rintro e w2 ⟨rfl, rfl⟩)
        go_ret
        refine ⟨_, rfl, ⟨trimL (unpack L), ?_, (unpack_dig HA.out.dig).trim, Nrm.trim _, by rw [val_trim, unpack_val]; exact HA.out.eq, ?_⟩, Hb.out⟩
        · have h := owns_take Hown.out (trimL (unpack L)).length (trimL_len _)
          rw [← List.map_take, ← trimL_take] at h
          exact h
        · have := trimL_len (unpack L); rw [unpack_len] at this; have := HA.out.le; omega

end Go.Proofs.YtbapeilpkhbbeaaGreatDoor
