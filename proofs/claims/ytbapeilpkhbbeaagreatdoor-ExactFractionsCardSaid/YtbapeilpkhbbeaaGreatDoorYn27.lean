/- exact.join. exact.multiplyLimbs: the product lies in new memory. exact.multiplyHalves, if multiply is right at shorter factors. -/
import Derived.Test.YtbapeilpkhbbeaaGreatDoorYn09
import Derived.Test.YtbapeilpkhbbeaaGreatDoorYn07
import Derived.Test.YtbapeilpkhbbeaaGreatDoorYn11
import Derived.Test.YtbapeilpkhbbeaaGreatDoorYn08
import Derived.Test.YtbapeilpkhbbeaaGreatDoorYn10
/- exact.join. -/
namespace Go.Proofs.YtbapeilpkhbbeaaGreatDoor
open Go.RowKit

theorem join_done {w wr : World} {g h N : Nat} {R LA LB A1 : List Int} {cc : Int} (hdA : Dig B64 LA) (hdB : Dig B64 LB) (hA : LA.length ≤ N) (hB : LB.length + h ≤ N) (hR : R.length = N + 1) (hv : val B64 R = B64 ^ h * val B64 LB)
    (H : AddI w wr g [] R [] R.length (val B64 LA) A1 cc) : Row .u64 63 wr g A1 ∧ Dig B64 A1 ∧ val B64 A1 = val B64 LA + B64 ^ h * val B64 LB ∧ A1.length = N + 1 := by
  have hl : A1.length = N + 1 := by rw [H.len, hR]
  have e := H.eq
  rw [hv, hR] at e
  have h1 := val_lt B64_pos hdA
  have h2 := val_lt B64_pos hdB
  have h3 : B64 ^ LA.length ≤ B64 ^ N := pow_mono B64_pos hA
  have h5 : B64 ^ (h + LB.length) ≤ B64 ^ N := pow_mono B64_pos (by omega)
  have hp : 0 < B64 ^ h := Int.pow_pos B64_pos
  have h6 : B64 ^ h * val B64 LB ≤ B64 ^ h * B64 ^ LB.length := Int.mul_le_mul_of_nonneg_left (Int.le_of_lt h2) (Int.le_of_lt hp)
  rw [← Int.pow_add] at h6
  have h4 := val_nonneg B64_pos H.dig
  have hpN : 0 < B64 ^ N := Int.pow_pos B64_pos
  have hcc : cc = 0 := by
    rcases (show cc = 0 ∨ cc = 1 by have := H.c0; have := H.c1; omega) with h | h
    · exact h
    · subst h
      rw [Int.pow_succ] at e
      have : B64 ^ N * 2 ≤ B64 ^ N * B64 := Int.mul_le_mul_of_nonneg_left (by decide) (Int.le_of_lt hpN)
      omega
  subst hcc
  refine ⟨by simpa using H.row, H.dig, by simp at e; omega, hl⟩

set_option maxRecDepth 100000 in
set_option maxHeartbeats 2000000 in
theorem join_any (va vb : Value) (a b : Int) (Ka Kb t K : Nat) (w : World) (hA : Nt w va a Ka) (hB : Nt w vb b Kb) (hKa : Ka < K) (hKb : Kb + t < K) (hK : K ≤ 1073741824) :
    Calls Tryz.prog 95 #[va, vb, .int .i64 t] w (RetOwn w (a + B64 ^ t * b) K) := by
  obtain ⟨ao, ca, LA, rfl, hA⟩ := hA
  obtain ⟨bo, cb, LB, rfl, hB⟩ := hB
  obtain ⟨n, hn⟩ : ∃ n, n = LA.length := ⟨_, rfl⟩
  obtain ⟨m, hm⟩ : ∃ m, m = LB.length := ⟨_, rfl⟩
  have hnK : n < K := by have := hA.le; omega
  have hmK : m + t < K := by have := hB.le; omega
  rw [← hn, ← hm]
  obtain ⟨N, hN⟩ : ∃ N, N = max n (m + t) := ⟨_, rfl⟩
  have hNi : max (n : Int) ((m : Int) + (t : Int)) = (N : Int) := by omega
  have hNn : n ≤ N := by omega
  have hNm : m + t ≤ N := by omega
  have hNK : N < K := by omega
  have HA := hid hA; have HB := hid hB; have Hn := hid hn; have Hm := hid hm
  clear hA hB hn hm hN
  by_cases hcmp : (n : Int) < (m : Int) + (t : Int)
  all_goals
  obtain ⟨i0, hi, hz0, hz1, hz2⟩ := info_parts Tryz.info63
  go_enter Tryz.func95, Tryz.ntmps95
  go_wp2_with (at_make; refine wpList_make_row w rfl _ _ 54 rfl 63 i0 .u64 Tryz.underlying54 hi hz0 hz1 .i64 .i64 _ _ (N + 1) rfl rfl (by omega) (by omega) (by rw [hz2]; omega) (by unfold maxLen; omega) ?_)
  intro w1 hrow hg1
  have hg1b := grown_below hg1
  have HRB := hid (HB.out.rd.below hg1b (Nat.le_refl _))
  have HRA := hid (HA.out.rd.below hg1b (Nat.le_refl _))
  have hrow1 : Row .u64 63 w1 w.heap.size (List.replicate t 0 ++ List.replicate (N + 1 - t) 0 ++ []) := by
    rw [List.append_nil, List.replicate_append_replicate, show t + (N + 1 - t) = N + 1 by omega]; exact hrow
  have Hrow1 := hid hrow1
  have Hb1 := hid hg1b
  clear hrow hrow1 hg1 hg1b
  go_wp2_with ((with_reducible refine wpList_copy_row rfl _ _ _ _ rfl 63 Tryz.underlying54 Tryz.size63 .u64 63 w.heap.size (List.replicate t 0) (List.replicate (N + 1 - t) 0) [] LB t (N + 1 - t) m (N + 1 - t) bo cb rfl rfl (by simp) (by simp) Hm.out Hrow1.out HRB.out (by have := Hm.out; simp; omega) ?_))
  intro w2 hrow2 hg2
  have HneA := hid (HA.out.rd.ne (Nat.le_refl w.heap.size))
  have HRA2 := hid (HRA.out.keptNew hg2 HneA.out)
  obtain ⟨R, hR⟩ : ∃ R, R = List.replicate t (0 : Int) ++ (LB ++ List.replicate (N + 1 - t - LB.length) (0 : Int)) := ⟨_, rfl⟩
  rw [← hR] at hrow2
  have hRl : R.length = N + 1 := by have := Hm.out; rw [hR]; simp; omega
  have hRd : Dig B64 R := by
    rw [hR]
    exact (Dig.replicate B64_pos _).append (HB.out.dig.append (Dig.replicate B64_pos _))
  have hRv : val B64 R = B64 ^ t * val B64 LB := by
    rw [hR, val_append, val_append, val_replicate, List.length_replicate, val_replicate]; simp
  have hc := addTo_any w.heap.size [] R [] LA (N + 1) ca ao w2 (by simpa using hrow2) hRd HA.out.dig (by omega) (by omega) HRA2.out (by have := Hn.out; omega) HneA.out
  rw [show ([] : List Int).length = 0 from rfl, hRl, ← Hn.out] at hc
  have hdone := fun (w' : World) (A1 : List Int) (cc : Int) (HI : AddI w2 w' w.heap.size [] R [] R.length (val B64 LA) A1 cc) => join_done (N := N) HA.out.dig HB.out.dig (by have := Hn.out; omega) (by have := Hm.out; omega) hRl hRv HI
  rw [hRl, HA.out.eq, HB.out.eq] at hdone
  rw [HA.out.eq] at hc
  have Hc := hid hc; have Hd := hid hdone
  have Hb2 := hid (Hb1.out.grown hg2 Hb1.out.size (fun k e => by cases e; exact Nat.le_refl _))
  have Hg2 := hid hg2
  clear hc hdone hR hRl hRd hRv hrow2 hg2
  go_wp2_with (go_at_call 127; refine Hc.out.mono ?_; rintro e w3 ⟨A1, cc, rfl, HI⟩)
  obtain ⟨hrow3, hd3, hv3, hl3⟩ := Hd.out _ _ _ HI
  have hbel : Below w.heap.size w w3 := Hb2.out.grown HI.gr (by have := Hb2.out.size; omega) (fun k e => by cases e; exact Nat.le_refl _)
  have ht := trim64_any (some ⟨w.heap.size, 0, none⟩) (N + 1) A1 w3 (row_rd hrow3 (by omega) (by omega))
  rw [hl3] at ht
  have hres := own_row (B := w.heap.size) (c := N + 1) (K := K) hrow3 hd3 hv3 (by omega) (by omega) (by omega) (Nat.le_refl _)
  have HT := hid ht; have Hres := hid hres; have Hbel := hid hbel
  clear ht hres hbel hrow3 hd3 hv3 hl3 HI
  refine HT.out.mono ?_
  rintro e w4 ⟨rfl, rfl⟩
  go_wp2
  go_ret
  exact ⟨_, rfl, Hres.out, Hbel.out⟩

end Go.Proofs.YtbapeilpkhbbeaaGreatDoor

/- exact.multiplyLimbs: the product lies in new memory. -/
namespace Go.Proofs.YtbapeilpkhbbeaaGreatDoor
open Go.RowKit

set_option maxRecDepth 100000 in
set_option maxHeartbeats 2000000 in
theorem multiplyLimbs_own (va vb : Value) (a b : Int) (Ka Kb : Nat) (w : World) (hA : Nt w va a Ka) (hB : Nt w vb b Kb) (h1 : Ka ≤ 1073741824) (h2 : Kb ≤ 1073741824) :
    Calls Tryz.prog 94 #[va, vb] w (RetOwn w (a * b) (Ka + Kb)) := by
  obtain ⟨ao, ca, LA, rfl, hA⟩ := hA
  obtain ⟨bo, cb, LB, rfl, hB⟩ := hB
  obtain ⟨n, hn⟩ : ∃ n, n = LA.length := ⟨_, rfl⟩
  obtain ⟨m, hm⟩ : ∃ m, m = LB.length := ⟨_, rfl⟩
  have hn30 : n ≤ 1073741824 := by have := hA.le; omega
  have hm30 : m ≤ 1073741824 := by have := hB.le; omega
  rw [← hn, ← hm]
  have HA := hid hA; have HB := hid hB; have Hn := hid hn; have Hm := hid hm
  clear hA hB hn hm
  obtain ⟨i0, hi, hz0, hz1, hz2⟩ := info_parts Tryz.info63
  go_enter Tryz.func94, Tryz.ntmps94
  go_wp2_with (at_make; refine wpList_make_row w rfl _ _ 54 rfl 63 i0 .u64 Tryz.underlying54 hi hz0 hz1 .i64 .i64 _ _ (n + m) rfl rfl (by omega) (by omega) (by rw [hz2]; omega) (by unfold maxLen; omega) ?_)
  intro w1 hrow hg1
  have hb1 := grown_below hg1
  have H0 : LimbI w w1 w.heap.size LA LB 0 (List.replicate n 0) := by
    refine ⟨?_, grown_any hg1, by simp [Hn.out], Dig.replicate B64_pos _, by simp [val_replicate, val]⟩
    have e : List.replicate n (0 : Int) ++ List.replicate (LB.length - 0) 0 = List.replicate (n + m) 0 := by rw [List.replicate_append_replicate, Nat.sub_zero, ← Hm.out]
    rw [e]; exact hrow
  have HG1 := hid (HA.out.rd.ne (Nat.le_refl w.heap.size)); have HG2 := hid (HB.out.rd.ne (Nat.le_refl w.heap.size))
  clear hrow hg1
  go_wp2
  go_loopw [16] (fun iv wr => ∃ k : Nat, ∃ Q, k ≤ m ∧ iv = .int .i64 k ∧ LimbI w wr w.heap.size LA LB k Q ∧ Below w.heap.size w wr) (fun iv _ => m - (intOf iv).toNat)
  case atStart => exact ⟨0, _, Nat.zero_le _, rfl, H0, hb1⟩
  case round =>
    obtain ⟨k, Q, hk, rfl, H, hbr⟩ := hrel
    by_cases hlt : k < m
    · obtain ⟨b1, o1, rfl⟩ := HB.out.rd.adr (by have := Hm.out; omega)
      have hBk := (HB.out.rd.keptNew H.gr HG2.out).cell b1 o1 rfl k (by have := Hm.out; omega)
      have hAr := HA.out.rd.keptNew H.gr HG1.out
      have hy := HB.out.dig.at B64_pos k
      obtain ⟨y, hye⟩ : ∃ y, y = LB[k]?.getD 0 := ⟨_, rfl⟩
      rw [← hye] at hBk hy
      have hlP : (Q.take k).length = k := by rw [List.length_take, H.len]; omega
      have hlA : (Q.drop k).length = n := by rw [List.length_drop, H.len, Hn.out]; omega
      have hc := addProduct_any w.heap.size (Q.take k) (Q.drop k) (List.replicate (LB.length - k) 0) LA (n + m - k) ca ao y wr (by rw [List.take_append_drop]; exact H.row) (H.dig.drop k) HA.out.dig hy.1 hy.2 (by omega) (by omega) hAr (by rw [hlA, Hn.out]) HG1.out
      rw [hlP, hlA, ← Hn.out] at hc
      have hstep := fun (w1 : World) (A1 : List Int) (cc : Int) (hm : MulI wr w1 w.heap.size (Q.take k) (Q.drop k) (List.replicate (LB.length - k) 0) n (val B64 LA * y) A1 cc) => H.step (by have := Hm.out; omega) hye (by rw [hlA]; exact hm)
      rw [← Hn.out] at hstep
      have hcell := fun (w1 : World) (A1 : List Int) (cc : Int) (hm : MulI wr w1 w.heap.size (Q.take k) (Q.drop k) (List.replicate (LB.length - k) 0) n (val B64 LA * y) A1 cc) => (show (∃ u, w1.cell? ⟨w.heap.size, k + n, none⟩ = some (.int .u64 u)) ∧ w1.frozen? ⟨w.heap.size, k + n, none⟩ = false from
        ⟨⟨_, hm.row.cell (k + n) (by have e1 := hm.len; rw [hlA] at e1; have := Hm.out; simp only [List.length_append, List.length_replicate]; omega)⟩, hm.row.frozen _⟩)
      have HC := hid hc; have HSt := hid hstep; have HCe := hid hcell; have Hye := hid hye; have HH := hid H
      clear hc hstep hcell hye H hAr hlP hlA H0 hb1
      go_wp2_with (go_at_call 126; refine HC.out.mono ?_; rintro e w2 ⟨A1, cc, rfl, HI⟩; obtain ⟨⟨u, hu⟩, hf⟩ := HCe.out w2 A1 cc HI)
      go_roundw
      case rel => exact ⟨k + 1, _, by omega, by go_num, HSt.out w2 A1 cc HI, (hbr.grown HI.gr hbr.size (fun i e => by cases e; exact Nat.le_refl _)).setCell (Nat.le_refl _) _⟩
      case measure => simp [intOf]; omega
    · obtain rfl : k = m := by omega
      have hr := H.row
      have hv := H.eq
      have hl := H.len
      rw [← Hm.out, Nat.sub_self, List.replicate_zero, List.append_nil] at hr
      rw [Hm.out, List.take_length, HA.out.eq, HB.out.eq] at hv
      rw [← Hn.out] at hl
      have ht := trim64_any (some ⟨w.heap.size, 0, none⟩) (n + k) Q wr (row_rd hr (by omega) (by omega))
      rw [hl] at ht
      have hres := own_row (B := w.heap.size) (c := n + k) (K := Ka + Kb) hr H.dig hv (by omega) (by omega) (by have := HA.out.le; have := HB.out.le; have := Hn.out; have := Hm.out; omega) (Nat.le_refl _)
      have HT := hid ht; have Hres := hid hres
      clear ht hres hr hv hl H H0 hb1
      go_wp2_with (go_at_call 96; refine HT.out.mono ?_; rintro e w2 ⟨rfl, rfl⟩)
      go_ret
      exact ⟨_, rfl, Hres.out, hbr⟩

end Go.Proofs.YtbapeilpkhbbeaaGreatDoor

/- exact.multiplyHalves, if multiply is right at shorter factors. -/
namespace Go.Proofs.YtbapeilpkhbbeaaGreatDoor
open Go.RowKit

theorem Rd.drop {w : World} {k : IntKind} {b o : Nat} {c : Nat} {L : List Int} (h : Rd w k (some ⟨b, o, none⟩) c L) (n : Nat) (hn : n ≤ L.length) : Rd w k (some ⟨b, o + n, none⟩) (c - n) (L.drop n) := by
  have hc := h.cap
  refine ⟨by rw [List.length_drop]; omega, by have := h.most; omega, fun _ => ⟨_, _, rfl⟩, fun b' o' e i hi => ?_⟩
  cases e
  rw [List.length_drop] at hi
  rw [Nat.add_assoc, h.cell b o rfl (n + i) (by omega), List.getElem?_drop]

/-- multiply is right at factors of fewer than N limbs together. -/
def MulAt (N : Nat) : Prop := ∀ (va vb : Value) (a b : Int) (Ka Kb : Nat) (w : World), Nt w va a Ka → Nt w vb b Kb → Ka + Kb < N → Ka + Kb ≤ 500000 →
  Calls Tryz.prog 53 #[va, vb] w (RetOwn w (a * b) (Ka + Kb))

theorem Nrm.drop {L : List Int} (h : Nrm L) : ∀ n, Nrm (L.drop n) := by
  induction L with
  | nil => intro n; simpa using Nrm.nil
  | cons x l ih =>
    intro n
    cases n with
    | zero => simpa using h
    | succ n => simpa using ih h.tail n
theorem val_parts (L : List Int) (n : Nat) (hn : n ≤ L.length) : val B64 L = val B64 (L.take n) + B64 ^ n * val B64 (L.drop n) := by
  have e := val_append B64 (L.take n) (L.drop n)
  rw [List.take_append_drop, List.length_take, Nat.min_eq_left hn] at e
  exact e
theorem kara (al ah bl bh p : Int) : al * bl + p * ((al + ah) * (bl + bh) - al * bl - ah * bh + p * (ah * bh)) = (al + p * ah) * (bl + p * bh) := by grind
theorem kara_le {al ah bl bh : Int} (h1 : 0 ≤ al) (h2 : 0 ≤ ah) (h3 : 0 ≤ bl) (h4 : 0 ≤ bh) : al * bl ≤ (al + ah) * (bl + bh) ∧ ah * bh ≤ (al + ah) * (bl + bh) ∧ ah * bh ≤ (al + ah) * (bl + bh) - al * bl := by
  have a := Int.mul_nonneg h1 h3; have b := Int.mul_nonneg h1 h4; have c := Int.mul_nonneg h2 h3; have d := Int.mul_nonneg h2 h4
  have e : (al + ah) * (bl + bh) = al * bl + al * bh + ah * bl + ah * bh := by grind
  omega

/-- Behind a difference in place that is not below 0. -/
theorem subs_done {w wr : World} {g : Nat} {A S M A1 : List Int} {cc : Int} (hle : val B64 M ≤ val B64 A)
    (h : SubI w wr g [] A S A.length (val B64 M) A1 cc) : Row .u64 63 wr g (A1 ++ S) ∧ Dig B64 A1 ∧ val B64 A1 = val B64 A - val B64 M ∧ A1.length = A.length := by
  have e := h.eq
  have h1 := val_lt B64_pos h.dig
  rw [h.len] at h1
  have hcc : cc = 0 := by
    rcases (show cc = 0 ∨ cc = 1 by have := h.c0; have := h.c1; omega) with h | h
    · exact h
    · subst h; omega
  subst hcc
  exact ⟨by simpa using h.row, h.dig, by simpa using e, h.len⟩

set_option maxRecDepth 100000 in
set_option maxHeartbeats 4000000 in
theorem halves_any (N : Nat) (IH : MulAt N) (ao bo : Option Addr) (ca cb la lb h : Nat) (LA LB : List Int) (a b : Int) (w : World) (hA : NtL w ao ca LA a la) (hB : NtL w bo cb LB b lb) (hla : LA.length = la) (hlb : LB.length = lb)
    (hh : h = (la + 1) / 2) (h80 : 80 ≤ lb) (hhb : h < lb) (hba : lb ≤ la) (hN : la + lb ≤ N) (hM : la + lb ≤ 500000) :
    Calls Tryz.prog 97 #[.slice ao la ca, .slice bo lb cb, .int .i64 h] w (RetOwn w (a * b) (la + lb)) := by
  obtain ⟨ab, aof, rfl⟩ := hA.rd.adr (by omega)
  obtain ⟨bb, bof, rfl⟩ := hB.rd.adr (by omega)
  have hcA := hA.rd.cap; have hcB := hB.rd.cap; have hmA := hA.rd.most; have hmB := hB.rd.most
  rw [hla] at hcA; rw [hlb] at hcB
  -- the parts
  obtain ⟨al, hal⟩ : ∃ al, al = val B64 (LA.take h) := ⟨_, rfl⟩
  obtain ⟨ah, hah⟩ : ∃ ah, ah = val B64 (LA.drop h) := ⟨_, rfl⟩
  obtain ⟨bl, hbl⟩ : ∃ bl, bl = val B64 (LB.take h) := ⟨_, rfl⟩
  obtain ⟨bh, hbh⟩ : ∃ bh, bh = val B64 (LB.drop h) := ⟨_, rfl⟩
  have ea : a = al + B64 ^ h * ah := by rw [← hA.eq, val_parts LA h (by omega), hal, hah]
  have eb : b = bl + B64 ^ h * bh := by rw [← hB.eq, val_parts LB h (by omega), hbl, hbh]
  have al0 : 0 ≤ al := by rw [hal]; exact val_nonneg B64_pos (hA.dig.take h)
  have ah0 : 0 ≤ ah := by rw [hah]; exact val_nonneg B64_pos (hA.dig.drop h)
  have bl0 : 0 ≤ bl := by rw [hbl]; exact val_nonneg B64_pos (hB.dig.take h)
  have bh0 : 0 ≤ bh := by rw [hbh]; exact val_nonneg B64_pos (hB.dig.drop h)
  have hahp : 0 < ah := by
    rcases Int.lt_or_eq_of_le ah0 with k | k
    · exact k
    · have := Nrm.eq_nil B64_pos (hA.dig.drop h) (hA.nrm.drop h) (by rw [← hah]; exact k.symm)
      have hl := congrArg List.length this
      simp at hl; omega
  have hbhp : 0 < bh := by
    rcases Int.lt_or_eq_of_le bh0 with k | k
    · exact k
    · have := Nrm.eq_nil B64_pos (hB.dig.drop h) (hB.nrm.drop h) (by rw [← hbh]; exact k.symm)
      have hl := congrArg List.length this
      simp at hl; omega
  have hmid0 : 0 < (al + ah) * (bl + bh) := Int.mul_pos (by omega) (by omega)
  have hkl := kara_le al0 ah0 bl0 bh0
  have hfin : a * b < B64 ^ (la + lb) := by
    rw [Int.pow_add]
    have x1 := val_lt B64_pos hA.dig; have x2 := val_lt B64_pos hB.dig
    rw [hA.eq, hla] at x1; rw [hB.eq, hlb] at x2
    have y1 : 0 ≤ a := hA.nonneg
    have y2 : 0 ≤ b := hB.nonneg
    have p1 : (0 : Int) < B64 ^ la := Int.pow_pos B64_pos
    have z1 : a * b ≤ a * B64 ^ lb := Int.mul_le_mul_of_nonneg_left (Int.le_of_lt x2) y1
    have z2 : a * B64 ^ lb < B64 ^ la * B64 ^ lb := Int.mul_lt_mul_of_pos_right x1 (Int.pow_pos B64_pos)
    omega
  have hkar := kara al ah bl bh (B64 ^ h)
  rw [← ea, ← eb] at hkar
  -- what the slices read
  have htA := fun (w' : World) (hb : Below w.heap.size w w') => trim64_any (some ⟨ab, aof, none⟩) ca (LA.take h) w' ((hA.rd.take h).below hb (Nat.le_refl _))
  have htB := fun (w' : World) (hb : Below w.heap.size w w') => trim64_any (some ⟨bb, bof, none⟩) cb (LB.take h) w' ((hB.rd.take h).below hb (Nat.le_refl _))
  have hlA : (LA.take h).length = h := by rw [List.length_take]; omega
  have hlB : (LB.take h).length = h := by rw [List.length_take]; omega
  rw [hlA] at htA; rw [hlB] at htB
  obtain ⟨ma, hma⟩ : ∃ ma, ma = (trimL (LA.take h)).length := ⟨_, rfl⟩
  obtain ⟨mb, hmb⟩ : ∃ mb, mb = (trimL (LB.take h)).length := ⟨_, rfl⟩
  have hmah : ma ≤ h := by have := trimL_len (LA.take h); omega
  have hmbh : mb ≤ h := by have := trimL_len (LB.take h); omega
  have hNal : ∀ w', Below w.heap.size w w' → Nt w' (.slice (some ⟨ab, aof, none⟩) ma ca) al h := fun w' hb => ⟨_, ca, trimL (LA.take h), by rw [hma], by
    have := ((hA.rd.take h).take (trimL (LA.take h)).length).below hb (Nat.le_refl _)
    rw [← trimL_take] at this; exact this, (hA.dig.take h).trim, Nrm.trim _, by rw [val_trim, hal], by rw [← hma]; exact hmah⟩
  have hNbl : ∀ w', Below w.heap.size w w' → Nt w' (.slice (some ⟨bb, bof, none⟩) mb cb) bl h := fun w' hb => ⟨_, cb, trimL (LB.take h), by rw [hmb], by
    have := ((hB.rd.take h).take (trimL (LB.take h)).length).below hb (Nat.le_refl _)
    rw [← trimL_take] at this; exact this, (hB.dig.take h).trim, Nrm.trim _, by rw [val_trim, hbl], by rw [← hmb]; exact hmbh⟩
  have hNah : ∀ w', Below w.heap.size w w' → Nt w' (.slice (some ⟨ab, aof + h, none⟩) (la - h) (ca - h)) ah (la - h) := fun w' hb => ⟨_, _, LA.drop h, by rw [List.length_drop, hla], (hA.rd.drop h (by omega)).below hb (Nat.le_refl _), hA.dig.drop h, hA.nrm.drop h, hah.symm, by rw [List.length_drop]; omega⟩
  have hNbh : ∀ w', Below w.heap.size w w' → Nt w' (.slice (some ⟨bb, bof + h, none⟩) (lb - h) (cb - h)) bh (lb - h) := fun w' hb => ⟨_, _, LB.drop h, by rw [List.length_drop, hlb], (hB.rd.drop h (by omega)).below hb (Nat.le_refl _), hB.dig.drop h, hB.nrm.drop h, hbh.symm, by rw [List.length_drop]; omega⟩
  rw [← hma] at htA; rw [← hmb] at htB
  have HtA := hid htA; have HtB := hid htB; have HNal := hid hNal; have HNbl := hid hNbl; have HNah := hid hNah; have HNbh := hid hNbh
  have HM0 := hid hmid0; have HKL := hid hkl; have HFin := hid hfin; have HKar := hid hkar; have HIH := hid IH; have HN := hid hN
  have HP0 := hid (show 0 ≤ al ∧ 0 ≤ ah ∧ 0 ≤ bl ∧ 0 ≤ bh from ⟨al0, ah0, bl0, bh0⟩)
  have hh2 : 2 * h ≤ la + 1 := by omega
  have hh3 : la ≤ 2 * h := by omega
  have hh4 : 40 ≤ h := by omega
  have hhl : h < la := by omega
  have hha : h < ca := by omega
  have hhc : h < cb := by omega
  have Hh := hid hh
  clear htA htB hNal hNbl hNah hNbh hmid0 hkl hfin hkar IH hN hA hB hal hah hbl hbh ea eb al0 ah0 bl0 bh0 hahp hbhp hlA hlB hma hmb hh hla hlb
  go_enter Tryz.func97, Tryz.ntmps97
  go_wp2
  go_quiet ((go_at_call 96; exact Calls.quiet_of_same ((HtA.out _ (below_drewN (Below.refl _ _) _)).mono (fun _ _ ⟨e, h⟩ => ⟨e, h.symm⟩))))
  go_wp2
  go_quiet ((go_at_call 96; exact quietMore ((HtB.out _ (below_drewN (Below.refl _ _) _)).mono (fun _ _ ⟨e, h⟩ => ⟨e, h.symm⟩))))
  go_wp2_with fail
  refine (HIH.out _ _ al bl h h _ (HNal.out _ (below_drewN (Below.refl _ _) _)) (HNbl.out _ (below_drewN (Below.refl _ _) _)) (by have := HN.out; omega) (by omega)).mono ?_
  rintro e w1 ⟨_, rfl, ho1, hb1⟩
  obtain ⟨lo, lm, lc, rfl, HLo⟩ := Nt.opened ho1.nt
  have HB1 := hid ((below_drewN (Below.refl w.heap.size w) _).trans hb1)
  clear ho1 hb1
  go_wp2_with fail
  refine (HIH.out _ _ ah bh (la - h) (lb - h) _ (HNah.out _ HB1.out) (HNbh.out _ HB1.out) (by have := HN.out; omega) (by omega)).mono ?_
  rintro e w2 ⟨_, rfl, ho2, hb2⟩
  obtain ⟨ho, hm, hc, rfl, HHi⟩ := Nt.opened ho2.nt
  have HB2 := hid (HB1.out.trans (hb2.mono HB1.out.size))
  have HLo2 := hid (fun w' (hb : Below w2.heap.size w2 w') => HLo.out w' (hb2.trans (hb.mono hb2.size)))
  clear ho2 hb2 HLo
  go_wp2_with fail
  refine (add_any _ _ al ah h h (h + 1) _ (HNal.out _ HB2.out) ((HNah.out _ HB2.out).mono (by omega)) (by omega) (by omega) (by omega) (by omega)).mono ?_
  rintro e w3 ⟨_, rfl, hv3, hb3⟩
  obtain ⟨o3, m3, c3, rfl, H3⟩ := Nt.opened hv3
  have HB3 := hid (HB2.out.trans (hb3.mono HB2.out.size))
  have HB23 := hid hb3
  clear hv3 hb3
  go_wp2_with fail
  refine (add_any _ _ bl bh h h (h + 1) _ (HNbl.out _ HB3.out) ((HNbh.out _ HB3.out).mono (by omega)) (by omega) (by omega) (by omega) (by omega)).mono ?_
  rintro e w4 ⟨_, rfl, hv4, hb4⟩
  have HB4 := hid (HB3.out.trans (hb4.mono HB3.out.size))
  have HB24 := hid (HB23.out.trans (hb4.mono HB23.out.size))
  have H3' := hid (H3.out _ hb4)
  have H4' := hid hv4
  clear hv4 hb4 H3 HB23
  go_wp2_with fail
  refine (HIH.out _ _ (al + ah) (bl + bh) (h + 1) (h + 1) _ H3'.out H4'.out (by have := HN.out; omega) (by omega)).mono ?_
  rintro e w5 ⟨_, rfl, ho5, hb5⟩
  rcases ho5 with ⟨g, gc, L, S, rfl, HO, hLK⟩ | ⟨_, hz⟩
  · have hB5 := HB4.out.trans (hb5.mono HB4.out.size)
    have hB25 := HB24.out.trans (hb5.mono HB24.out.size)
    have hgb := HO.base
    obtain ⟨_, _, LL, ell, hLL⟩ := HLo2.out w5 hB25
    obtain ⟨_, _, LH, elh, hLH⟩ := HHi.out w5 hB25
    obtain ⟨rfl, elm, rfl⟩ := Value.slice.inj ell
    obtain ⟨rfl, ehm, rfl⟩ := Value.slice.inj elh
    obtain ⟨_, _, LL2, ell2, hLL2⟩ := HLo2.out w4 HB24.out
    obtain ⟨_, _, LH2, elh2, hLH2⟩ := HHi.out w4 HB24.out
    obtain ⟨rfl, elm2, rfl⟩ := Value.slice.inj ell2
    obtain ⟨rfl, ehm2, rfl⟩ := Value.slice.inj elh2
    have hneL := hLL2.rd.ne hgb
    have hneH := hLH2.rd.ne hgb
    rw [← elm2, elm] at hneL; rw [← ehm2, ehm] at hneH
    have hvL : val B64 LL ≤ val B64 L := by rw [hLL.eq, HO.eq]; exact HKL.out.1
    have hvH : val B64 LH ≤ val B64 L := by rw [hLH.eq, HO.eq]; exact HKL.out.2.1
    have hlL := len_of_le HO.dig hLL.dig hLL.nrm hvL
    have hlH := len_of_le HO.dig hLH.dig hLH.nrm hvH
    have hs1 := subFrom_any g [] L S LL gc _ _ w5 (by simpa using HO.row) HO.dig hLL.dig HO.cap HO.most hLL.rd hlL hneL
    have hd1 := fun (w' : World) (A1 : List Int) (cc : Int) (HI : SubI w5 w' g [] L S L.length (val B64 LL) A1 cc) => subs_done hvL HI
    obtain ⟨n, hn⟩ : ∃ n, n = L.length := ⟨_, rfl⟩
    rw [show ([] : List Int).length = 0 from rfl, ← hn, ← elm] at hs1
    rw [← hn] at hd1 hlL hlH hLK ⊢
    have hcap := HO.cap; have hmost := HO.most
    rw [← hn] at hcap
    have Hs1 := hid hs1; have Hd1 := hid hd1; have HB5 := hid hB5
    have HLL := hid hLL; have HLH := hid hLH; have HneL := hid hneL; have HneH := hid hneH; have Hn := hid hn
    have HvO := hid HO.eq; have HlH := hid hlH; have Hlm := hid elm; have Hhm := hid ehm
    have HB45 := hid hb5; have Hgb := hid hgb
    have hgw : w.heap.size ≤ g := Nat.le_trans HB4.out.size hgb
    have HLK := hid hLK
    clear ell elh ell2 elh2 elm ehm elm2 ehm2 hLL hLH hLL2 hLH2 hneL hneH hvL hvH hlL hlH hs1 hd1 hn HO hB5 hB25 hb5 HLo2 HHi hgb hLK
    clear H3' H4' HB1 HB2 HB3 HB4 HB24 HNal HNbl HNah HNbh HtA HtB HIH
    go_wp2_with fail
    refine Hs1.out.mono ?_
    rintro e w6 ⟨A1, cc, rfl, HI⟩
    obtain ⟨hrow6, hd6, hv6, hl6⟩ := Hd1.out _ _ _ HI
    have hB6 := HB5.out.grown HI.gr (by have := HB5.out.size; omega) (fun k e => by cases e; exact hgw)
    have hrdL6 := HLL.out.rd.keptNew HI.gr HneL.out
    have hrdH6 := HLH.out.rd.keptNew HI.gr HneH.out
    have hvH6 : val B64 LH ≤ val B64 A1 := by rw [hv6, HLH.out.eq, HvO.out, HLL.out.eq]; exact HKL.out.2.2
    have hs2 := subFrom_any g [] A1 S LH gc _ _ w6 (by simpa using hrow6) hd6 HLH.out.dig (by have := Hn.out; omega) hmost hrdH6 (by have := HlH.out; omega) HneH.out
    have hd2 := fun (w' : World) (A2 : List Int) (cc : Int) (HI : SubI w6 w' g [] A1 S A1.length (val B64 LH) A2 cc) => subs_done hvH6 HI
    have hlA1 : A1.length = n := by have := Hn.out; omega
    rw [show ([] : List Int).length = 0 from rfl, hlA1, ← Hhm.out] at hs2
    rw [hlA1] at hd2
    have Hs2 := hid hs2; have Hd2 := hid hd2; have HB6 := hid hB6; have HrdL6 := hid hrdL6; have HrdH6 := hid hrdH6; have Hv6 := hid hv6
    clear hs2 hd2 hB6 hrdL6 hrdH6 hvH6 hl6 hrow6 hd6 hv6 HI hlA1 Hs1 Hd1
    go_wp2_with fail
    refine Hs2.out.mono ?_
    rintro e w7 ⟨A2, cc2, rfl, HI⟩
    obtain ⟨hrow7, hd7, hv7, hl7⟩ := Hd2.out _ _ _ HI
    have hB7 := HB6.out.grown HI.gr (by have := HB6.out.size; omega) (fun k e => by cases e; exact hgw)
    have hNtL : Nt w7 (.slice lo lm lc) (al * bl) (h + h) := ⟨_, _, LL, by rw [Hlm.out], HrdL6.out.keptNew HI.gr HneL.out, HLL.out.dig, HLL.out.nrm, HLL.out.eq, HLL.out.le⟩
    have hNtH : Nt w7 (.slice ho hm hc) (ah * bh) ((la - h) + (lb - h)) := ⟨_, _, LH, by rw [Hhm.out], HrdH6.out.keptNew HI.gr HneH.out, HLH.out.dig, HLH.out.nrm, HLH.out.eq, HLH.out.le⟩
    have hrd7 : Rd w7 .u64 (some ⟨g, 0, none⟩) gc A2 := by
      have h' : Row .u64 63 w7 g ([] ++ A2 ++ S) := by simpa using hrow7
      exact h'.rd (by have := Hn.out; omega) hmost
    have ht := trim64_any (some ⟨g, 0, none⟩) gc A2 w7 hrd7
    have hlA2 : A2.length = n := by omega
    rw [hlA2] at ht
    have hvA2 : val B64 A2 = (al + ah) * (bl + bh) - al * bl - ah * bh := by rw [hv7, Hv6.out, HvO.out, HLL.out.eq, HLH.out.eq]
    have hNtM : Nt w7 (.slice (some ⟨g, 0, none⟩) (trimL A2).length gc) ((al + ah) * (bl + bh) - al * bl - ah * bh) (h + 1 + (h + 1)) :=
      ⟨_, gc, trimL A2, rfl, by have := hrd7.take (trimL A2).length; rw [← trimL_take] at this; exact this, hd7.trim, Nrm.trim _, by rw [val_trim]; exact hvA2, by have := trimL_len A2; have := HLK.out; omega⟩
    have Ht := hid ht; have HNtL := hid hNtL; have HNtM := hid hNtM; have HNtH := hid hNtH; have HB7 := hid hB7
    clear ht hNtL hNtM hNtH hB7 hrow7 hd7 hv7 hl7 hrd7 hlA2 hvA2 HI Hs2 Hd2
    go_wp2_with fail
    refine Ht.out.mono ?_
    rintro e w8 ⟨rfl, rfl⟩
    go_wp2_with fail
    refine (join_any _ _ _ _ _ _ h (la + lb + 5) _ HNtM.out HNtH.out (by omega) (by omega) (by omega)).mono ?_
    rintro e w8 ⟨_, rfl, ho8, hb8⟩
    obtain ⟨o8, m8, c8, rfl, H8⟩ := Nt.opened ho8.nt
    have HB8 := hid hb8
    have HNtL8 := hid (HNtL.out.below hb8 (Nat.le_refl _))
    clear ho8 hb8
    go_wp2_with fail
    refine (join_any _ _ _ _ _ _ h (la + lb + 5 + h + 1) _ HNtL8.out (H8.out _ (Below.refl _ _)) (by omega) (by omega) (by omega)).mono ?_
    rintro e w9 ⟨v9, rfl, ho9, hb9⟩
    rw [HKar.out] at ho9
    have HBf := hid ((HB7.out.trans (HB8.out.mono HB7.out.size)).trans (hb9.mono (by have := HB7.out.size; have := HB8.out.size; omega)))
    have Ho9 := hid ((ho9.base_le (by have := HB7.out.size; have := HB8.out.size; omega : w.heap.size ≤ w8.heap.size)).tight HFin.out)
    clear ho9 hb9
    go_wp2
    go_ret
    exact ⟨_, rfl, Ho9.out, HBf.out⟩
  · exfalso
    have := HM0.out
    omega

end Go.Proofs.YtbapeilpkhbbeaaGreatDoor
