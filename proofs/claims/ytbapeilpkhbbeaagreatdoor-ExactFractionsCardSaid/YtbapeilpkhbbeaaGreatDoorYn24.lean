/- The document's own integers: Mul. -/
import Derived.Test.YtbapeilpkhbbeaaGreatDoorYn23
import Derived.Test.YtbapeilpkhbbeaaGreatDoorYn11
/- The document's own integers: Mul. -/
namespace Go.Proofs.YtbapeilpkhbbeaaGreatDoor
open Go.RowKit

theorem val_take_any (B : Int) (M : List Int) (k : Nat) : val B (M.take (k + 1)) = val B (M.take k) + B ^ k * M[k]?.getD 0 := by
  by_cases hk : k < M.length
  · exact val_take_succ B M k hk
  · rw [List.take_of_length_le (by omega), List.take_of_length_le (by omega)]
    simp [Nat.le_of_not_lt hk]

/-- Behind k digits of the i-th row of a product. -/
structure MuI (W0 wr : World) (A B : List Int) (i k : Nat) (R : List Int) (c : Int) : Prop where
  row : Row .i64 3 wr W0.heap.size R
  len : R.length = A.length + B.length + 1
  dig : Dig R16 R
  c0 : 0 ≤ c
  c1 : c ≤ 65535
  eq : val R16 R + R16 ^ (i + k) * c = val R16 (A.take i) * val R16 B + R16 ^ i * (A[i]?.getD 0 * val R16 (B.take k))
  low : Below W0.heap.size W0 wr

theorem MuI.fits {W0 wr : World} {A B : List Int} {i k : Nat} {R : List Int} {c : Int} (H : MuI W0 wr A B i k R c) (hA : Dig R16 A) (hB : Dig R16 B) (hi : i < A.length) (hk : k < B.length ∨ 0 < c) : k ≤ B.length := by
  by_cases h : k ≤ B.length
  · exact h
  · exfalso
    have hc : 0 < c := by omega
    have e := H.eq
    rw [List.take_of_length_le (show B.length ≤ k by omega)] at e
    have e2 : val R16 (A.take i) * val R16 B + R16 ^ i * (A[i]?.getD 0 * val R16 B) = val R16 (A.take (i + 1)) * val R16 B := by
      rw [val_take_any R16 A i]; grind
    rw [e2] at e
    have h1 := val_lt R16_pos (hA.take (i + 1))
    rw [List.length_take, Nat.min_eq_left (by omega)] at h1
    have h2 := val_lt R16_pos hB
    have h3 := val_nonneg R16_pos hB
    have h4 := val_nonneg R16_pos (hA.take (i + 1))
    have h5 := val_nonneg R16_pos H.dig
    have h6 : val R16 (A.take (i + 1)) * val R16 B ≤ R16 ^ (i + 1) * R16 ^ B.length := Int.mul_le_mul (Int.le_of_lt h1) (Int.le_of_lt h2) h3 (Int.le_of_lt (Int.pow_pos R16_pos))
    rw [← Int.pow_add] at h6
    have h7 : R16 ^ (i + 1 + B.length) ≤ R16 ^ (i + k) := pow_mono R16_pos (by omega)
    have h8 : R16 ^ (i + k) * 1 ≤ R16 ^ (i + k) * c := Int.mul_le_mul_of_nonneg_left (by omega) (Int.le_of_lt (Int.pow_pos R16_pos))
    have h9 : val R16 (A.take (i + 1)) * val R16 B < R16 ^ (i + 1) * R16 ^ B.length ∨ val R16 B = 0 := by
      rcases Int.lt_or_eq_of_le h3 with h | h
      · left
        have a1 : val R16 (A.take (i + 1)) * val R16 B < R16 ^ (i + 1) * val R16 B := Int.mul_lt_mul_of_pos_right h1 h
        have a2 : R16 ^ (i + 1) * val R16 B ≤ R16 ^ (i + 1) * R16 ^ B.length := Int.mul_le_mul_of_nonneg_left (Int.le_of_lt h2) (Int.le_of_lt (Int.pow_pos R16_pos))
        omega
      · right; exact h.symm
    rw [← Int.pow_add] at h9
    have hp : (0 : Int) < R16 ^ (i + k) := Int.pow_pos R16_pos
    rcases h9 with h | h
    · omega
    · rw [h, Int.mul_zero] at e; omega

theorem MuI.step {W0 wr : World} {A B : List Int} {i k : Nat} {R : List Int} {c : Int} (H : MuI W0 wr A B i k R c) (hA : Dig R16 A) (hB : Dig R16 B) (hi : i < A.length) (hk : k ≤ B.length) (x y t n : Int) (hx : x = A[i]?.getD 0) (hy : y = B[k]?.getD 0) (ht : t = R[i + k]?.getD 0) (hn : n = t + x * y + c) :
    0 ≤ n ∧ n < 4294967296 ∧ MuI W0 (wr.setCell ⟨W0.heap.size, i + k, none⟩ (.int .i64 (n % 65536))) A B i (k + 1) (R.set (i + k) (n % 65536)) (n / 65536) := by
  have a := hA.at R16_pos i; have b := hB.at R16_pos k; have d := H.dig.at R16_pos (i + k)
  rw [← hx] at a; rw [← hy] at b; rw [← ht] at d
  unfold R16 at a b d
  have c0 := H.c0; have c1 := H.c1
  have p0 : 0 ≤ x * y := Int.mul_nonneg a.1 b.1
  have p1 : x * y ≤ 65535 * 65535 := Int.mul_le_mul (by omega) (by omega) b.1 (by decide)
  have n0 : 0 ≤ n := by omega
  have n1 : n < 4294967296 := by omega
  have hl : i + k < R.length := by rw [H.len]; omega
  refine ⟨n0, n1, ⟨H.row.set _ _, by simpa using H.len, H.dig.set _ (by omega) (by unfold R16; omega), by omega, by omega, ?_, H.low.setCell (Nat.le_refl _) _⟩⟩
  rw [val_set _ _ _ _ hl, val_take_any R16 B k, ← hx, ← hy, ← ht, show i + (k + 1) = i + k + 1 by omega, Int.pow_succ]
  have e := H.eq
  rw [← hx] at e
  have hd : n % 65536 + R16 * (n / 65536) = n := Int.emod_add_mul_ediv n 65536
  rw [Int.pow_add] at *
  generalize n % 65536 = lo at *
  generalize n / 65536 = hi2 at *
  generalize R16 ^ i = p at *
  generalize R16 ^ k = q at *
  generalize R16 = r at *
  grind

theorem MuI.drewN {W0 wr : World} {A B : List Int} {i k : Nat} {R : List Int} {c : Int} (H : MuI W0 wr A B i k R c) (n : Nat) : MuI W0 (wr.drewN n) A B i k R c := ⟨H.row, H.len, H.dig, H.c0, H.c1, H.eq, below_drewN H.low n⟩
theorem MuI.done {W0 wr : World} {A B : List Int} {i k : Nat} {R : List Int} (H : MuI W0 wr A B i k R 0) (hk : B.length ≤ k) : MuI W0 wr A B (i + 1) 0 R 0 := by
  refine ⟨H.row, H.len, H.dig, H.c0, H.c1, ?_, H.low⟩
  have e := H.eq
  rw [List.take_of_length_le hk] at e
  rw [val_take_any R16 A i]
  simp [val] at e ⊢
  rw [e]; grind

set_option maxRecDepth 100000 in
set_option maxHeartbeats 8000000 in
theorem rmul_any (u v : Value) (x y : Int) (Kx Ky : Nat) (w : World) (hu : Zt w u x Kx) (hv : Zt w v y Ky) (hKx : Kx ≤ 268435456) (hKy : Ky ≤ 268435456) :
    Calls Tryz.prog 65 #[u, v] w (RetZ w (x * y) (Kx + Ky + 1)) := by
  obtain ⟨_, rfl, ao, ca, A, rfl, hA⟩ := hu
  obtain ⟨_, rfl, bo, cb, B, rfl, hB⟩ := hv
  obtain ⟨n, hn⟩ : ∃ n, n = A.length := ⟨_, rfl⟩
  obtain ⟨m, hm⟩ : ∃ m, m = B.length := ⟨_, rfl⟩
  have hnK := hA.le; have hmK := hB.le
  have hdig := fun (w' : World) (hb : Below w.heap.size w w') (i : Nat) (hi : i ≤ 9223372036854775807) => digit_any bo cb i B w' (hB.rd.below hb (Nat.le_refl _)) hi
  rw [← hn] at hnK ⊢; rw [← hm] at hmK hdig ⊢
  obtain ⟨xb, hxb⟩ : ∃ xb, xb = decide (x < 0) := ⟨_, rfl⟩
  obtain ⟨yb, hyb⟩ : ∃ yb, yb = decide (y < 0) := ⟨_, rfl⟩
  rw [← hxb, ← hyb]
  have HA := hid hA; have HB := hid hB; have Hn := hid hn; have Hm := hid hm; have Hxb := hid hxb; have Hyb := hid hyb; have HDig := hid hdig
  clear hA hB hn hm hxb hyb hdig
  obtain ⟨i0, hi, hz0, hz1, hz2⟩ := info_parts Tryz.info3
  go_enter Tryz.func65, Tryz.ntmps65
  go_upto_region 1 with (fail)
  obtain ⟨W0, hW0⟩ : ∃ W0, W0 = (((w.alloc (.cells #[.bool xb, .slice ao n ca] 31)).alloc (.cells #[.bool yb, .slice bo m cb] 31)).alloc (.cells #[.bool false, .slice none 0 0] 31)) := ⟨_, rfl⟩
  have hB0 : Below w.heap.size w W0 := by rw [hW0]; exact (((Below.refl _ _).alloc (Nat.le_refl _) _).alloc (by simp) _).alloc (by simp; omega) _
  have hw0 : W0.heap.size = w.heap.size + 3 := by rw [hW0]; simp
  have HS : Hid (∀ w', Below W0.heap.size W0 w' → w'.cell? ⟨w.heap.size, 0, none⟩ = some (.bool xb) ∧ w'.cell? ⟨w.heap.size, 1, none⟩ = some (.slice ao n ca) ∧ w'.cell? ⟨w.heap.size + 1, 0, none⟩ = some (.bool yb) ∧ w'.cell? ⟨w.heap.size + 1, 1, none⟩ = some (.slice bo m cb)) := hid (fun w' hb => by
    refine ⟨?_, ?_, ?_, ?_⟩ <;> (rw [hb.cell (by rw [hw0]; simp <;> omega), hW0]; simp [go_sem]))
  have HT : Hid (∀ w', Below W0.heap.size W0 w' → w'.cell? ⟨w.heap.size + 2, 0, none⟩ = some (.bool false) ∧ w'.cell? ⟨w.heap.size + 2, 1, none⟩ = some (.slice none 0 0) ∧ w'.frozen? ⟨w.heap.size + 2, 0, none⟩ = false ∧ w'.frozen? ⟨w.heap.size + 2, 1, none⟩ = false) := hid (fun w' hb => by
    refine ⟨?_, ?_, ?_, ?_⟩ <;> (first | (rw [hb.cell (by rw [hw0]; simp <;> omega), hW0]; simp [go_sem]; done) | (rw [hb.frozen (by rw [hw0]; simp <;> omega), hW0]; simp [go_sem]; done)))
  rw [← hW0, show w.heap.size + 1 + 1 = w.heap.size + 2 from rfl]
  clear hW0
  obtain ⟨hs0, hs1, hs2, hs3⟩ := HS.out W0 (Below.refl _ _)
  have HB0 := hid hB0; have Hw0 := hid hw0
  clear hB0 hw0
  go_wp2_with (at_make; refine wpList_make_row W0 rfl _ _ 29 rfl 3 i0 .i64 Tryz.underlying29 hi hz0 hz1 .i64 .i64 _ _ (n + m + 1) rfl rfl (by omega) (by omega) (by rw [hz2]; omega) (by unfold maxLen; omega) ?_)
  intro w1 hrow hg1
  have hb1 := grown_below hg1
  have HI0 := hid (show MuI W0 w1 A B 0 0 (List.replicate (n + m + 1) 0) 0 from ⟨hrow, by simp [Hn.out, Hm.out], fun z hz => by rw [(List.mem_replicate.1 hz).2]; exact ⟨Int.le_refl 0, R16_pos⟩, Int.le_refl 0, by decide, by rw [val_rep0]; simp [val], hb1⟩)
  clear hrow hg1 hb1 hs0 hs1 hs2 hs3
  go_wp2
  go_loopw [6] (fun iv wr => ∃ i : Nat, ∃ R, i ≤ n ∧ iv = .int .i64 i ∧ MuI W0 wr A B i 0 R 0) (fun iv _ => n - (intOf iv).toNat)
  case atStart => exact ⟨0, _, Nat.zero_le _, rfl, HI0.out⟩
  case round =>
    obtain ⟨i, R, hi, rfl, H⟩ := hrel
    obtain ⟨hs0, hs1, hs2, hs3⟩ := HS.out _ H.low
    by_cases hlt : i < n
    · have HH := hid H
      have hi0 : (0 : Int) ≤ (i : Int) := by omega
      clear H HI0
      go_wp2
      go_loopw [7, 8] (fun cv kv wr => ∃ k : Nat, ∃ R c, k ≤ m + 1 ∧ kv = .int .i64 k ∧ cv = .int .i64 c ∧ MuI W0 wr A B i k R c) (fun _ kv _ => m + 2 - (intOf kv).toNat)
      case atStart => exact ⟨0, R, 0, Nat.zero_le _, rfl, rfl, HH.out⟩
      case round =>
        clear HH hs0 hs1 hs2 hs3
        obtain ⟨k, R, c, hk, rfl, rfl, H⟩ := hrel
        obtain ⟨hs0, hs1, hs2, hs3⟩ := HS.out _ H.low
        have c0 := H.c0; have c1 := H.c1
        by_cases hgo : k < m ∨ 0 < c
        · have hkm : k ≤ m := by
            have := H.fits HA.out.dig HB.out.dig (by have := Hn.out; omega) (by have := Hm.out; omega)
            have := Hm.out; omega
          obtain ⟨ab, ao', rfl⟩ := HA.out.rd.adr (by have := Hn.out; omega)
          have hca : wr.cell? ⟨ab, ao' + i, none⟩ = some (.int .i64 (A[i]?.getD 0)) := (HA.out.rd.below (HB0.out.trans (H.low.mono (by have := Hw0.out; omega))) (Nat.le_refl _)).cell ab ao' rfl i (by have := Hn.out; omega)
          have hcr := H.row.cell (i + k) (by rw [H.len]; have := Hn.out; have := Hm.out; omega)
          have hfr := H.row.frozen (i + k)
          have hdg := fun nq => HDig.out (wr.drewN nq) (below_drewN (HB0.out.trans (H.low.mono (by have := Hw0.out; omega))) nq) k (by omega)
          have da := HA.out.dig.at R16_pos i; have db := HB.out.dig.at R16_pos k; have dr := H.dig.at R16_pos (i + k)
          obtain ⟨xa, hxa⟩ : ∃ xa, xa = A[i]?.getD 0 := ⟨_, rfl⟩
          obtain ⟨yk, hyk⟩ : ∃ yk, yk = B[k]?.getD 0 := ⟨_, rfl⟩
          obtain ⟨t, ht⟩ : ∃ t, t = R[i + k]?.getD 0 := ⟨_, rfl⟩
          rw [← hxa] at hca da; rw [← hyk] at hdg db; rw [← ht] at hcr dr
          obtain ⟨s, hs⟩ : ∃ s, t + xa * yk + c = s := ⟨_, rfl⟩
          have hst := fun nq => (H.drewN nq).step HA.out.dig HB.out.dig (by have := Hn.out; omega) (by have := Hm.out; omega) xa yk t s hxa hyk ht hs.symm
          obtain ⟨s0, s1, _⟩ := hst 0
          have p0 : 0 ≤ xa * yk := Int.mul_nonneg da.1 db.1
          have t0 := dr.1
          have q1 : IntKind.i64.wrap (xa * yk) = xa * yk := IntWalk.i64_in _ (by omega)
          have q2 : IntKind.i64.wrap (t + xa * yk) = t + xa * yk := IntWalk.i64_in _ (by omega)
          have q3 : IntKind.i64.wrap (t + xa * yk + c) = s := by rw [IntWalk.i64_in _ (by omega)]; exact hs
          have q4 : IntKind.i64.wrap s = s := IntWalk.i64_in _ (by omega)
          have q5 : IntKind.i64.wrap ((i : Int) + k) = (i : Int) + k := IntWalk.i64_in _ (by omega)
          have q6 : (0 : Int) ≤ (i : Int) + k := by omega
          have q7 : ((i : Int) + k).toNat = i + k := by omega
          have q8 : (i : Int) + k < (n : Int) + m + 1 := by omega
          have HSt := hid hst; have HDg := hid hdg
          have hk0 : (0 : Int) ≤ (k : Int) := by omega
          clear hst hdg da db dr hxa hyk ht H c1
          by_cases hk2 : k < m
          · go_wp2
            go_quiet ((go_at_call 110; exact Calls.quiet_of_same (HDg.out _)))
            clear q1 q2 q3 q4 q5 q6 q7 hs
            go_wp2
            go_roundw
            case rel => exact ⟨k + 1, _, _, by omega, by go_num, rfl, (HSt.out _).2.2⟩
            case measure => simp [intOf]; omega
          · have hcp : 0 < c := by omega
            go_wp2
            go_quiet ((go_at_call 110; exact Calls.quiet_of_same (HDg.out _)))
            clear q1 q2 q3 q4 q5 q6 q7 hs
            go_wp2
            go_roundw
            case rel => exact ⟨k + 1, _, _, by omega, by go_num, rfl, (HSt.out _).2.2⟩
            case measure => simp [intOf]; omega
        · obtain rfl : c = 0 := by omega
          have hkm : ¬ k < m := by omega
          have HN := hid (H.done (by have := Hm.out; omega))
          clear H c0 c1
          go_wp2
          go_roundw
          case rel => exact ⟨i + 1, R, by omega, by go_num, HN.out⟩
          case measure => simp [intOf]; omega
    · obtain rfl : i = n := by omega
      have hdg : Dg wr (.slice (some ⟨W0.heap.size, 0, none⟩) (i + m + 1) (i + m + 1)) ((x.natAbs : Int) * (y.natAbs : Int)) (Kx + Ky + 1) := by
        have hl := H.len
        rw [← Hn.out, ← Hm.out] at hl
        have e := H.eq
        rw [List.take_of_length_le (by have := Hn.out; omega), HA.out.eq, HB.out.eq] at e
        simp [val] at e
        rw [← hl]
        exact ⟨_, _, R, rfl, rowi_rd H.row (Nat.le_refl _) (by rw [hl]; omega), H.dig, e, by rw [hl]; omega⟩
      have hm := made_any (xb != yb) _ _ _ wr hdg
      have e : sgn (xb != yb) ((x.natAbs : Int) * (y.natAbs : Int)) = x * y := by rw [Hxb.out, Hyb.out]; exact sgn_mul x y
      rw [e] at hm
      have HM := hid hm; have HL := hid H.low
      clear hm hdg H HI0 e
      go_wp2_with fail
      refine HM.out.mono ?_
      rintro e w1 ⟨_, rfl, hv1, hb1⟩
      obtain ⟨b1, o1, m1, c1, rfl, H1, H1s, H1b⟩ := Zt.opened hv1
      have hB1 : Below W0.heap.size W0 w1 := HL.out.trans (hb1.mono HL.out.size)
      obtain ⟨hr0, hr1, hr2, hr3⟩ := HT.out _ hB1
      go_wp2
      have hbel : Below w.heap.size w w1 := HB0.out.trans (hB1.mono (by have := Hw0.out; omega))
      refine bodyPost_ret (v := .agg #[.bool b1, .slice o1 m1 c1]) (by simp [results, Tryz.results65, go_sem, hr0, hr1]) rfl ⟨_, rfl, ?_, (hbel.setCell (by simp <;> omega) _).setCell (by simp <;> omega) _⟩
      exact ((H1.out _ (Below.refl _ _)).set hr0 (fun x h => (by cases h)) _).set (u := .slice none 0 0) (by simp [go_sem, hr1]) (fun x h => (by cases h)) _

end Go.Proofs.YtbapeilpkhbbeaaGreatDoor
