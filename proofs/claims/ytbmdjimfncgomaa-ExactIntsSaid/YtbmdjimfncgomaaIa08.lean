/- The document's own integers: Mul. Lehmer's steps of a common divisor: plain arithmetic. math/bits.LeadingZeros64, Len64: by the library's contracts. -/
import Derived.Test.YtbmdjimfncgomaaIa06
import Derived.Test.YtbmdjimfncgomaaIa07
import Derived.Test.YtbmdjimfncgomaaIa01
import Derived.Shelf.Small.Bits
import Derived.Shelf.Strconv.Itoa0
/- The document's own integers: Mul. -/
namespace Go.Proofs.Ytbmdjimfncgomaa
open Go.RowKit

theorem val_take_any (B : Int) (M : List Int) (k : Nat) : val B (M.take (k + 1)) = val B (M.take k) + B ^ k * M[k]?.getD 0 := by
  by_cases hk : k < M.length
  · exact val_take_succ B M k hk
  · rw [List.take_of_length_le (by omega), List.take_of_length_le (by omega)]
    simp [Nat.le_of_not_lt hk]

/-- Behind k digits of the i-th row of a product. -/
structure MuI (W0 wr : World) (A B : List Int) (i k : Nat) (R : List Int) (c : Int) : Prop where
  row : Row .i64 3 wr W0.heap.size R
  len : R.length = A.length + B.length + 1
  dig : Dig R16 R
  c0 : 0 ≤ c
  c1 : c ≤ 65535
  eq : val R16 R + R16 ^ (i + k) * c = val R16 (A.take i) * val R16 B + R16 ^ i * (A[i]?.getD 0 * val R16 (B.take k))
  low : Below W0.heap.size W0 wr

theorem MuI.fits {W0 wr : World} {A B : List Int} {i k : Nat} {R : List Int} {c : Int} (H : MuI W0 wr A B i k R c) (hA : Dig R16 A) (hB : Dig R16 B) (hi : i < A.length) (hk : k < B.length ∨ 0 < c) : k ≤ B.length := by
  by_cases h : k ≤ B.length
  · exact h
  · exfalso
    have hc : 0 < c := by omega
    have e := H.eq
    rw [List.take_of_length_le (show B.length ≤ k by omega)] at e
    have e2 : val R16 (A.take i) * val R16 B + R16 ^ i * (A[i]?.getD 0 * val R16 B) = val R16 (A.take (i + 1)) * val R16 B := by
      rw [val_take_any R16 A i]; grind
    rw [e2] at e
    have h1 := val_lt R16_pos (hA.take (i + 1))
    rw [List.length_take, Nat.min_eq_left (by omega)] at h1
    have h2 := val_lt R16_pos hB
    have h3 := val_nonneg R16_pos hB
    have h4 := val_nonneg R16_pos (hA.take (i + 1))
    have h5 := val_nonneg R16_pos H.dig
    have h6 : val R16 (A.take (i + 1)) * val R16 B ≤ R16 ^ (i + 1) * R16 ^ B.length := Int.mul_le_mul (Int.le_of_lt h1) (Int.le_of_lt h2) h3 (Int.le_of_lt (Int.pow_pos R16_pos))
    rw [← Int.pow_add] at h6
    have h7 : R16 ^ (i + 1 + B.length) ≤ R16 ^ (i + k) := pow_mono R16_pos (by omega)
    have h8 : R16 ^ (i + k) * 1 ≤ R16 ^ (i + k) * c := Int.mul_le_mul_of_nonneg_left (by omega) (Int.le_of_lt (Int.pow_pos R16_pos))
    have h9 : val R16 (A.take (i + 1)) * val R16 B < R16 ^ (i + 1) * R16 ^ B.length ∨ val R16 B = 0 := by
      rcases Int.lt_or_eq_of_le h3 with h | h
      · left
        have a1 : val R16 (A.take (i + 1)) * val R16 B < R16 ^ (i + 1) * val R16 B := Int.mul_lt_mul_of_pos_right h1 h
        have a2 : R16 ^ (i + 1) * val R16 B ≤ R16 ^ (i + 1) * R16 ^ B.length := Int.mul_le_mul_of_nonneg_left (Int.le_of_lt h2) (Int.le_of_lt (Int.pow_pos R16_pos))
        omega
      · right; exact h.symm
    rw [← Int.pow_add] at h9
    have hp : (0 : Int) < R16 ^ (i + k) := Int.pow_pos R16_pos
    rcases h9 with h | h
    · omega
    · rw [h, Int.mul_zero] at e; omega

theorem MuI.step {W0 wr : World} {A B : List Int} {i k : Nat} {R : List Int} {c : Int} (H : MuI W0 wr A B i k R c) (hA : Dig R16 A) (hB : Dig R16 B) (hi : i < A.length) (hk : k ≤ B.length) (x y t n : Int) (hx : x = A[i]?.getD 0) (hy : y = B[k]?.getD 0) (ht : t = R[i + k]?.getD 0) (hn : n = t + x * y + c) :
    0 ≤ n ∧ n < 4294967296 ∧ MuI W0 (wr.setCell ⟨W0.heap.size, i + k, none⟩ (.int .i64 (n % 65536))) A B i (k + 1) (R.set (i + k) (n % 65536)) (n / 65536) := by
  have a := hA.at R16_pos i; have b := hB.at R16_pos k; have d := H.dig.at R16_pos (i + k)
  rw [← hx] at a; rw [← hy] at b; rw [← ht] at d
  unfold R16 at a b d
  have c0 := H.c0; have c1 := H.c1
  have p0 : 0 ≤ x * y := Int.mul_nonneg a.1 b.1
  have p1 : x * y ≤ 65535 * 65535 := Int.mul_le_mul (by omega) (by omega) b.1 (by decide)
  have n0 : 0 ≤ n := by omega
  have n1 : n < 4294967296 := by omega
  have hl : i + k < R.length := by rw [H.len]; omega
  refine ⟨n0, n1, ⟨H.row.set _ _, by simpa using H.len, H.dig.set _ (by omega) (by unfold R16; omega), by omega, by omega, ?_, H.low.setCell (Nat.le_refl _) _⟩⟩
  rw [val_set _ _ _ _ hl, val_take_any R16 B k, ← hx, ← hy, ← ht, show i + (k + 1) = i + k + 1 by omega, Int.pow_succ]
  have e := H.eq
  rw [← hx] at e
  have hd : n % 65536 + R16 * (n / 65536) = n := Int.emod_add_mul_ediv n 65536
  rw [Int.pow_add] at *
  generalize n % 65536 = lo at *
  generalize n / 65536 = hi2 at *
  generalize R16 ^ i = p at *
  generalize R16 ^ k = q at *
  generalize R16 = r at *
  grind

theorem MuI.drewN {W0 wr : World} {A B : List Int} {i k : Nat} {R : List Int} {c : Int} (H : MuI W0 wr A B i k R c) (n : Nat) : MuI W0 (wr.drewN n) A B i k R c := ⟨H.row, H.len, H.dig, H.c0, H.c1, H.eq, below_drewN H.low n⟩
theorem MuI.done {W0 wr : World} {A B : List Int} {i k : Nat} {R : List Int} (H : MuI W0 wr A B i k R 0) (hk : B.length ≤ k) : MuI W0 wr A B (i + 1) 0 R 0 := by
  refine ⟨H.row, H.len, H.dig, H.c0, H.c1, ?_, H.low⟩
  have e := H.eq
  rw [List.take_of_length_le hk] at e
  rw [val_take_any R16 A i]
  simp [val] at e ⊢
  rw [e]; grind

set_option maxRecDepth 100000 in
set_option maxHeartbeats 8000000 in
theorem rmul_any (u v : Value) (x y : Int) (Kx Ky : Nat) (w : World) (hu : Zt w u x Kx) (hv : Zt w v y Ky) (hKx : Kx ≤ 268435456) (hKy : Ky ≤ 268435456) :
    Calls Try.prog 17 #[u, v] w (RetZ w (x * y) (Kx + Ky + 1)) := by
  obtain ⟨_, rfl, ao, ca, A, rfl, hA⟩ := hu
  obtain ⟨_, rfl, bo, cb, B, rfl, hB⟩ := hv
  obtain ⟨n, hn⟩ : ∃ n, n = A.length := ⟨_, rfl⟩
  obtain ⟨m, hm⟩ : ∃ m, m = B.length := ⟨_, rfl⟩
  have hnK := hA.le; have hmK := hB.le
  have hdig := fun (w' : World) (hb : Below w.heap.size w w') (i : Nat) (hi : i ≤ 9223372036854775807) => digit_any bo cb i B w' (hB.rd.below hb (Nat.le_refl _)) hi
  rw [← hn] at hnK ⊢; rw [← hm] at hmK hdig ⊢
  obtain ⟨xb, hxb⟩ : ∃ xb, xb = decide (x < 0) := ⟨_, rfl⟩
  obtain ⟨yb, hyb⟩ : ∃ yb, yb = decide (y < 0) := ⟨_, rfl⟩
  rw [← hxb, ← hyb]
  have HA := hid hA; have HB := hid hB; have Hn := hid hn; have Hm := hid hm; have Hxb := hid hxb; have Hyb := hid hyb; have HDig := hid hdig
  clear hA hB hn hm hxb hyb hdig
  obtain ⟨i0, hi, hz0, hz1, hz2⟩ := info_parts Try.info3
  go_enter Try.func17, Try.ntmps17
  go_upto_region 1 with (fail)
  obtain ⟨W0, hW0⟩ : ∃ W0, W0 = (((w.alloc (.cells #[.bool xb, .slice ao n ca] 28)).alloc (.cells #[.bool yb, .slice bo m cb] 28)).alloc (.cells #[.bool false, .slice none 0 0] 28)) := ⟨_, rfl⟩
  have hB0 : Below w.heap.size w W0 := by rw [hW0]; exact (((Below.refl _ _).alloc (Nat.le_refl _) _).alloc (by simp) _).alloc (by simp; omega) _
  have hw0 : W0.heap.size = w.heap.size + 3 := by rw [hW0]; simp
  have HS : Hid (∀ w', Below W0.heap.size W0 w' → w'.cell? ⟨w.heap.size, 0, none⟩ = some (.bool xb) ∧ w'.cell? ⟨w.heap.size, 1, none⟩ = some (.slice ao n ca) ∧ w'.cell? ⟨w.heap.size + 1, 0, none⟩ = some (.bool yb) ∧ w'.cell? ⟨w.heap.size + 1, 1, none⟩ = some (.slice bo m cb)) := hid (fun w' hb => by
    refine ⟨?_, ?_, ?_, ?_⟩ <;> (rw [hb.cell (by rw [hw0]; simp <;> omega), hW0]; simp [go_sem]))
  have HT : Hid (∀ w', Below W0.heap.size W0 w' → w'.cell? ⟨w.heap.size + 2, 0, none⟩ = some (.bool false) ∧ w'.cell? ⟨w.heap.size + 2, 1, none⟩ = some (.slice none 0 0) ∧ w'.frozen? ⟨w.heap.size + 2, 0, none⟩ = false ∧ w'.frozen? ⟨w.heap.size + 2, 1, none⟩ = false) := hid (fun w' hb => by
    refine ⟨?_, ?_, ?_, ?_⟩ <;> (first | (rw [hb.cell (by rw [hw0]; simp <;> omega), hW0]; simp [go_sem]; done) | (rw [hb.frozen (by rw [hw0]; simp <;> omega), hW0]; simp [go_sem]; done)))
  rw [← hW0, show w.heap.size + 1 + 1 = w.heap.size + 2 from rfl]
  clear hW0
  obtain ⟨hs0, hs1, hs2, hs3⟩ := HS.out W0 (Below.refl _ _)
  have HB0 := hid hB0; have Hw0 := hid hw0
  clear hB0 hw0
  go_wp2_with (at_make; refine wpList_make_row W0 rfl _ _ 26 rfl 3 i0 .i64 Try.underlying26 hi hz0 hz1 .i64 .i64 _ _ (n + m + 1) rfl rfl (by omega) (by omega) (by rw [hz2]; omega) (by unfold maxLen; omega) ?_)
  intro w1 hrow hg1
  have hb1 := grown_below hg1
  have HI0 := hid (show MuI W0 w1 A B 0 0 (List.replicate (n + m + 1) 0) 0 from ⟨hrow, by simp [Hn.out, Hm.out], fun z hz => by rw [(List.mem_replicate.1 hz).2]; exact ⟨Int.le_refl 0, R16_pos⟩, Int.le_refl 0, by decide, by rw [val_rep0]; simp [val], hb1⟩)
  clear hrow hg1 hb1 hs0 hs1 hs2 hs3
  go_wp2
  go_loopw [6] (fun iv wr => ∃ i : Nat, ∃ R, i ≤ n ∧ iv = .int .i64 i ∧ MuI W0 wr A B i 0 R 0) (fun iv _ => n - (intOf iv).toNat)
  case atStart => exact ⟨0, _, Nat.zero_le _, rfl, HI0.out⟩
  case round =>
    obtain ⟨i, R, hi, rfl, H⟩ := hrel
    obtain ⟨hs0, hs1, hs2, hs3⟩ := HS.out _ H.low
    by_cases hlt : i < n
    · have HH := hid H
      have hi0 : (0 : Int) ≤ (i : Int) := by omega
      clear H HI0
      go_wp2
      go_loopw [7, 8] (fun cv kv wr => ∃ k : Nat, ∃ R c, k ≤ m + 1 ∧ kv = .int .i64 k ∧ cv = .int .i64 c ∧ MuI W0 wr A B i k R c) (fun _ kv _ => m + 2 - (intOf kv).toNat)
      case atStart => exact ⟨0, R, 0, Nat.zero_le _, rfl, rfl, HH.out⟩
      case round =>
        clear HH hs0 hs1 hs2 hs3
        obtain ⟨k, R, c, hk, rfl, rfl, H⟩ := hrel
        obtain ⟨hs0, hs1, hs2, hs3⟩ := HS.out _ H.low
        have c0 := H.c0; have c1 := H.c1
        by_cases hgo : k < m ∨ 0 < c
        · have hkm : k ≤ m := by
            have := H.fits HA.out.dig HB.out.dig (by have := Hn.out; omega) (by have := Hm.out; omega)
            have := Hm.out; omega
          obtain ⟨ab, ao', rfl⟩ := HA.out.rd.adr (by have := Hn.out; omega)
          have hca : wr.cell? ⟨ab, ao' + i, none⟩ = some (.int .i64 (A[i]?.getD 0)) := (HA.out.rd.below (HB0.out.trans (H.low.mono (by have := Hw0.out; omega))) (Nat.le_refl _)).cell ab ao' rfl i (by have := Hn.out; omega)
          have hcr := H.row.cell (i + k) (by rw [H.len]; have := Hn.out; have := Hm.out; omega)
          have hfr := H.row.frozen (i + k)
          have hdg := fun nq => HDig.out (wr.drewN nq) (below_drewN (HB0.out.trans (H.low.mono (by have := Hw0.out; omega))) nq) k (by omega)
          have da := HA.out.dig.at R16_pos i; have db := HB.out.dig.at R16_pos k; have dr := H.dig.at R16_pos (i + k)
          obtain ⟨xa, hxa⟩ : ∃ xa, xa = A[i]?.getD 0 := ⟨_, rfl⟩
          obtain ⟨yk, hyk⟩ : ∃ yk, yk = B[k]?.getD 0 := ⟨_, rfl⟩
          obtain ⟨t, ht⟩ : ∃ t, t = R[i + k]?.getD 0 := ⟨_, rfl⟩
          rw [← hxa] at hca da; rw [← hyk] at hdg db; rw [← ht] at hcr dr
          obtain ⟨s, hs⟩ : ∃ s, t + xa * yk + c = s := ⟨_, rfl⟩
          have hst := fun nq => (H.drewN nq).step HA.out.dig HB.out.dig (by have := Hn.out; omega) (by have := Hm.out; omega) xa yk t s hxa hyk ht hs.symm
          obtain ⟨s0, s1, _⟩ := hst 0
          have p0 : 0 ≤ xa * yk := Int.mul_nonneg da.1 db.1
          have t0 := dr.1
          have q1 : IntKind.i64.wrap (xa * yk) = xa * yk := IntWalk.i64_in _ (by omega)
          have q2 : IntKind.i64.wrap (t + xa * yk) = t + xa * yk := IntWalk.i64_in _ (by omega)
          have q3 : IntKind.i64.wrap (t + xa * yk + c) = s := by rw [IntWalk.i64_in _ (by omega)]; exact hs
          have q4 : IntKind.i64.wrap s = s := IntWalk.i64_in _ (by omega)
          have q5 : IntKind.i64.wrap ((i : Int) + k) = (i : Int) + k := IntWalk.i64_in _ (by omega)
          have q6 : (0 : Int) ≤ (i : Int) + k := by omega
          have q7 : ((i : Int) + k).toNat = i + k := by omega
          have q8 : (i : Int) + k < (n : Int) + m + 1 := by omega
          have HSt := hid hst; have HDg := hid hdg
          have hk0 : (0 : Int) ≤ (k : Int) := by omega
          clear hst hdg da db dr hxa hyk ht H c1
          by_cases hk2 : k < m
          · go_wp2
            go_quiet ((go_at_call 55; exact Calls.quiet_of_same (HDg.out _)))
            clear q1 q2 q3 q4 q5 q6 q7 hs
            go_wp2
            go_roundw
            case rel => exact ⟨k + 1, _, _, by omega, by go_num, rfl, (HSt.out _).2.2⟩
            case measure => simp [intOf]; omega
          · have hcp : 0 < c := by omega
            go_wp2
            go_quiet ((go_at_call 55; exact Calls.quiet_of_same (HDg.out _)))
            clear q1 q2 q3 q4 q5 q6 q7 hs
            go_wp2
            go_roundw
            case rel => exact ⟨k + 1, _, _, by omega, by go_num, rfl, (HSt.out _).2.2⟩
            case measure => simp [intOf]; omega
        · obtain rfl : c = 0 := by omega
          have hkm : ¬ k < m := by omega
          have HN := hid (H.done (by have := Hm.out; omega))
          clear H c0 c1
          go_wp2
          go_roundw
          case rel => exact ⟨i + 1, R, by omega, by go_num, HN.out⟩
          case measure => simp [intOf]; omega
    · obtain rfl : i = n := by omega
      have hdg : Dg wr (.slice (some ⟨W0.heap.size, 0, none⟩) (i + m + 1) (i + m + 1)) ((x.natAbs : Int) * (y.natAbs : Int)) (Kx + Ky + 1) := by
        have hl := H.len
        rw [← Hn.out, ← Hm.out] at hl
        have e := H.eq
        rw [List.take_of_length_le (by have := Hn.out; omega), HA.out.eq, HB.out.eq] at e
        simp [val] at e
        rw [← hl]
        exact ⟨_, _, R, rfl, rowi_rd H.row (Nat.le_refl _) (by rw [hl]; omega), H.dig, e, by rw [hl]; omega⟩
      have hm := made_any (xb != yb) _ _ _ wr hdg
      have e : sgn (xb != yb) ((x.natAbs : Int) * (y.natAbs : Int)) = x * y := by rw [Hxb.out, Hyb.out]; exact sgn_mul x y
      rw [e] at hm
      have HM := hid hm; have HL := hid H.low
      clear hm hdg H HI0 e
      go_wp2_with fail
      refine HM.out.mono ?_
      rintro e w1 ⟨_, rfl, hv1, hb1⟩
      obtain ⟨b1, o1, m1, c1, rfl, H1, H1s, H1b⟩ := Zt.opened hv1
      have hB1 : Below W0.heap.size W0 w1 := HL.out.trans (hb1.mono HL.out.size)
      obtain ⟨hr0, hr1, hr2, hr3⟩ := HT.out _ hB1
      go_wp2
      have hbel : Below w.heap.size w w1 := HB0.out.trans (hB1.mono (by have := Hw0.out; omega))
      refine bodyPost_ret (v := .agg #[.bool b1, .slice o1 m1 c1]) (by simp [results, Try.results17, go_sem, hr0, hr1]) rfl ⟨_, rfl, ?_, (hbel.setCell (by simp <;> omega) _).setCell (by simp <;> omega) _⟩
      exact ((H1.out _ (Below.refl _ _)).set hr0 (fun x h => (by cases h)) _).set (u := .slice none 0 0) (by simp [go_sem, hr1]) (fun x h => (by cases h)) _

end Go.Proofs.Ytbmdjimfncgomaa

/- Lehmer's steps of a common divisor: plain arithmetic. -/
namespace Go.Proofs.Ytbmdjimfncgomaa

theorem leh_mul {u x D S : Int} (h0 : 0 ≤ u) (h1 : u ≤ D) (a0 : 0 ≤ x) (a1 : x < S) : 0 ≤ u * x ∧ u * x ≤ D * S - D := by
  refine ⟨Int.mul_nonneg h0 a0, ?_⟩
  have h2 : u * x ≤ D * x := Int.mul_le_mul_of_nonneg_right h1 a0
  have h3 : D * x ≤ D * (S - 1) := Int.mul_le_mul_of_nonneg_left (by omega) (by omega)
  rw [Int.mul_sub, Int.mul_one] at h3
  omega
theorem leh_pos {g u v x y D S : Int} (hg : g = 1 ∨ g = -1) (hu0 : 0 ≤ u) (hu : u ≤ D) (hv0 : 0 ≤ v) (hv : v ≤ D) (x0 : 0 ≤ x) (x1 : x < S) (y0 : 0 ≤ y) (y1 : y < S) : D ≤ D * S + g * (u * x - v * y) := by
  have h1 := leh_mul hu0 hu x0 x1
  have h2 := leh_mul hv0 hv y0 y1
  generalize u * x = p at *
  generalize v * y = q at *
  generalize D * S = r at *
  rcases hg with rfl | rfl
  · rw [Int.one_mul]; omega
  · rw [Int.neg_mul, Int.one_mul]; omega

/-- Some of Euclid's steps of a and b, told by their highest bits A and B. -/
structure LehN (a b A B : Int) (cnt a0 b0 a1 b1 hi lo : Int) : Prop where
  c0 : 0 ≤ cnt
  cb : cnt + 1 ≤ b0 + b1
  a00 : 0 ≤ a0
  b00 : 0 ≤ b0
  a10 : 0 ≤ a1
  b11 : 1 ≤ b1
  ab1 : a1 ≤ b1
  abs : a0 + a1 ≤ b0 + b1
  b0s : b0 < 4294967296
  b1s : b1 < 4294967296
  lo0 : 0 ≤ lo
  le : lo ≤ hi
  eA : b1 * hi + b0 * lo = A
  eB : a1 * hi + a0 * lo = B
  sg : ∃ g R0 R1 : Int, (g = 1 ∧ cnt % 2 = 0 ∨ g = -1 ∧ cnt % 2 = 1) ∧ R0 = g * (a0 * a - b0 * b) ∧ R1 = g * (b1 * b - a1 * a) ∧ hi = g * (a0 * A - b0 * B) ∧ lo = g * (b1 * B - a1 * A) ∧
    0 ≤ R1 ∧ (cnt = 0 ∧ R1 = b ∨ 0 < cnt ∧ R1 < R0 ∧ R0 ≤ b) ∧ Int.gcd R0 R1 = Int.gcd a b

theorem LehN.start {a b A B : Int} (hb : 0 ≤ b) (hB : 0 ≤ B) (hAB : B ≤ A) : LehN a b A B 0 1 0 0 1 A B :=
  ⟨by decide, by decide, by decide, by decide, by decide, by decide, by decide, by decide, by decide, by decide, hB, hAB, by omega, by omega, 1, a, b, .inl ⟨rfl, rfl⟩, by omega, by omega, by omega, by omega, hb, .inl ⟨rfl, rfl⟩, rfl⟩

theorem gcd_sub_mul (x y q : Int) : Int.gcd y (x - q * y) = Int.gcd x y := by
  apply Nat.dvd_antisymm
  · apply Int.dvd_gcd
    · have h1 := Int.gcd_dvd_left y (x - q * y)
      have h2 := Int.gcd_dvd_right y (x - q * y)
      have := Int.dvd_add h2 (Int.dvd_mul_of_dvd_right h1 (b := q))
      simpa using this
    · exact Int.gcd_dvd_left y (x - q * y)
  · apply Int.dvd_gcd
    · exact Int.gcd_dvd_right x y
    · exact Int.dvd_sub (Int.gcd_dvd_left x y) (Int.dvd_mul_of_dvd_right (Int.gcd_dvd_right x y))

/-- What the numbers of the next step are at most. -/
structure LehB (a0 b0 a1 b1 hi lo q rest a2 b2 : Int) : Prop where
  q1 : 1 ≤ q
  qh : q * lo ≤ hi
  r0 : 0 ≤ rest
  r1 : rest < lo
  a20 : 0 ≤ a2
  qa0 : 0 ≤ q * a1
  qa : q * a1 ≤ a2
  ab2 : a2 ≤ b2
  qb0 : 0 ≤ q * b1
  qb : q * b1 ≤ b2
  b21 : 1 ≤ b2
  bA : b2 * lo + b1 * rest = b1 * hi + b0 * lo
  bB : a2 * lo + a1 * rest = a1 * hi + a0 * lo

theorem LehN.bounds {a b A B cnt a0 b0 a1 b1 hi lo : Int} (H : LehN a b A B cnt a0 b0 a1 b1 hi lo) (hlo : 0 < lo) :
    LehB a0 b0 a1 b1 hi lo (hi / lo) (hi - hi / lo * lo) (a0 + hi / lo * a1) (b0 + hi / lo * b1) := by
  have e := Int.emod_add_mul_ediv hi lo
  have m0 := Int.emod_nonneg hi (show lo ≠ 0 by omega)
  have m1 := Int.emod_lt_of_pos hi hlo
  have q1 : 1 ≤ hi / lo := by
    have := Int.ediv_le_ediv hlo H.le
    rw [Int.ediv_self (by omega)] at this; exact this
  rw [Int.mul_comm lo] at e
  generalize hi / lo = q at *
  generalize hi % lo = m at *
  have ha := H.a10; have hb := H.b11; have h1 := H.ab1; have h2 := H.abs; have h3 := H.a00; have h4 := H.b00
  have f1 : 0 ≤ q * a1 := Int.mul_nonneg (by omega) ha
  have f2 : 0 ≤ q * b1 := Int.mul_nonneg (by omega) (by omega)
  have f3 : (q - 1) * a1 ≤ (q - 1) * b1 := Int.mul_le_mul_of_nonneg_left h1 (by omega)
  have f4 : 1 * 1 ≤ q * b1 := Int.mul_le_mul q1 hb (by decide) (by omega)
  rw [Int.sub_mul, Int.sub_mul, Int.one_mul, Int.one_mul] at f3
  refine ⟨q1, by omega, by omega, by omega, by omega, f1, by omega, by omega, f2, by omega, by omega, ?_, ?_⟩
  · have : hi - q * lo = m := by omega
    rw [← e]; grind
  · rw [← e]; grind

/-- A factor of what is small is small. -/
theorem leh_le {u x p A : Int} (hu : 0 ≤ u) (hx : 1 ≤ x) (hp : 0 ≤ p) (h : u * x + p = A) : u ≤ A := by
  have : u * 1 ≤ u * x := Int.mul_le_mul_of_nonneg_left hx hu
  omega

theorem LehB.fits {a0 b0 a1 b1 hi lo q rest a2 b2 A B : Int} (h : LehB a0 b0 a1 b1 hi lo q rest a2 b2) (hA : b1 * hi + b0 * lo = A) (hB : a1 * hi + a0 * lo = B) (hb1 : 1 ≤ b1) (ha1 : 0 ≤ a1) : b2 ≤ A ∧ a2 ≤ B ∧ (b2 ≤ rest → b1 + b2 ≤ A ∧ b2 * b2 ≤ A) := by
  have hlo : 1 ≤ lo := by have := h.r0; have := h.r1; omega
  have e1 := h.bA; have e2 := h.bB
  rw [hA] at e1; rw [hB] at e2
  have p1 : 0 ≤ b1 * rest := Int.mul_nonneg (by omega) h.r0
  have p2 : 0 ≤ a1 * rest := Int.mul_nonneg ha1 h.r0
  refine ⟨leh_le (by have := h.b21; omega) hlo p1 e1, leh_le h.a20 hlo p2 e2, fun hr => ?_⟩
  have hb2 := h.b21
  have g1 : b2 * 1 ≤ b2 * lo := Int.mul_le_mul_of_nonneg_left hlo (by omega)
  have g2 : b1 * 1 ≤ b1 * rest := Int.mul_le_mul_of_nonneg_left (by omega) (by omega)
  have g3 : b2 * b2 ≤ b2 * lo := Int.mul_le_mul_of_nonneg_left (by have := h.r1; omega) (by omega)
  constructor <;> omega

theorem sq_lt {x A : Int} (h : x * x ≤ A) (hA : A < 18446744073709551616) : x < 4294967296 := by
  by_cases h1 : x < 4294967296
  · exact h1
  · have : (4294967296 : Int) * 4294967296 ≤ x * x := Int.mul_le_mul (by omega) (by omega) (by decide) (by omega)
    omega

theorem LehN.next {a b A B S x y cnt a0 b0 a1 b1 hi lo q rest a2 b2 : Int} (H : LehN a b A B cnt a0 b0 a1 b1 hi lo) (h : LehB a0 b0 a1 b1 hi lo q rest a2 b2) (hr : rest = hi - q * lo) (h2 : a2 = a0 + q * a1) (h3 : b2 = b0 + q * b1)
    (ha : a = A * S + x) (hb : b = B * S + y) (x0 : 0 ≤ x) (x1 : x < S) (y0 : 0 ≤ y) (y1 : y < S) (hA : A < 18446744073709551616) (k1 : b2 ≤ rest) (k2 : b1 + b2 ≤ lo - rest) : LehN a b A B (cnt + 1) a1 b1 a2 b2 lo rest := by
  obtain ⟨g, R0, R1, hg, e0, e1, e2, e3, hp, hc, hgcd⟩ := H.sg
  have hg' : g = 1 ∨ g = -1 := by rcases hg with h | h; exact .inl h.1; exact .inr h.1
  have f := h.fits H.eA H.eB H.b11 H.a10
  have hsq := sq_lt (f.2.2 k1).2 hA
  have ab1 := H.ab1; have ab2 := h.ab2; have a10 := H.a10; have b11 := H.b11; have a20 := h.a20; have b21 := h.b21
  have w1 : R0 - q * R1 = rest * S + g * (a2 * x - b2 * y) := by
    rw [e0, e1, hr, e2, e3, ha, hb, h2, h3]; grind
  have w2 : R1 - (R0 - q * R1) = (lo - rest) * S + g * ((b1 + b2) * y - (a1 + a2) * x) := by
    rw [e0, e1, hr, e2, e3, ha, hb, h2, h3]; grind
  have p1 := leh_pos hg' a20 (by omega) (by omega) k1 x0 x1 y0 y1
  have p2 := leh_pos (D := lo - rest) hg' (by omega) k2 (show 0 ≤ a1 + a2 by omega) (by omega) y0 y1 x0 x1
  rw [← w1] at p1
  rw [← w2] at p2
  have r0 := h.r0; have r1 := h.r1
  refine ⟨by have := H.c0; omega, ?_, a10, by omega, a20, by omega, ab2, by omega, H.b1s, hsq, r0, by omega, by rw [h.bA]; exact H.eA, by rw [h.bB]; exact H.eB, -g, R1, R0 - q * R1, ?_, ?_, ?_, ?_, ?_, by omega, .inr ⟨by have := H.c0; omega, by omega, ?_⟩, ?_⟩
  · have h5 := H.cb; have h6 := h.qb; have h7 := h.q1
    have : 1 * b1 ≤ q * b1 := Int.mul_le_mul_of_nonneg_right h7 (by omega)
    omega
  · rcases hg with ⟨rfl, h⟩ | ⟨rfl, h⟩
    · right; exact ⟨rfl, by omega⟩
    · left; exact ⟨rfl, by omega⟩
  · rw [e1]; grind
  · rw [e0, e1, h2, h3]; grind
  · rw [e3]; grind
  · rw [hr, e2, e3, h2, h3]; grind
  · rcases hc with ⟨_, h⟩ | ⟨_, h, h'⟩ <;> omega
  · rw [← hgcd]; exact gcd_sub_mul R0 R1 q

end Go.Proofs.Ytbmdjimfncgomaa

/- math/bits.LeadingZeros64, Len64: by the library's contracts. -/
namespace Go.Proofs.Ytbmdjimfncgomaa
open Go.RowKit Go.Shelf

def lz_ren : Go.Shelf.Ren := ⟨fun | 134 => 106 | 129 => 112 | n => n, fun | 53 => 105 | 3 => 3 | 4 => 4 | 46 => 130 | 5 => 5 | 9 => 9 | n => n, fun | n => n⟩
theorem lz_lays : Go.Proofs.Lays.n134 Try.prog lz_ren := {
  mixed := by kernel_rfl
  f129 := Try.func112.trans (congrArg some (by kernel_rfl))
  f134 := Try.func106.trans (congrArg some (by kernel_rfl))
  t3 := Try.underlying3
  a3 := Try.isAgg3
  z3 := Try.sizeOf3
  v3 := Try.zeroValue3
  t4 := Try.underlying4
  a4 := Try.isAgg4
  z4 := Try.sizeOf4
  v4 := Try.zeroValue4
  t5 := Try.underlying5
  a5 := Try.isAgg5
  z5 := Try.sizeOf5
  v5 := Try.zeroValue5
  t9 := Try.underlying9
  a9 := Try.isAgg9
  z9 := Try.sizeOf9
  v9 := Try.zeroValue9
  t46 := Try.underlying130
  a46 := Try.isAgg130
  z46 := Try.sizeOf130
  v46 := Try.zeroValue130
  t53 := Try.underlying105
  a53 := Try.isAgg105
  z53 := Try.sizeOf105
  v53 := Try.zeroValue105 }

theorem bitLenAux_bd : ∀ (f x : Nat), x < 2 ^ f → 0 < x → 0 < Lib.bitLenAux f x ∧ 2 ^ (Lib.bitLenAux f x - 1) ≤ x ∧ x < 2 ^ Lib.bitLenAux f x ∧ Lib.bitLenAux f x ≤ f
  | 0, x, h, h0 => by simp at h; omega
  | f + 1, x, h, h0 => by
    rw [Lib.bitLenAux, if_neg (by omega)]
    by_cases h1 : x / 2 = 0
    · have : x = 1 := by omega
      subst this
      cases f <;> simp [Lib.bitLenAux]
    · have ih := bitLenAux_bd f (x / 2) (by rw [Nat.pow_succ] at h; omega) (by omega)
      obtain ⟨a, b, c, d⟩ := ih
      refine ⟨by omega, ?_, ?_, by omega⟩
      · rw [Nat.add_sub_cancel_left]
        have e : Lib.bitLenAux f (x / 2) = (Lib.bitLenAux f (x / 2) - 1) + 1 := by omega
        rw [e, Nat.pow_succ]; omega
      · rw [Nat.add_comm, Nat.pow_succ]; omega

theorem bitLen_bd (x : Nat) (h : x < 18446744073709551616) (h0 : 0 < x) : 0 < Lib.bitLen x ∧ 2 ^ (Lib.bitLen x - 1) ≤ x ∧ x < 2 ^ Lib.bitLen x ∧ Lib.bitLen x ≤ 64 := bitLenAux_bd 64 x h h0

/-- The shift by which the highest bit comes to stand first. -/
theorem lz64 (y : Int) (h0 : 0 < y) (h1 : y < B64) (w : World) : Calls Try.prog 106 #[.int .u64 y] w fun e w' => ∃ s : Nat, e = .returned (.int .i64 s) ∧ s ≤ 63 ∧ 9223372036854775808 ≤ y * 2 ^ s ∧ y * 2 ^ s < B64 ∧ w = w' := by
  unfold B64 at h1
  refine (Any.bits_LeadingZeros64 lz_lays y w (by omega) (by omega)).mono ?_
  rintro e w' ⟨rfl, rfl⟩
  have hb := bitLen_bd y.toNat (by omega) (by omega)
  obtain ⟨a, b, c, d⟩ := hb
  refine ⟨64 - Lib.bitLen y.toNat, by congr 2; omega, by omega, ?_, ?_, rfl⟩
  · have e : (64 - Lib.bitLen y.toNat) + (Lib.bitLen y.toNat - 1) = 63 := by omega
    have := Nat.mul_le_mul_right (2 ^ (64 - Lib.bitLen y.toNat)) b
    rw [← Nat.pow_add, Nat.add_comm, e] at this
    have h2 : ((2 ^ 63 : Nat) : Int) ≤ ((y.toNat * 2 ^ (64 - Lib.bitLen y.toNat) : Nat) : Int) := by exact_mod_cast this
    rw [Int.natCast_mul, Int.natCast_pow, Int.toNat_of_nonneg (by omega)] at h2
    simpa using h2
  · have e : Lib.bitLen y.toNat + (64 - Lib.bitLen y.toNat) = 64 := by omega
    have := Nat.mul_lt_mul_of_pos_right c (Nat.two_pow_pos (64 - Lib.bitLen y.toNat))
    rw [← Nat.pow_add, e] at this
    have h2 : ((y.toNat * 2 ^ (64 - Lib.bitLen y.toNat) : Nat) : Int) < ((2 ^ 64 : Nat) : Int) := by exact_mod_cast this
    rw [Int.natCast_mul, Int.natCast_pow, Int.toNat_of_nonneg (by omega)] at h2
    simpa [B64] using h2

end Go.Proofs.Ytbmdjimfncgomaa
