/- The document's own integers: sum. The document's own integers: made, Sign, Neg. The document's own integers: less, double, split. The document's own integers: double, split, byFew. The document's own integers: Sign, Neg, Add, Sub, Cmp. Written by gen_ref8.py. The document's own integers: From. The document's own integers: Mul. The document's own integers: Gcd. The document's own integers: SameWords, Int, SameInt, LikeInt, NoInt. exact.Over: the ratio of two numbers of 64 bits, or ErrZero. -/
import Derived.Test.YtilpkocmdpofpaaGreatDoorNb22
import Derived.Test.YtilpkocmdpofpaaGreatDoorNb10
import Derived.Test.YtilpkocmdpofpaaGreatDoorNb17
import Derived.Deep.AppendLies
import Derived.Deep.DeepCutAuto
import Derived.Deep.CutBlock
import Derived.IntWalk
import Derived.Test.YtilpkocmdpofpaaGreatDoorNb12
import Derived.Test.YtilpkocmdpofpaaGreatDoorNb13
import Derived.Test.YtilpkocmdpofpaaGreatDoorNb09
/- The document's own integers: sum. -/
namespace Go.Proofs.YtilpkocmdpofpaaGreatDoor
open Go.RowKit

theorem owns_block {w : World} {base n s : Nat} {e : TypeId} {v : Value} {xs : List Value} (h : w.ownsRow base e s v n xs) : ∀ k, v.ownBlock = some k → base ≤ k := by
  intro k hk
  rcases h.2 with ⟨rfl, _⟩ | ⟨g, cap, cur, rfl, hb, _⟩
  · simp [Value.ownBlock] at hk
  · simp [Value.ownBlock] at hk; omega

/-- What holds of a sum of digits: k have been summed. -/
structure DsI (w wr : World) (A B : List Int) (k : Nat) (ov : Value) (Q : List Int) (c : Int) : Prop where
  own : wr.ownsRow w.heap.size 3 1 ov k (Q.map (Value.int .i64))
  len : Q.length = k
  dig : Dig R16 Q
  c0 : 0 ≤ c
  c1 : c ≤ 1
  eq : val R16 Q + R16 ^ k * c = val R16 (A.take k) + val R16 (B.take k)
  low : Below w.heap.size w wr

theorem DsI.next {w wr wx : World} {A B Q : List Int} {k : Nat} {ov ov' : Value} {c : Int} (H : DsI w wr A B k ov Q c) (x y : Int) (hx : x = A[k]?.getD 0) (hy : y = B[k]?.getD 0) (hA : Dig R16 A) (hB : Dig R16 B) (hka : k < A.length) (hkb : k < B.length)
    (hown : wx.ownsRow w.heap.size 3 1 ov' (k + 1) (Q.map (Value.int .i64) ++ [.int .i64 ((x + y + c) % 65536)])) (hlow : Below w.heap.size w wx) :
    DsI w wx A B (k + 1) ov' (Q ++ [(x + y + c) % 65536]) ((x + y + c) / 65536) := by
  have a := hA.at R16_pos k; have b := hB.at R16_pos k
  rw [← hx] at a; rw [← hy] at b
  have c0 := H.c0; have c1 := H.c1
  refine ⟨by rw [List.map_append]; exact hown, by simp [H.len], H.dig.append (Dig.cons (by omega) (by unfold R16; omega) (Dig.nil _)), by omega, by unfold R16 at a b; omega, ?_, hlow⟩
  rw [val_snoc, H.len, val_take_succ R16 A k hka, val_take_succ R16 B k hkb, ← hx, ← hy, Int.pow_succ]
  have e := H.eq
  have hd : (x + y + c) % 65536 + R16 * ((x + y + c) / 65536) = x + y + c := Int.emod_add_mul_ediv (x + y + c) 65536
  generalize (x + y + c) % 65536 = lo at *
  generalize (x + y + c) / 65536 = hi at *
  generalize R16 ^ k = p at *
  generalize R16 = r at *
  grind

def RetO (w : World) (n : Int) (K : Nat) (e : Ending) (w' : World) : Prop := ∃ v Q, e = .returned v ∧ w'.ownsRow w.heap.size 3 1 v K (Q.map (Value.int .i64)) ∧ Q.length = K ∧ Dig R16 Q ∧ val R16 Q = n ∧ Below w.heap.size w w'

end Go.Proofs.YtilpkocmdpofpaaGreatDoor

/- The document's own integers: made, Sign, Neg. -/
namespace Go.Proofs.YtilpkocmdpofpaaGreatDoor
open Go.RowKit

/-- The value v reads in w as the document's integer z, of at most K digits. -/
def Zt (w : World) (v : Value) (z : Int) (K : Nat) : Prop := ∃ s, v = .agg #[.bool (decide (z < 0)), s] ∧ Md w s (z.natAbs : Int) K
theorem Zt.below {w w' : World} {v : Value} {n : Int} {K B : Nat} (h : Zt w v n K) (hb : Below B w w') (hB : w.heap.size ≤ B) : Zt w' v n K := by
  obtain ⟨s, rfl, h⟩ := h; exact ⟨s, rfl, h.below hb hB⟩
theorem Zt.mono {w : World} {v : Value} {n : Int} {K K' : Nat} (h : Zt w v n K) (hk : K ≤ K') : Zt w v n K' := by
  obtain ⟨s, rfl, h⟩ := h; exact ⟨s, rfl, h.mono hk⟩
theorem Md.set {w : World} {s : Value} {n : Int} {K : Nat} (h : Md w s n K) {a : Addr} {u : Value} (hu : w.cell? a = some u) (hn : ∀ x, u ≠ .int .i64 x) (v : Value) : Md (w.setCell a v) s n K := by
  obtain ⟨ao, c, L, rfl, h⟩ := h; exact ⟨ao, c, L, rfl, h.rd.set hu hn v, h.dig, h.nrm, h.eq, h.le⟩
theorem Zt.set {w : World} {s : Value} {n : Int} {K : Nat} (h : Zt w s n K) {a : Addr} {u : Value} (hu : w.cell? a = some u) (hn : ∀ x, u ≠ .int .i64 x) (v : Value) : Zt (w.setCell a v) s n K := by
  obtain ⟨s, rfl, h⟩ := h; exact ⟨s, rfl, h.set hu hn v⟩
theorem MdL.zero_iff {w : World} {ao : Option Addr} {c : Nat} {L : List Int} {n : Int} {K : Nat} (h : MdL w ao c L n K) : L.length = 0 ↔ n = 0 := by
  constructor
  · intro hl; rw [← h.eq, List.eq_nil_of_length_eq_zero hl]; rfl
  · intro hn; rw [Nrm.eq_nil R16_pos h.dig h.nrm (by rw [h.eq, hn])]; rfl
theorem Zt.opened {w : World} {v : Value} {z : Int} {K : Nat} (h : Zt w v z K) : ∃ b ao m c, v = .agg #[.bool b, .slice ao m c] ∧ Hid (∀ w', Below w.heap.size w w' → Zt w' (.agg #[.bool b, .slice ao m c]) z K) ∧ Hid (∀ w', Below w.heap.size w w' → Md w' (.slice ao m c) (z.natAbs : Int) K) ∧ Hid (b = decide (z < 0)) := by
  obtain ⟨s, rfl, ao, c, L, rfl, h⟩ := h
  have hN : ∀ w', Below w.heap.size w w' → Md w' (.slice ao L.length c) (z.natAbs : Int) K := fun w' hb => ⟨ao, c, L, rfl, h.rd.below hb (Nat.le_refl _), h.dig, h.nrm, h.eq, h.le⟩
  exact ⟨_, ao, L.length, c, rfl, hid (fun w' hb => ⟨_, rfl, hN w' hb⟩), hid hN, hid rfl⟩
theorem Md.opened {w : World} {v : Value} {n : Int} {K : Nat} (h : Md w v n K) : ∃ ao m c, v = .slice ao m c ∧ Hid (∀ w', Below w.heap.size w w' → Md w' (.slice ao m c) n K) := by
  obtain ⟨ao, c, L, rfl, h⟩ := h
  exact ⟨ao, L.length, c, rfl, hid (fun w' hb => ⟨ao, c, L, rfl, h.rd.below hb (Nat.le_refl _), h.dig, h.nrm, h.eq, h.le⟩)⟩

/-- Digits, not cut: what reads as them. -/
def Dg (w : World) (v : Value) (n : Int) (K : Nat) : Prop := ∃ ao c L, v = .slice ao L.length c ∧ Rd w .i64 ao c L ∧ Dig R16 L ∧ val R16 L = n ∧ L.length ≤ K
theorem Md.dg {w : World} {v : Value} {n : Int} {K : Nat} (h : Md w v n K) : Dg w v n K := by
  obtain ⟨ao, c, L, rfl, h⟩ := h; exact ⟨ao, c, L, rfl, h.rd, h.dig, h.eq, h.le⟩
theorem Dg.below {w w' : World} {v : Value} {n : Int} {K B : Nat} (h : Dg w v n K) (hb : Below B w w') (hB : w.heap.size ≤ B) : Dg w' v n K := by
  obtain ⟨ao, c, L, rfl, hr, h⟩ := h; exact ⟨ao, c, L, rfl, hr.below hb hB, h⟩
theorem Dg.mono {w : World} {v : Value} {n : Int} {K K' : Nat} (h : Dg w v n K) (hk : K ≤ K') : Dg w v n K' := by
  obtain ⟨ao, c, L, rfl, hr, hd, hv, hl⟩ := h; exact ⟨ao, c, L, rfl, hr, hd, hv, Nat.le_trans hl hk⟩
theorem Dg.opened {w : World} {v : Value} {n : Int} {K : Nat} (h : Dg w v n K) : ∃ ao m c, v = .slice ao m c ∧ Hid (∀ w', Below w.heap.size w w' → Dg w' (.slice ao m c) n K) := by
  obtain ⟨ao, c, L, rfl, h⟩ := h
  exact ⟨ao, L.length, c, rfl, hid (fun w' hb => Dg.below ⟨ao, c, L, rfl, h⟩ hb (Nat.le_refl _))⟩

end Go.Proofs.YtilpkocmdpofpaaGreatDoor

/- The document's own integers: less, double, split. -/
namespace Go.Proofs.YtilpkocmdpofpaaGreatDoor
open Go.RowKit

/-- A row of digits that grows: k digits so far. -/
structure GrI (w wr : World) (k : Nat) (ov : Value) (Q : List Int) : Prop where
  own : wr.ownsRow w.heap.size 3 1 ov k (Q.map (Value.int .i64))
  len : Q.length = k
  dig : Dig R16 Q
  low : Below w.heap.size w wr
theorem GrI.start (w : World) : GrI w w 0 (.slice none 0 0) [] := ⟨⟨by simp, .inl ⟨rfl, rfl⟩⟩, rfl, Dig.nil _, Below.refl _ _⟩
theorem GrI.drewN {w wr : World} {k : Nat} {ov : Value} {Q : List Int} (H : GrI w wr k ov Q) (n : Nat) : GrI w (wr.drewN n) k ov Q := ⟨H.own, H.len, H.dig, below_drewN H.low n⟩
theorem GrI.next {w wr wx : World} {k : Nat} {ov ov' : Value} {Q : List Int} (H : GrI w wr k ov Q) (y : Int) (y0 : 0 ≤ y) (y1 : y < 65536) (o : Obj)
    (hown : wx.ownsRow w.heap.size 3 1 ov' (k + 1) (Q.map (Value.int .i64) ++ [.int .i64 y])) (hg : (wr.alloc o).grownBy wx ov.ownBlock) : GrI w wx (k + 1) ov' (Q ++ [y]) :=
  ⟨by rw [List.map_append]; exact hown, by simp [H.len], H.dig.append (Dig.cons y0 (by unfold R16; omega) (Dig.nil _)), (H.low.alloc H.low.size o).grown hg (by have := H.low.size; simp; omega) (fun i e => owns_block H.own i e)⟩
/-- What a grown row reads as. -/
theorem GrI.rd {w wr : World} {k : Nat} {ov : Value} {Q : List Int} (H : GrI w wr k ov Q) (hk : k ≤ 1073741824) : ∃ ao c, ov = .slice ao Q.length c ∧ Rd wr .i64 ao c Q := by
  rcases H.own.2 with ⟨rfl, rfl⟩ | ⟨g, cap, cur, rfl, hb, hh, hn, hcm, hs, ht⟩
  · have hl := H.len
    have : Q = [] := List.eq_nil_of_length_eq_zero hl
    subst this
    exact ⟨none, 0, rfl, Rd.nil _ _⟩
  · have hl := H.len
    refine ⟨_, cap, by rw [hl], ?_⟩
    have h := H.own
    rw [← hl] at h
    exact owns_rd h hcm
theorem GrI.md {w wr : World} {k : Nat} {ov : Value} {Q : List Int} (H : GrI w wr k ov Q) (hk : k ≤ 1073741824) {n : Int} {K : Nat} (hn : Nrm Q) (hv : val R16 Q = n) (hK : k ≤ K) : Md wr ov n K := by
  obtain ⟨ao, c, rfl, hr⟩ := H.rd hk
  exact ⟨ao, c, Q, rfl, hr, H.dig, hn, hv, by have := H.len; omega⟩
/-- The value's memory lies at B or above. -/
def Fr (B : Nat) (v : Value) : Prop := ∀ b off l c, v = .slice (some ⟨b, off, none⟩) l c → B ≤ b
theorem GrI.cut {w wr : World} {k : Nat} {ov : Value} {Q : List Int} (H : GrI w wr k ov Q) (hk : k ≤ 1073741824) {n : Int} {K : Nat} (hv : val R16 Q = n) (hK : (trimL Q).length ≤ K) :
    Calls Tryz.prog 149 #[ov] wr fun e w' => ∃ v, e = .returned v ∧ (Md w' v n K ∧ Fr w.heap.size v) ∧ w' = wr := by
  obtain ⟨ao, c, rfl, hr⟩ := H.rd hk
  refine (cut_any ao c Q wr hr).mono ?_
  rintro e w' ⟨rfl, rfl⟩
  refine ⟨_, rfl, ⟨⟨ao, c, trimL Q, rfl, ?_, H.dig.trim, Nrm.trim Q, by rw [val_trim]; exact hv, hK⟩, fun b off l c' e => ?_⟩, rfl⟩
  rotate_left
  · obtain ⟨rfl, _, _⟩ := Value.slice.inj e
    rcases H.own.2 with ⟨e2, _⟩ | ⟨g, cap, cur, e2, hb, _⟩
    · cases e2
    · obtain ⟨e3, _, _⟩ := Value.slice.inj e2
      cases e3
      exact hb
  rw [trimL_take Q]; exact hr.take _

structure LsI (w wr : World) (A B : List Int) (k : Nat) (ov : Value) (Q : List Int) (c : Int) : Prop where
  g : GrI w wr k ov Q
  c0 : 0 ≤ c
  c1 : c ≤ 1
  eq : val R16 Q - R16 ^ k * c = val R16 (A.take k) - val R16 (B.take k)

theorem LsI.next {w wr wx : World} {A B Q : List Int} {k : Nat} {ov ov' : Value} {c : Int} (H : LsI w wr A B k ov Q c) (x y : Int) (hx : x = A[k]?.getD 0) (hy : y = B[k]?.getD 0) (hA : Dig R16 A) (hB : Dig R16 B) (hka : k < A.length) (hkb : k < B.length)
    (hg : GrI w wx (k + 1) ov' (Q ++ [(x - y - c + 65536) % 65536])) : LsI w wx A B (k + 1) ov' (Q ++ [(x - y - c + 65536) % 65536]) (1 - (x - y - c + 65536) / 65536) := by
  have a := hA.at R16_pos k; have b := hB.at R16_pos k
  rw [← hx] at a; rw [← hy] at b
  have c0 := H.c0; have c1 := H.c1
  unfold R16 at a b
  refine ⟨hg, by omega, by omega, ?_⟩
  rw [val_snoc, H.g.len, val_take_succ R16 A k hka, val_take_succ R16 B k hkb, ← hx, ← hy, Int.pow_succ]
  have e := H.eq
  have hd : (x - y - c + 65536) % 65536 + R16 * ((x - y - c + 65536) / 65536) = x - y - c + R16 := Int.emod_add_mul_ediv (x - y - c + 65536) 65536
  generalize (x - y - c + 65536) % 65536 = lo at *
  generalize (x - y - c + 65536) / 65536 = hi at *
  generalize R16 ^ k = p at *
  generalize R16 = r at *
  grind

end Go.Proofs.YtilpkocmdpofpaaGreatDoor

/- The document's own integers: double, split, byFew. -/
namespace Go.Proofs.YtilpkocmdpofpaaGreatDoor
open Go.RowKit

theorem R16_4 : R16 ^ 4 = 18446744073709551616 := by decide
theorem R16_one : 1 < R16 := by decide
theorem pow_lt_gen {B : Int} (hB : 1 < B) {m n : Nat} (h : B ^ m < B ^ n) : m < n := by
  by_cases hmn : m < n
  · exact hmn
  · have := pow_mono (show 0 < B by omega) (show n ≤ m by omega); omega
theorem Md.lt {w : World} {v : Value} {n : Int} {K : Nat} (h : Md w v n K) : n < R16 ^ K := by
  obtain ⟨ao, c, L, rfl, h⟩ := h
  rw [← h.eq]
  exact Int.lt_of_lt_of_le (val_lt R16_pos h.dig) (pow_mono R16_pos h.le)
theorem Md.tight {w : World} {v : Value} {n : Int} {K K' : Nat} (h : Md w v n K) (hn : n < R16 ^ K') : Md w v n K' := by
  obtain ⟨ao, c, L, rfl, h⟩ := h
  refine ⟨ao, c, L, rfl, h.rd, h.dig, h.nrm, h.eq, ?_⟩
  rcases Nat.eq_zero_or_pos L.length with k | k
  · omega
  · have := h.nrm.low R16_pos h.dig k
    rw [h.eq] at this
    have := pow_lt_gen R16_one (Int.lt_of_le_of_lt this hn)
    omega
theorem val_top_gen {B : Int} {L : List Int} {k : Nat} (hl : L.length = k + 1) : val B L = val B (L.take k) + B ^ k * L[k]?.getD 0 := by
  have e := take_succ_getD L k (by omega)
  rw [List.take_of_length_le (by omega)] at e
  have h := congrArg (val B) e
  rw [h, val_snoc, List.length_take, Nat.min_eq_left (by omega)]
theorem nrm_of_low {B : Int} (hB : 0 < B) {L : List Int} {k : Nat} (hd : Dig B L) (hl : L.length = k + 1) (h : B ^ k ≤ val B L) : Nrm L := by
  have e := val_top_gen (B := B) hl
  have h1 := val_lt hB (hd.take k)
  rw [List.length_take, Nat.min_eq_left (by omega)] at h1
  have hne : L[k]?.getD 0 ≠ 0 := by intro h0; rw [h0, Int.mul_zero] at e; omega
  have e2 := take_succ_getD L k (by omega)
  rw [List.take_of_length_le (by omega)] at e2
  unfold Nrm
  rw [e2, trimL_snoc, if_neg hne]

structure DbI (w wr : World) (A : List Int) (bit : Int) (k : Nat) (ov : Value) (Q : List Int) (c : Int) : Prop where
  g : GrI w wr k ov Q
  c0 : 0 ≤ c
  c1 : c ≤ 1
  eq : val R16 Q + R16 ^ k * c = 2 * val R16 (A.take k) + bit
theorem DbI.next {w wr wx : World} {A Q : List Int} {bit : Int} {k : Nat} {ov ov' : Value} {c : Int} (H : DbI w wr A bit k ov Q c) (x : Int) (hx : x = A[k]?.getD 0) (hA : Dig R16 A) (hka : k < A.length)
    (hg : GrI w wx (k + 1) ov' (Q ++ [(2 * x + c) % 65536])) : DbI w wx A bit (k + 1) ov' (Q ++ [(2 * x + c) % 65536]) ((2 * x + c) / 65536) := by
  have a := hA.at R16_pos k
  rw [← hx] at a
  have c0 := H.c0; have c1 := H.c1
  unfold R16 at a
  refine ⟨hg, by omega, by omega, ?_⟩
  rw [val_snoc, H.g.len, val_take_succ R16 A k hka, ← hx, Int.pow_succ]
  have e := H.eq
  have hd : (2 * x + c) % 65536 + R16 * ((2 * x + c) / 65536) = 2 * x + c := Int.emod_add_mul_ediv (2 * x + c) 65536
  generalize (2 * x + c) % 65536 = lo at *
  generalize (2 * x + c) / 65536 = hi at *
  generalize R16 ^ k = p at *
  generalize R16 = r at *
  grind

structure SpI (w wr : World) (n : Int) (k : Nat) (ov : Value) (Q : List Int) (m : Int) : Prop where
  g : GrI w wr k ov Q
  m0 : 0 ≤ m
  m1 : m ≤ n
  eq : val R16 Q + R16 ^ k * m = n
  lo : k = 0 ∨ R16 ^ (k - 1) ≤ n
theorem SpI.next {w wr wx : World} {n m : Int} {k : Nat} {ov ov' : Value} {Q : List Int} (H : SpI w wr n k ov Q m) (hm : 0 < m) (hg : GrI w wx (k + 1) ov' (Q ++ [m % 65536])) : SpI w wx n (k + 1) ov' (Q ++ [m % 65536]) (m / 65536) := by
  have m1 := H.m1
  have e := H.eq
  have hp : (0 : Int) < R16 ^ k := Int.pow_pos R16_pos
  have hq := val_nonneg R16_pos H.g.dig
  refine ⟨hg, by omega, by omega, ?_, .inr ?_⟩
  · rw [val_snoc, H.g.len, Int.pow_succ]
    have hd : m % 65536 + R16 * (m / 65536) = m := Int.emod_add_mul_ediv m 65536
    generalize m % 65536 = lo at *
    generalize m / 65536 = hi at *
    generalize R16 ^ k = p at *
    generalize R16 = r at *
    grind
  · have : R16 ^ k * 1 ≤ R16 ^ k * m := Int.mul_le_mul_of_nonneg_left (by omega) (Int.le_of_lt hp)
    rw [Nat.add_sub_cancel]; omega
theorem SpI.few {w wr : World} {n m : Int} {k : Nat} {ov : Value} {Q : List Int} (H : SpI w wr n k ov Q m) (hn : n < 18446744073709551616) : k ≤ 4 := by
  rcases H.lo with h | h
  · omega
  · have h4 : R16 ^ (k - 1) < R16 ^ 4 := Int.lt_of_le_of_lt h (by rw [R16_4]; exact hn)
    have := pow_lt_gen R16_one h4; omega
theorem SpI.done {w wr : World} {n : Int} {k : Nat} {ov : Value} {Q : List Int} (H : SpI w wr n k ov Q 0) (hn : n < 18446744073709551616) : Md wr ov n 4 := by
  have hk := H.few hn
  have e := H.eq
  rw [Int.mul_zero, Int.add_zero] at e
  refine H.g.md (by omega) ?_ e hk
  have hl := H.g.len
  rcases H.lo with h | h
  · rw [h] at hl; rw [List.eq_nil_of_length_eq_zero hl]; rfl
  · rcases k with _ | k
    · rw [List.eq_nil_of_length_eq_zero hl]; rfl
    · exact nrm_of_low R16_pos H.g.dig hl (by rw [e]; exact h)

end Go.Proofs.YtilpkocmdpofpaaGreatDoor

/- The document's own integers: Sign, Neg, Add, Sub, Cmp. Written by gen_ref8.py. -/
namespace Go.Proofs.YtilpkocmdpofpaaGreatDoor
open Go.RowKit

theorem RetO.dg {w : World} {n : Int} {K K' : Nat} {e : Ending} {w' : World} (h : RetO w n K e w') (hK : K ≤ K') : ∃ v, e = .returned v ∧ Dg w' v n K' ∧ Below w.heap.size w w' := by
  obtain ⟨v, Q, rfl, ho, hl, hd, hv, hb⟩ := h
  refine ⟨v, rfl, ?_, hb⟩
  rcases ho.2 with ⟨rfl, h0⟩ | ⟨g, cap, cur, rfl, hg, hh, hn, hcm, hs, ht⟩
  · subst h0
    obtain rfl : Q = [] := List.eq_nil_of_length_eq_zero hl
    exact ⟨none, 0, [], rfl, Rd.nil _ _, hd, hv, by simp⟩
  · subst hl
    exact ⟨_, cap, Q, rfl, owns_rd ho hcm, hd, hv, hK⟩
end Go.Proofs.YtilpkocmdpofpaaGreatDoor

/- The document's own integers: From. -/
namespace Go.Proofs.YtilpkocmdpofpaaGreatDoor
open Go.RowKit

end Go.Proofs.YtilpkocmdpofpaaGreatDoor

/- The document's own integers: Mul. -/
namespace Go.Proofs.YtilpkocmdpofpaaGreatDoor
open Go.RowKit

theorem val_take_any (B : Int) (M : List Int) (k : Nat) : val B (M.take (k + 1)) = val B (M.take k) + B ^ k * M[k]?.getD 0 := by
  by_cases hk : k < M.length
  · exact val_take_succ B M k hk
  · rw [List.take_of_length_le (by omega), List.take_of_length_le (by omega)]
    simp [Nat.le_of_not_lt hk]

/-- Behind k digits of the i-th row of a product. -/
structure MuI (W0 wr : World) (A B : List Int) (i k : Nat) (R : List Int) (c : Int) : Prop where
  row : Row .i64 3 wr W0.heap.size R
  len : R.length = A.length + B.length + 1
  dig : Dig R16 R
  c0 : 0 ≤ c
  c1 : c ≤ 65535
  eq : val R16 R + R16 ^ (i + k) * c = val R16 (A.take i) * val R16 B + R16 ^ i * (A[i]?.getD 0 * val R16 (B.take k))
  low : Below W0.heap.size W0 wr

theorem MuI.fits {W0 wr : World} {A B : List Int} {i k : Nat} {R : List Int} {c : Int} (H : MuI W0 wr A B i k R c) (hA : Dig R16 A) (hB : Dig R16 B) (hi : i < A.length) (hk : k < B.length ∨ 0 < c) : k ≤ B.length := by
  by_cases h : k ≤ B.length
  · exact h
  · exfalso
    have hc : 0 < c := by omega
    have e := H.eq
    rw [List.take_of_length_le (show B.length ≤ k by omega)] at e
    have e2 : val R16 (A.take i) * val R16 B + R16 ^ i * (A[i]?.getD 0 * val R16 B) = val R16 (A.take (i + 1)) * val R16 B := by
      rw [val_take_any R16 A i]; grind
    rw [e2] at e
    have h1 := val_lt R16_pos (hA.take (i + 1))
    rw [List.length_take, Nat.min_eq_left (by omega)] at h1
    have h2 := val_lt R16_pos hB
    have h3 := val_nonneg R16_pos hB
    have h4 := val_nonneg R16_pos (hA.take (i + 1))
    have h5 := val_nonneg R16_pos H.dig
    have h6 : val R16 (A.take (i + 1)) * val R16 B ≤ R16 ^ (i + 1) * R16 ^ B.length := Int.mul_le_mul (Int.le_of_lt h1) (Int.le_of_lt h2) h3 (Int.le_of_lt (Int.pow_pos R16_pos))
    rw [← Int.pow_add] at h6
    have h7 : R16 ^ (i + 1 + B.length) ≤ R16 ^ (i + k) := pow_mono R16_pos (by omega)
    have h8 : R16 ^ (i + k) * 1 ≤ R16 ^ (i + k) * c := Int.mul_le_mul_of_nonneg_left (by omega) (Int.le_of_lt (Int.pow_pos R16_pos))
    have h9 : val R16 (A.take (i + 1)) * val R16 B < R16 ^ (i + 1) * R16 ^ B.length ∨ val R16 B = 0 := by
      rcases Int.lt_or_eq_of_le h3 with h | h
      · left
        have a1 : val R16 (A.take (i + 1)) * val R16 B < R16 ^ (i + 1) * val R16 B := Int.mul_lt_mul_of_pos_right h1 h
        have a2 : R16 ^ (i + 1) * val R16 B ≤ R16 ^ (i + 1) * R16 ^ B.length := Int.mul_le_mul_of_nonneg_left (Int.le_of_lt h2) (Int.le_of_lt (Int.pow_pos R16_pos))
        omega
      · right; exact h.symm
    rw [← Int.pow_add] at h9
    have hp : (0 : Int) < R16 ^ (i + k) := Int.pow_pos R16_pos
    rcases h9 with h | h
    · omega
    · rw [h, Int.mul_zero] at e; omega

theorem MuI.step {W0 wr : World} {A B : List Int} {i k : Nat} {R : List Int} {c : Int} (H : MuI W0 wr A B i k R c) (hA : Dig R16 A) (hB : Dig R16 B) (hi : i < A.length) (hk : k ≤ B.length) (x y t n : Int) (hx : x = A[i]?.getD 0) (hy : y = B[k]?.getD 0) (ht : t = R[i + k]?.getD 0) (hn : n = t + x * y + c) :
    0 ≤ n ∧ n < 4294967296 ∧ MuI W0 (wr.setCell ⟨W0.heap.size, i + k, none⟩ (.int .i64 (n % 65536))) A B i (k + 1) (R.set (i + k) (n % 65536)) (n / 65536) := by
  have a := hA.at R16_pos i; have b := hB.at R16_pos k; have d := H.dig.at R16_pos (i + k)
  rw [← hx] at a; rw [← hy] at b; rw [← ht] at d
  unfold R16 at a b d
  have c0 := H.c0; have c1 := H.c1
  have p0 : 0 ≤ x * y := Int.mul_nonneg a.1 b.1
  have p1 : x * y ≤ 65535 * 65535 := Int.mul_le_mul (by omega) (by omega) b.1 (by decide)
  have n0 : 0 ≤ n := by omega
  have n1 : n < 4294967296 := by omega
  have hl : i + k < R.length := by rw [H.len]; omega
  refine ⟨n0, n1, ⟨H.row.set _ _, by simpa using H.len, H.dig.set _ (by omega) (by unfold R16; omega), by omega, by omega, ?_, H.low.setCell (Nat.le_refl _) _⟩⟩
  rw [val_set _ _ _ _ hl, val_take_any R16 B k, ← hx, ← hy, ← ht, show i + (k + 1) = i + k + 1 by omega, Int.pow_succ]
  have e := H.eq
  rw [← hx] at e
  have hd : n % 65536 + R16 * (n / 65536) = n := Int.emod_add_mul_ediv n 65536
  rw [Int.pow_add] at *
  generalize n % 65536 = lo at *
  generalize n / 65536 = hi2 at *
  generalize R16 ^ i = p at *
  generalize R16 ^ k = q at *
  generalize R16 = r at *
  grind

theorem MuI.drewN {W0 wr : World} {A B : List Int} {i k : Nat} {R : List Int} {c : Int} (H : MuI W0 wr A B i k R c) (n : Nat) : MuI W0 (wr.drewN n) A B i k R c := ⟨H.row, H.len, H.dig, H.c0, H.c1, H.eq, below_drewN H.low n⟩
theorem MuI.done {W0 wr : World} {A B : List Int} {i k : Nat} {R : List Int} (H : MuI W0 wr A B i k R 0) (hk : B.length ≤ k) : MuI W0 wr A B (i + 1) 0 R 0 := by
  refine ⟨H.row, H.len, H.dig, H.c0, H.c1, ?_, H.low⟩
  have e := H.eq
  rw [List.take_of_length_le hk] at e
  rw [val_take_any R16 A i]
  simp [val] at e ⊢
  rw [e]; grind

end Go.Proofs.YtilpkocmdpofpaaGreatDoor

/- The document's own integers: Gcd. -/
namespace Go.Proofs.YtilpkocmdpofpaaGreatDoor
open Go.RowKit

theorem gcd_pos {X Y : Int} (h : 0 < X) : 0 < Int.gcd X Y := by
  rcases Nat.eq_zero_or_pos (Int.gcd X Y) with h0 | h0
  · have := Int.gcd_dvd_left X Y
    rw [h0] at this
    have := Int.zero_dvd.1 this; omega
  · exact h0
theorem Md.unique {w : World} {v : Value} {n n' : Int} {K K' : Nat} (h : Md w v n K) (h' : Md w v n' K') : n = n' := by
  obtain ⟨ao, c, L, rfl, h⟩ := h
  obtain ⟨ao', c', L', e, h'⟩ := h'
  obtain ⟨e1, e2, _⟩ := Value.slice.inj e
  subst e1
  rw [← h.eq, ← h'.eq, h.rd.unique h'.rd e2]
/-- What holds ahead of a round. -/
structure RgI (W0 wr : World) (xv yv : Value) (X Y : Int) (t G K : Nat) : Prop where
  x : Md wr xv X K
  y : Md wr yv Y K
  g : 2 ^ t * Int.gcd X Y = G
  lt : (G : Int) < R16 ^ K
  low : Below W0.heap.size W0 wr

theorem RgI.few {W0 wr : World} {xv yv : Value} {X Y : Int} {t G K : Nat} (H : RgI W0 wr xv yv X Y t G K) (hx : 0 < X) : t < 16 * K := by
  have h1 : (2 : Int) ^ t ≤ G := by
    have hg := H.g
    have hp : 0 < Int.gcd X Y := gcd_pos hx
    have hn : 2 ^ t * 1 ≤ 2 ^ t * Int.gcd X Y := Nat.mul_le_mul_left _ hp
    rw [hg] at hn
    have : ((2 ^ t * 1 : Nat) : Int) ≤ (G : Int) := by exact_mod_cast hn
    simpa using this
  have h2 : R16 ^ K = (2 : Int) ^ (16 * K) := by rw [Int.pow_mul]; rfl
  have h3 := H.lt
  rw [h2] at h3
  exact pow_lt_gen (by decide) (Int.lt_of_le_of_lt h1 h3)

theorem RgI.next {W0 wr w' : World} {xv yv xv' yv' : Value} {X Y X' Y' : Int} {t t' G K : Nat} (H : RgI W0 wr xv yv X Y t G K) (hx : Md w' xv' X' K) (hy : Md w' yv' Y' K) (hg : 2 ^ t' * Int.gcd X' Y' = 2 ^ t * Int.gcd X Y) (hb : Below wr.heap.size wr w') : RgI W0 w' xv' yv' X' Y' t' G K :=
  ⟨hx, hy, by rw [hg]; exact H.g, H.lt, H.low.trans (hb.mono H.low.size)⟩

end Go.Proofs.YtilpkocmdpofpaaGreatDoor

/- The document's own integers: SameWords, Int, SameInt, LikeInt, NoInt. -/
namespace Go.Proofs.YtilpkocmdpofpaaGreatDoor
open Go.RowKit

/-! Lists of words. -/
def pack16 : List Int → List Int
  | [] => []
  | [x] => [x]
  | x :: y :: l => (x + 65536 * y) :: pack16 l
theorem pack16_step : ∀ (k : Nat) (L : List Int), 2 * k < L.length → pack16 (L.take (2 * k + 2)) = pack16 (L.take (2 * k)) ++ [L[2 * k]?.getD 0 + 65536 * L[2 * k + 1]?.getD 0]
  | 0, [], h => by simp at h
  | 0, [x], _ => by simp [pack16]
  | 0, x :: y :: l, _ => by simp [pack16]
  | k + 1, [], h => by simp at h
  | k + 1, [x], h => by simp at h
  | k + 1, x :: y :: l, h => by
    have ih := pack16_step k l (by simp at h; omega)
    have e1 : 2 * (k + 1) + 2 = (2 * k + 2) + 1 + 1 := by omega
    have e2 : 2 * (k + 1) = 2 * k + 1 + 1 := by omega
    rw [e1, e2]
    simp only [List.take_succ_cons, pack16, ih, List.cons_append]
    simp

/-- The value v (an api.Int) is the normal form of z. -/
def An (w : World) (v : Value) (z : Int) (K : Nat) : Prop := ∃ ao c L, v = .agg #[.bool (decide (z < 0)), .slice ao L.length c] ∧ Rd w .u32 ao c L ∧ Dig B32 L ∧ Nrm L ∧ val B32 L = (z.natAbs : Int) ∧ L.length ≤ K
theorem An.below {w w' : World} {v : Value} {n : Int} {K B : Nat} (h : An w v n K) (hb : Below B w w') (hB : w.heap.size ≤ B) : An w' v n K := by
  obtain ⟨ao, c, L, e, hr, h⟩ := h; exact ⟨ao, c, L, e, hr.below hb hB, h⟩
theorem An.set {w : World} {s : Value} {n : Int} {K : Nat} (h : An w s n K) {a : Addr} {u : Value} (hu : w.cell? a = some u) (hn : ∀ x, u ≠ .int .u32 x) (v : Value) : An (w.setCell a v) s n K := by
  obtain ⟨ao, c, L, e, hr, h⟩ := h; exact ⟨ao, c, L, e, hr.set hu hn v, h⟩
theorem owns_slice {w : World} {base n s : Nat} {e : TypeId} {v : Value} {xs : List Value} (h : w.ownsRow base e s v n xs) : ∃ ao cap, v = .slice ao n cap := by
  rcases h.2 with ⟨rfl, rfl⟩ | ⟨g, cap, cur, rfl, _⟩
  · exact ⟨_, _, rfl⟩
  · exact ⟨_, _, rfl⟩

theorem owns_any {w : World} {base n c : Nat} {e : TypeId} {k : IntKind} {vo : Option Addr} {L : List Int} (h : w.ownsRow base e 1 (.slice vo n c) n (L.map (Value.int k))) (hl : L.length = n) : Rd w k vo c L := by
  rcases h.2 with ⟨e, rfl⟩ | ⟨g, cap, cur, e, hb, hh, hn, hcm, _⟩
  · obtain rfl : L = [] := List.eq_nil_of_length_eq_zero hl
    obtain ⟨rfl, _, rfl⟩ := Value.slice.inj e
    exact Rd.nil _ _
  · obtain ⟨rfl, _, rfl⟩ := Value.slice.inj e
    subst hl
    exact owns_rd h hcm

/-- The words so far. -/
structure InI (w W0 wr : World) (nb : Bool) (L : List Int) (k : Nat) (ov : Value) : Prop where
  ob : wr.heap[w.heap.size + 2]? = some (.cells #[.bool nb, ov] 24 (0, 0))
  own : wr.ownsRow W0.heap.size 53 1 ov k ((pack16 (L.take (2 * k))).map (Value.int .u32))
  low : Below (w.heap.size + 2) W0 wr
  siz : W0.heap.size ≤ wr.heap.size

theorem InI.cells {w W0 wr : World} {nb : Bool} {L : List Int} {k : Nat} {ov : Value} (H : InI w W0 wr nb L k ov) :
    wr.cell? ⟨w.heap.size + 2, 0, none⟩ = some (.bool nb) ∧ wr.cell? ⟨w.heap.size + 2, 1, none⟩ = some ov ∧ wr.frozen? ⟨w.heap.size + 2, 1, none⟩ = false :=
  ⟨(cell_of_row wr _ 0 _ _ (0, 0) H.ob).trans rfl, (cell_of_row wr _ 1 _ _ (0, 0) H.ob).trans rfl, frozen_of_row wr _ 1 _ _ H.ob⟩

theorem InI.next {w W0 wr w3 : World} {nb : Bool} {L : List Int} {k : Nat} {ov ov' : Value} (H : InI w W0 wr nb L k ov) (hw0 : W0.heap.size = w.heap.size + 3) (o : Obj) (y : Int) (hk : 2 * k < L.length) (hy : y = L[2 * k]?.getD 0 + 65536 * L[2 * k + 1]?.getD 0)
    (hown : w3.ownsRow W0.heap.size 53 1 ov' (k + 1) ((pack16 (L.take (2 * k))).map (Value.int .u32) ++ [.int .u32 y])) (hg : (wr.alloc o).grownBy w3 ov.ownBlock) :
    InI w W0 (w3.setCell ⟨w.heap.size + 2, 1, none⟩ ov') nb L (k + 1) ov' := by
  have hlow3 : Below (w.heap.size + 2) W0 w3 := (H.low.alloc (by have := H.siz; omega) o).grown hg (by have := H.siz; simp; omega) (fun i e => by have := owns_block H.own i e; omega)
  have hsz3 : W0.heap.size ≤ w3.heap.size := by have := hg.size; simp at this; have := H.siz; omega
  have hob3 : w3.heap[w.heap.size + 2]? = some (.cells #[.bool nb, ov] 24 (0, 0)) := by
    rw [hg.block (w.heap.size + 2) (by have := H.siz; simp; omega) (fun e => by have := owns_block H.own _ e.symm; omega)]
    show (wr.heap.push o)[w.heap.size + 2]? = _
    rw [Array.getElem?_push_lt (by have := H.siz; omega)]
    have h := H.ob
    rw [Array.getElem?_eq_getElem (by have := H.siz; omega)] at h
    exact h
  refine ⟨?_, ?_, hlow3.setCell (Nat.le_refl _) _, by simpa using hsz3⟩
  · rw [heap_setCell_same w3 _ 1 _ _ _ hob3]; rfl
  · have h := ownsRow_setCell_below hown (a := ⟨w.heap.size + 2, 1, none⟩) (by simp; omega) ov'
    rw [show 2 * (k + 1) = 2 * k + 2 by omega, pack16_step k L hk, ← hy, List.map_append]
    exact h

end Go.Proofs.YtilpkocmdpofpaaGreatDoor

/- exact.Over: the ratio of two numbers of 64 bits, or ErrZero. -/
namespace Go.Proofs.YtilpkocmdpofpaaGreatDoor
open Go.RowKit

theorem FrA.ai {w0 w : World} {v : Value} {z : Int} {K : Nat} (h : FrA w0 w v z K) : Ai w v z K := by
  obtain ⟨s, rfl, L, ho, hd, hn, hv, hl⟩ := h
  obtain ⟨ao, c, rfl⟩ := owns_slice ho
  refine ⟨_, ao, c, L, rfl, owns_any ho rfl, hd, hl, ?_⟩
  rw [hv]
  unfold sgn
  by_cases h : z < 0 <;> simp [h] <;> omega

set_option maxRecDepth 100000 in
set_option maxHeartbeats 1000000 in
theorem Over_any (n d : Int) (w : World) (n0 : -9223372036854775808 ≤ n) (n1 : n < 9223372036854775808) (d0 : -9223372036854775808 ≤ d) (d1 : d < 9223372036854775808) (hd : d ≠ 0) :
    Calls Tryz.prog 84 #[.int .i64 n, .int .i64 d] w fun e w' => ∃ f, e = .returned (.tuple #[f, .int .i64 0]) ∧ FrR w w' f (lowN (sgn (decide (n < 0) != decide (d < 0)) (n.natAbs : Int)) (d.natAbs : Int)) (lowD (sgn (decide (n < 0) != decide (d < 0)) (n.natAbs : Int)) (d.natAbs : Int)) 2 ∧ Below w.heap.size w w' := by
  obtain ⟨W0, hW0⟩ : ∃ W0, W0 = (w.alloc (.cells #[.bool false, .slice none 0 0, .bool false, .slice none 0 0] 26)) := ⟨_, rfl⟩
  have hB0 : Below w.heap.size w W0 := by rw [hW0]; exact (Below.refl _ _).alloc (Nat.le_refl _) _
  have hz0 : W0.heap.size = w.heap.size + 1 := by rw [hW0]; simp
  have HT : Hid (∀ w', Below W0.heap.size W0 w' → (w'.cell? ⟨w.heap.size, 0, none⟩ = some (.bool false) ∧ w'.cell? ⟨w.heap.size, 1, none⟩ = some (.slice none 0 0) ∧ w'.cell? ⟨w.heap.size, 2, none⟩ = some (.bool false) ∧ w'.cell? ⟨w.heap.size, 3, none⟩ = some (.slice none 0 0)) ∧ (w'.frozen? ⟨w.heap.size, 0, none⟩ = false ∧ w'.frozen? ⟨w.heap.size, 1, none⟩ = false ∧ w'.frozen? ⟨w.heap.size, 2, none⟩ = false ∧ w'.frozen? ⟨w.heap.size, 3, none⟩ = false)) := hid (fun w' hb => by
    refine ⟨⟨?_, ?_, ?_, ?_⟩, ?_, ?_, ?_, ?_⟩ <;> (first | (rw [hb.cell (by rw [hz0]; simp), hW0]; simp [go_sem]; done) | (rw [hb.frozen (by rw [hz0]; simp), hW0]; simp [go_sem]; done)))
  have HB0 := hid hB0; have Hz0 := hid hz0; have HW := hid hW0
  clear hW0 hB0 hz0
  go_enter Tryz.func84, Tryz.ntmps84
  go_upto_region 1 with (fail)
  rw [← HW.out]
  go_wp2_with fail
  refine (of_any n W0 n0 n1).mono ?_
  rintro e w1 ⟨v1, rfl, hv1, hb1⟩
  go_wp2_with fail
  refine (of_any d w1 d0 d1).mono ?_
  rintro e w2 ⟨v2, rfl, hv2, hb2⟩
  have hX2 : Below W0.heap.size W0 w2 := hb1.trans (hb2.mono hb1.size)
  go_wp2_with fail
  refine (Make_any v1 v2 n d 2 w2 (hv1.ai.below hb2 (Nat.le_refl _)) hv2.ai hd (by decide)).mono ?_
  rintro e w6 ⟨_, rfl, hv6, hb6⟩
  obtain ⟨z1, o6, m6, c6, z2, o7, m7, c7, rfl, H6, H7⟩ := FrR.opened hv6
  have hX6 : Below W0.heap.size W0 w6 := hX2.trans (hb6.mono hX2.size)
  obtain ⟨⟨hr0, hr1, hr2, hr3⟩, hf0, hf1, hf2, hf3⟩ := HT.out _ hX6
  clear hv6
  go_wp2
  have hz0 := Hz0.out; have hs5 := hX2.size
  have hw6 : Below w.heap.size w w6 := HB0.out.trans (hX6.mono (by omega))
  have hlt : w.heap.size < w2.heap.size := by omega
  refine bodyPost_ret (v := .tuple #[.agg #[.bool z1, .slice o6 m6 c6, .bool z2, .slice o7 m7 c7], .int .i64 0]) (by simp [results, Tryz.results84, go_sem, hr0, hr1, hr2, hr3]) rfl ⟨_, rfl, ?_, (((hw6.setCell (by simp) _).setCell (by simp) _).setCell (by simp) _).setCell (by simp) _⟩
  refine ⟨_, _, _, _, rfl, ?_, ?_⟩
  · exact ((((H6.out.set hlt _).set hlt _).set hlt _).set hlt _).base (by omega)
  · exact ((((H7.out.set hlt _).set hlt _).set hlt _).set hlt _).base (by omega)

end Go.Proofs.YtilpkocmdpofpaaGreatDoor
