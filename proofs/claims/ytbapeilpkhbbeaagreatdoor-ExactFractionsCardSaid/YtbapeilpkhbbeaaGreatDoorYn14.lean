/- (*exact.difference).limb: a limb of the difference of two products. (exact.steps).apply: Euclid's steps, done at once in the memory of both numbers. -/
import Derived.Test.YtbapeilpkhbbeaaGreatDoorYn05
import Derived.Test.YtbapeilpkhbbeaaGreatDoorYn13
/- (*exact.difference).limb: a limb of the difference of two products. -/
namespace Go.Proofs.YtbapeilpkhbbeaaGreatDoor
open Go.RowKit

theorem limb_step {x u cc hi lo l1 c1 : Int} (hx : 0 ≤ x ∧ x < B64) (hu : 0 ≤ u ∧ u < B64) (hc : 0 ≤ cc ∧ cc < B64) (h1 : lo + B64 * hi = x * u) (h2 : l1 + B64 * c1 = lo + cc) (hl : 0 ≤ l1) :
    hi + c1 ≤ 18446744073709551615 ∧ l1 + B64 * (hi + c1) = x * u + cc := by
  have h := (mul_le x u hx.1 hx.2 hu.1 hu.2).2
  generalize x * u = p at *
  unfold B64 at *
  constructor <;> omega

/-- Behind a limb: what it is, and what is carried on. -/
structure LimbN (x u y v P M Bo r P' M' Bo' : Int) : Prop where
  hr : 0 ≤ r ∧ r < B64
  hp : 0 ≤ P' ∧ P' < B64
  hm : 0 ≤ M' ∧ M' < B64
  hb : 0 ≤ Bo' ∧ Bo' ≤ 1
  eq : r + B64 * (P' - M' - Bo') = x * u - y * v + (P - M - Bo)

set_option maxRecDepth 100000 in
set_option maxHeartbeats 4000000 in
theorem limb_any (d : Nat) (x u y v P M Bo : Int) (w : World) (hx : 0 ≤ x ∧ x < B64) (hu : 0 ≤ u ∧ u < B64) (hy : 0 ≤ y ∧ y < B64) (hv : 0 ≤ v ∧ v < B64) (hP : 0 ≤ P ∧ P < B64) (hM : 0 ≤ M ∧ M < B64) (hB : 0 ≤ Bo ∧ Bo ≤ 1)
    (c0 : w.cell? ⟨d, 0, none⟩ = some (.int .u64 P)) (c1 : w.cell? ⟨d, 1, none⟩ = some (.int .u64 M)) (c2 : w.cell? ⟨d, 2, none⟩ = some (.int .u64 Bo)) (f0 : w.frozen? ⟨d, 0, none⟩ = false) (f1 : w.frozen? ⟨d, 1, none⟩ = false) (f2 : w.frozen? ⟨d, 2, none⟩ = false) :
    Calls Tryz.prog 148 #[.pointer (some ⟨d, 0, none⟩), .int .u64 x, .int .u64 u, .int .u64 y, .int .u64 v] w fun e w' => ∃ r P' M' Bo', e = .returned (.int .u64 r) ∧ LimbN x u y v P M Bo r P' M' Bo' ∧
      w' = ((w.setCell ⟨d, 0, none⟩ (.int .u64 P')).setCell ⟨d, 1, none⟩ (.int .u64 M')).setCell ⟨d, 2, none⟩ (.int .u64 Bo') := by
  have Hx := hid hx; have Hu := hid hu; have Hy := hid hy; have Hv := hid hv; have HP := hid hP; have HM := hid hM; have HB := hid hB
  clear hx hu hy hv hP hM hB
  go_enter Tryz.func148, Tryz.ntmps148
  go_wp2_with fail
  refine (mul64_ex x u Hx.out.1 Hx.out.2 Hu.out.1 Hu.out.2 _).mono ?_
  rintro e w' ⟨hi, lo, rfl, ⟨hi0, lo0, lo1, hi1, HPr⟩, rfl⟩
  obtain ⟨l1, k1, ha1, ⟨l10, l11, k10, k11⟩, hl1⟩ := add64_ex lo P 0 lo0 lo1 HP.out.1 HP.out.2 (Int.le_refl 0) (by decide)
  have hms := limb_step Hx.out Hu.out HP.out HPr.out (by simpa using hl1) l10
  have hle := hms.1
  have Hms := hid hms; have Hl1 := hid (show 0 ≤ l1 ∧ l1 < B64 from ⟨l10, l11⟩)
  clear hms hl1 lo1 l11
  go_wp2_with fail
  refine (mul64_ex y v Hy.out.1 Hy.out.2 Hv.out.1 Hv.out.2 _).mono ?_
  rintro e w' ⟨gi, go, rfl, ⟨gi0, go0, go1, gi1, GPr⟩, rfl⟩
  obtain ⟨m1, j1, hb1, ⟨m10, m11, j10, j11⟩, hm1⟩ := add64_ex go M 0 go0 go1 HM.out.1 HM.out.2 (Int.le_refl 0) (by decide)
  have hmt := limb_step Hy.out Hv.out HM.out GPr.out (by simpa using hm1) m10
  have hle2 := hmt.1
  obtain ⟨r, b2, hs2, ⟨r0, r1, b20, b21⟩, hr, _⟩ := sub64_ex l1 m1 Bo Hl1.out.1 Hl1.out.2 m10 m11 HB.out.1 HB.out.2
  have HN := hid (show LimbN x u y v P M Bo r (hi + k1) (gi + j1) b2 from ⟨⟨r0, r1⟩, ⟨by omega, by unfold B64; omega⟩, ⟨by omega, by unfold B64; omega⟩, ⟨b20, b21⟩, by
    have e1 := Hms.out.2; have e2 := hmt.2
    simp only [Int.mul_sub]
    omega⟩)
  clear hmt hm1 go1 m11 hr r1
  go_wp2
  go_ret
  exact ⟨r, _, _, _, rfl, HN.out, rfl⟩

end Go.Proofs.YtbapeilpkhbbeaaGreatDoor

/- (exact.steps).apply: Euclid's steps, done at once in the memory of both numbers. -/
namespace Go.Proofs.YtbapeilpkhbbeaaGreatDoor
open Go.RowKit

theorem low_lin {u v a b R P c l : Int} (hR : R = u * a + v * b) (hR0 : 0 ≤ R) (hR1 : R < P) (hl0 : 0 ≤ l) (hl1 : l < P) (he : l + P * c = u * (a % P) + v * b) : l = R :=
  low_eq (u := u) (a := a) (v := -v) (b := b) (c := c) (by rw [hR, Int.neg_mul, Int.sub_neg]) hR0 hR1 hl0 hl1 (by rw [he, Int.neg_mul, Int.sub_neg])

/-- What is carried from limb to limb, in the box at d. -/
structure Cry (w : World) (d : Nat) (P M Bo : Int) : Prop where
  ob : Obs 192 w d [.int .u64 P, .int .u64 M, .int .u64 Bo]
  p : 0 ≤ P ∧ P < B64
  m : 0 ≤ M ∧ M < B64
  b : 0 ≤ Bo ∧ Bo ≤ 1

/-- Behind k limbs: what has come of both numbers. -/
structure ApI (w wr : World) (B ga gb : Nat) (LA SA LB SB : List Int) (sv : List Value) (u v u2 v2 : Int) (k : Nat) (QA QB : List Int) (P M Bo P2 M2 Bo2 : Int) : Prop where
  ra : Row .u64 63 wr ga (QA ++ (LA.drop k ++ SA))
  rb : Row .u64 63 wr gb (QB ++ (LB.drop k ++ SB))
  la : QA.length = k
  lb : QB.length = k
  da : Dig B64 QA
  db : Dig B64 QB
  so : Obs 161 wr w.heap.size sv
  c1 : Cry wr (w.heap.size + 1) P M Bo
  c2 : Cry wr (w.heap.size + 2) P2 M2 Bo2
  ea : val B64 QA + B64 ^ k * (P - M - Bo) = u * val B64 (LA.take k) + v * val B64 (LB.take k)
  eb : val B64 QB + B64 ^ k * (P2 - M2 - Bo2) = u2 * val B64 (LA.take k) + v2 * val B64 (LB.take k)
  low : Below B w wr

theorem Row.other {k : IntKind} {e : TypeId} {w : World} {g : Nat} {L : List Int} (h : Row k e w g L) {g' : Nat} (hne : g' ≠ g) (i : Nat) (v : Value) : Row k e (w.setCell ⟨g', i, none⟩ v) g L :=
  h.kept (grown_set w g' i v) (by simp; exact fun e => hne e.symm)

/-- Three fields, written. -/
def set3 (w : World) (d : Nat) (P M Bo : Int) : World := ((w.setCell ⟨d, 0, none⟩ (.int .u64 P)).setCell ⟨d, 1, none⟩ (.int .u64 M)).setCell ⟨d, 2, none⟩ (.int .u64 Bo)
theorem set3_row {k : IntKind} {e : TypeId} {w : World} {g d : Nat} {L : List Int} (h : Row k e w g L) (hne : d ≠ g) (P M Bo : Int) : Row k e (set3 w d P M Bo) g L := ((h.other hne 0 _).other hne 1 _).other hne 2 _
theorem set3_obs {T : TypeId} {w : World} {g d : Nat} {vs : List Value} (h : Obs T w g vs) (hne : d ≠ g) (P M Bo : Int) : Obs T (set3 w d P M Bo) g vs := ((h.other hne 0 _).other hne 1 _).other hne 2 _
theorem set3_below {w w' : World} {B d : Nat} (h : Below B w w') (hd : B ≤ d) (P M Bo : Int) : Below B w (set3 w' d P M Bo) := ((h.setCell hd _).setCell hd _).setCell hd _
theorem Cry.set3 {w : World} {d : Nat} {P M Bo x y u v r P' M' Bo' : Int} (h : Cry w d P M Bo) (n : LimbN x u y v P M Bo r P' M' Bo') : Cry (set3 w d P' M' Bo') d P' M' Bo' :=
  ⟨((h.ob.set 0 _).set 1 _).set 2 _, n.hp, n.hm, n.hb⟩
theorem Cry.other {w : World} {d g : Nat} {P M Bo : Int} (h : Cry w d P M Bo) (hne : g ≠ d) (i : Nat) (v : Value) : Cry (w.setCell ⟨g, i, none⟩ v) d P M Bo := ⟨h.ob.other hne i v, h.p, h.m, h.b⟩
theorem Cry.other3 {w : World} {d g : Nat} {P M Bo : Int} (h : Cry w d P M Bo) (hne : g ≠ d) (P' M' Bo' : Int) : Cry (Proofs.YtbapeilpkhbbeaaGreatDoor.set3 w g P' M' Bo') d P M Bo := ⟨set3_obs h.ob hne _ _ _, h.p, h.m, h.b⟩
theorem Cry.cells {w : World} {d : Nat} {P M Bo : Int} (h : Cry w d P M Bo) : w.cell? ⟨d, 0, none⟩ = some (.int .u64 P) ∧ w.cell? ⟨d, 1, none⟩ = some (.int .u64 M) ∧ w.cell? ⟨d, 2, none⟩ = some (.int .u64 Bo) ∧ w.frozen? ⟨d, 0, none⟩ = false ∧ w.frozen? ⟨d, 1, none⟩ = false ∧ w.frozen? ⟨d, 2, none⟩ = false :=
  ⟨h.ob.cell 0 _ rfl, h.ob.cell 1 _ rfl, h.ob.cell 2 _ rfl, h.ob.frozen 0, h.ob.frozen 1, h.ob.frozen 2⟩

theorem row_step {w : World} {g k : Nat} {Q L S : List Int} {r : Int} (h : Row .u64 63 w g (Q ++ (L.drop k ++ S))) (hl : Q.length = k) (hk : k < L.length) :
    Row .u64 63 (w.setCell ⟨g, k, none⟩ (.int .u64 r)) g (Q ++ [r] ++ (L.drop (k + 1) ++ S)) := by
  have h1 := h.set k r
  rw [drop_cons L k hk, List.set_append_right _ _ (by omega), hl, Nat.sub_self] at h1
  simpa using h1
theorem row_at {w : World} {g k : Nat} {Q L S : List Int} (h : Row .u64 63 w g (Q ++ (L.drop k ++ S))) (hl : Q.length = k) (hk : k < L.length) : w.cell? ⟨g, k, none⟩ = some (.int .u64 (L[k]?.getD 0)) := by
  rw [h.cell k (by simp; omega), List.getElem?_append_right (by omega), hl, Nat.sub_self, List.getElem?_append_left (by simp; omega)]
  simp

theorem ap_eq {Q L M : List Int} {k : Nat} {u v c c' r x y : Int} (e : val B64 Q + B64 ^ k * c = u * val B64 (L.take k) + v * val B64 (M.take k)) (hl : Q.length = k) (hL : k < L.length) (hM : k < M.length) (hx : x = L[k]?.getD 0) (hy : y = M[k]?.getD 0) (h : r + B64 * c' = u * x + v * y + c) :
    val B64 (Q ++ [r]) + B64 ^ (k + 1) * c' = u * val B64 (L.take (k + 1)) + v * val B64 (M.take (k + 1)) := by
  rw [val_snoc, hl, val_take_succ B64 L k hL, val_take_succ B64 M k hM, ← hx, ← hy, Int.pow_succ]
  generalize B64 ^ k = p at *
  have e2 : p * r + p * B64 * c' = p * (u * x + v * y + c) := by rw [← h]; grind
  grind

theorem ApI.step {w wr : World} {B ga gb : Nat} {LA SA LB SB : List Int} {sv : List Value} {u v u2 v2 : Int} {k : Nat} {QA QB : List Int} {P M Bo P2 M2 Bo2 : Int} (H : ApI w wr B ga gb LA SA LB SB sv u v u2 v2 k QA QB P M Bo P2 M2 Bo2)
    (hA : k < LA.length) (hB : k < LB.length) (nab : ga ≠ gb) (na : ga < w.heap.size) (nb : gb < w.heap.size) (ba : B ≤ ga) (bb : B ≤ gb) {x y s t s' t' r P' M' Bo' s2 t2 s2' t2' r2 P2' M2' Bo2' : Int} (hx : x = LA[k]?.getD 0) (hy : y = LB[k]?.getD 0)
    (n1 : LimbN s t s' t' P M Bo r P' M' Bo') (n2 : LimbN s2 t2 s2' t2' P2 M2 Bo2 r2 P2' M2' Bo2') (e1 : s * t - s' * t' = u * x + v * y) (e2 : s2 * t2 - s2' * t2' = u2 * x + v2 * y) :
    ApI w ((set3 ((set3 wr (w.heap.size + 1) P' M' Bo').setCell ⟨ga, k, none⟩ (.int .u64 r)) (w.heap.size + 2) P2' M2' Bo2').setCell ⟨gb, k, none⟩ (.int .u64 r2)) B ga gb LA SA LB SB sv u v u2 v2 (k + 1) (QA ++ [r]) (QB ++ [r2]) P' M' Bo' P2' M2' Bo2' := by
  have hBw : B ≤ w.heap.size := by omega
  refine ⟨?_, ?_, by simp [H.la], by simp [H.lb], H.da.append (Dig.cons n1.hr.1 n1.hr.2 (Dig.nil _)), H.db.append (Dig.cons n2.hr.1 n2.hr.2 (Dig.nil _)), ?_, ?_, ?_, ?_, ?_, ?_⟩
  · exact (set3_row (row_step (set3_row H.ra (by omega) _ _ _) H.la hA) (by omega) _ _ _).other (fun e => nab e.symm) _ _
  · exact row_step (set3_row ((set3_row H.rb (by omega) _ _ _).other nab _ _) (by omega) _ _ _) H.lb hB
  · exact (set3_obs ((set3_obs H.so (by omega) _ _ _).other (by omega) _ _) (by omega) _ _ _).other (by omega) _ _
  · exact (((H.c1.set3 n1).other (by omega) _ _).other3 (by omega) _ _ _).other (by omega) _ _
  · exact (((H.c2.other3 (by omega) _ _ _).other (by omega) _ _).set3 n2).other (by omega) _ _
  · exact ap_eq H.ea H.la hA hB hx hy (by rw [n1.eq, e1])
  · exact ap_eq H.eb H.lb hA hB hx hy (by rw [n2.eq, e2])
  · exact (set3_below ((set3_below H.low (by omega) _ _ _).setCell (by simpa using ba) _) (by omega) _ _ _).setCell (by simpa using bb) _

/-- What both numbers have become. -/
structure RetAp (w : World) (B ga gb ca cb m : Nat) (a b : Int) (e : Ending) (w' : World) (LX SX LY SY : List Int) (R0 R1 : Int) : Prop where
  e : e = .returned (.tuple #[.slice (some ⟨ga, 0, none⟩) LX.length ca, .slice (some ⟨gb, 0, none⟩) LY.length cb])
  x : OwnL w' B ga ca LX SX R0
  y : OwnL w' B gb cb LY SY R1
  lx : LX.length ≤ m
  ly : LY.length ≤ m
  p1 : 0 ≤ R1
  p0 : R1 < R0
  pb : R0 ≤ b
  g : Int.gcd R0 R1 = Int.gcd a b
  low : Below B w w'

theorem ApI.done {w wr : World} {B ga gb ca cb m : Nat} {LA SA LB SB : List Int} {sv : List Value} {u v u2 v2 a b R0 R1 : Int} {QA QB : List Int} {P M Bo P2 M2 Bo2 : Int} (H : ApI w wr B ga gb LA SA LB SB sv u v u2 v2 m QA QB P M Bo P2 M2 Bo2)
    (hm : LB.length = m) (hA : m ≤ LA.length) (dA : Dig B64 LA) (dB : Dig B64 LB) (vA : val B64 LA = a) (vB : val B64 LB = b) (hca : m ≤ ca) (hcb : m ≤ cb) (ma : ca ≤ 9223372036854775807) (mb : cb ≤ 9223372036854775807) (ba : B ≤ ga) (bb : B ≤ gb)
    (h0 : R0 = u * a + v * b) (h1 : R1 = u2 * a + v2 * b) (p1 : 0 ≤ R1) (p0 : R1 < R0) (pb : R0 ≤ b) (g : Int.gcd R0 R1 = Int.gcd a b) :
    RetAp w B ga gb ca cb m a b (.returned (.tuple #[.slice (some ⟨ga, 0, none⟩) (trimL QA).length ca, .slice (some ⟨gb, 0, none⟩) (trimL QB).length cb])) wr (trimL QA) (QA.drop (trimL QA).length ++ (LA.drop m ++ SA)) (trimL QB) (QB.drop (trimL QB).length ++ (LB.drop m ++ SB)) R0 R1 := by
  have hb : b < B64 ^ m := by rw [← vB, ← hm]; exact val_lt B64_pos dB
  have eA := val_take_drop B64 LA m hA
  have lA := val_lt B64_pos (dA.take m)
  rw [List.length_take, Nat.min_eq_left hA] at lA
  have nA := val_nonneg B64_pos (dA.take m)
  have hmod : val B64 (LA.take m) = a % B64 ^ m := by
    rw [← vA, eA, Int.add_mul_emod_self_left]; exact (Int.emod_eq_of_lt nA lA).symm
  have hBm : val B64 (LB.take m) = b := by rw [List.take_of_length_le (by omega), vB]
  have ea := H.ea; have eb := H.eb
  rw [hmod, hBm] at ea eb
  have q1 := val_lt B64_pos H.da; rw [H.la] at q1
  have q2 := val_lt B64_pos H.db; rw [H.lb] at q2
  have z0 := low_lin h0 (by omega) (by omega) (val_nonneg B64_pos H.da) q1 ea
  have z1 := low_lin h1 p1 (by omega) (val_nonneg B64_pos H.db) q2 eb
  exact ⟨rfl, own_trim H.ra H.da z0 (by rw [H.la]; exact hca) ma ba, own_trim H.rb H.db z1 (by rw [H.lb]; exact hcb) mb bb, by have := trimL_len QA; have := H.la; omega, by have := trimL_len QB; have := H.lb; omega, p1, p0, pb, g, H.low⟩

theorem ApI.start {w : World} {B ga gb : Nat} {LA SA LB SB : List Int} {sv : List Value} (u v u2 v2 : Int) {W0 : World} (ra : Row .u64 63 w ga (LA ++ SA)) (rb : Row .u64 63 w gb (LB ++ SB)) (ba : B ≤ ga)
    (hW : W0 = (((w.alloc (.cells sv.toArray 161 (0, 0))).alloc (.cells #[.int .u64 0, .int .u64 0, .int .u64 0] 192)).alloc (.cells #[.int .u64 0, .int .u64 0, .int .u64 0] 192))) :
    ApI w W0 B ga gb LA SA LB SB sv u v u2 v2 0 [] [] 0 0 0 0 0 0 := by
  have hs : B ≤ w.heap.size := by have := ra.lt; omega
  have z : (0 : Int) ≤ 0 ∧ (0 : Int) < B64 := ⟨by decide, by decide⟩
  subst hW
  refine ⟨by simpa using ((ra.alloc _).alloc _).alloc _, by simpa using ((rb.alloc _).alloc _).alloc _, rfl, rfl, Dig.nil _, Dig.nil _, ((Obs.new _ w sv).alloc _).alloc _, ⟨?_, z, z, by decide, by decide⟩, ⟨?_, z, z, by decide, by decide⟩, by simp [val], by simp [val], (((Below.refl _ w).alloc hs _).alloc (by simp; omega) _).alloc (by simp; omega) _⟩
  · have := (Obs.new 192 (w.alloc (.cells sv.toArray 161 (0, 0))) [.int .u64 0, .int .u64 0, .int .u64 0]).alloc (.cells #[.int .u64 0, .int .u64 0, .int .u64 0] 192)
    simpa using this
  · have := Obs.new 192 ((w.alloc (.cells sv.toArray 161 (0, 0))).alloc (.cells #[.int .u64 0, .int .u64 0, .int .u64 0] 192)) [.int .u64 0, .int .u64 0, .int .u64 0]
    simpa using this


set_option maxRecDepth 100000 in
set_option maxHeartbeats 8000000 in
theorem apply_any (B ga gb ca cb : Nat) (LA SA LB SB : List Int) (a b cnt a0 b0 a1 b1 : Int) (w : World) (hA : OwnL w B ga ca LA SA a) (hB : OwnL w B gb cb LB SB b) (nab : ga ≠ gb) (hl : LB.length ≤ LA.length) (hc : 0 < cnt) (hS : StepsN a b cnt a0 b0 a1 b1) :
    Calls Tryz.prog 118 #[.agg #[.int .i64 cnt, .int .u64 a0, .int .u64 b0, .int .u64 a1, .int .u64 b1], .slice (some ⟨ga, 0, none⟩) LA.length ca, .slice (some ⟨gb, 0, none⟩) LB.length cb] w fun e w' => ∃ LX SX LY SY R0 R1, RetAp w B ga gb ca cb LB.length a b e w' LX SX LY SY R0 R1 := by
  obtain ⟨m, hm⟩ : ∃ m, LB.length = m := ⟨_, rfl⟩
  obtain ⟨n, hn⟩ : ∃ n, LA.length = n := ⟨_, rfl⟩
  have na := hA.row.lt
  have nb := hB.row.lt
  have hca := hA.cap; have hma := hA.most; have hcb := hB.cap; have hmb := hB.most
  rw [hn] at hca hl; rw [hm] at hcb hl
  rw [hm, hn]
  obtain ⟨R0, R1, hpar, p1, p0, pb, hg⟩ := hS.did hc
  have HA := hid hA; have HB := hid hB; have Hm := hid hm; have Hn := hid hn; have HS := hid hS; have Hg := hid hg; have Hp := hid (show 0 ≤ R1 ∧ R1 < R0 ∧ R0 ≤ b from ⟨p1, p0, pb⟩)
  have ha0 := hS.a0s; have hb0 := hS.b0s; have ha1 := hS.a1s; have hb1 := hS.b1s
  have Ha0 := hid ha0; have Hb0 := hid hb0; have Ha1 := hid ha1; have Hb1 := hid hb1
  have hcb2 := hS.c.2
  clear hA hB hm hn hS hg p1 p0 pb ha0 hb0 ha1 hb1
  rcases hpar with ⟨hc2, e0, e1⟩ | ⟨hc2, e0, e1⟩
  · have E0 := hid e0; have E1 := hid e1
    clear e0 e1
    go_enter Tryz.func118, Tryz.ntmps118
    go_upto_region 4 with (fail)
    obtain ⟨W0, hW0⟩ : ∃ W0, W0 = (((w.alloc (.cells #[.int .i64 cnt, .int .u64 a0, .int .u64 b0, .int .u64 a1, .int .u64 b1] 161)).alloc (.cells #[.int .u64 0, .int .u64 0, .int .u64 0] 192)).alloc (.cells #[.int .u64 0, .int .u64 0, .int .u64 0] 192)) := ⟨_, rfl⟩
    have HI0 := hid (ApI.start (sv := stepL cnt a0 b0 a1 b1) (a0) (-b0) (-a1) (b1) HA.out.row HB.out.row HA.out.base hW0)
    rw [← hW0, show w.heap.size + 1 + 1 = w.heap.size + 2 from rfl]
    clear hW0 hc2
    go_wp2
    go_loopw [26] (fun iv wr => ∃ k : Nat, ∃ QA QB P M Bo P2 M2 Bo2, k ≤ m ∧ iv = .int .i64 k ∧ ApI w wr B ga gb LA SA LB SB (stepL cnt a0 b0 a1 b1) (a0) (-b0) (-a1) (b1) k QA QB P M Bo P2 M2 Bo2) (fun iv _ => m - (intOf iv).toNat)
    case atStart => exact ⟨0, [], [], 0, 0, 0, 0, 0, 0, Nat.zero_le _, rfl, HI0.out⟩
    case round =>
      obtain ⟨k, QA, QB, P, M, Bo, P2, M2, Bo2, hk, rfl, H⟩ := hrel
      by_cases hlt : k < m
      · have hkA : k < LA.length := by have := Hn.out; omega
        have hkB : k < LB.length := by have := Hm.out; omega
        have xa := row_at H.ra H.la hkA
        have xb := row_at H.rb H.lb hkB
        have dx := HA.out.dig.at B64_pos k
        have dy := HB.out.dig.at B64_pos k
        obtain ⟨x, hx⟩ : ∃ x, x = LA[k]?.getD 0 := ⟨_, rfl⟩
        obtain ⟨y, hy⟩ : ∃ y, y = LB[k]?.getD 0 := ⟨_, rfl⟩
        rw [← hx] at xa dx; rw [← hy] at xb dy
        have Hdx := hid dx; have Hdy := hid dy
        have s1 := H.so.cell 1 _ rfl; have s2 := H.so.cell 2 _ rfl; have s3 := H.so.cell 3 _ rfl; have s4 := H.so.cell 4 _ rfl
        obtain ⟨c0, c1, c2, f0, f1, f2⟩ := H.c1.cells
        have HL1 := hid (limb_any (w.heap.size + 1) x a0 y b0 P M Bo wr Hdx.out Ha0.out Hdy.out Hb0.out H.c1.p H.c1.m H.c1.b c0 c1 c2 f0 f1 f2)
        have HH := hid H; have Hx := hid hx; have Hy := hid hy; have HkA := hid hkA; have HkB := hid hkB
        clear c0 c1 c2 f0 f1 f2 H hx hy dx dy hkA hkB HI0
        go_wp2_with fail
        refine HL1.out.mono ?_
        rintro e w1 ⟨r, P', M', Bo', rfl, hn1, hw1⟩
        have hw1' : w1 = set3 wr (w.heap.size + 1) P' M' Bo' := hw1
        have ra1 : Row .u64 63 w1 ga (QA ++ (LA.drop k ++ SA)) := by rw [hw1']; exact set3_row HH.out.ra (by omega) P' M' Bo'
        have ya := row_at ra1 HH.out.la HkA.out
        have yf := ra1.frozen k
        have os2 : Obs 161 (w1.setCell ⟨ga, k, none⟩ (.int .u64 r)) w.heap.size (stepL cnt a0 b0 a1 b1) := by rw [hw1']; exact (set3_obs HH.out.so (by omega) P' M' Bo').other (by omega) _ _
        have oc2 : Cry (w1.setCell ⟨ga, k, none⟩ (.int .u64 r)) (w.heap.size + 2) P2 M2 Bo2 := by rw [hw1']; exact (HH.out.c2.other3 (by omega) P' M' Bo').other (by omega) _ _
        have rb2 : Row .u64 63 (w1.setCell ⟨ga, k, none⟩ (.int .u64 r)) gb (QB ++ (LB.drop k ++ SB)) := by rw [hw1']; exact (set3_row HH.out.rb (by omega) P' M' Bo').other nab _ _
        have qb1 : (w1.setCell ⟨ga, k, none⟩ (.int .u64 r)).cell? ⟨w.heap.size, 4, none⟩ = some (.int .u64 b1) := os2.cell 4 _ rfl
        have qa1 : (w1.setCell ⟨ga, k, none⟩ (.int .u64 r)).cell? ⟨w.heap.size, 3, none⟩ = some (.int .u64 a1) := os2.cell 3 _ rfl
        obtain ⟨c0, c1, c2, f0, f1, f2⟩ := oc2.cells
        have HL2 := hid (limb_any (w.heap.size + 2) y b1 x a1 P2 M2 Bo2 (w1.setCell ⟨ga, k, none⟩ (.int .u64 r)) Hdy.out Hb1.out Hdx.out Ha1.out oc2.p oc2.m oc2.b c0 c1 c2 f0 f1 f2)
        have Hrb2 := hid rb2; have Hn1 := hid hn1; have Hw1 := hid hw1'
        clear c0 c1 c2 f0 f1 f2 rb2 oc2 os2 ra1 hn1 hw1 hw1' xa xb s1 s2 s3 s4
        go_wp2_with fail
        refine HL2.out.mono ?_
        rintro e w3 ⟨r2, P2', M2', Bo2', rfl, hn2, hw3⟩
        have hw3' : w3 = set3 (w1.setCell ⟨ga, k, none⟩ (.int .u64 r)) (w.heap.size + 2) P2' M2' Bo2' := hw3
        have rb3 : Row .u64 63 w3 gb (QB ++ (LB.drop k ++ SB)) := by rw [hw3']; exact set3_row Hrb2.out (by omega) P2' M2' Bo2'
        have yb := row_at rb3 HH.out.lb HkB.out
        have yg := rb3.frozen k
        have hst := HH.out.step HkA.out HkB.out nab na nb HA.out.base HB.out.base Hx.out Hy.out Hn1.out hn2 (by simp only [Int.neg_mul]; first | (rw [Int.mul_comm x, Int.mul_comm y]; omega) | grind) (by simp only [Int.neg_mul]; first | (rw [Int.mul_comm x, Int.mul_comm y]; omega) | grind)
        rw [← Hw1.out, ← hw3'] at hst
        have Hst := hid hst
        clear hst rb3 hw3 hw3' hn2 qb1 qa1
        go_wp2
        go_roundw
        case rel => exact ⟨k + 1, _, _, _, _, _, _, _, _, by omega, by go_num, Hst.out⟩
        case measure => simp [intOf]; omega
      · obtain rfl : k = m := by omega
        have hd := H.done Hm.out (by have := Hn.out; omega) HA.out.dig HB.out.dig HA.out.eq HB.out.eq (by omega) hcb hma hmb HA.out.base HB.out.base (by rw [E0.out]; simp only [Int.neg_mul]; omega) (by rw [E1.out]; simp only [Int.neg_mul]; omega) Hp.out.1 Hp.out.2.1 Hp.out.2.2 Hg.out
        have rdA : Rd wr .u64 (some ⟨ga, 0, none⟩) ca QA := by
          have h' : Row .u64 63 wr ga ([] ++ QA ++ (LA.drop k ++ SA)) := by simpa using H.ra
          exact h'.rd (by rw [H.la]; omega) hma
        have rdB : Rd wr .u64 (some ⟨gb, 0, none⟩) cb QB := by
          have h' : Row .u64 63 wr gb ([] ++ QB ++ (LB.drop k ++ SB)) := by simpa using H.rb
          exact h'.rd (by rw [H.lb]; exact hcb) hmb
        have t1 := trim64_any _ ca QA wr rdA
        have t2 := trim64_any _ cb QB wr rdB
        rw [H.la] at t1; rw [H.lb] at t2
        have HT1 := hid t1; have HT2 := hid t2; have HD := hid hd
        clear t1 t2 hd rdA rdB H HI0
        go_wp2_with fail
        refine HT1.out.mono ?_
        rintro e w2 ⟨rfl, rfl⟩
        go_wp2_with fail
        refine HT2.out.mono ?_
        rintro e w2 ⟨rfl, rfl⟩
        go_wp2
        go_ret2
        exact ⟨_, _, _, _, _, _, HD.out⟩
  · have E0 := hid e0; have E1 := hid e1
    clear e0 e1
    go_enter Tryz.func118, Tryz.ntmps118
    go_upto_region 11 with (fail)
    obtain ⟨W0, hW0⟩ : ∃ W0, W0 = (((w.alloc (.cells #[.int .i64 cnt, .int .u64 a0, .int .u64 b0, .int .u64 a1, .int .u64 b1] 161)).alloc (.cells #[.int .u64 0, .int .u64 0, .int .u64 0] 192)).alloc (.cells #[.int .u64 0, .int .u64 0, .int .u64 0] 192)) := ⟨_, rfl⟩
    have HI0 := hid (ApI.start (sv := stepL cnt a0 b0 a1 b1) (-a0) (b0) (a1) (-b1) HA.out.row HB.out.row HA.out.base hW0)
    rw [← hW0, show w.heap.size + 1 + 1 = w.heap.size + 2 from rfl]
    clear hW0 hc2
    go_wp2
    go_loopw [58] (fun iv wr => ∃ k : Nat, ∃ QA QB P M Bo P2 M2 Bo2, k ≤ m ∧ iv = .int .i64 k ∧ ApI w wr B ga gb LA SA LB SB (stepL cnt a0 b0 a1 b1) (-a0) (b0) (a1) (-b1) k QA QB P M Bo P2 M2 Bo2) (fun iv _ => m - (intOf iv).toNat)
    case atStart => exact ⟨0, [], [], 0, 0, 0, 0, 0, 0, Nat.zero_le _, rfl, HI0.out⟩
    case round =>
      obtain ⟨k, QA, QB, P, M, Bo, P2, M2, Bo2, hk, rfl, H⟩ := hrel
      by_cases hlt : k < m
      · have hkA : k < LA.length := by have := Hn.out; omega
        have hkB : k < LB.length := by have := Hm.out; omega
        have xa := row_at H.ra H.la hkA
        have xb := row_at H.rb H.lb hkB
        have dx := HA.out.dig.at B64_pos k
        have dy := HB.out.dig.at B64_pos k
        obtain ⟨x, hx⟩ : ∃ x, x = LA[k]?.getD 0 := ⟨_, rfl⟩
        obtain ⟨y, hy⟩ : ∃ y, y = LB[k]?.getD 0 := ⟨_, rfl⟩
        rw [← hx] at xa dx; rw [← hy] at xb dy
        have Hdx := hid dx; have Hdy := hid dy
        have s1 := H.so.cell 1 _ rfl; have s2 := H.so.cell 2 _ rfl; have s3 := H.so.cell 3 _ rfl; have s4 := H.so.cell 4 _ rfl
        obtain ⟨c0, c1, c2, f0, f1, f2⟩ := H.c1.cells
        have HL1 := hid (limb_any (w.heap.size + 1) y b0 x a0 P M Bo wr Hdy.out Hb0.out Hdx.out Ha0.out H.c1.p H.c1.m H.c1.b c0 c1 c2 f0 f1 f2)
        have HH := hid H; have Hx := hid hx; have Hy := hid hy; have HkA := hid hkA; have HkB := hid hkB
        clear c0 c1 c2 f0 f1 f2 H hx hy dx dy hkA hkB HI0
        go_wp2_with fail
        refine HL1.out.mono ?_
        rintro e w1 ⟨r, P', M', Bo', rfl, hn1, hw1⟩
        have hw1' : w1 = set3 wr (w.heap.size + 1) P' M' Bo' := hw1
        have ra1 : Row .u64 63 w1 ga (QA ++ (LA.drop k ++ SA)) := by rw [hw1']; exact set3_row HH.out.ra (by omega) P' M' Bo'
        have ya := row_at ra1 HH.out.la HkA.out
        have yf := ra1.frozen k
        have os2 : Obs 161 (w1.setCell ⟨ga, k, none⟩ (.int .u64 r)) w.heap.size (stepL cnt a0 b0 a1 b1) := by rw [hw1']; exact (set3_obs HH.out.so (by omega) P' M' Bo').other (by omega) _ _
        have oc2 : Cry (w1.setCell ⟨ga, k, none⟩ (.int .u64 r)) (w.heap.size + 2) P2 M2 Bo2 := by rw [hw1']; exact (HH.out.c2.other3 (by omega) P' M' Bo').other (by omega) _ _
        have rb2 : Row .u64 63 (w1.setCell ⟨ga, k, none⟩ (.int .u64 r)) gb (QB ++ (LB.drop k ++ SB)) := by rw [hw1']; exact (set3_row HH.out.rb (by omega) P' M' Bo').other nab _ _
        have qa1 : (w1.setCell ⟨ga, k, none⟩ (.int .u64 r)).cell? ⟨w.heap.size, 3, none⟩ = some (.int .u64 a1) := os2.cell 3 _ rfl
        have qb1 : (w1.setCell ⟨ga, k, none⟩ (.int .u64 r)).cell? ⟨w.heap.size, 4, none⟩ = some (.int .u64 b1) := os2.cell 4 _ rfl
        obtain ⟨c0, c1, c2, f0, f1, f2⟩ := oc2.cells
        have HL2 := hid (limb_any (w.heap.size + 2) x a1 y b1 P2 M2 Bo2 (w1.setCell ⟨ga, k, none⟩ (.int .u64 r)) Hdx.out Ha1.out Hdy.out Hb1.out oc2.p oc2.m oc2.b c0 c1 c2 f0 f1 f2)
        have Hrb2 := hid rb2; have Hn1 := hid hn1; have Hw1 := hid hw1'
        clear c0 c1 c2 f0 f1 f2 rb2 oc2 os2 ra1 hn1 hw1 hw1' xa xb s1 s2 s3 s4
        go_wp2_with fail
        refine HL2.out.mono ?_
        rintro e w3 ⟨r2, P2', M2', Bo2', rfl, hn2, hw3⟩
        have hw3' : w3 = set3 (w1.setCell ⟨ga, k, none⟩ (.int .u64 r)) (w.heap.size + 2) P2' M2' Bo2' := hw3
        have rb3 : Row .u64 63 w3 gb (QB ++ (LB.drop k ++ SB)) := by rw [hw3']; exact set3_row Hrb2.out (by omega) P2' M2' Bo2'
        have yb := row_at rb3 HH.out.lb HkB.out
        have yg := rb3.frozen k
        have hst := HH.out.step HkA.out HkB.out nab na nb HA.out.base HB.out.base Hx.out Hy.out Hn1.out hn2 (by simp only [Int.neg_mul]; first | (rw [Int.mul_comm x, Int.mul_comm y]; omega) | grind) (by simp only [Int.neg_mul]; first | (rw [Int.mul_comm x, Int.mul_comm y]; omega) | grind)
        rw [← Hw1.out, ← hw3'] at hst
        have Hst := hid hst
        clear hst rb3 hw3 hw3' hn2 qa1 qb1
        go_wp2
        go_roundw
        case rel => exact ⟨k + 1, _, _, _, _, _, _, _, _, by omega, by go_num, Hst.out⟩
        case measure => simp [intOf]; omega
      · obtain rfl : k = m := by omega
        have hd := H.done Hm.out (by have := Hn.out; omega) HA.out.dig HB.out.dig HA.out.eq HB.out.eq (by omega) hcb hma hmb HA.out.base HB.out.base (by rw [E0.out]; simp only [Int.neg_mul]; omega) (by rw [E1.out]; simp only [Int.neg_mul]; omega) Hp.out.1 Hp.out.2.1 Hp.out.2.2 Hg.out
        have rdA : Rd wr .u64 (some ⟨ga, 0, none⟩) ca QA := by
          have h' : Row .u64 63 wr ga ([] ++ QA ++ (LA.drop k ++ SA)) := by simpa using H.ra
          exact h'.rd (by rw [H.la]; omega) hma
        have rdB : Rd wr .u64 (some ⟨gb, 0, none⟩) cb QB := by
          have h' : Row .u64 63 wr gb ([] ++ QB ++ (LB.drop k ++ SB)) := by simpa using H.rb
          exact h'.rd (by rw [H.lb]; exact hcb) hmb
        have t1 := trim64_any _ ca QA wr rdA
        have t2 := trim64_any _ cb QB wr rdB
        rw [H.la] at t1; rw [H.lb] at t2
        have HT1 := hid t1; have HT2 := hid t2; have HD := hid hd
        clear t1 t2 hd rdA rdB H HI0
        go_wp2_with fail
        refine HT1.out.mono ?_
        rintro e w2 ⟨rfl, rfl⟩
        go_wp2_with fail
        refine HT2.out.mono ?_
        rintro e w2 ⟨rfl, rfl⟩
        go_wp2
        go_ret2
        exact ⟨_, _, _, _, _, _, HD.out⟩

end Go.Proofs.YtbapeilpkhbbeaaGreatDoor
