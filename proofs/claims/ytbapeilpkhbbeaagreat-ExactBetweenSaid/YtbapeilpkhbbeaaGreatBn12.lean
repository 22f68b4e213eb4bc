/- (exact.steps).apply: Euclid's steps, done at once in the memory of both numbers. exact.isOne, bitLength, gcdLimb. exact.bitLength, root. exact.root: its walk. -/
import Derived.Test.YtbapeilpkhbbeaaGreatBn11
import Derived.Test.YtbapeilpkhbbeaaGreatBn10
import Derived.Test.YtbapeilpkhbbeaaGreatBn03
import Derived.Test.YtbapeilpkhbbeaaGreatBn08
/- (exact.steps).apply: Euclid's steps, done at once in the memory of both numbers. -/
namespace Go.Proofs.YtbapeilpkhbbeaaGreat
open Go.RowKit

theorem low_lin {u v a b R P c l : Int} (hR : R = u * a + v * b) (hR0 : 0 ≤ R) (hR1 : R < P) (hl0 : 0 ≤ l) (hl1 : l < P) (he : l + P * c = u * (a % P) + v * b) : l = R :=
  low_eq (u := u) (a := a) (v := -v) (b := b) (c := c) (by rw [hR, Int.neg_mul, Int.sub_neg]) hR0 hR1 hl0 hl1 (by rw [he, Int.neg_mul, Int.sub_neg])

/-- What is carried from limb to limb, in the box at d. -/
structure Cry (w : World) (d : Nat) (P M Bo : Int) : Prop where
  ob : Obs 158 w d [.int .u64 P, .int .u64 M, .int .u64 Bo]
  p : 0 ≤ P ∧ P < B64
  m : 0 ≤ M ∧ M < B64
  b : 0 ≤ Bo ∧ Bo ≤ 1

/-- Behind k limbs: what has come of both numbers. -/
structure ApI (w wr : World) (B ga gb : Nat) (LA SA LB SB : List Int) (sv : List Value) (u v u2 v2 : Int) (k : Nat) (QA QB : List Int) (P M Bo P2 M2 Bo2 : Int) : Prop where
  ra : Row .u64 106 wr ga (QA ++ (LA.drop k ++ SA))
  rb : Row .u64 106 wr gb (QB ++ (LB.drop k ++ SB))
  la : QA.length = k
  lb : QB.length = k
  da : Dig B64 QA
  db : Dig B64 QB
  so : Obs 143 wr w.heap.size sv
  c1 : Cry wr (w.heap.size + 1) P M Bo
  c2 : Cry wr (w.heap.size + 2) P2 M2 Bo2
  ea : val B64 QA + B64 ^ k * (P - M - Bo) = u * val B64 (LA.take k) + v * val B64 (LB.take k)
  eb : val B64 QB + B64 ^ k * (P2 - M2 - Bo2) = u2 * val B64 (LA.take k) + v2 * val B64 (LB.take k)
  low : Below B w wr

theorem Row.other {k : IntKind} {e : TypeId} {w : World} {g : Nat} {L : List Int} (h : Row k e w g L) {g' : Nat} (hne : g' ≠ g) (i : Nat) (v : Value) : Row k e (w.setCell ⟨g', i, none⟩ v) g L :=
  h.kept (grown_set w g' i v) (by simp; exact fun e => hne e.symm)

/-- Three fields, written. -/
def set3 (w : World) (d : Nat) (P M Bo : Int) : World := ((w.setCell ⟨d, 0, none⟩ (.int .u64 P)).setCell ⟨d, 1, none⟩ (.int .u64 M)).setCell ⟨d, 2, none⟩ (.int .u64 Bo)
theorem set3_row {k : IntKind} {e : TypeId} {w : World} {g d : Nat} {L : List Int} (h : Row k e w g L) (hne : d ≠ g) (P M Bo : Int) : Row k e (set3 w d P M Bo) g L := ((h.other hne 0 _).other hne 1 _).other hne 2 _
theorem set3_obs {T : TypeId} {w : World} {g d : Nat} {vs : List Value} (h : Obs T w g vs) (hne : d ≠ g) (P M Bo : Int) : Obs T (set3 w d P M Bo) g vs := ((h.other hne 0 _).other hne 1 _).other hne 2 _
theorem set3_below {w w' : World} {B d : Nat} (h : Below B w w') (hd : B ≤ d) (P M Bo : Int) : Below B w (set3 w' d P M Bo) := ((h.setCell hd _).setCell hd _).setCell hd _
theorem Cry.set3 {w : World} {d : Nat} {P M Bo x y u v r P' M' Bo' : Int} (h : Cry w d P M Bo) (n : LimbN x u y v P M Bo r P' M' Bo') : Cry (set3 w d P' M' Bo') d P' M' Bo' :=
  ⟨((h.ob.set 0 _).set 1 _).set 2 _, n.hp, n.hm, n.hb⟩
theorem Cry.other {w : World} {d g : Nat} {P M Bo : Int} (h : Cry w d P M Bo) (hne : g ≠ d) (i : Nat) (v : Value) : Cry (w.setCell ⟨g, i, none⟩ v) d P M Bo := ⟨h.ob.other hne i v, h.p, h.m, h.b⟩
theorem Cry.other3 {w : World} {d g : Nat} {P M Bo : Int} (h : Cry w d P M Bo) (hne : g ≠ d) (P' M' Bo' : Int) : Cry (Proofs.YtbapeilpkhbbeaaGreat.set3 w g P' M' Bo') d P M Bo := ⟨set3_obs h.ob hne _ _ _, h.p, h.m, h.b⟩
theorem Cry.cells {w : World} {d : Nat} {P M Bo : Int} (h : Cry w d P M Bo) : w.cell? ⟨d, 0, none⟩ = some (.int .u64 P) ∧ w.cell? ⟨d, 1, none⟩ = some (.int .u64 M) ∧ w.cell? ⟨d, 2, none⟩ = some (.int .u64 Bo) ∧ w.frozen? ⟨d, 0, none⟩ = false ∧ w.frozen? ⟨d, 1, none⟩ = false ∧ w.frozen? ⟨d, 2, none⟩ = false :=
  ⟨h.ob.cell 0 _ rfl, h.ob.cell 1 _ rfl, h.ob.cell 2 _ rfl, h.ob.frozen 0, h.ob.frozen 1, h.ob.frozen 2⟩

theorem row_step {w : World} {g k : Nat} {Q L S : List Int} {r : Int} (h : Row .u64 106 w g (Q ++ (L.drop k ++ S))) (hl : Q.length = k) (hk : k < L.length) :
    Row .u64 106 (w.setCell ⟨g, k, none⟩ (.int .u64 r)) g (Q ++ [r] ++ (L.drop (k + 1) ++ S)) := by
  have h1 := h.set k r
  rw [drop_cons L k hk, List.set_append_right _ _ (by omega), hl, Nat.sub_self] at h1
  simpa using h1
theorem row_at {w : World} {g k : Nat} {Q L S : List Int} (h : Row .u64 106 w g (Q ++ (L.drop k ++ S))) (hl : Q.length = k) (hk : k < L.length) : w.cell? ⟨g, k, none⟩ = some (.int .u64 (L[k]?.getD 0)) := by
  rw [h.cell k (by simp; omega), List.getElem?_append_right (by omega), hl, Nat.sub_self, List.getElem?_append_left (by simp; omega)]
  simp

theorem ap_eq {Q L M : List Int} {k : Nat} {u v c c' r x y : Int} (e : val B64 Q + B64 ^ k * c = u * val B64 (L.take k) + v * val B64 (M.take k)) (hl : Q.length = k) (hL : k < L.length) (hM : k < M.length) (hx : x = L[k]?.getD 0) (hy : y = M[k]?.getD 0) (h : r + B64 * c' = u * x + v * y + c) :
    val B64 (Q ++ [r]) + B64 ^ (k + 1) * c' = u * val B64 (L.take (k + 1)) + v * val B64 (M.take (k + 1)) := by
  rw [val_snoc, hl, val_take_succ B64 L k hL, val_take_succ B64 M k hM, ← hx, ← hy, Int.pow_succ]
  generalize B64 ^ k = p at *
  have e2 : p * r + p * B64 * c' = p * (u * x + v * y + c) := by rw [← h]; grind
  grind

theorem ApI.step {w wr : World} {B ga gb : Nat} {LA SA LB SB : List Int} {sv : List Value} {u v u2 v2 : Int} {k : Nat} {QA QB : List Int} {P M Bo P2 M2 Bo2 : Int} (H : ApI w wr B ga gb LA SA LB SB sv u v u2 v2 k QA QB P M Bo P2 M2 Bo2)
    (hA : k < LA.length) (hB : k < LB.length) (nab : ga ≠ gb) (na : ga < w.heap.size) (nb : gb < w.heap.size) (ba : B ≤ ga) (bb : B ≤ gb) {x y s t s' t' r P' M' Bo' s2 t2 s2' t2' r2 P2' M2' Bo2' : Int} (hx : x = LA[k]?.getD 0) (hy : y = LB[k]?.getD 0)
    (n1 : LimbN s t s' t' P M Bo r P' M' Bo') (n2 : LimbN s2 t2 s2' t2' P2 M2 Bo2 r2 P2' M2' Bo2') (e1 : s * t - s' * t' = u * x + v * y) (e2 : s2 * t2 - s2' * t2' = u2 * x + v2 * y) :
    ApI w ((set3 ((set3 wr (w.heap.size + 1) P' M' Bo').setCell ⟨ga, k, none⟩ (.int .u64 r)) (w.heap.size + 2) P2' M2' Bo2').setCell ⟨gb, k, none⟩ (.int .u64 r2)) B ga gb LA SA LB SB sv u v u2 v2 (k + 1) (QA ++ [r]) (QB ++ [r2]) P' M' Bo' P2' M2' Bo2' := by
  have hBw : B ≤ w.heap.size := by omega
  refine ⟨?_, ?_, by simp [H.la], by simp [H.lb], H.da.append (Dig.cons n1.hr.1 n1.hr.2 (Dig.nil _)), H.db.append (Dig.cons n2.hr.1 n2.hr.2 (Dig.nil _)), ?_, ?_, ?_, ?_, ?_, ?_⟩
  · exact (set3_row (row_step (set3_row H.ra (by omega) _ _ _) H.la hA) (by omega) _ _ _).other (fun e => nab e.symm) _ _
  · exact row_step (set3_row ((set3_row H.rb (by omega) _ _ _).other nab _ _) (by omega) _ _ _) H.lb hB
  · exact (set3_obs ((set3_obs H.so (by omega) _ _ _).other (by omega) _ _) (by omega) _ _ _).other (by omega) _ _
  · exact (((H.c1.set3 n1).other (by omega) _ _).other3 (by omega) _ _ _).other (by omega) _ _
  · exact (((H.c2.other3 (by omega) _ _ _).other (by omega) _ _).set3 n2).other (by omega) _ _
  · exact ap_eq H.ea H.la hA hB hx hy (by rw [n1.eq, e1])
  · exact ap_eq H.eb H.lb hA hB hx hy (by rw [n2.eq, e2])
  · exact (set3_below ((set3_below H.low (by omega) _ _ _).setCell (by simpa using ba) _) (by omega) _ _ _).setCell (by simpa using bb) _

/-- What both numbers have become. -/
structure RetAp (w : World) (B ga gb ca cb m : Nat) (a b : Int) (e : Ending) (w' : World) (LX SX LY SY : List Int) (R0 R1 : Int) : Prop where
  e : e = .returned (.tuple #[.slice (some ⟨ga, 0, none⟩) LX.length ca, .slice (some ⟨gb, 0, none⟩) LY.length cb])
  x : OwnL w' B ga ca LX SX R0
  y : OwnL w' B gb cb LY SY R1
  lx : LX.length ≤ m
  ly : LY.length ≤ m
  p1 : 0 ≤ R1
  p0 : R1 < R0
  pb : R0 ≤ b
  g : Int.gcd R0 R1 = Int.gcd a b
  low : Below B w w'

theorem ApI.done {w wr : World} {B ga gb ca cb m : Nat} {LA SA LB SB : List Int} {sv : List Value} {u v u2 v2 a b R0 R1 : Int} {QA QB : List Int} {P M Bo P2 M2 Bo2 : Int} (H : ApI w wr B ga gb LA SA LB SB sv u v u2 v2 m QA QB P M Bo P2 M2 Bo2)
    (hm : LB.length = m) (hA : m ≤ LA.length) (dA : Dig B64 LA) (dB : Dig B64 LB) (vA : val B64 LA = a) (vB : val B64 LB = b) (hca : m ≤ ca) (hcb : m ≤ cb) (ma : ca ≤ 9223372036854775807) (mb : cb ≤ 9223372036854775807) (ba : B ≤ ga) (bb : B ≤ gb)
    (h0 : R0 = u * a + v * b) (h1 : R1 = u2 * a + v2 * b) (p1 : 0 ≤ R1) (p0 : R1 < R0) (pb : R0 ≤ b) (g : Int.gcd R0 R1 = Int.gcd a b) :
    RetAp w B ga gb ca cb m a b (.returned (.tuple #[.slice (some ⟨ga, 0, none⟩) (trimL QA).length ca, .slice (some ⟨gb, 0, none⟩) (trimL QB).length cb])) wr (trimL QA) (QA.drop (trimL QA).length ++ (LA.drop m ++ SA)) (trimL QB) (QB.drop (trimL QB).length ++ (LB.drop m ++ SB)) R0 R1 := by
  have hb : b < B64 ^ m := by rw [← vB, ← hm]; exact val_lt B64_pos dB
  have eA := val_take_drop B64 LA m hA
  have lA := val_lt B64_pos (dA.take m)
  rw [List.length_take, Nat.min_eq_left hA] at lA
  have nA := val_nonneg B64_pos (dA.take m)
  have hmod : val B64 (LA.take m) = a % B64 ^ m := by
    rw [← vA, eA, Int.add_mul_emod_self_left]; exact (Int.emod_eq_of_lt nA lA).symm
  have hBm : val B64 (LB.take m) = b := by rw [List.take_of_length_le (by omega), vB]
  have ea := H.ea; have eb := H.eb
  rw [hmod, hBm] at ea eb
  have q1 := val_lt B64_pos H.da; rw [H.la] at q1
  have q2 := val_lt B64_pos H.db; rw [H.lb] at q2
  have z0 := low_lin h0 (by omega) (by omega) (val_nonneg B64_pos H.da) q1 ea
  have z1 := low_lin h1 p1 (by omega) (val_nonneg B64_pos H.db) q2 eb
  exact ⟨rfl, own_trim H.ra H.da z0 (by rw [H.la]; exact hca) ma ba, own_trim H.rb H.db z1 (by rw [H.lb]; exact hcb) mb bb, by have := trimL_len QA; have := H.la; omega, by have := trimL_len QB; have := H.lb; omega, p1, p0, pb, g, H.low⟩

theorem ApI.start {w : World} {B ga gb : Nat} {LA SA LB SB : List Int} {sv : List Value} (u v u2 v2 : Int) {W0 : World} (ra : Row .u64 106 w ga (LA ++ SA)) (rb : Row .u64 106 w gb (LB ++ SB)) (ba : B ≤ ga)
    (hW : W0 = (((w.alloc (.cells sv.toArray 143 (0, 0))).alloc (.cells #[.int .u64 0, .int .u64 0, .int .u64 0] 158)).alloc (.cells #[.int .u64 0, .int .u64 0, .int .u64 0] 158))) :
    ApI w W0 B ga gb LA SA LB SB sv u v u2 v2 0 [] [] 0 0 0 0 0 0 := by
  have hs : B ≤ w.heap.size := by have := ra.lt; omega
  have z : (0 : Int) ≤ 0 ∧ (0 : Int) < B64 := ⟨by decide, by decide⟩
  subst hW
  refine ⟨by simpa using ((ra.alloc _).alloc _).alloc _, by simpa using ((rb.alloc _).alloc _).alloc _, rfl, rfl, Dig.nil _, Dig.nil _, ((Obs.new _ w sv).alloc _).alloc _, ⟨?_, z, z, by decide, by decide⟩, ⟨?_, z, z, by decide, by decide⟩, by simp [val], by simp [val], (((Below.refl _ w).alloc hs _).alloc (by simp; omega) _).alloc (by simp; omega) _⟩
  · have := (Obs.new 158 (w.alloc (.cells sv.toArray 143 (0, 0))) [.int .u64 0, .int .u64 0, .int .u64 0]).alloc (.cells #[.int .u64 0, .int .u64 0, .int .u64 0] 158)
    simpa using this
  · have := Obs.new 158 ((w.alloc (.cells sv.toArray 143 (0, 0))).alloc (.cells #[.int .u64 0, .int .u64 0, .int .u64 0] 158)) [.int .u64 0, .int .u64 0, .int .u64 0]
    simpa using this


set_option maxRecDepth 100000 in
set_option maxHeartbeats 8000000 in
theorem apply_any (B ga gb ca cb : Nat) (LA SA LB SB : List Int) (a b cnt a0 b0 a1 b1 : Int) (w : World) (hA : OwnL w B ga ca LA SA a) (hB : OwnL w B gb cb LB SB b) (nab : ga ≠ gb) (hl : LB.length ≤ LA.length) (hc : 0 < cnt) (hS : StepsN a b cnt a0 b0 a1 b1) :
    Calls Tryz.prog 130 #[.agg #[.int .i64 cnt, .int .u64 a0, .int .u64 b0, .int .u64 a1, .int .u64 b1], .slice (some ⟨ga, 0, none⟩) LA.length ca, .slice (some ⟨gb, 0, none⟩) LB.length cb] w fun e w' => ∃ LX SX LY SY R0 R1, RetAp w B ga gb ca cb LB.length a b e w' LX SX LY SY R0 R1 := by
  obtain ⟨m, hm⟩ : ∃ m, LB.length = m := ⟨_, rfl⟩
  obtain ⟨n, hn⟩ : ∃ n, LA.length = n := ⟨_, rfl⟩
  have na := hA.row.lt
  have nb := hB.row.lt
  have hca := hA.cap; have hma := hA.most; have hcb := hB.cap; have hmb := hB.most
  rw [hn] at hca hl; rw [hm] at hcb hl
  rw [hm, hn]
  obtain ⟨R0, R1, hpar, p1, p0, pb, hg⟩ := hS.did hc
  have HA := hid hA; have HB := hid hB; have Hm := hid hm; have Hn := hid hn; have HS := hid hS; have Hg := hid hg; have Hp := hid (show 0 ≤ R1 ∧ R1 < R0 ∧ R0 ≤ b from ⟨p1, p0, pb⟩)
  have ha0 := hS.a0s; have hb0 := hS.b0s; have ha1 := hS.a1s; have hb1 := hS.b1s
  have Ha0 := hid ha0; have Hb0 := hid hb0; have Ha1 := hid ha1; have Hb1 := hid hb1
  have hcb2 := hS.c.2
  clear hA hB hm hn hS hg p1 p0 pb ha0 hb0 ha1 hb1
  rcases hpar with ⟨hc2, e0, e1⟩ | ⟨hc2, e0, e1⟩
  · have E0 := hid e0; have E1 := hid e1
    clear e0 e1
    go_enter Tryz.func130, Tryz.ntmps130
    go_upto_region 4 with (fail)
    obtain ⟨W0, hW0⟩ : ∃ W0, W0 = (((w.alloc (.cells #[.int .i64 cnt, .int .u64 a0, .int .u64 b0, .int .u64 a1, .int .u64 b1] 143)).alloc (.cells #[.int .u64 0, .int .u64 0, .int .u64 0] 158)).alloc (.cells #[.int .u64 0, .int .u64 0, .int .u64 0] 158)) := ⟨_, rfl⟩
    have HI0 := hid (ApI.start (sv := stepL cnt a0 b0 a1 b1) (a0) (-b0) (-a1) (b1) HA.out.row HB.out.row HA.out.base hW0)
    rw [← hW0, show w.heap.size + 1 + 1 = w.heap.size + 2 from rfl]
    clear hW0 hc2
    go_wp2
    go_loopw [26] (fun iv wr => ∃ k : Nat, ∃ QA QB P M Bo P2 M2 Bo2, k ≤ m ∧ iv = .int .i64 k ∧ ApI w wr B ga gb LA SA LB SB (stepL cnt a0 b0 a1 b1) (a0) (-b0) (-a1) (b1) k QA QB P M Bo P2 M2 Bo2) (fun iv _ => m - (intOf iv).toNat)
    case atStart => exact ⟨0, [], [], 0, 0, 0, 0, 0, 0, Nat.zero_le _, rfl, HI0.out⟩
    case round =>
      obtain ⟨k, QA, QB, P, M, Bo, P2, M2, Bo2, hk, rfl, H⟩ := hrel
      by_cases hlt : k < m
      · have hkA : k < LA.length := by have := Hn.out; omega
        have hkB : k < LB.length := by have := Hm.out; omega
        have xa := row_at H.ra H.la hkA
        have xb := row_at H.rb H.lb hkB
        have dx := HA.out.dig.at B64_pos k
        have dy := HB.out.dig.at B64_pos k
        obtain ⟨x, hx⟩ : ∃ x, x = LA[k]?.getD 0 := ⟨_, rfl⟩
        obtain ⟨y, hy⟩ : ∃ y, y = LB[k]?.getD 0 := ⟨_, rfl⟩
        rw [← hx] at xa dx; rw [← hy] at xb dy
        have Hdx := hid dx; have Hdy := hid dy
        have s1 := H.so.cell 1 _ rfl; have s2 := H.so.cell 2 _ rfl; have s3 := H.so.cell 3 _ rfl; have s4 := H.so.cell 4 _ rfl
        obtain ⟨c0, c1, c2, f0, f1, f2⟩ := H.c1.cells
        have HL1 := hid (limb_any (w.heap.size + 1) x a0 y b0 P M Bo wr Hdx.out Ha0.out Hdy.out Hb0.out H.c1.p H.c1.m H.c1.b c0 c1 c2 f0 f1 f2)
        have HH := hid H; have Hx := hid hx; have Hy := hid hy; have HkA := hid hkA; have HkB := hid hkB
        clear c0 c1 c2 f0 f1 f2 H hx hy dx dy hkA hkB HI0
        go_wp2_with fail
        refine HL1.out.mono ?_
        rintro e w1 ⟨r, P', M', Bo', rfl, hn1, hw1⟩
        have hw1' : w1 = set3 wr (w.heap.size + 1) P' M' Bo' := hw1
        have ra1 : Row .u64 106 w1 ga (QA ++ (LA.drop k ++ SA)) := by rw [hw1']; exact set3_row HH.out.ra (by omega) P' M' Bo'
        have ya := row_at ra1 HH.out.la HkA.out
        have yf := ra1.frozen k
        have os2 : Obs 143 (w1.setCell ⟨ga, k, none⟩ (.int .u64 r)) w.heap.size (stepL cnt a0 b0 a1 b1) := by rw [hw1']; exact (set3_obs HH.out.so (by omega) P' M' Bo').other (by omega) _ _
        have oc2 : Cry (w1.setCell ⟨ga, k, none⟩ (.int .u64 r)) (w.heap.size + 2) P2 M2 Bo2 := by rw [hw1']; exact (HH.out.c2.other3 (by omega) P' M' Bo').other (by omega) _ _
        have rb2 : Row .u64 106 (w1.setCell ⟨ga, k, none⟩ (.int .u64 r)) gb (QB ++ (LB.drop k ++ SB)) := by rw [hw1']; exact (set3_row HH.out.rb (by omega) P' M' Bo').other nab _ _
        have qb1 : (w1.setCell ⟨ga, k, none⟩ (.int .u64 r)).cell? ⟨w.heap.size, 4, none⟩ = some (.int .u64 b1) := os2.cell 4 _ rfl
        have qa1 : (w1.setCell ⟨ga, k, none⟩ (.int .u64 r)).cell? ⟨w.heap.size, 3, none⟩ = some (.int .u64 a1) := os2.cell 3 _ rfl
        obtain ⟨c0, c1, c2, f0, f1, f2⟩ := oc2.cells
        have HL2 := hid (limb_any (w.heap.size + 2) y b1 x a1 P2 M2 Bo2 (w1.setCell ⟨ga, k, none⟩ (.int .u64 r)) Hdy.out Hb1.out Hdx.out Ha1.out oc2.p oc2.m oc2.b c0 c1 c2 f0 f1 f2)
        have Hrb2 := hid rb2; have Hn1 := hid hn1; have Hw1 := hid hw1'
        clear c0 c1 c2 f0 f1 f2 rb2 oc2 os2 ra1 hn1 hw1 hw1' xa xb s1 s2 s3 s4
        go_wp2_with fail
        refine HL2.out.mono ?_
        rintro e w3 ⟨r2, P2', M2', Bo2', rfl, hn2, hw3⟩
        have hw3' : w3 = set3 (w1.setCell ⟨ga, k, none⟩ (.int .u64 r)) (w.heap.size + 2) P2' M2' Bo2' := hw3
        have rb3 : Row .u64 106 w3 gb (QB ++ (LB.drop k ++ SB)) := by rw [hw3']; exact set3_row Hrb2.out (by omega) P2' M2' Bo2'
        have yb := row_at rb3 HH.out.lb HkB.out
        have yg := rb3.frozen k
        have hst := HH.out.step HkA.out HkB.out nab na nb HA.out.base HB.out.base Hx.out Hy.out Hn1.out hn2 (by simp only [Int.neg_mul]; first | (rw [Int.mul_comm x, Int.mul_comm y]; omega) | grind) (by simp only [Int.neg_mul]; first | (rw [Int.mul_comm x, Int.mul_comm y]; omega) | grind)
        rw [← Hw1.out, ← hw3'] at hst
        have Hst := hid hst
        clear hst rb3 hw3 hw3' hn2 qb1 qa1
        go_wp2
        go_roundw
        case rel => exact ⟨k + 1, _, _, _, _, _, _, _, _, by omega, by go_num, Hst.out⟩
        case measure => simp [intOf]; omega
      · obtain rfl : k = m := by omega
        have hd := H.done Hm.out (by have := Hn.out; omega) HA.out.dig HB.out.dig HA.out.eq HB.out.eq (by omega) hcb hma hmb HA.out.base HB.out.base (by rw [E0.out]; simp only [Int.neg_mul]; omega) (by rw [E1.out]; simp only [Int.neg_mul]; omega) Hp.out.1 Hp.out.2.1 Hp.out.2.2 Hg.out
        have rdA : Rd wr .u64 (some ⟨ga, 0, none⟩) ca QA := by
          have h' : Row .u64 106 wr ga ([] ++ QA ++ (LA.drop k ++ SA)) := by simpa using H.ra
          exact h'.rd (by rw [H.la]; omega) hma
        have rdB : Rd wr .u64 (some ⟨gb, 0, none⟩) cb QB := by
          have h' : Row .u64 106 wr gb ([] ++ QB ++ (LB.drop k ++ SB)) := by simpa using H.rb
          exact h'.rd (by rw [H.lb]; exact hcb) hmb
        have t1 := trim64_any _ ca QA wr rdA
        have t2 := trim64_any _ cb QB wr rdB
        rw [H.la] at t1; rw [H.lb] at t2
        have HT1 := hid t1; have HT2 := hid t2; have HD := hid hd
        clear t1 t2 hd rdA rdB H HI0
        go_wp2_with fail
        refine HT1.out.mono ?_
        rintro e w2 ⟨rfl, rfl⟩
        go_wp2_with fail
        refine HT2.out.mono ?_
        rintro e w2 ⟨rfl, rfl⟩
        go_wp2
        go_ret2
        exact ⟨_, _, _, _, _, _, HD.out⟩
  · have E0 := hid e0; have E1 := hid e1
    clear e0 e1
    go_enter Tryz.func130, Tryz.ntmps130
    go_upto_region 11 with (fail)
    obtain ⟨W0, hW0⟩ : ∃ W0, W0 = (((w.alloc (.cells #[.int .i64 cnt, .int .u64 a0, .int .u64 b0, .int .u64 a1, .int .u64 b1] 143)).alloc (.cells #[.int .u64 0, .int .u64 0, .int .u64 0] 158)).alloc (.cells #[.int .u64 0, .int .u64 0, .int .u64 0] 158)) := ⟨_, rfl⟩
    have HI0 := hid (ApI.start (sv := stepL cnt a0 b0 a1 b1) (-a0) (b0) (a1) (-b1) HA.out.row HB.out.row HA.out.base hW0)
    rw [← hW0, show w.heap.size + 1 + 1 = w.heap.size + 2 from rfl]
    clear hW0 hc2
    go_wp2
    go_loopw [58] (fun iv wr => ∃ k : Nat, ∃ QA QB P M Bo P2 M2 Bo2, k ≤ m ∧ iv = .int .i64 k ∧ ApI w wr B ga gb LA SA LB SB (stepL cnt a0 b0 a1 b1) (-a0) (b0) (a1) (-b1) k QA QB P M Bo P2 M2 Bo2) (fun iv _ => m - (intOf iv).toNat)
    case atStart => exact ⟨0, [], [], 0, 0, 0, 0, 0, 0, Nat.zero_le _, rfl, HI0.out⟩
    case round =>
      obtain ⟨k, QA, QB, P, M, Bo, P2, M2, Bo2, hk, rfl, H⟩ := hrel
      by_cases hlt : k < m
      · have hkA : k < LA.length := by have := Hn.out; omega
        have hkB : k < LB.length := by have := Hm.out; omega
        have xa := row_at H.ra H.la hkA
        have xb := row_at H.rb H.lb hkB
        have dx := HA.out.dig.at B64_pos k
        have dy := HB.out.dig.at B64_pos k
        obtain ⟨x, hx⟩ : ∃ x, x = LA[k]?.getD 0 := ⟨_, rfl⟩
        obtain ⟨y, hy⟩ : ∃ y, y = LB[k]?.getD 0 := ⟨_, rfl⟩
        rw [← hx] at xa dx; rw [← hy] at xb dy
        have Hdx := hid dx; have Hdy := hid dy
        have s1 := H.so.cell 1 _ rfl; have s2 := H.so.cell 2 _ rfl; have s3 := H.so.cell 3 _ rfl; have s4 := H.so.cell 4 _ rfl
        obtain ⟨c0, c1, c2, f0, f1, f2⟩ := H.c1.cells
        have HL1 := hid (limb_any (w.heap.size + 1) y b0 x a0 P M Bo wr Hdy.out Hb0.out Hdx.out Ha0.out H.c1.p H.c1.m H.c1.b c0 c1 c2 f0 f1 f2)
        have HH := hid H; have Hx := hid hx; have Hy := hid hy; have HkA := hid hkA; have HkB := hid hkB
        clear c0 c1 c2 f0 f1 f2 H hx hy dx dy hkA hkB HI0
        go_wp2_with fail
        refine HL1.out.mono ?_
        rintro e w1 ⟨r, P', M', Bo', rfl, hn1, hw1⟩
        have hw1' : w1 = set3 wr (w.heap.size + 1) P' M' Bo' := hw1
        have ra1 : Row .u64 106 w1 ga (QA ++ (LA.drop k ++ SA)) := by rw [hw1']; exact set3_row HH.out.ra (by omega) P' M' Bo'
        have ya := row_at ra1 HH.out.la HkA.out
        have yf := ra1.frozen k
        have os2 : Obs 143 (w1.setCell ⟨ga, k, none⟩ (.int .u64 r)) w.heap.size (stepL cnt a0 b0 a1 b1) := by rw [hw1']; exact (set3_obs HH.out.so (by omega) P' M' Bo').other (by omega) _ _
        have oc2 : Cry (w1.setCell ⟨ga, k, none⟩ (.int .u64 r)) (w.heap.size + 2) P2 M2 Bo2 := by rw [hw1']; exact (HH.out.c2.other3 (by omega) P' M' Bo').other (by omega) _ _
        have rb2 : Row .u64 106 (w1.setCell ⟨ga, k, none⟩ (.int .u64 r)) gb (QB ++ (LB.drop k ++ SB)) := by rw [hw1']; exact (set3_row HH.out.rb (by omega) P' M' Bo').other nab _ _
        have qa1 : (w1.setCell ⟨ga, k, none⟩ (.int .u64 r)).cell? ⟨w.heap.size, 3, none⟩ = some (.int .u64 a1) := os2.cell 3 _ rfl
        have qb1 : (w1.setCell ⟨ga, k, none⟩ (.int .u64 r)).cell? ⟨w.heap.size, 4, none⟩ = some (.int .u64 b1) := os2.cell 4 _ rfl
        obtain ⟨c0, c1, c2, f0, f1, f2⟩ := oc2.cells
        have HL2 := hid (limb_any (w.heap.size + 2) x a1 y b1 P2 M2 Bo2 (w1.setCell ⟨ga, k, none⟩ (.int .u64 r)) Hdx.out Ha1.out Hdy.out Hb1.out oc2.p oc2.m oc2.b c0 c1 c2 f0 f1 f2)
        have Hrb2 := hid rb2; have Hn1 := hid hn1; have Hw1 := hid hw1'
        clear c0 c1 c2 f0 f1 f2 rb2 oc2 os2 ra1 hn1 hw1 hw1' xa xb s1 s2 s3 s4
        go_wp2_with fail
        refine HL2.out.mono ?_
        rintro e w3 ⟨r2, P2', M2', Bo2', rfl, hn2, hw3⟩
        have hw3' : w3 = set3 (w1.setCell ⟨ga, k, none⟩ (.int .u64 r)) (w.heap.size + 2) P2' M2' Bo2' := hw3
        have rb3 : Row .u64 106 w3 gb (QB ++ (LB.drop k ++ SB)) := by rw [hw3']; exact set3_row Hrb2.out (by omega) P2' M2' Bo2'
        have yb := row_at rb3 HH.out.lb HkB.out
        have yg := rb3.frozen k
        have hst := HH.out.step HkA.out HkB.out nab na nb HA.out.base HB.out.base Hx.out Hy.out Hn1.out hn2 (by simp only [Int.neg_mul]; first | (rw [Int.mul_comm x, Int.mul_comm y]; omega) | grind) (by simp only [Int.neg_mul]; first | (rw [Int.mul_comm x, Int.mul_comm y]; omega) | grind)
        rw [← Hw1.out, ← hw3'] at hst
        have Hst := hid hst
        clear hst rb3 hw3 hw3' hn2 qa1 qb1
        go_wp2
        go_roundw
        case rel => exact ⟨k + 1, _, _, _, _, _, _, _, _, by omega, by go_num, Hst.out⟩
        case measure => simp [intOf]; omega
      · obtain rfl : k = m := by omega
        have hd := H.done Hm.out (by have := Hn.out; omega) HA.out.dig HB.out.dig HA.out.eq HB.out.eq (by omega) hcb hma hmb HA.out.base HB.out.base (by rw [E0.out]; simp only [Int.neg_mul]; omega) (by rw [E1.out]; simp only [Int.neg_mul]; omega) Hp.out.1 Hp.out.2.1 Hp.out.2.2 Hg.out
        have rdA : Rd wr .u64 (some ⟨ga, 0, none⟩) ca QA := by
          have h' : Row .u64 106 wr ga ([] ++ QA ++ (LA.drop k ++ SA)) := by simpa using H.ra
          exact h'.rd (by rw [H.la]; omega) hma
        have rdB : Rd wr .u64 (some ⟨gb, 0, none⟩) cb QB := by
          have h' : Row .u64 106 wr gb ([] ++ QB ++ (LB.drop k ++ SB)) := by simpa using H.rb
          exact h'.rd (by rw [H.lb]; exact hcb) hmb
        have t1 := trim64_any _ ca QA wr rdA
        have t2 := trim64_any _ cb QB wr rdB
        rw [H.la] at t1; rw [H.lb] at t2
        have HT1 := hid t1; have HT2 := hid t2; have HD := hid hd
        clear t1 t2 hd rdA rdB H HI0
        go_wp2_with fail
        refine HT1.out.mono ?_
        rintro e w2 ⟨rfl, rfl⟩
        go_wp2_with fail
        refine HT2.out.mono ?_
        rintro e w2 ⟨rfl, rfl⟩
        go_wp2
        go_ret2
        exact ⟨_, _, _, _, _, _, HD.out⟩

end Go.Proofs.YtbapeilpkhbbeaaGreat

/- exact.isOne, bitLength, gcdLimb. -/
namespace Go.Proofs.YtbapeilpkhbbeaaGreat
open Go.RowKit

theorem gcd_step {a b : Int} (ha : 0 ≤ a) (hb : 0 < b) : Int.gcd b (a % b) = Int.gcd a b := by
  obtain ⟨x, rfl⟩ := Int.eq_ofNat_of_zero_le ha
  obtain ⟨y, rfl⟩ := Int.eq_ofNat_of_zero_le (Int.le_of_lt hb)
  rw [← Int.natCast_emod]
  simp only [Int.gcd, Int.natAbs_natCast]
  rw [Nat.gcd_comm x y, Nat.gcd_rec y x, Nat.gcd_comm]

set_option maxRecDepth 100000 in
set_option maxHeartbeats 1000000 in
theorem gcdLimb_any (a b : Int) (w : World) (ha : 0 ≤ a ∧ a < B64) (hb : 0 ≤ b ∧ b < B64) :
    Calls Tryz.prog 133 #[.int .u64 a, .int .u64 b] w fun e w' => e = .returned (.int .u64 (Int.gcd a b : Int)) ∧ ∃ nq, w' = w.drewN nq := by
  obtain ⟨G, hG⟩ : ∃ G, G = Int.gcd a b := ⟨_, rfl⟩
  rw [← hG]
  have HG := hid hG; have HA := hid ha; have HB := hid hb
  clear hG ha hb
  go_enter Tryz.func133, Tryz.ntmps133
  go_wp2
  go_loopw [0, 1] (fun av bv wr => ∃ x y : Int, ∃ nq, av = .int .u64 x ∧ bv = .int .u64 y ∧ Hid (wr = w.drewN nq) ∧ Hid (G = Int.gcd x y) ∧ Hid (0 ≤ x ∧ x < B64) ∧ Hid (0 ≤ y ∧ y < B64)) (fun _ bv _ => (intOf bv).toNat)
  case atStart => exact ⟨a, b, 0, rfl, rfl, hid rfl, HG, HA, HB⟩
  case round =>
    obtain ⟨x, y, nq, rfl, rfl, HW, HG', HX, HY⟩ := hrel
    by_cases hy : y = 0
    · subst hy
      have hr := HG'.out
      have hx := HX.out.1
      have hr' : (G : Int) = x := by
        rw [hr]
        obtain ⟨x, rfl⟩ := Int.eq_ofNat_of_zero_le hx
        simp [Int.gcd]
      have HR := hid hr'
      clear hr hr' hx
      go_wp2
      go_ret
      exact ⟨by rw [HR.out]; rfl, nq, HW.out⟩
    · have hy0 : 0 < y := by have := HY.out.1; omega
      have hx0 := HX.out.1
      have hm0 := Int.emod_nonneg x hy
      have hm1 := Int.emod_lt_of_pos x hy0
      have hg := gcd_step hx0 hy0
      have htm : x.tmod y = x % y := Int.tmod_eq_emod_of_nonneg hx0
      obtain ⟨r, hr⟩ : ∃ r, r = x % y := ⟨_, rfl⟩
      rw [← hr] at hm0 hm1 hg htm
      have hr2 := hr.symm
      have HM := hid hm1; have HGs := hid hg; have HY0 := hid hy0
      have hb : ((y : Int) != 0) = true := by rw [bne_iff_ne]; exact hy
      clear hr hg hm1 hy0
      go_wp2
      go_quiet (fail)
      go_wp2
      go_roundw
      case rel => exact ⟨y, r, _, rfl, by go_num, hid (by rw [HW.out, World.drewN_drewN]), hid (by rw [HGs.out]; exact HG'.out), HY, hid ⟨hm0, by have := HM.out; have := HY.out.2; omega⟩⟩
      case measure => simp [intOf]; have := HM.out; omega

set_option maxRecDepth 100000 in
set_option maxHeartbeats 1000000 in
theorem isOne_any (va : Value) (a : Int) (K : Nat) (w : World) (hA : Nt w va a K) :
    Calls Tryz.prog 95 #[va] w fun e w' => e = .returned (.bool (decide (a = 1))) ∧ w' = w := by
  obtain ⟨ao, c, LA, rfl, hA⟩ := hA
  by_cases h1 : LA.length = 1
  · obtain ⟨y, rfl⟩ : ∃ y, LA = [y] := List.length_eq_one_iff.1 h1
    obtain ⟨b, o, rfl⟩ := hA.rd.adr (by simp)
    have hc := hA.rd.cell b o rfl 0 (by simp)
    have hy : y = a := by have := hA.eq; simpa [val] using this
    subst hy
    simp at hc ⊢
    clear hA h1
    by_cases hy1 : y = 1
    · subst hy1
      go_enter Tryz.func95, Tryz.ntmps95
      go_wp2
      go_ret
      exact ⟨by simp, rfl⟩
    · go_enter Tryz.func95, Tryz.ntmps95
      go_wp2
      go_ret
      exact ⟨by simp [hy1], rfl⟩
  · have ha : ¬ a = 1 := by
      intro h
      apply h1
      have e := val_inj B64_pos hA.dig (Dig.cons (by decide) (by decide) (Dig.nil _)) hA.nrm (show Nrm [1] by unfold Nrm; simp [trimL]) (by rw [hA.eq, h]; simp [val])
      rw [e]; rfl
    have HAa := hid ha
    obtain ⟨n, hn⟩ : ∃ n, n = LA.length := ⟨_, rfl⟩
    rw [← hn] at h1 ⊢
    have hn1 : ¬ (n : Int) = 1 := by omega
    clear hA hn ha
    go_enter Tryz.func95, Tryz.ntmps95
    go_wp2
    go_ret
    exact ⟨by rw [decide_eq_false HAa.out]; rfl, rfl⟩

end Go.Proofs.YtbapeilpkhbbeaaGreat

/- exact.bitLength, root. -/
namespace Go.Proofs.YtbapeilpkhbbeaaGreat
open Go.RowKit Go.Shelf

/-- How many bits a number has. -/
def Bits (a : Int) (l : Nat) : Prop := (a = 0 ∧ l = 0) ∨ (1 ≤ l ∧ 2 ^ (l - 1) ≤ a ∧ a < 2 ^ l)

end Go.Proofs.YtbapeilpkhbbeaaGreat

/- exact.root: its walk. -/
namespace Go.Proofs.YtbapeilpkhbbeaaGreat
open Go.RowKit

theorem Rd.unique {w : World} {k : IntKind} {ao : Option Addr} {c c' : Nat} {L L' : List Int} (h : Rd w k ao c L) (h' : Rd w k ao c' L') (hl : L.length = L'.length) : L = L' := by
  by_cases h0 : L.length = 0
  · rw [List.eq_nil_of_length_eq_zero h0, List.eq_nil_of_length_eq_zero (l := L') (by omega)]
  · obtain ⟨b, o, rfl⟩ := h.adr (by omega)
    refine List.ext_getElem hl fun i h1 h2 => ?_
    have a := h.cell b o rfl i h1
    rw [h'.cell b o rfl i h2] at a
    have e := Value.int.inj (Option.some.inj a)
    simpa [h1, h2] using e.2.symm
theorem Nt.unique {w : World} {v : Value} {n n' : Int} {K K' : Nat} (h : Nt w v n K) (h' : Nt w v n' K') : n = n' := by
  obtain ⟨ao, c, L, rfl, h⟩ := h
  obtain ⟨ao', c', L', e, h'⟩ := h'
  obtain ⟨e1, e2, _⟩ := Value.slice.inj e
  subst e1
  rw [← h.eq, ← h'.eq, h.rd.unique h'.rd e2]

open Classical in
/-- The number that a value stands for, 0 if none. -/
noncomputable def natOf (w : World) (v : Value) : Nat := if h : ∃ n : Int, ∃ K, Nt w v n K then (Classical.choose h).toNat else 0
theorem natOf_eq {w : World} {v : Value} {n : Int} {K : Nat} (h : Nt w v n K) : natOf w v = n.toNat := by
  have hx : ∃ n : Int, ∃ K, Nt w v n K := ⟨n, K, h⟩
  unfold natOf
  rw [dif_pos hx]
  obtain ⟨K', h'⟩ := Classical.choose_spec hx
  rw [h'.unique h]

theorem one_row (w : World) : Nt (w.alloc (Obj.cells #[Value.int IntKind.u64 1] 106)) (.slice (some ⟨w.heap.size, 0, none⟩) 1 1) 1 1 := by
  have hrow : Row .u64 106 (w.alloc (Obj.cells #[Value.int IntKind.u64 1] 106)) w.heap.size [1] := by unfold Row World.alloc; simp
  have h := nt_row (c := 1) (K := 1) hrow (Dig.cons (by decide) (by decide) (Dig.nil _)) (n := 1) (by simp [val]) (by simp) (by decide) (by simp)
  simpa [trimL] using h

end Go.Proofs.YtbapeilpkhbbeaaGreat
