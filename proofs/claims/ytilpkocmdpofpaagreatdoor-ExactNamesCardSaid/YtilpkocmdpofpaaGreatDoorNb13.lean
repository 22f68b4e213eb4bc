/- A region that draws its order, by an invariant: what holds of the frame and the world while some of its operations have been carried out. Lehmer's steps of a common divisor: plain arithmetic. Lehmer's steps: the highest 64 bits; what the steps are. -/
import Derived.Test.YtilpkocmdpofpaaGreatDoorNb02
import Derived.Deep.RegionWith
import Derived.Test.YtilpkocmdpofpaaGreatDoorNb01
import Derived.Test.YtilpkocmdpofpaaGreatDoorNb07
/- A region that draws its order, by an invariant: what holds of the frame and the world while some of its operations have been carried out. -/
namespace Go.Proofs.YtilpkocmdpofpaaGreatDoor
open Go.RowKit

theorem count_set_true : ∀ (l : List Bool) (i : Nat), l[i]? = some false → (l.set i true).count false + 1 = l.count false
  | [], i, h => by simp at h
  | b :: l, 0, h => by simp at h; subst h; simp
  | b :: l, i + 1, h => by
    have := count_set_true l i (by simpa using h)
    simp only [List.set_cons_succ, List.count_cons]; omega

theorem wpAny_inv {P : Program} {md : Region.Mode} {ops : Array Oper} {Q : Exit → Act → World → Prop} (I : Array Bool → Act → World → Prop)
    (hstep : ∀ L a w i, L.size = ops.size → I L a w → i ∈ Region.ready md ops L → wpOp P ops Q i (fun a' w' => I (L.setIfInBounds i true) a' w') a w)
    (hdone : ∀ L a w, L.size = ops.size → I L a w → Region.ready md ops L = [] → Q .normal a w) :
    ∀ fuel L a w, L.size = ops.size → L.toList.count false ≤ fuel → I L a w → wpAny P md ops Q fuel L a w := by
  have hr : ∀ L i, L.size = ops.size → i ∈ Region.ready md ops L → L.toList[i]? = some false := by
    intro L i hs hi
    unfold Region.ready at hi
    rw [List.mem_filter] at hi
    obtain ⟨h1, h2⟩ := hi
    rw [List.mem_range] at h1
    simp only [Bool.and_eq_true, Bool.not_eq_true'] at h2
    have h3 := h2.1
    have hlt : i < L.size := by omega
    simp [hlt] at h3
    rw [Array.getElem?_toList]; simp [hlt, h3]
  intro fuel
  induction fuel with
  | zero =>
    intro L a w hs hc hI
    have h0 : Region.ready md ops L = [] := by
      apply List.eq_nil_iff_forall_not_mem.2
      intro i hi
      have := hr L i hs hi
      have hm : false ∈ L.toList := List.mem_of_getElem? this
      have := List.count_pos_iff.2 hm
      omega
    exact ⟨h0, hdone L a w hs hI h0⟩
  | succ fuel ih =>
    intro L a w hs hc hI
    refine ⟨fun h0 => hdone L a w hs hI h0, fun i hi => wpOp_mono (fun a' w' h => ih _ a' w' (by simpa using hs) ?_ h) (hstep L a w i hs hI hi)⟩
    have := count_set_true L.toList i (hr L i hs hi)
    rw [Array.toList_setIfInBounds]; omega

theorem region_inv {P : Program} {id : Nat} {ops : Array Oper} {Q : Exit → Act → World → Prop} {a : Act} {w : World} (hm : P.follows .mixedOrders = true) (I : Array Bool → Act → World → Prop)
    (hI : I (Array.replicate ops.size false) a w.drew)
    (hstep : ∀ L a w i, L.size = ops.size → I L a w → i ∈ Region.ready .any ops L → wpOp P ops Q i (fun a' w' => I (L.setIfInBounds i true) a' w') a w)
    (hdone : ∀ L a w, L.size = ops.size → I L a w → Region.ready .any ops L = [] → Q .normal a w) : (Code.region id ops true).wp P Q a w :=
  wp_region_any hm (wpAny_inv I hstep hdone _ _ _ _ (by simp) (by simp) hI)

/-- Of each operation the list of some that it waits for. -/
def waits (ops : Array Oper) (dep : List (List Nat)) : Bool :=
  (List.range ops.size).all fun i => (dep.getD i []).all fun d => ((ops[i]?).map fun o => o.after.toList.any fun e => Region.binds .any e && e.on == d).getD false
theorem waits_spec {ops : Array Oper} {dep : List (List Nat)} (h : waits ops dep = true) {L : Array Bool} {i : Nat} (hi : i ∈ Region.ready .any ops L) :
    i < ops.size ∧ L.getD i true = false ∧ ∀ d, d ∈ dep.getD i [] → L.getD d false = true := by
  unfold Region.ready at hi
  rw [List.mem_filter, List.mem_range] at hi
  obtain ⟨h1, h2⟩ := hi
  simp only [Bool.and_eq_true, Bool.not_eq_true'] at h2
  refine ⟨h1, h2.1, fun d hd => ?_⟩
  unfold waits at h
  rw [List.all_eq_true] at h
  have h3 := h i (List.mem_range.2 h1)
  rw [List.all_eq_true] at h3
  have h4 := h3 d hd
  have ho : ops[i]? = some ops[i] := by simp [h1]
  rw [ho] at h2 h4
  simp only [Option.map_some, Option.getD_some] at h2 h4
  rw [List.any_eq_true] at h4
  obtain ⟨e, he, h5⟩ := h4
  simp only [Bool.and_eq_true, beq_iff_eq] at h5
  have h6 := h2.2
  rw [Array.all_eq_true_iff_forall_mem] at h6
  have h7 := h6 e (by simpa using he)
  rw [h5.1, h5.2] at h7
  simpa using h7
/-- When nothing is ready all has been done, where each operation waits for earlier ones alone. -/
def early (ops : Array Oper) : Bool := (List.range ops.size).all fun i => ((ops[i]?).map fun o => o.after.toList.all fun e => !Region.binds .any e || decide (e.on < i)).getD false
theorem early_done {ops : Array Oper} (h : early ops = true) {L : Array Bool} (hsz : L.size = ops.size) (hL : Region.ready .any ops L = []) : ∀ n i, i < n → i < ops.size → L.getD i true = true := by
  intro n
  induction n with
  | zero => intro i hi; omega
  | succ n ih =>
    intro i hi hs
    by_cases hlt : i < n
    · exact ih i hlt hs
    · obtain rfl : i = n := by omega
      cases hb : L.getD i true with
      | true => rfl
      | false =>
        exfalso
        have hm : i ∈ Region.ready .any ops L := by
          unfold Region.ready
          rw [List.mem_filter, List.mem_range]
          refine ⟨hs, ?_⟩
          have ho : ops[i]? = some ops[i] := by simp [hs]
          rw [hb, ho]
          simp only [Option.map_some, Option.getD_some, Bool.not_false, Bool.true_and]
          rw [Array.all_eq_true_iff_forall_mem]
          intro e he
          unfold early at h
          rw [List.all_eq_true] at h
          have h3 := h i (List.mem_range.2 hs)
          rw [ho] at h3
          simp only [Option.map_some, Option.getD_some] at h3
          rw [List.all_eq_true] at h3
          have h4 := h3 e (by simpa using he)
          simp only [Bool.or_eq_true, Bool.not_eq_true', decide_eq_true_eq] at h4
          rcases h4 with h4 | h4
          · simp [h4]
          · have h5 := ih e.on h4 (by omega)
            have h6 : L.getD e.on false = true := by
              have hz : e.on < L.size := by omega
              simp [hz] at h5 ⊢; exact h5
            simp [h6]
        rw [hL] at hm; cases hm

/-! The region 'm, n := f(x), g(y)' of two structs (a bool and a slice) whose addresses are taken: two loads, two calls, two allotments, two stores. -/
/-- s points to a cell pair of a block that the region has made; b: it has been written with v. -/
def PtrAt (k : IntKind) (B : Nat) (w : World) (s : Value) (b : Bool) (v : Value) : Prop :=
  ∃ p v0 v1, s = .pointer (some ⟨p, 0, none⟩) ∧ B ≤ p ∧ w.cell? ⟨p, 0, none⟩ = some v0 ∧ w.cell? ⟨p, 1, none⟩ = some v1 ∧ w.frozen? ⟨p, 0, none⟩ = false ∧ w.frozen? ⟨p, 1, none⟩ = false ∧ (∀ x, v0 ≠ .int k x) ∧ (∀ x, v1 ≠ .int k x) ∧ (b = true → v = .agg #[v0, v1])

theorem PtrAt.below {k : IntKind} {B : Nat} {w w' : World} {s v : Value} {b : Bool} (h : PtrAt k B w s b v) (hb : Below w.heap.size w w') : PtrAt k B w' s b v := by
  obtain ⟨p, v0, v1, rfl, hp, c0, c1, f0, f1, r⟩ := h
  have hl := World.block_lt_of_cell? w _ c0
  exact ⟨p, v0, v1, rfl, hp, (hb.cell (p := ⟨p, 0, none⟩) hl).trans c0, (hb.cell (p := ⟨p, 1, none⟩) hl).trans c1, (hb.frozen (p := ⟨p, 0, none⟩) hl).trans f0, (hb.frozen (p := ⟨p, 1, none⟩) hl).trans f1, r⟩

structure PairJ (k : IntKind) (B : Nat) (W0 : World) (vx vy : Value) (G1 G2 : World → Value → Prop) (b0 b1 b2 b3 b4 b5 b6 b7 : Bool) (s5 s6 s7 s8 s9 s10 : Value) (w : World) : Prop where
  bel : Below B W0 w
  siz : B ≤ w.heap.size
  l0 : b0 = true → s7 = vx
  c1 : b1 = true → G1 w s8
  l2 : b2 = true → s9 = vy
  c3 : b3 = true → G2 w s10
  p4 : b4 = true → PtrAt k B w s5 b6 s8
  p5 : b5 = true → PtrAt k B w s6 b7 s10
  ne : b4 = true → b5 = true → s5 ≠ s6

section
variable {k : IntKind} {B : Nat} {W0 : World} {vx vy : Value} {G1 G2 : World → Value → Prop} {b0 b1 b2 b3 b4 b5 b6 b7 : Bool} {s5 s6 s7 s8 s9 s10 : Value} {w w' : World}

theorem PairJ.start (h : Below B W0 w) (hs : B ≤ w.heap.size) : PairJ k B W0 vx vy G1 G2 false false false false false false false false s5 s6 s7 s8 s9 s10 w :=
  ⟨h, hs, nofun, nofun, nofun, nofun, nofun, nofun, nofun⟩
theorem PairJ.load0 (h : PairJ k B W0 vx vy G1 G2 b0 b1 b2 b3 b4 b5 b6 b7 s5 s6 s7 s8 s9 s10 w) : PairJ k B W0 vx vy G1 G2 true b1 b2 b3 b4 b5 b6 b7 s5 s6 vx s8 s9 s10 w :=
  ⟨h.bel, h.siz, fun _ => rfl, h.c1, h.l2, h.c3, h.p4, h.p5, h.ne⟩
theorem PairJ.load2 (h : PairJ k B W0 vx vy G1 G2 b0 b1 b2 b3 b4 b5 b6 b7 s5 s6 s7 s8 s9 s10 w) : PairJ k B W0 vx vy G1 G2 b0 b1 true b3 b4 b5 b6 b7 s5 s6 s7 s8 vy s10 w :=
  ⟨h.bel, h.siz, h.l0, h.c1, fun _ => rfl, h.c3, h.p4, h.p5, h.ne⟩
theorem PtrAt.fresh {k : IntKind} {B : Nat} {w : World} {s v v' : Value} (h : PtrAt k B w s false v) : PtrAt k B w s false v' := by
  obtain ⟨p, v0, v1, rfl, hp, c0, c1, f0, f1, n0, n1, _⟩ := h
  exact ⟨p, v0, v1, rfl, hp, c0, c1, f0, f1, n0, n1, nofun⟩
theorem PairJ.call1 (h : PairJ k B W0 vx vy G1 G2 b0 b1 b2 b3 b4 b5 false b7 s5 s6 s7 s8 s9 s10 w) (hG : ∀ w w' v, Keeps k w w' → G2 w v → G2 w' v) (hb : Below w.heap.size w w') {v : Value} (hv : G1 w' v) :
    PairJ k B W0 vx vy G1 G2 b0 true b2 b3 b4 b5 false b7 s5 s6 s7 v s9 s10 w' :=
  ⟨h.bel.trans (hb.mono h.siz), Nat.le_trans h.siz hb.size, h.l0, fun _ => hv, h.l2, fun e => hG _ _ _ (Keeps.below hb (Nat.le_refl _)) (h.c3 e), fun e => ((h.p4 e).below hb).fresh, fun e => (h.p5 e).below hb, h.ne⟩
theorem PairJ.call3 (h : PairJ k B W0 vx vy G1 G2 b0 b1 b2 b3 b4 b5 b6 false s5 s6 s7 s8 s9 s10 w) (hG : ∀ w w' v, Keeps k w w' → G1 w v → G1 w' v) (hb : Below w.heap.size w w') {v : Value} (hv : G2 w' v) :
    PairJ k B W0 vx vy G1 G2 b0 b1 b2 true b4 b5 b6 false s5 s6 s7 s8 s9 v w' :=
  ⟨h.bel.trans (hb.mono h.siz), Nat.le_trans h.siz hb.size, h.l0, fun e => hG _ _ _ (Keeps.below hb (Nat.le_refl _)) (h.c1 e), h.l2, fun _ => hv, fun e => (h.p4 e).below hb, fun e => ((h.p5 e).below hb).fresh, h.ne⟩
theorem ptr_new (k : IntKind) (B : Nat) (w : World) (T : TypeId) (v : Value) (hs : B ≤ w.heap.size) : PtrAt k B (w.alloc (.cells #[.bool false, .slice none 0 0] T)) (.pointer (some ⟨w.heap.size, 0, none⟩)) false v :=
  ⟨w.heap.size, .bool false, .slice none 0 0, rfl, hs, by simp [go_sem], by simp [go_sem], by simp [go_sem], by simp [go_sem], nofun, nofun, nofun⟩
theorem ptr_ne_new {k : IntKind} {B : Nat} {w : World} {s v : Value} {b : Bool} (h : PtrAt k B w s b v) : s ≠ .pointer (some ⟨w.heap.size, 0, none⟩) := by
  obtain ⟨p, v0, v1, rfl, hp, c0, r⟩ := h
  have hl := World.block_lt_of_cell? w _ c0
  intro e; cases e; simp at hl
theorem keeps_two {k : IntKind} {w : World} {p : Nat} {v0 v1 : Value} (c0 : w.cell? ⟨p, 0, none⟩ = some v0) (c1 : w.cell? ⟨p, 1, none⟩ = some v1) (n0 : ∀ x, v0 ≠ .int k x) (n1 : ∀ x, v1 ≠ .int k x) (u0 u1 : Value) :
    Keeps k w ((w.setCell ⟨p, 0, none⟩ u0).setCell ⟨p, 1, none⟩ u1) :=
  ((Keeps.refl k w).setCell c0 n0 u0).setCell (u := v1) (by rw [World.cell?_setCell_other w _ _ _ (by simp)]; exact c1) n1 u1
theorem two_cells {w : World} {p : Nat} {v0 v1 : Value} (c0 : w.cell? ⟨p, 0, none⟩ = some v0) (c1 : w.cell? ⟨p, 1, none⟩ = some v1) (u0 u1 : Value) :
    ((w.setCell ⟨p, 0, none⟩ u0).setCell ⟨p, 1, none⟩ u1).cell? ⟨p, 0, none⟩ = some u0 ∧ ((w.setCell ⟨p, 0, none⟩ u0).setCell ⟨p, 1, none⟩ u1).cell? ⟨p, 1, none⟩ = some u1 := by
  constructor
  · rw [World.cell?_setCell_other _ _ _ _ (by simp)]; exact World.cell?_setCell_same _ _ _ c0
  · exact World.cell?_setCell_same _ _ _ (u := v1) (by rw [World.cell?_setCell_other w _ _ _ (by simp)]; exact c1)
theorem PtrAt.other {k : IntKind} {B : Nat} {w : World} {s v : Value} {b : Bool} (h : PtrAt k B w s b v) {p : Nat} (hne : s ≠ .pointer (some ⟨p, 0, none⟩)) (u0 u1 : Value) : PtrAt k B ((w.setCell ⟨p, 0, none⟩ u0).setCell ⟨p, 1, none⟩ u1) s b v := by
  obtain ⟨q, v0, v1, rfl, hq, c0, c1, f0, f1, r⟩ := h
  have hpq : p ≠ q := by rintro rfl; exact hne rfl
  refine ⟨q, v0, v1, rfl, hq, ?_, ?_, by simpa using f0, by simpa using f1, r⟩
  · rw [World.cell?_setCell_other _ _ _ _ (by simp <;> exact hpq), World.cell?_setCell_other _ _ _ _ (by simp <;> exact hpq)]; exact c0
  · rw [World.cell?_setCell_other _ _ _ _ (by simp <;> exact hpq), World.cell?_setCell_other _ _ _ _ (by simp <;> exact hpq)]; exact c1
theorem PairJ.drew (h : PairJ k B W0 vx vy G1 G2 b0 b1 b2 b3 b4 b5 b6 b7 s5 s6 s7 s8 s9 s10 w) (hG1 : ∀ w w' v, Keeps k w w' → G1 w v → G1 w' v) (hG2 : ∀ w w' v, Keeps k w w' → G2 w v → G2 w' v) : PairJ k B W0 vx vy G1 G2 b0 b1 b2 b3 b4 b5 b6 b7 s5 s6 s7 s8 s9 s10 w.drew :=
  ⟨h.bel.drew, h.siz, h.l0, fun e => hG1 _ _ _ (Keeps.refl _ _).drew (h.c1 e), h.l2, fun e => hG2 _ _ _ (Keeps.refl _ _).drew (h.c3 e), h.p4, h.p5, h.ne⟩
end

end Go.Proofs.YtilpkocmdpofpaaGreatDoor

/- Lehmer's steps of a common divisor: plain arithmetic. -/
namespace Go.Proofs.YtilpkocmdpofpaaGreatDoor

theorem leh_mul {u x D S : Int} (h0 : 0 ≤ u) (h1 : u ≤ D) (a0 : 0 ≤ x) (a1 : x < S) : 0 ≤ u * x ∧ u * x ≤ D * S - D := by
  refine ⟨Int.mul_nonneg h0 a0, ?_⟩
  have h2 : u * x ≤ D * x := Int.mul_le_mul_of_nonneg_right h1 a0
  have h3 : D * x ≤ D * (S - 1) := Int.mul_le_mul_of_nonneg_left (by omega) (by omega)
  rw [Int.mul_sub, Int.mul_one] at h3
  omega
theorem leh_pos {g u v x y D S : Int} (hg : g = 1 ∨ g = -1) (hu0 : 0 ≤ u) (hu : u ≤ D) (hv0 : 0 ≤ v) (hv : v ≤ D) (x0 : 0 ≤ x) (x1 : x < S) (y0 : 0 ≤ y) (y1 : y < S) : D ≤ D * S + g * (u * x - v * y) := by
  have h1 := leh_mul hu0 hu x0 x1
  have h2 := leh_mul hv0 hv y0 y1
  generalize u * x = p at *
  generalize v * y = q at *
  generalize D * S = r at *
  rcases hg with rfl | rfl
  · rw [Int.one_mul]; omega
  · rw [Int.neg_mul, Int.one_mul]; omega

/-- Some of Euclid's steps of a and b, told by their highest bits A and B. -/
structure LehN (a b A B : Int) (cnt a0 b0 a1 b1 hi lo : Int) : Prop where
  c0 : 0 ≤ cnt
  cb : cnt + 1 ≤ b0 + b1
  a00 : 0 ≤ a0
  b00 : 0 ≤ b0
  a10 : 0 ≤ a1
  b11 : 1 ≤ b1
  ab1 : a1 ≤ b1
  abs : a0 + a1 ≤ b0 + b1
  b0s : b0 < 4294967296
  b1s : b1 < 4294967296
  lo0 : 0 ≤ lo
  le : lo ≤ hi
  eA : b1 * hi + b0 * lo = A
  eB : a1 * hi + a0 * lo = B
  sg : ∃ g R0 R1 : Int, (g = 1 ∧ cnt % 2 = 0 ∨ g = -1 ∧ cnt % 2 = 1) ∧ R0 = g * (a0 * a - b0 * b) ∧ R1 = g * (b1 * b - a1 * a) ∧ hi = g * (a0 * A - b0 * B) ∧ lo = g * (b1 * B - a1 * A) ∧
    0 ≤ R1 ∧ (cnt = 0 ∧ R1 = b ∨ 0 < cnt ∧ R1 < R0 ∧ R0 ≤ b) ∧ Int.gcd R0 R1 = Int.gcd a b

theorem LehN.start {a b A B : Int} (hb : 0 ≤ b) (hB : 0 ≤ B) (hAB : B ≤ A) : LehN a b A B 0 1 0 0 1 A B :=
  ⟨by decide, by decide, by decide, by decide, by decide, by decide, by decide, by decide, by decide, by decide, hB, hAB, by omega, by omega, 1, a, b, .inl ⟨rfl, rfl⟩, by omega, by omega, by omega, by omega, hb, .inl ⟨rfl, rfl⟩, rfl⟩

theorem gcd_sub_mul (x y q : Int) : Int.gcd y (x - q * y) = Int.gcd x y := by
  apply Nat.dvd_antisymm
  · apply Int.dvd_gcd
    · have h1 := Int.gcd_dvd_left y (x - q * y)
      have h2 := Int.gcd_dvd_right y (x - q * y)
      have := Int.dvd_add h2 (Int.dvd_mul_of_dvd_right h1 (b := q))
      simpa using this
    · exact Int.gcd_dvd_left y (x - q * y)
  · apply Int.dvd_gcd
    · exact Int.gcd_dvd_right x y
    · exact Int.dvd_sub (Int.gcd_dvd_left x y) (Int.dvd_mul_of_dvd_right (Int.gcd_dvd_right x y))

/-- What the numbers of the next step are at most. -/
structure LehB (a0 b0 a1 b1 hi lo q rest a2 b2 : Int) : Prop where
  q1 : 1 ≤ q
  qh : q * lo ≤ hi
  r0 : 0 ≤ rest
  r1 : rest < lo
  a20 : 0 ≤ a2
  qa0 : 0 ≤ q * a1
  qa : q * a1 ≤ a2
  ab2 : a2 ≤ b2
  qb0 : 0 ≤ q * b1
  qb : q * b1 ≤ b2
  b21 : 1 ≤ b2
  bA : b2 * lo + b1 * rest = b1 * hi + b0 * lo
  bB : a2 * lo + a1 * rest = a1 * hi + a0 * lo

theorem LehN.bounds {a b A B cnt a0 b0 a1 b1 hi lo : Int} (H : LehN a b A B cnt a0 b0 a1 b1 hi lo) (hlo : 0 < lo) :
    LehB a0 b0 a1 b1 hi lo (hi / lo) (hi - hi / lo * lo) (a0 + hi / lo * a1) (b0 + hi / lo * b1) := by
  have e := Int.emod_add_mul_ediv hi lo
  have m0 := Int.emod_nonneg hi (show lo ≠ 0 by omega)
  have m1 := Int.emod_lt_of_pos hi hlo
  have q1 : 1 ≤ hi / lo := by
    have := Int.ediv_le_ediv hlo H.le
    rw [Int.ediv_self (by omega)] at this; exact this
  rw [Int.mul_comm lo] at e
  generalize hi / lo = q at *
  generalize hi % lo = m at *
  have ha := H.a10; have hb := H.b11; have h1 := H.ab1; have h2 := H.abs; have h3 := H.a00; have h4 := H.b00
  have f1 : 0 ≤ q * a1 := Int.mul_nonneg (by omega) ha
  have f2 : 0 ≤ q * b1 := Int.mul_nonneg (by omega) (by omega)
  have f3 : (q - 1) * a1 ≤ (q - 1) * b1 := Int.mul_le_mul_of_nonneg_left h1 (by omega)
  have f4 : 1 * 1 ≤ q * b1 := Int.mul_le_mul q1 hb (by decide) (by omega)
  rw [Int.sub_mul, Int.sub_mul, Int.one_mul, Int.one_mul] at f3
  refine ⟨q1, by omega, by omega, by omega, by omega, f1, by omega, by omega, f2, by omega, by omega, ?_, ?_⟩
  · have : hi - q * lo = m := by omega
    rw [← e]; grind
  · rw [← e]; grind

/-- A factor of what is small is small. -/
theorem leh_le {u x p A : Int} (hu : 0 ≤ u) (hx : 1 ≤ x) (hp : 0 ≤ p) (h : u * x + p = A) : u ≤ A := by
  have : u * 1 ≤ u * x := Int.mul_le_mul_of_nonneg_left hx hu
  omega

theorem LehB.fits {a0 b0 a1 b1 hi lo q rest a2 b2 A B : Int} (h : LehB a0 b0 a1 b1 hi lo q rest a2 b2) (hA : b1 * hi + b0 * lo = A) (hB : a1 * hi + a0 * lo = B) (hb1 : 1 ≤ b1) (ha1 : 0 ≤ a1) : b2 ≤ A ∧ a2 ≤ B ∧ (b2 ≤ rest → b1 + b2 ≤ A ∧ b2 * b2 ≤ A) := by
  have hlo : 1 ≤ lo := by have := h.r0; have := h.r1; omega
  have e1 := h.bA; have e2 := h.bB
  rw [hA] at e1; rw [hB] at e2
  have p1 : 0 ≤ b1 * rest := Int.mul_nonneg (by omega) h.r0
  have p2 : 0 ≤ a1 * rest := Int.mul_nonneg ha1 h.r0
  refine ⟨leh_le (by have := h.b21; omega) hlo p1 e1, leh_le h.a20 hlo p2 e2, fun hr => ?_⟩
  have hb2 := h.b21
  have g1 : b2 * 1 ≤ b2 * lo := Int.mul_le_mul_of_nonneg_left hlo (by omega)
  have g2 : b1 * 1 ≤ b1 * rest := Int.mul_le_mul_of_nonneg_left (by omega) (by omega)
  have g3 : b2 * b2 ≤ b2 * lo := Int.mul_le_mul_of_nonneg_left (by have := h.r1; omega) (by omega)
  constructor <;> omega

theorem sq_lt {x A : Int} (h : x * x ≤ A) (hA : A < 18446744073709551616) : x < 4294967296 := by
  by_cases h1 : x < 4294967296
  · exact h1
  · have : (4294967296 : Int) * 4294967296 ≤ x * x := Int.mul_le_mul (by omega) (by omega) (by decide) (by omega)
    omega

theorem LehN.next {a b A B S x y cnt a0 b0 a1 b1 hi lo q rest a2 b2 : Int} (H : LehN a b A B cnt a0 b0 a1 b1 hi lo) (h : LehB a0 b0 a1 b1 hi lo q rest a2 b2) (hr : rest = hi - q * lo) (h2 : a2 = a0 + q * a1) (h3 : b2 = b0 + q * b1)
    (ha : a = A * S + x) (hb : b = B * S + y) (x0 : 0 ≤ x) (x1 : x < S) (y0 : 0 ≤ y) (y1 : y < S) (hA : A < 18446744073709551616) (k1 : b2 ≤ rest) (k2 : b1 + b2 ≤ lo - rest) : LehN a b A B (cnt + 1) a1 b1 a2 b2 lo rest := by
  obtain ⟨g, R0, R1, hg, e0, e1, e2, e3, hp, hc, hgcd⟩ := H.sg
  have hg' : g = 1 ∨ g = -1 := by rcases hg with h | h; exact .inl h.1; exact .inr h.1
  have f := h.fits H.eA H.eB H.b11 H.a10
  have hsq := sq_lt (f.2.2 k1).2 hA
  have ab1 := H.ab1; have ab2 := h.ab2; have a10 := H.a10; have b11 := H.b11; have a20 := h.a20; have b21 := h.b21
  have w1 : R0 - q * R1 = rest * S + g * (a2 * x - b2 * y) := by
    rw [e0, e1, hr, e2, e3, ha, hb, h2, h3]; grind
  have w2 : R1 - (R0 - q * R1) = (lo - rest) * S + g * ((b1 + b2) * y - (a1 + a2) * x) := by
    rw [e0, e1, hr, e2, e3, ha, hb, h2, h3]; grind
  have p1 := leh_pos hg' a20 (by omega) (by omega) k1 x0 x1 y0 y1
  have p2 := leh_pos (D := lo - rest) hg' (by omega) k2 (show 0 ≤ a1 + a2 by omega) (by omega) y0 y1 x0 x1
  rw [← w1] at p1
  rw [← w2] at p2
  have r0 := h.r0; have r1 := h.r1
  refine ⟨by have := H.c0; omega, ?_, a10, by omega, a20, by omega, ab2, by omega, H.b1s, hsq, r0, by omega, by rw [h.bA]; exact H.eA, by rw [h.bB]; exact H.eB, -g, R1, R0 - q * R1, ?_, ?_, ?_, ?_, ?_, by omega, .inr ⟨by have := H.c0; omega, by omega, ?_⟩, ?_⟩
  · have h5 := H.cb; have h6 := h.qb; have h7 := h.q1
    have : 1 * b1 ≤ q * b1 := Int.mul_le_mul_of_nonneg_right h7 (by omega)
    omega
  · rcases hg with ⟨rfl, h⟩ | ⟨rfl, h⟩
    · right; exact ⟨rfl, by omega⟩
    · left; exact ⟨rfl, by omega⟩
  · rw [e1]; grind
  · rw [e0, e1, h2, h3]; grind
  · rw [e3]; grind
  · rw [hr, e2, e3, h2, h3]; grind
  · rcases hc with ⟨_, h⟩ | ⟨_, h, h'⟩ <;> omega
  · rw [← hgcd]; exact gcd_sub_mul R0 R1 q

end Go.Proofs.YtilpkocmdpofpaaGreatDoor

/- Lehmer's steps: the highest 64 bits; what the steps are. -/
namespace Go.Proofs.YtilpkocmdpofpaaGreatDoor
open Go.RowKit

theorem or_up (h l : Int) (s : Nat) (h0 : 0 ≤ h) (h1 : h * 2 ^ s < 18446744073709551616) (l0 : 0 ≤ l) (l1 : l < 2 ^ s) (l2 : l < 18446744073709551616) : bits .or .u64 (h * 2 ^ s) l = l + h * 2 ^ s := by
  rw [← or_low h l s h0 h1 l0 l1 l2]
  obtain ⟨a, rfl⟩ := Int.eq_ofNat_of_zero_le h0
  obtain ⟨b, rfl⟩ := Int.eq_ofNat_of_zero_le l0
  have e : ((a : Int) * 2 ^ s) = ((a * 2 ^ s : Nat) : Int) := by simp
  rw [e] at h1 ⊢
  rw [bits_or_u64_nat _ _ (by omega) (by omega), bits_or_u64_nat _ _ (by omega) (by omega), Nat.or_comm]

/-- The number of which the highest limb is y. -/
theorem val_top {L : List Int} {k : Nat} (hl : L.length = k + 1) : val B64 L = val B64 (L.take k) + B64 ^ k * L[k]?.getD 0 := by
  have e := take_succ_getD L k (by omega)
  rw [List.take_of_length_le (by omega)] at e
  have h := congrArg (val B64) e
  rw [h, val_snoc, List.length_take, Nat.min_eq_left (by omega)]
theorem top_eq {L : List Int} {k : Nat} (hd : Dig B64 L) (hl : L.length = k + 1) : val B64 L / B64 ^ k = L[k]?.getD 0 := by
  have h1 := val_lt B64_pos (hd.take k)
  rw [List.length_take, Nat.min_eq_left (by omega)] at h1
  have h0 := val_nonneg B64_pos (hd.take k)
  exact ((Int.ediv_emod_unique (Int.pow_pos B64_pos)).2 ⟨(val_top hl).symm, h0, h1⟩).1

/-- The unit of the highest 64 bits. -/
def topS (m s : Nat) : Int := B64 ^ m * 2 ^ (64 - s)
theorem topS_pos {m s : Nat} (hs : s ≤ 63) : 0 < topS m s := Int.mul_pos (Int.pow_pos B64_pos) (pow_split hs).2.1

theorem top_one {L : List Int} {m s : Nat} (hd : Dig B64 L) (hl : L.length = m + 1) : L[m]?.getD 0 / 2 ^ (64 - s) = val B64 L / topS m s := by
  unfold topS
  rw [← Int.ediv_ediv_of_nonneg (Int.le_of_lt (Int.pow_pos B64_pos)), top_eq hd hl]
theorem top_none {L : List Int} {m s : Nat} (hd : Dig B64 L) (hl : L.length ≤ m) (hs : s ≤ 63) : val B64 L / topS m s = 0 := by
  refine Int.ediv_eq_zero_of_lt (val_nonneg B64_pos hd) (Int.lt_of_lt_of_le (val_lt B64_pos hd) (Int.le_trans (pow_mono B64_pos hl) ?_))
  unfold topS
  have p := (pow_split hs).2.1
  have q : (0 : Int) < B64 ^ m := Int.pow_pos B64_pos
  have := Int.mul_le_mul_of_nonneg_left (show (1 : Int) ≤ 2 ^ (64 - s) by omega) (Int.le_of_lt q)
  omega
theorem top_two {L : List Int} {m s : Nat} (hd : Dig B64 L) (hl : L.length = m + 2) (hs : s ≤ 63) (hy : L[m + 1]?.getD 0 * 2 ^ s < B64) :
    bits .or .u64 (L[m + 1]?.getD 0 * 2 ^ s) (L[m]?.getD 0 / 2 ^ (64 - s)) = val B64 L / topS m s := by
  obtain ⟨p1, p2, p3⟩ := pow_split hs
  have y0 := (hd.at B64_pos (m + 1)).1
  have z := hd.at B64_pos m
  have q0 : 0 ≤ L[m]?.getD 0 / 2 ^ (64 - s) := Int.ediv_nonneg z.1 (Int.le_of_lt p2)
  have q1 : L[m]?.getD 0 / 2 ^ (64 - s) < 2 ^ s := Int.ediv_lt_of_lt_mul p2 (by rw [Int.mul_comm, p3]; exact z.2)
  have q2 : L[m]?.getD 0 / 2 ^ (64 - s) < 18446744073709551616 := Int.lt_of_le_of_lt (Int.ediv_le_self _ z.1) z.2
  rw [or_up _ _ s y0 hy q0 q1 q2]
  have hv : val B64 L / B64 ^ m = L[m]?.getD 0 + B64 * L[m + 1]?.getD 0 := by
    have e1 := val_top (L := L) (k := m + 1) (by omega)
    have e2 := val_top (L := L.take (m + 1)) (k := m) (by rw [List.length_take]; omega)
    have e3 : (L.take (m + 1)).take m = L.take m := by rw [List.take_take, Nat.min_eq_left (by omega)]
    have e4 : (L.take (m + 1))[m]?.getD 0 = L[m]?.getD 0 := by simp
    rw [e3, e4] at e2
    rw [e2] at e1
    have h1 := val_lt B64_pos (hd.take m)
    rw [List.length_take, Nat.min_eq_left (by omega)] at h1
    have h0 := val_nonneg B64_pos (hd.take m)
    refine ((Int.ediv_emod_unique (Int.pow_pos B64_pos)).2 ⟨?_, h0, h1⟩).1
    rw [e1, Int.pow_succ]; grind
  unfold topS
  rw [← Int.ediv_ediv_of_nonneg (Int.le_of_lt (Int.pow_pos B64_pos)), hv, ← p3]
  rw [show L[m]?.getD 0 + 2 ^ (64 - s) * 2 ^ s * L[m + 1]?.getD 0 = L[m]?.getD 0 + 2 ^ (64 - s) * (L[m + 1]?.getD 0 * 2 ^ s) by grind]
  rw [Int.add_mul_ediv_left _ _ (by omega)]

theorem top_lt {L : List Int} {m s : Nat} (hd : Dig B64 L) (hn : Nrm L) (hl : L.length = m + 2) (hs : s ≤ 63) (hy : L[m + 1]?.getD 0 * 2 ^ s < B64) : val B64 L / topS m s < B64 := by
  obtain ⟨p1, p2, p3⟩ := pow_split hs
  have h := (top_shift hd hn hl hs hy).2
  refine Int.ediv_lt_of_lt_mul (topS_pos hs) ?_
  have e : B64 ^ (m + 1 + 1) = B64 * topS m s * 2 ^ s := by
    unfold topS; rw [Int.pow_succ, Int.pow_succ]
    rw [show B64 * (B64 ^ m * 2 ^ (64 - s)) * 2 ^ s = B64 * B64 ^ m * (2 ^ (64 - s) * 2 ^ s) by grind, p3]; grind
  rw [e] at h
  exact Int.lt_of_mul_lt_mul_right h (Int.le_of_lt p1)

/-- A number that is not greater has no greater limb at the top. -/
theorem top_le {L M : List Int} {k : Nat} (hd : Dig B64 L) (hm : Dig B64 M) (hl : L.length = k + 1) (hk : M.length = k + 1) (h : val B64 M ≤ val B64 L) : M[k]?.getD 0 ≤ L[k]?.getD 0 := by
  rw [← top_eq hd hl, ← top_eq hm hk]
  exact Int.ediv_le_ediv (Int.pow_pos B64_pos) h

/-- What foresee tells of a and b. -/
structure StepsN (a b cnt a0 b0 a1 b1 : Int) : Prop where
  c : 0 ≤ cnt ∧ cnt ≤ 8589934592
  a0s : 0 ≤ a0 ∧ a0 < B64
  b0s : 0 ≤ b0 ∧ b0 < B64
  a1s : 0 ≤ a1 ∧ a1 < B64
  b1s : 0 ≤ b1 ∧ b1 < B64
  did : 0 < cnt → ∃ R0 R1 : Int, (cnt % 2 = 0 ∧ R0 = a0 * a - b0 * b ∧ R1 = b1 * b - a1 * a ∨ cnt % 2 = 1 ∧ R0 = b0 * b - a0 * a ∧ R1 = a1 * a - b1 * b) ∧ 0 ≤ R1 ∧ R1 < R0 ∧ R0 ≤ b ∧ Int.gcd R0 R1 = Int.gcd a b

theorem LehN.steps {a b A B cnt a0 b0 a1 b1 hi lo : Int} (H : LehN a b A B cnt a0 b0 a1 b1 hi lo) : StepsN a b cnt a0 b0 a1 b1 := by
  have h1 := H.c0; have h2 := H.cb; have h3 := H.b0s; have h4 := H.b1s; have h5 := H.a00; have h6 := H.a10; have h7 := H.abs; have h8 := H.b00; have h9 := H.b11
  refine ⟨⟨h1, by omega⟩, ⟨h5, by unfold B64; omega⟩, ⟨h8, by unfold B64; omega⟩, ⟨h6, by unfold B64; omega⟩, ⟨by omega, by unfold B64; omega⟩, fun hp => ?_⟩
  obtain ⟨g, R0, R1, hg, e0, e1, _, _, hp1, hc, hgcd⟩ := H.sg
  refine ⟨R0, R1, ?_, hp1, by omega, by omega, hgcd⟩
  rcases hg with ⟨rfl, h⟩ | ⟨rfl, h⟩
  · left; exact ⟨h, by omega, by omega⟩
  · right; exact ⟨h, by omega, by omega⟩

/-- A sum modulo a power is the result, if that is below the power. -/
theorem low_eq {u v a b R P c l : Int} (hR : R = u * a - v * b) (hR0 : 0 ≤ R) (hR1 : R < P) (hl0 : 0 ≤ l) (hl1 : l < P) (he : l + P * c = u * (a % P) - v * b) : l = R := by
  have hP : 0 < P := by omega
  have e := Int.emod_add_mul_ediv a P
  have h : R = l + P * (c + u * (a / P)) := by
    rw [hR]
    generalize a % P = x at *
    generalize a / P = y at *
    rw [← e]; grind
  have h2 : R % P = l := by rw [h, Int.add_mul_emod_self_left]; exact Int.emod_eq_of_lt hl0 hl1
  rw [← h2]; exact Int.emod_eq_of_lt hR0 hR1

end Go.Proofs.YtilpkocmdpofpaaGreatDoor
