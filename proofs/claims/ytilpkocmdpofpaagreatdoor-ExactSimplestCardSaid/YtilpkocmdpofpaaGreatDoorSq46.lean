/- The statement ExactSimplest and its card: whatever the arguments are, the law returns true, and they read behind the call as they read before. Written by gen_rowx.py. -/
import Derived.Test.YtilpkocmdpofpaaGreatDoorSq26
import Derived.ProofKit
import Derived.Below
import Derived.Lib.SmallJoins
import Derived.Deep.Slices
import Derived.Test.YtilpkocmdpofpaaGreatDoorSq43
import Derived.Test.YtilpkocmdpofpaaGreatDoorSq45
import Derived.Test.YtilpkocmdpofpaaGreatDoorCards
import Derived.Test.YtilpkocmdpofpaaGreatDoorTie
import Derived.Lib.LaidTab
import Derived.OpenShut
import Derived.Deep.DeepHandedRow
import Derived.SevenTiedAt
import Derived.Carry
/- The document's own integers: SameInt, LikeInt; the law's spoil. -/
namespace Go.Proofs.YtilpkocmdpofpaaGreatDoor
open Go.RowKit

set_option maxRecDepth 100000 in
set_option maxHeartbeats 4000000 in
theorem sameInt_any (u v : Value) (z : Int) (Ka Kb : Nat) (w : World) (hu : An w u z Ka) (hv : Zt w v z Kb) (hK : Kb ≤ 268435456) :
    Calls Tryz.prog 130 #[u, v] w fun e w' => e = .returned (.bool true) ∧ Below w.heap.size w w' := by
  obtain ⟨ao, ca, L, rfl, hr, dL, nL, eL, _⟩ := hu
  obtain ⟨yb, yo, ym, yc, rfl, Hy, Hys, Hyb⟩ := Zt.opened hv
  obtain ⟨n, hn⟩ : ∃ n, n = L.length := ⟨_, rfl⟩
  obtain ⟨xb, hxb⟩ : ∃ xb, xb = decide (z < 0) := ⟨_, rfl⟩
  rw [← hxb, ← hn]
  have hyx : yb = xb := by rw [Hyb.out, hxb]
  subst hyx
  have hb : Below w.heap.size w ((w.alloc (.cells #[.bool yb, .slice ao n ca] 24)).alloc (.cells #[.bool yb, .slice yo ym yc] 31)) := ((Below.refl _ _).alloc (Nat.le_refl _) _).alloc (by simp) _
  have hI := rint_any _ z Kb _ (Hy.out _ hb) hK
  have HI := hid hI; have HB := hid hb; have HR := hid hr; have Hn := hid hn
  have HD := hid (And.intro dL (And.intro nL eL)); have Hxb := hid hxb
  clear hI hb hr hn dL nL eL hxb hv
  go_enter Tryz.func130, Tryz.ntmps130
  go_wp2_with fail
  refine HI.out.mono ?_
  rintro e w1 ⟨_, rfl, ⟨bo, bc, M, rfl, hrM, dM, nM, eM, _⟩, hb1⟩
  rw [← Hxb.out]
  obtain rfl : L = M := val_inj B32_pos HD.out.1 dM HD.out.2.1 nM (by rw [HD.out.2.2, eM])
  rw [← Hn.out]
  obtain ⟨W1, hW1⟩ : ∃ W1, W1 = w1.alloc (.cells #[.bool yb, .slice bo n bc] 24) := ⟨_, rfl⟩
  have hb1' : Below w.heap.size w w1 := HB.out.trans (hb1.mono HB.out.size)
  have hbW : Below w.heap.size w W1 := by rw [hW1]; exact hb1'.alloc hb1'.size _
  have c0 : W1.cell? ⟨w.heap.size, 0, none⟩ = some (.bool yb) ∧ W1.cell? ⟨w.heap.size, 1, none⟩ = some (.slice ao n ca) := by
    have hlow : Below (w.heap.size + 1) ((w.alloc (.cells #[.bool yb, .slice ao n ca] 24)).alloc (.cells #[.bool yb, .slice yo ym yc] 31)) W1 := by
      rw [hW1]; exact (hb1.mono (by simp)).alloc (by have := hb1.size; simp at this; omega) _
    constructor <;> (rw [hlow.cell (by simp)]; simp [go_sem])
  have c1 : W1.cell? ⟨w1.heap.size, 0, none⟩ = some (.bool yb) ∧ W1.cell? ⟨w1.heap.size, 1, none⟩ = some (.slice bo n bc) := by rw [hW1]; constructor <;> simp [go_sem]
  have hs := sameWords_any ao bo ca bc L L W1 (HR.out.below hbW (Nat.le_refl _)) (by rw [hW1]; exact hrM.below ((Below.refl _ _).alloc (Nat.le_refl _) _) (Nat.le_refl _))
  rw [← Hn.out, decide_eq_true rfl] at hs
  obtain ⟨c00, c01⟩ := c0
  obtain ⟨c10, c11⟩ := c1
  have HS := hid hs; have HbW := hid hbW; have HW1 := hid hW1
  clear hs hbW hb1 hb1' hrM dM nM eM HD HR
  have hyy : (yb == yb) = true := by simp
  go_upto_region 2 with (fail)
  rw [← hW1]
  clear hW1
  go_wp2_with fail
  refine HS.out.mono ?_
  rintro e w2 ⟨rfl, nq, rfl⟩
  have HF := hid (below_drewN HbW.out nq)
  go_wp2
  go_ret
  exact ⟨rfl, HF.out⟩

/-- The value v (an api.Int) has these words. -/
def Lk (w : World) (v : Value) (neg : Bool) (W : List Int) : Prop := ∃ ao c, v = .agg #[.bool neg, .slice ao W.length c] ∧ Rd w .u32 ao c W

set_option maxRecDepth 100000 in
set_option maxHeartbeats 4000000 in
theorem likeInt_any (u v : Value) (neg : Bool) (W : List Int) (w : World) (hu : Lk w u neg W) (hv : Lk w v neg W) :
    Calls Tryz.prog 78 #[u, v] w fun e w' => e = .returned (.bool true) ∧ Below w.heap.size w w' := by
  obtain ⟨ao, ca, rfl, hr⟩ := hu
  obtain ⟨bo, cb, rfl, hr2⟩ := hv
  obtain ⟨n, hn⟩ : ∃ n, n = W.length := ⟨_, rfl⟩
  rw [← hn]
  have hb : Below w.heap.size w ((w.alloc (.cells #[.bool neg, .slice ao n ca] 24)).alloc (.cells #[.bool neg, .slice bo n cb] 24)) := ((Below.refl _ _).alloc (Nat.le_refl _) _).alloc (by simp) _
  have hs := sameWords_any ao bo ca cb W W _ (hr.below hb (Nat.le_refl _)) (hr2.below hb (Nat.le_refl _))
  rw [← hn, decide_eq_true rfl] at hs
  have HS := hid hs; have HB := hid hb
  have hyy : (neg == neg) = true := by simp
  clear hs hb hr hr2 hn
  go_enter Tryz.func78, Tryz.ntmps78
  go_wp2_with fail
  refine HS.out.mono ?_
  rintro e w2 ⟨rfl, nq, rfl⟩
  have HF := hid (below_drewN HB.out nq)
  go_wp2
  go_ret
  exact ⟨rfl, HF.out⟩

/-- Words that may be written over: they lie in blocks from B on. -/
def Sp (w : World) (B : Nat) (v : Value) : Prop := ∃ b ao n c, v = .agg #[.bool b, .slice ao n c] ∧ n ≤ 1073741824 ∧ n ≤ c ∧ c ≤ 9223372036854775807 ∧ (0 < n → ∃ g off, ao = some ⟨g, off, none⟩ ∧ B ≤ g ∧ ∀ i, i < n → (∃ x, 0 ≤ x ∧ x < 4294967296 ∧ w.cell? ⟨g, off + i, none⟩ = some (.int .u32 x)) ∧ w.frozen? ⟨g, off + i, none⟩ = false)
/-- What a spoilt world keeps. -/
structure Spd (B : Nat) (w w' : World) : Prop where
  low : Below B w w'
  siz : w.heap.size ≤ w'.heap.size
  cel : ∀ a v, w.cell? a = some v → (∀ x, v ≠ .int .u32 x) → w'.cell? a = some v
  u32 : ∀ a x, w.cell? a = some (.int .u32 x) → 0 ≤ x → x < 4294967296 → ∃ y, 0 ≤ y ∧ y < 4294967296 ∧ w'.cell? a = some (.int .u32 y)
  frz : ∀ a, a.block < w.heap.size → w'.frozen? a = w.frozen? a
theorem Spd.refl (B : Nat) (w : World) : Spd B w w := ⟨Below.refl _ _, Nat.le_refl _, fun _ _ h _ => h, fun _ x h h0 h1 => ⟨x, h0, h1, h⟩, fun _ _ => rfl⟩
theorem Spd.trans {B : Nat} {a b c : World} (h : Spd B a b) (g : Spd B b c) : Spd B a c :=
  ⟨h.low.trans g.low, Nat.le_trans h.siz g.siz, fun p _ e hn => g.cel p _ (h.cel p _ e hn) hn, fun p x e h0 h1 => by obtain ⟨y, y0, y1, e'⟩ := h.u32 p x e h0 h1; exact g.u32 p y e' y0 y1, fun p hp => (g.frz p (Nat.lt_of_lt_of_le hp h.siz)).trans (h.frz p hp)⟩
theorem Spd.of_below {B : Nat} {w w' : World} (hb : Below w.heap.size w w') (hB : B ≤ w.heap.size) : Spd B w w' :=
  ⟨hb.mono hB, hb.size, fun a _ e _ => (hb.cell (World.block_lt_of_cell? w a e)).trans e, fun a x e h0 h1 => ⟨x, h0, h1, (hb.cell (World.block_lt_of_cell? w a e)).trans e⟩, fun _ ha => hb.frozen ha⟩
theorem Spd.drewN {B : Nat} {w w' : World} (h : Spd B w w') (n : Nat) : Spd B w (w'.drewN n) := ⟨below_drewN h.low n, h.siz, h.cel, h.u32, h.frz⟩
theorem Spd.set {B : Nat} {w w' : World} (h : Spd B w w') {a : Addr} (ha : B ≤ a.block) {x y : Int} (hx : w'.cell? a = some (.int .u32 x)) (y0 : 0 ≤ y) (y1 : y < 4294967296) : Spd B w (w'.setCell a (.int .u32 y)) := by
  refine ⟨h.low.setCell ha _, by simpa using h.siz, fun p _ e hn => ?_, fun p z e h0 h1 => ?_, fun p hp => ?_⟩
  · have e' := h.cel p _ e hn
    have hne : a ≠ p := by rintro rfl; rw [hx] at e'; exact hn x (Option.some.inj e').symm
    exact (World.cell?_setCell_other w' a _ _ hne).trans e'
  · obtain ⟨u, u0, u1, e'⟩ := h.u32 p z e h0 h1
    by_cases hne : a = p
    · subst hne
      exact ⟨y, y0, y1, World.cell?_setCell_same w' a _ hx⟩
    · exact ⟨u, u0, u1, (World.cell?_setCell_other w' a _ _ hne).trans e'⟩
  · rw [World.frozen?_setCell]; exact h.frz p hp

theorem bits_xor_u32 (x y : Int) : ∃ z, 0 ≤ z ∧ z < 4294967296 ∧ bits .xor .u32 x y = z := by
  refine ⟨bits .xor .u32 x y, ?_, ?_, rfl⟩
  · show 0 ≤ IntKind.u32.wrap ((BitVec.ofInt 32 x ^^^ BitVec.ofInt 32 y).toNat : Int)
    rw [IntKind.wrap_u32]; exact Int.emod_nonneg _ (by decide)
  · show IntKind.u32.wrap ((BitVec.ofInt 32 x ^^^ BitVec.ofInt 32 y).toNat : Int) < 4294967296
    rw [IntKind.wrap_u32]; exact Int.emod_lt_of_pos _ (by decide)

end Go.Proofs.YtilpkocmdpofpaaGreatDoor

/- How the arguments of the laws are opened (an api.Int reads as its sign and its list of words), and the last step of a row whose law returns true and leaves all that was there before. -/
namespace Go.Proofs.YtilpkocmdpofpaaGreatDoor
open Go.ChangeShapes Go.WideShapes Go.ChangeAt Go.RowKit Go.Joins

theorem Tryz.ownKnobNone : ownKnob Tryz.prog.godebug = none := by kernel_rfl
theorem Tryz.laidOutAll : laidOutB Tryz.prog = true := by kernel_rfl

/-- The number that a value is. -/
def intOf : Value → Int | .int _ x => x | _ => 0

set_option maxRecDepth 100000 in
theorem openInt {H : Type} {enc : TypeId × Value → H} {r : Reach} {b0 : Nat} {W : World} {sp : Nat → Bool} {v : Value} {d : DataW H} {p : List MemPlace}
    (hv : Value.okWide Tryz.prog W r b0 24 v) (h : DataW.Trod enc Tryz.prog W 0 sp true 24 v d p) : ∃ neg L, Lk W v neg L ∧ Dig B32 L := by
  obtain ⟨c0, c1, y0, y1, m, rfl, rfl, rfl, hy0, hy1⟩ := open_agg2 Tryz.underlying24 (by kernel_rfl) (by kernel_rfl) hv h
  obtain ⟨b, e0, _⟩ := DataW.trod_bool Tryz.underlying4 hy0
  simp at e0
  subst e0
  rcases Go.Deep.open_slice1 Tryz.underlying22 (by kernel_rfl) hy1 with ⟨e1, _⟩ | ⟨a, len, cap, k, n, V, D, Pl, e1, hb, hl, hm, hmm, _, hx⟩
  · simp at e1
    subst e1
    exact ⟨b, [], ⟨none, 0, rfl, Rd.nil _ _⟩, fun x hx => by cases hx⟩
  · simp at e1
    subst e1
    have hk : len ≤ k := by rw [hmm]; split <;> omega
    have hw : ∀ i, i < len → ∃ x, V i = .int .u32 x ∧ 0 ≤ x ∧ x < B32 ∧ W.cell? (a.add i) = some (.int .u32 x) := by
      intro i hi
      obtain ⟨hc, ht⟩ := hx i (by omega)
      obtain ⟨x, ex, _, hwf⟩ := DataW.trod_int Tryz.underlying53 ht
      simp at ex
      simp [Lit.wf, IntKind.min, IntKind.max, IntKind.signed, IntKind.bits] at hwf
      refine ⟨x, ex, by omega, by unfold B32; omega, by rw [hc, ex]⟩
    have hget : ∀ i, i < len → (((List.range len).map fun i => intOf (V i))[i]?.getD 0) = intOf (V i) := by
      intro i hi
      simp [hi]
    refine ⟨b, (List.range len).map fun i => intOf (V i), ⟨some a, cap, by simp, ?_⟩, ?_⟩
    · refine ⟨by simpa using hl, by unfold maxLen at hm; omega, fun hp => ?_, fun b off e i hi => ?_⟩
      · obtain ⟨x, _, _, _, hc⟩ := hw 0 (by simpa using hp)
        have hs := World.cell?_spot hc
        obtain ⟨ab, aoff, asp⟩ := a
        have : asp = none := by simpa [Addr.add] using hs
        exact ⟨ab, aoff, by rw [this]⟩
      · simp at hi
        obtain rfl := Option.some.inj e
        obtain ⟨x, ex, _, _, hc⟩ := hw i hi
        rw [hget i hi, ex]
        have ea : Addr.add ⟨b, off, none⟩ i = ⟨b, off + i, none⟩ := by
          by_cases h0 : i = 0 <;> simp [Addr.add, h0]
        rw [ea] at hc
        simpa [intOf] using hc
    · intro x hx
      obtain ⟨i, hi, rfl⟩ := List.mem_map.1 hx
      obtain ⟨y, ey, y0, y1, _⟩ := hw i (by simpa using hi)
      rw [ey]
      exact ⟨y0, y1⟩

/-- What lies below a bound reads as it did, whatever was made above it. -/
theorem allStays {H : Type} {enc : TypeId × Value → H} {P : Program} (hl : laidOutB P = true) {W W' : World} {sp' : Nat → Bool} : ∀ {ts : List TypeId} {vs : List Value} {ds : List (DataW H)} {ps : List MemPlace},
    (∀ t ∈ ts, P.readableRec t = true ∧ t < P.types.size) → DataW.TrodAll enc P W 0 (fun _ => true) true ts vs ds ps → (∀ p ∈ ps, W.sameAt W' p) → (∀ p ∈ ps, sp' p.block = true) → DataW.TrodAll enc P W' 0 sp' true ts vs ds ps
  | [], _, _, _, _, h, _, _ => by
    obtain ⟨rfl, rfl, rfl⟩ := trodAll_nil h
    exact trodAll_mk0
  | t :: ts, _, _, _, ht, h, hs, hp => by
    obtain ⟨v, vs1, d, ds1, a, b, rfl, rfl, rfl, h1, h2⟩ := trodAll_cons h
    refine ⟨a, b, ?_, ?_, rfl⟩
    · exact WideElems.Trod_stays hl (ht t (by simp)).1 (ht t (by simp)).2 h1 (fun p k => hs p (by simp [k])) (fun p k => hp p (by simp [k]))
    · exact allStays hl (fun u k => ht u (by simp [k])) h2 (fun p k => hs p (by simp [k])) (fun p k => hp p (by simp [k]))

/-- The last step of a row: the law returns true, its arguments read as they did. -/
theorem lawTrue {H : Type} {enc : TypeId × Value → H} {P : Program} {f : Func} {s : ChangeSpec} {apart fresh handsOn : Bool} {W W' : World} {args : Array Value} {ds gs : List (DataW H)} {before : List MemPlace} {tb : TypeId}
    (hl : laidOutB P = true) (hr : ∀ t ∈ f.params.toList, P.readableRec t = true ∧ t < P.types.size) (hv : s.vars = []) (hres : f.resultTypes = #[tb]) (hb : P.underlying tb = some .bool)
    (hfn : s.fn H (ds ++ gs) = { results := [.lit (.bool true)], args := ds })
    (hW : DataW.Whole enc P f.params.toList s.vars apart W args.toList ds gs before) (hlow : Below W.heap.size W W') :
    s.post enc P f apart fresh handsOn false W args (.bool true) W' := by
  have hW' := hW
  obtain ⟨p, q, hA, hV, hpq, _, _⟩ := hW
  rw [hv] at hV
  obtain ⟨rfl, rfl⟩ := trodVars_none hV
  have hlt := hW'.lt
  have e0 : before = p := by rw [hpq]; simp
  subst e0
  refine ⟨ds, [], before, [], before, [], hW', ?_, ?_, ?_, ?_, fun h => by cases h⟩
  · rw [hfn, hres]
    exact trodAll_mk1 (shut_bool hb _)
  · rw [hfn]
    exact allStays hl hr hA (fun p k => hlow.same (hlt p k)) (fun p k => by simpa using hlt p k)
  · rw [hfn, hv]
    rfl
  · exact World.keptBut_mono (fun p k => ⟨k, Or.inr (Or.inl k)⟩) (hlow.frame (· ∈ before))
end Go.Proofs.YtilpkocmdpofpaaGreatDoor

/- An api.Ratio argument of a law, opened. Written by gen_fieldrow.py. -/
namespace Go.Proofs.YtilpkocmdpofpaaGreatDoor
open Go.ChangeShapes Go.WideShapes Go.ChangeAt Go.RowKit Go.Joins

set_option maxRecDepth 100000 in
theorem openIntT {H : Type} {enc : TypeId × Value → H} {W : World} {sp : Nat → Bool} {c0 c1 : Value} {y : DataW H × List MemPlace} {fuel : Nat}
    (h : DataW.trod enc Tryz.prog W 0 sp true fuel 24 [c0, c1] = some y) : ∃ neg L, Lk W (.agg #[c0, c1]) neg L ∧ Dig B32 L := by
  obtain ⟨y0, y1, m, _, _, h0, h1⟩ := trod_struct2 Tryz.underlying24 h
  have k0 : Tryz.prog.cellsOf 4 = 1 := by kernel_rfl
  have k1 : Tryz.prog.cellsOf 22 = 1 := by kernel_rfl
  have hy0 : DataW.trod enc Tryz.prog W 0 sp true m 4 [c0] = some y0 := by simpa [k0] using h0
  have hy1 : DataW.trod enc Tryz.prog W 0 sp true m 22 [c1] = some y1 := by simpa [k1] using h1
  clear h0 h1
  obtain ⟨b, e0, _⟩ := DataW.trod_bool Tryz.underlying4 hy0
  simp at e0
  subst e0
  rcases Go.Deep.open_slice1 Tryz.underlying22 (by kernel_rfl) hy1 with ⟨e1, _⟩ | ⟨a, len, cap, k, n, V, D, Pl, e1, hb, hl, hm, hmm, _, hx⟩
  · simp at e1
    subst e1
    exact ⟨b, [], ⟨none, 0, rfl, Rd.nil _ _⟩, fun x hx => by cases hx⟩
  · simp at e1
    subst e1
    have hk : len ≤ k := by rw [hmm]; split <;> omega
    have hw : ∀ i, i < len → ∃ x, V i = .int .u32 x ∧ 0 ≤ x ∧ x < B32 ∧ W.cell? (a.add i) = some (.int .u32 x) := by
      intro i hi
      obtain ⟨hc, ht⟩ := hx i (by omega)
      obtain ⟨x, ex, _, hwf⟩ := DataW.trod_int Tryz.underlying53 ht
      simp at ex
      simp [Lit.wf, IntKind.min, IntKind.max, IntKind.signed, IntKind.bits] at hwf
      refine ⟨x, ex, by omega, by unfold B32; omega, by rw [hc, ex]⟩
    have hget : ∀ i, i < len → (((List.range len).map fun i => intOf (V i))[i]?.getD 0) = intOf (V i) := by
      intro i hi
      simp [hi]
    refine ⟨b, (List.range len).map fun i => intOf (V i), ⟨some a, cap, by simp, ?_⟩, ?_⟩
    · refine ⟨by simpa using hl, by unfold maxLen at hm; omega, fun hp => ?_, fun b off e i hi => ?_⟩
      · obtain ⟨x, _, _, _, hc⟩ := hw 0 (by simpa using hp)
        have hs := World.cell?_spot hc
        obtain ⟨ab, aoff, asp⟩ := a
        have : asp = none := by simpa [Addr.add] using hs
        exact ⟨ab, aoff, by rw [this]⟩
      · simp at hi
        obtain rfl := Option.some.inj e
        obtain ⟨x, ex, _, _, hc⟩ := hw i hi
        rw [hget i hi, ex]
        have ea : Addr.add ⟨b, off, none⟩ i = ⟨b, off + i, none⟩ := by
          by_cases h0 : i = 0 <;> simp [Addr.add, h0]
        rw [ea] at hc
        simpa [intOf] using hc
    · intro x hx
      obtain ⟨i, hi, rfl⟩ := List.mem_map.1 hx
      obtain ⟨y, ey, y0, y1, _⟩ := hw i (by simpa using hi)
      rw [ey]
      exact ⟨y0, y1⟩


set_option maxRecDepth 100000 in
theorem openRatio {H : Type} {enc : TypeId × Value → H} {r : Reach} {b0 : Nat} {W : World} {sp : Nat → Bool} {v : Value} {d : DataW H} {p : List MemPlace}
    (hv : Value.okWide Tryz.prog W r b0 26 v) (h : DataW.Trod enc Tryz.prog W 0 sp true 26 v d p) : ∃ c0 c1 c2 c3 na LA nb LB, v = .agg #[c0, c1, c2, c3] ∧ Lk W (.agg #[c0, c1]) na LA ∧ Dig B32 LA ∧ Lk W (.agg #[c2, c3]) nb LB ∧ Dig B32 LB := by
  obtain ⟨cs, rfl, hsz⟩ := okWide_struct Tryz.underlying26 hv
  obtain ⟨c0, c1, c2, c3, rfl⟩ := array4 (hsz.trans (show Tryz.prog.cellsOf 26 = 4 by kernel_rfl))
  obtain ⟨fuel, hf⟩ := h
  obtain ⟨y0, y1, n, _, _, h0, h1⟩ := trod_struct2 Tryz.underlying26 hf
  have k : Tryz.prog.cellsOf 24 = 2 := by kernel_rfl
  obtain ⟨na, LA, hA, dA⟩ := openIntT (enc := enc) (c0 := c0) (c1 := c1) (by simpa [k, Value.cells] using h0)
  obtain ⟨nb, LB, hB, dB⟩ := openIntT (enc := enc) (c0 := c2) (c1 := c3) (by simpa [k, Value.cells] using h1)
  exact ⟨c0, c1, c2, c3, na, LA, nb, LB, rfl, hA, dA, hB, dB⟩

/-- The four cells of a ratio whose words are these. -/
def Lr (w : World) (v : Value) (na : Bool) (LA : List Int) (nb : Bool) (LB : List Int) : Prop := ∃ ao ca bo cb, v = .agg #[.bool na, .slice ao LA.length ca, .bool nb, .slice bo LB.length cb] ∧ Rd w .u32 ao ca LA ∧ Rd w .u32 bo cb LB ∧ Dig B32 LA ∧ Dig B32 LB
set_option maxRecDepth 100000 in
theorem openLr {H : Type} {enc : TypeId × Value → H} {r : Reach} {b0 : Nat} {W : World} {sp : Nat → Bool} {v : Value} {d : DataW H} {p : List MemPlace}
    (hv : Value.okWide Tryz.prog W r b0 26 v) (h : DataW.Trod enc Tryz.prog W 0 sp true 26 v d p) : ∃ na LA nb LB, Lr W v na LA nb LB := by
  obtain ⟨c0, c1, c2, c3, na, LA, nb, LB, rfl, ⟨ao, ca, e1, hA⟩, dA, ⟨bo, cb, e2, hB⟩, dB⟩ := openRatio hv h
  simp only [Value.agg.injEq, Array.mk.injEq, List.cons.injEq, and_true] at e1 e2
  obtain ⟨rfl, rfl⟩ := e1
  obtain ⟨rfl, rfl⟩ := e2
  exact ⟨na, LA, nb, LB, ao, ca, bo, cb, rfl, hA, hB, dA, dB⟩
end Go.Proofs.YtilpkocmdpofpaaGreatDoor

/- A ratio argument whose words are known, as a value. -/
namespace Go.Proofs.YtilpkocmdpofpaaGreatDoor
open Go.RowKit

theorem rvOf (k : Nat) {w : World} {na nb : Bool} {ao bo : Option Addr} {ca cb : Nat} {LA LB : List Int} (hA : Rd w .u32 ao ca LA) (hB : Rd w .u32 bo cb LB) (dA : Dig B32 LA) (dB : Dig B32 LB) (h : ¬ (k : Int) < max (LA.length : Int) (LB.length : Int)) : Rv w (.agg #[.bool na, .slice ao LA.length ca, .bool nb, .slice bo LB.length cb]) (rn (sgn na (val B32 LA)) (sgn nb (val B32 LB))) (rd (sgn nb (val B32 LB))) k :=
  ⟨rd_pos _, sgn na (val B32 LA), sgn nb (val B32 LB), ⟨na, ao, LA.length, ca, nb, bo, LB.length, cb, rfl, ⟨na, ao, ca, LA, rfl, hA, dA, by omega, rfl⟩, ⟨nb, bo, cb, LB, rfl, hB, dB, by omega, rfl⟩⟩, rfl⟩
end Go.Proofs.YtilpkocmdpofpaaGreatDoor

/- The law ExactSimplest at any arguments. Written by gen_rowx.py. -/
namespace Go.Proofs.YtilpkocmdpofpaaGreatDoor
open Go.RowKit

set_option maxRecDepth 100000 in
set_option maxHeartbeats 1000000 in
theorem exactSimplest_long (a1 aa1 : Bool) (p1 pp1 : Option Addr) (l1 ll1 q1 qq1 : Nat) (a2 aa2 : Bool) (p2 pp2 : Option Addr) (l2 ll2 q2 qq2 : Nat) (a3 aa3 : Bool) (p3 pp3 : Option Addr) (l3 ll3 q3 qq3 : Nat) (w : World) (t1 t2 t3 : Int) (ht1 : max (l1 : Int) (ll1 : Int) = t1) (ht2 : max (l2 : Int) (ll2 : Int) = t2) (ht3 : max (l3 : Int) (ll3 : Int) = t3) (h : (6 < t1) ∨ (¬ 6 < t1 ∧ 6 < t2) ∨ (¬ 6 < t1 ∧ ¬ 6 < t2 ∧ 6 < t3)) :
    Calls Tryz.prog 8 #[.agg #[.bool a1, .slice p1 l1 q1, .bool aa1, .slice pp1 ll1 qq1], .agg #[.bool a2, .slice p2 l2 q2, .bool aa2, .slice pp2 ll2 qq2], .agg #[.bool a3, .slice p3 l3 q3, .bool aa3, .slice pp3 ll3 qq3]] w fun e w' => e = .returned (.bool true) ∧ Below w.heap.size w w' := by
  obtain ⟨W0, hW0⟩ : ∃ W0, W0 = (((w.alloc (.cells #[.bool a1, .slice p1 l1 q1, .bool aa1, .slice pp1 ll1 qq1] 26)).alloc (.cells #[.bool a2, .slice p2 l2 q2, .bool aa2, .slice pp2 ll2 qq2] 26)).alloc (.cells #[.bool a3, .slice p3 l3 q3, .bool aa3, .slice pp3 ll3 qq3] 26)) := ⟨_, rfl⟩
  have hB0 : Below w.heap.size w W0 := by rw [hW0]; exact (((Below.refl _ _).alloc (Nat.le_refl _) _).alloc (by simp <;> omega) _).alloc (by simp <;> omega) _
  have hz0 : W0.heap.size = w.heap.size + 3 := by rw [hW0]; simp
  have HS : Hid (∀ w', Below W0.heap.size W0 w' → w'.cell? ⟨w.heap.size, 0, none⟩ = some (.bool a1) ∧ w'.cell? ⟨w.heap.size, 1, none⟩ = some (.slice p1 l1 q1) ∧ w'.cell? ⟨w.heap.size, 2, none⟩ = some (.bool aa1) ∧ w'.cell? ⟨w.heap.size, 3, none⟩ = some (.slice pp1 ll1 qq1) ∧ w'.cell? ⟨w.heap.size + 1, 0, none⟩ = some (.bool a2) ∧ w'.cell? ⟨w.heap.size + 1, 1, none⟩ = some (.slice p2 l2 q2) ∧ w'.cell? ⟨w.heap.size + 1, 2, none⟩ = some (.bool aa2) ∧ w'.cell? ⟨w.heap.size + 1, 3, none⟩ = some (.slice pp2 ll2 qq2) ∧ w'.cell? ⟨w.heap.size + 2, 0, none⟩ = some (.bool a3) ∧ w'.cell? ⟨w.heap.size + 2, 1, none⟩ = some (.slice p3 l3 q3) ∧ w'.cell? ⟨w.heap.size + 2, 2, none⟩ = some (.bool aa3) ∧ w'.cell? ⟨w.heap.size + 2, 3, none⟩ = some (.slice pp3 ll3 qq3)) := hid (fun w' hb => by
    refine ⟨?_, ?_, ?_, ?_, ?_, ?_, ?_, ?_, ?_, ?_, ?_, ?_⟩ <;> (rw [hb.cell (by rw [hz0]; simp <;> omega), hW0]; simp [go_sem]))
  have HB0 := hid hB0; have HW := hid hW0; have T1 := hid ht1; have T2 := hid ht2; have T3 := hid ht3
  clear hW0 hB0 hz0 ht1 ht2 ht3
  rcases h with g1 | ⟨g1, g2⟩ | ⟨g1, g2, g3⟩
  · go_enter Tryz.func8, Tryz.ntmps8
    go_wp2_with fail
    rw [← HW.out]
    refine (alive_any _).mono ?_
    rintro e w0 ⟨rfl, hY0⟩
    obtain ⟨k0, k1, k2, k3, k4, k5, k6, k7, k8, k9, k10, k11⟩ := HS.out _ hY0
    go_wp2_with fail
    refine (wide_t _ _ _ _ _ _ _ _ t1 _ T1.out).mono ?_
    rintro e v0 ⟨rfl, hb0⟩
    have hYn0 := bl_tr hY0 hb0
    clear k0 k1 k2 k3 k4 k5 k6 k7 k8 k9 k10 k11 hb0
    obtain ⟨k0, k1, k2, k3, k4, k5, k6, k7, k8, k9, k10, k11⟩ := HS.out _ hYn0
    go_wp2
    go_ret
    exact ⟨rfl, HB0.out.trans (hYn0.mono HB0.out.size)⟩
  · go_enter Tryz.func8, Tryz.ntmps8
    go_wp2_with fail
    rw [← HW.out]
    refine (alive_any _).mono ?_
    rintro e w0 ⟨rfl, hY0⟩
    obtain ⟨k0, k1, k2, k3, k4, k5, k6, k7, k8, k9, k10, k11⟩ := HS.out _ hY0
    go_wp2_with fail
    refine (wide_t _ _ _ _ _ _ _ _ t1 _ T1.out).mono ?_
    rintro e v0 ⟨rfl, hb0⟩
    have hYn0 := bl_tr hY0 hb0
    clear k0 k1 k2 k3 k4 k5 k6 k7 k8 k9 k10 k11 hb0
    obtain ⟨k0, k1, k2, k3, k4, k5, k6, k7, k8, k9, k10, k11⟩ := HS.out _ hYn0
    go_wp2_with fail
    refine (wide_t _ _ _ _ _ _ _ _ t2 _ T2.out).mono ?_
    rintro e v1 ⟨rfl, hb1⟩
    have hYn1 := bl_tr hYn0 hb1
    clear k0 k1 k2 k3 k4 k5 k6 k7 k8 k9 k10 k11 hb1
    obtain ⟨k0, k1, k2, k3, k4, k5, k6, k7, k8, k9, k10, k11⟩ := HS.out _ hYn1
    go_wp2
    go_ret
    exact ⟨rfl, HB0.out.trans (hYn1.mono HB0.out.size)⟩
  · go_enter Tryz.func8, Tryz.ntmps8
    go_wp2_with fail
    rw [← HW.out]
    refine (alive_any _).mono ?_
    rintro e w0 ⟨rfl, hY0⟩
    obtain ⟨k0, k1, k2, k3, k4, k5, k6, k7, k8, k9, k10, k11⟩ := HS.out _ hY0
    go_wp2_with fail
    refine (wide_t _ _ _ _ _ _ _ _ t1 _ T1.out).mono ?_
    rintro e v0 ⟨rfl, hb0⟩
    have hYn0 := bl_tr hY0 hb0
    clear k0 k1 k2 k3 k4 k5 k6 k7 k8 k9 k10 k11 hb0
    obtain ⟨k0, k1, k2, k3, k4, k5, k6, k7, k8, k9, k10, k11⟩ := HS.out _ hYn0
    go_wp2_with fail
    refine (wide_t _ _ _ _ _ _ _ _ t2 _ T2.out).mono ?_
    rintro e v1 ⟨rfl, hb1⟩
    have hYn1 := bl_tr hYn0 hb1
    clear k0 k1 k2 k3 k4 k5 k6 k7 k8 k9 k10 k11 hb1
    obtain ⟨k0, k1, k2, k3, k4, k5, k6, k7, k8, k9, k10, k11⟩ := HS.out _ hYn1
    go_wp2_with fail
    refine (wide_t _ _ _ _ _ _ _ _ t3 _ T3.out).mono ?_
    rintro e v2 ⟨rfl, hb2⟩
    have hYn2 := bl_tr hYn1 hb2
    clear k0 k1 k2 k3 k4 k5 k6 k7 k8 k9 k10 k11 hb2
    obtain ⟨k0, k1, k2, k3, k4, k5, k6, k7, k8, k9, k10, k11⟩ := HS.out _ hYn2
    go_wp2
    go_ret
    exact ⟨rfl, HB0.out.trans (hYn2.mono HB0.out.size)⟩

theorem exactSimplest_any (nA nB : Bool) (A B : List Int) (nC nD : Bool) (C D : List Int) (nE nF : Bool) (E F : List Int) (w : World) (u0 u1 u2 : Value) (hu0 : Lr w u0 nA A nB B) (hu1 : Lr w u1 nC C nD D) (hu2 : Lr w u2 nE E nF F) :
    Calls Tryz.prog 8 #[u0, u1, u2] w fun e w' => e = .returned (.bool true) ∧ Below w.heap.size w w' := by
  obtain ⟨aoA, cA, aoB, cB, rfl, rA, rB, dA, dB⟩ := hu0
  obtain ⟨aoC, cC, aoD, cD, rfl, rC, rD, dC, dD⟩ := hu1
  obtain ⟨aoE, cE, aoF, cF, rfl, rE, rF, dE, dF⟩ := hu2
  by_cases h1 : (6 : Int) < max (A.length : Int) (B.length : Int)
  · exact exactSimplest_long _ _ _ _ _ _ _ _ _ _ _ _ _ _ _ _ _ _ _ _ _ _ _ _ w _ _ _ rfl rfl rfl  (Or.inl (h1))
  by_cases h2 : (6 : Int) < max (C.length : Int) (D.length : Int)
  · exact exactSimplest_long _ _ _ _ _ _ _ _ _ _ _ _ _ _ _ _ _ _ _ _ _ _ _ _ w _ _ _ rfl rfl rfl  (Or.inr (Or.inl (⟨h1, h2⟩)))
  by_cases h3 : (6 : Int) < max (E.length : Int) (F.length : Int)
  · exact exactSimplest_long _ _ _ _ _ _ _ _ _ _ _ _ _ _ _ _ _ _ _ _ _ _ _ _ w _ _ _ rfl rfl rfl  (Or.inr (Or.inr (⟨h1, h2, h3⟩)))
  exact exactSimplest_walk _ _ _ _ _ _ _ _ _ _ _ _ _ _ _ _ _ _ _ _ _ _ _ _ _ _ _ _ _ _ w (rvOf 6 rA rB dA dB h1) (rvOf 6 rC rD dC dD h2) (rvOf 6 rE rF dE dF h3) _ _ _ rfl rfl rfl h1 h2 h3
end Go.Proofs.YtilpkocmdpofpaaGreatDoor

/- A world for the rows' witnesses: the listed tables hold what they are said to hold. -/
namespace Go.Proofs.YtilpkocmdpofpaaGreatDoor

/-- A number of a table as a value; a table's cells. -/
def litVal : Lit → Value | .int k x => .int k x | .bool b => .bool b | _ => undef
def datVal : DataW Unit → Value | .lit l => litVal l | _ => undef
def datCells : DataW Unit → Array Value | .agg l => (l.map datVal).toArray | _ => #[]
def laidAt (W : Array Obj) (b : Nat) (d : DataW Unit) : Array Obj := W.modify b fun
  | .cells _ t frozen => .cells (datCells d) t frozen
  | o => o
noncomputable def laidWorld (os : Os) : World :=
  { World.holding Tryz.prog os ⟨#[], #[], []⟩ with heap := laidAt (laidAt (laidAt (World.holding Tryz.prog os ⟨#[], #[], []⟩).heap 2 Rows.laid_internal_strconv_uint64pow10) 4 Rows.laid_math_bits_deBruijn32tab) 5 Rows.laid_math_bits_deBruijn64tab }
/-- Three integers that are 0. -/
def zero3 : Array Value := #[.agg #[.bool false, .slice none 0 0], .agg #[.bool false, .slice none 0 0], .agg #[.bool false, .slice none 0 0]]
end Go.Proofs.YtilpkocmdpofpaaGreatDoor

/- The statement ExactSimplest and its card: whatever the arguments are, the law returns true, and they read behind the call as they read before. Written by gen_rowx.py. -/
namespace Go.Proofs.YtilpkocmdpofpaaGreatDoor
open Go.ChangeShapes Go.WideShapes Go.ChangeAt Go.RowKit Go.Joins

/-- Arguments of zeros. -/
def zeroExactSimplest : Array Value := #[.agg #[.bool false, .slice none 0 0, .bool false, .slice none 0 0], .agg #[.bool false, .slice none 0 0, .bool false, .slice none 0 0], .agg #[.bool false, .slice none 0 0, .bool false, .slice none 0 0]]
set_option maxRecDepth 100000 in
theorem exactSimplest_laid (os : Os) : laidMet Tryz.prog Rows.exactSimplestRow.laid ((laidWorld os).forCall (fun _ _ => 0) ⟨#[], zeroExactSimplest, []⟩).memory :=
  laidMet_of_run' 8 (by kernel_rfl) (by kernel_rfl)

set_option maxRecDepth 100000 in
theorem exactSimplest_lifted (os : Os) (started : os.Started) (H : Type) (enc : TypeId × Value → H) (F : Stop.Interp) :
    ReturnsInHanded {} Tryz.checked os 8 .any ((OpenSpec.ofChange Rows.exactSimplestSpec).preRow enc Tryz.prog Tryz.f8 Rows.exactSimplestRow.domain false Rows.exactSimplestRow.laid) (((OpenSpec.ofChange Rows.exactSimplestSpec).at F).post enc Tryz.prog Tryz.f8 false true false false) := by
  obtain ⟨x, hx⟩ := Option.isSome_iff_exists.1 (show (DataW.whole enc Tryz.prog ((laidWorld os).forCall (fun _ _ => 0) ⟨#[], zeroExactSimplest, []⟩).memory Tryz.f8.params.toList Rows.exactSimplestSpec.vars false zeroExactSimplest.toList 8).isSome = true by kernel_rfl)
  refine returnsInHanded_of_row (C := Tryz.checked) (s := OpenSpec.ofChange Rows.exactSimplestSpec) Tryz.ownKnobNone started (by kernel_rfl) Tryz.func8
    (witness_row_at (enc := enc) (C := Tryz.checked) false (laidWorld os) zeroExactSimplest rfl (by kernel_rfl) (by kernel_rfl) (by kernel_rfl)
      (OpenSpec.preRow_of_cond 8 hx (by kernel_rfl) (fun k hk => by cases hk) (by kernel_rfl) (exactSimplest_laid os))) ?_
  intro W base args ds gs before hval0 hW _ _ _ _ _ _
  have hval : ∀ (j : Nat) t v, Tryz.f8.params[j]? = some t → args[j]? = some v → Value.okWide Tryz.prog W .any base t v := hval0
  have hW' := hW
  obtain ⟨p, q, hA0, hV, rfl, hfz, hnd⟩ := hW
  have hA : DataW.TrodAll enc Tryz.prog W 0 (fun _ => true) true Tryz.f8.params.toList args.toList ds p := hA0
  rw [Tryz.params8] at hA hval
  obtain ⟨v0, v1, v2, d0, d1, d2, p0, p1, p2, rfl, rfl, rfl, h0, h1, h2⟩ := trodAll_three hA
  obtain ⟨rfl, rfl⟩ := trodVars_none hV
  obtain ⟨nA, A', nB, B', hu0⟩ := openLr (hval 0 26 v0 rfl rfl) h0
  obtain ⟨nC, C', nD, D', hu1⟩ := openLr (hval 1 26 v1 rfl rfl) h1
  obtain ⟨nE, E', nF, F', hu2⟩ := openLr (hval 2 26 v2 rfl rfl) h2
  clear hA0 hval0
  refine (exactSimplest_any _ _ _ _ _ _ _ _ _ _ _ _ W _ _ _ hu0 hu1 hu2).mono fun e W' ⟨he, hw⟩ => ?_
  subst he
  exact ⟨_, rfl, lawTrue (tb := 4) Tryz.laidOutAll (of_decide_eq_true (by kernel_rfl)) rfl rfl Tryz.underlying4 rfl hW' hw⟩

theorem exactSimplest_said : Rows.ExactSimplestSaid :=
  OpenClaim.holds_of_cond 8 Tryz.f8 rfl rfl rfl rfl rfl rfl rfl ⟨rfl, rfl, rfl, rfl, rfl⟩ rfl rfl rfl rfl rfl (by kernel_rfl) Tryz.func8 (by kernel_rfl)
    (of_decide_eq_true (by kernel_rfl)) (by unfold Func.isWrapper; first | (rw [if_pos (by decide +kernel)]; kernel_rfl) | (rw [if_neg (by decide +kernel)]; exact ⟨rfl, rfl⟩))
    (fun os started H enc _ F => by rw [OpenClaim.pre_eq_preRow]; exact exactSimplest_lifted os started H enc F)

theorem exactSimplest_plain (f : FuncId) (fn : Func) (hf : Tryz.pinned.checked.prog.funcNamed "hodoscope/hodoscopelaw01.ExactSimplest" = some f) (hfn : Tryz.pinned.checked.prog.funcs[f]? = some fn) :
    false = Tryz.pinned.checked.prog.looks [] ∧ ∀ (j : Nat) t, fn.params[j]? = some t → Tryz.pinned.checked.prog.wantsStandIn t = false := by
  obtain rfl : f = 8 := Option.some.inj ((show Tryz.prog.funcNamed "hodoscope/hodoscopelaw01.ExactSimplest" = some 8 by kernel_rfl).symm.trans hf) |>.symm
  obtain rfl : fn = Tryz.f8 := (Option.some.inj (Tryz.func8.symm.trans hfn)).symm
  refine ⟨by kernel_rfl, fun j t ht => ?_⟩
  rw [Tryz.params8] at ht
  obtain rfl : t = 26 := by simpa using Array.mem_of_getElem? ht
  exact (show Tryz.prog.wantsStandIn 26 = false by kernel_rfl)

theorem exactSimplest_card : Rows.ExactSimplestCardSaid :=
  Claim7.holds_tied_plain_at .later [] _ _ _ _ exactSimplest_said (fun _ h => by cases h) (by kernel_rfl) (fun _ h => by cases h) exactSimplest_row_tie rfl ⟨rfl, rfl⟩ (by kernel_rfl) rfl exactSimplest_plain (by kernel_rfl)
#print axioms exactSimplest_card
end Go.Proofs.YtilpkocmdpofpaaGreatDoor
