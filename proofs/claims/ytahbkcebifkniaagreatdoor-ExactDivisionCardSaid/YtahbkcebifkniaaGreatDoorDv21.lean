/- The statement ExactDivision and its card: whatever the three integers are, the law returns true, and they read behind the call as they read before. Written by gen_ringrow.py. -/
import Derived.Test.YtahbkcebifkniaaGreatDoorDv13
import Derived.ProofKit
import Derived.Below
import Derived.Lib.SmallJoins
import Derived.Deep.Slices
import Derived.Test.YtahbkcebifkniaaGreatDoorDv20
import Derived.Test.YtahbkcebifkniaaGreatDoorCards
import Derived.Test.YtahbkcebifkniaaGreatDoorTie
import Derived.Lib.LaidTab
import Derived.OpenShut
import Derived.Deep.DeepHandedRow
import Derived.SevenTiedAt
/- The document's own integers: SameInt, LikeInt; the law's spoil. -/
namespace Go.Proofs.YtahbkcebifkniaaGreatDoor
open Go.RowKit

/-- The value v (an api.Int) has these words. -/
def Lk (w : World) (v : Value) (neg : Bool) (W : List Int) : Prop := ∃ ao c, v = .agg #[.bool neg, .slice ao W.length c] ∧ Rd w .u32 ao c W

/-- Words that may be written over: they lie in blocks from B on. -/
def Sp (w : World) (B : Nat) (v : Value) : Prop := ∃ b ao n c, v = .agg #[.bool b, .slice ao n c] ∧ n ≤ 1073741824 ∧ n ≤ c ∧ c ≤ 9223372036854775807 ∧ (0 < n → ∃ g off, ao = some ⟨g, off, none⟩ ∧ B ≤ g ∧ ∀ i, i < n → (∃ x, 0 ≤ x ∧ x < 4294967296 ∧ w.cell? ⟨g, off + i, none⟩ = some (.int .u32 x)) ∧ w.frozen? ⟨g, off + i, none⟩ = false)
/-- What a spoilt world keeps. -/
structure Spd (B : Nat) (w w' : World) : Prop where
  low : Below B w w'
  siz : w.heap.size ≤ w'.heap.size
  cel : ∀ a v, w.cell? a = some v → (∀ x, v ≠ .int .u32 x) → w'.cell? a = some v
  u32 : ∀ a x, w.cell? a = some (.int .u32 x) → 0 ≤ x → x < 4294967296 → ∃ y, 0 ≤ y ∧ y < 4294967296 ∧ w'.cell? a = some (.int .u32 y)
  frz : ∀ a, a.block < w.heap.size → w'.frozen? a = w.frozen? a
theorem Spd.refl (B : Nat) (w : World) : Spd B w w := ⟨Below.refl _ _, Nat.le_refl _, fun _ _ h _ => h, fun _ x h h0 h1 => ⟨x, h0, h1, h⟩, fun _ _ => rfl⟩
theorem Spd.trans {B : Nat} {a b c : World} (h : Spd B a b) (g : Spd B b c) : Spd B a c :=
  ⟨h.low.trans g.low, Nat.le_trans h.siz g.siz, fun p _ e hn => g.cel p _ (h.cel p _ e hn) hn, fun p x e h0 h1 => by obtain ⟨y, y0, y1, e'⟩ := h.u32 p x e h0 h1; exact g.u32 p y e' y0 y1, fun p hp => (g.frz p (Nat.lt_of_lt_of_le hp h.siz)).trans (h.frz p hp)⟩
theorem Spd.of_below {B : Nat} {w w' : World} (hb : Below w.heap.size w w') (hB : B ≤ w.heap.size) : Spd B w w' :=
  ⟨hb.mono hB, hb.size, fun a _ e _ => (hb.cell (World.block_lt_of_cell? w a e)).trans e, fun a x e h0 h1 => ⟨x, h0, h1, (hb.cell (World.block_lt_of_cell? w a e)).trans e⟩, fun _ ha => hb.frozen ha⟩
theorem Spd.drewN {B : Nat} {w w' : World} (h : Spd B w w') (n : Nat) : Spd B w (w'.drewN n) := ⟨below_drewN h.low n, h.siz, h.cel, h.u32, h.frz⟩
theorem Spd.set {B : Nat} {w w' : World} (h : Spd B w w') {a : Addr} (ha : B ≤ a.block) {x y : Int} (hx : w'.cell? a = some (.int .u32 x)) (y0 : 0 ≤ y) (y1 : y < 4294967296) : Spd B w (w'.setCell a (.int .u32 y)) := by
  refine ⟨h.low.setCell ha _, by simpa using h.siz, fun p _ e hn => ?_, fun p z e h0 h1 => ?_, fun p hp => ?_⟩
  · have e' := h.cel p _ e hn
    have hne : a ≠ p := by rintro rfl; rw [hx] at e'; exact hn x (Option.some.inj e').symm
    exact (World.cell?_setCell_other w' a _ _ hne).trans e'
  · obtain ⟨u, u0, u1, e'⟩ := h.u32 p z e h0 h1
    by_cases hne : a = p
    · subst hne
      exact ⟨y, y0, y1, World.cell?_setCell_same w' a _ hx⟩
    · exact ⟨u, u0, u1, (World.cell?_setCell_other w' a _ _ hne).trans e'⟩
  · rw [World.frozen?_setCell]; exact h.frz p hp

theorem bits_xor_u32 (x y : Int) : ∃ z, 0 ≤ z ∧ z < 4294967296 ∧ bits .xor .u32 x y = z := by
  refine ⟨bits .xor .u32 x y, ?_, ?_, rfl⟩
  · show 0 ≤ IntKind.u32.wrap ((BitVec.ofInt 32 x ^^^ BitVec.ofInt 32 y).toNat : Int)
    rw [IntKind.wrap_u32]; exact Int.emod_nonneg _ (by decide)
  · show IntKind.u32.wrap ((BitVec.ofInt 32 x ^^^ BitVec.ofInt 32 y).toNat : Int) < 4294967296
    rw [IntKind.wrap_u32]; exact Int.emod_lt_of_pos _ (by decide)

end Go.Proofs.YtahbkcebifkniaaGreatDoor

/- How the arguments of the laws are opened (an api.Int reads as its sign and its list of words), and the last step of a row whose law returns true and leaves all that was there before. -/
namespace Go.Proofs.YtahbkcebifkniaaGreatDoor
open Go.ChangeShapes Go.WideShapes Go.ChangeAt Go.RowKit Go.Joins

theorem Tryz.ownKnobNone : ownKnob Tryz.prog.godebug = none := by kernel_rfl
theorem Tryz.laidOutAll : laidOutB Tryz.prog = true := by kernel_rfl

/-- The number that a value is. -/
def intOf : Value → Int | .int _ x => x | _ => 0

set_option maxRecDepth 100000 in
theorem openInt {H : Type} {enc : TypeId × Value → H} {r : Reach} {b0 : Nat} {W : World} {sp : Nat → Bool} {v : Value} {d : DataW H} {p : List MemPlace}
    (hv : Value.okWide Tryz.prog W r b0 24 v) (h : DataW.Trod enc Tryz.prog W 0 sp true 24 v d p) : ∃ neg L, Lk W v neg L ∧ Dig B32 L := by
  obtain ⟨c0, c1, y0, y1, m, rfl, rfl, rfl, hy0, hy1⟩ := open_agg2 Tryz.underlying24 (by kernel_rfl) (by kernel_rfl) hv h
  obtain ⟨b, e0, _⟩ := DataW.trod_bool Tryz.underlying4 hy0
  simp at e0
  subst e0
  rcases Go.Deep.open_slice1 Tryz.underlying22 (by kernel_rfl) hy1 with ⟨e1, _⟩ | ⟨a, len, cap, k, n, V, D, Pl, e1, hb, hl, hm, hmm, _, hx⟩
  · simp at e1
    subst e1
    exact ⟨b, [], ⟨none, 0, rfl, Rd.nil _ _⟩, fun x hx => by cases hx⟩
  · simp at e1
    subst e1
    have hk : len ≤ k := by rw [hmm]; split <;> omega
    have hw : ∀ i, i < len → ∃ x, V i = .int .u32 x ∧ 0 ≤ x ∧ x < B32 ∧ W.cell? (a.add i) = some (.int .u32 x) := by
      intro i hi
      obtain ⟨hc, ht⟩ := hx i (by omega)
      obtain ⟨x, ex, _, hwf⟩ := DataW.trod_int Tryz.underlying94 ht
      simp at ex
      simp [Lit.wf, IntKind.min, IntKind.max, IntKind.signed, IntKind.bits] at hwf
      refine ⟨x, ex, by omega, by unfold B32; omega, by rw [hc, ex]⟩
    have hget : ∀ i, i < len → (((List.range len).map fun i => intOf (V i))[i]?.getD 0) = intOf (V i) := by
      intro i hi
      simp [hi]
    refine ⟨b, (List.range len).map fun i => intOf (V i), ⟨some a, cap, by simp, ?_⟩, ?_⟩
    · refine ⟨by simpa using hl, by unfold maxLen at hm; omega, fun hp => ?_, fun b off e i hi => ?_⟩
      · obtain ⟨x, _, _, _, hc⟩ := hw 0 (by simpa using hp)
        have hs := World.cell?_spot hc
        obtain ⟨ab, aoff, asp⟩ := a
        have : asp = none := by simpa [Addr.add] using hs
        exact ⟨ab, aoff, by rw [this]⟩
      · simp at hi
        obtain rfl := Option.some.inj e
        obtain ⟨x, ex, _, _, hc⟩ := hw i hi
        rw [hget i hi, ex]
        have ea : Addr.add ⟨b, off, none⟩ i = ⟨b, off + i, none⟩ := by
          by_cases h0 : i = 0 <;> simp [Addr.add, h0]
        rw [ea] at hc
        simpa [intOf] using hc
    · intro x hx
      obtain ⟨i, hi, rfl⟩ := List.mem_map.1 hx
      obtain ⟨y, ey, y0, y1, _⟩ := hw i (by simpa using hi)
      rw [ey]
      exact ⟨y0, y1⟩

/-- What lies below a bound reads as it did, whatever was made above it. -/
theorem allStays {H : Type} {enc : TypeId × Value → H} {P : Program} (hl : laidOutB P = true) {W W' : World} {sp' : Nat → Bool} : ∀ {ts : List TypeId} {vs : List Value} {ds : List (DataW H)} {ps : List MemPlace},
    (∀ t ∈ ts, P.readableRec t = true ∧ t < P.types.size) → DataW.TrodAll enc P W 0 (fun _ => true) true ts vs ds ps → (∀ p ∈ ps, W.sameAt W' p) → (∀ p ∈ ps, sp' p.block = true) → DataW.TrodAll enc P W' 0 sp' true ts vs ds ps
  | [], _, _, _, _, h, _, _ => by
    obtain ⟨rfl, rfl, rfl⟩ := trodAll_nil h
    exact trodAll_mk0
  | t :: ts, _, _, _, ht, h, hs, hp => by
    obtain ⟨v, vs1, d, ds1, a, b, rfl, rfl, rfl, h1, h2⟩ := trodAll_cons h
    refine ⟨a, b, ?_, ?_, rfl⟩
    · exact WideElems.Trod_stays hl (ht t (by simp)).1 (ht t (by simp)).2 h1 (fun p k => hs p (by simp [k])) (fun p k => hp p (by simp [k]))
    · exact allStays hl (fun u k => ht u (by simp [k])) h2 (fun p k => hs p (by simp [k])) (fun p k => hp p (by simp [k]))

/-- The last step of a row: the law returns true, its arguments read as they did. -/
theorem lawTrue {H : Type} {enc : TypeId × Value → H} {P : Program} {f : Func} {s : ChangeSpec} {apart fresh handsOn : Bool} {W W' : World} {args : Array Value} {ds gs : List (DataW H)} {before : List MemPlace} {tb : TypeId}
    (hl : laidOutB P = true) (hr : ∀ t ∈ f.params.toList, P.readableRec t = true ∧ t < P.types.size) (hv : s.vars = []) (hres : f.resultTypes = #[tb]) (hb : P.underlying tb = some .bool)
    (hfn : s.fn H (ds ++ gs) = { results := [.lit (.bool true)], args := ds })
    (hW : DataW.Whole enc P f.params.toList s.vars apart W args.toList ds gs before) (hlow : Below W.heap.size W W') :
    s.post enc P f apart fresh handsOn false W args (.bool true) W' := by
  have hW' := hW
  obtain ⟨p, q, hA, hV, hpq, _, _⟩ := hW
  rw [hv] at hV
  obtain ⟨rfl, rfl⟩ := trodVars_none hV
  have hlt := hW'.lt
  have e0 : before = p := by rw [hpq]; simp
  subst e0
  refine ⟨ds, [], before, [], before, [], hW', ?_, ?_, ?_, ?_, fun h => by cases h⟩
  · rw [hfn, hres]
    exact trodAll_mk1 (shut_bool hb _)
  · rw [hfn]
    exact allStays hl hr hA (fun p k => hlow.same (hlt p k)) (fun p k => by simpa using hlt p k)
  · rw [hfn, hv]
    rfl
  · exact World.keptBut_mono (fun p k => ⟨k, Or.inr (Or.inl k)⟩) (hlow.frame (· ∈ before))
end Go.Proofs.YtahbkcebifkniaaGreatDoor

/- The law ExactDivision at any three arguments. Written by gen_ringrow.py. -/
namespace Go.Proofs.YtahbkcebifkniaaGreatDoor
open Go.RowKit

set_option maxRecDepth 100000 in
set_option maxHeartbeats 1000000 in
theorem exactDivision_long (na nb nc : Bool) (ao bo co : Option Addr) (n m l ca cb cc : Nat) (w : World) (h : 16 < n ∨ (n ≤ 16 ∧ 16 < m) ∨ (n ≤ 16 ∧ m ≤ 16 ∧ 16 < l)) :
    Calls Tryz.prog 4 #[.agg #[.bool na, .slice ao n ca], .agg #[.bool nb, .slice bo m cb], .agg #[.bool nc, .slice co l cc]] w fun e w' => e = .returned (.bool true) ∧ Below w.heap.size w w' := by
  obtain ⟨W0, hW0⟩ : ∃ W0, W0 = (((w.alloc (.cells #[.bool na, .slice ao n ca] 24)).alloc (.cells #[.bool nb, .slice bo m cb] 24)).alloc (.cells #[.bool nc, .slice co l cc] 24)) := ⟨_, rfl⟩
  have hB0 : Below w.heap.size w W0 := by rw [hW0]; exact (((Below.refl _ _).alloc (Nat.le_refl _) _).alloc (by simp) _).alloc (by simp <;> omega) _
  have hz0 : W0.heap.size = w.heap.size + 3 := by rw [hW0]; simp
  have HS : Hid (∀ w', Below W0.heap.size W0 w' → w'.cell? ⟨w.heap.size, 0, none⟩ = some (.bool na) ∧ w'.cell? ⟨w.heap.size, 1, none⟩ = some (.slice ao n ca) ∧ w'.cell? ⟨w.heap.size + 1, 0, none⟩ = some (.bool nb) ∧ w'.cell? ⟨w.heap.size + 1, 1, none⟩ = some (.slice bo m cb) ∧ w'.cell? ⟨w.heap.size + 2, 0, none⟩ = some (.bool nc) ∧ w'.cell? ⟨w.heap.size + 2, 1, none⟩ = some (.slice co l cc)) := hid (fun w' hb => by
    refine ⟨?_, ?_, ?_, ?_, ?_, ?_⟩ <;> (rw [hb.cell (by rw [hz0]; simp <;> omega), hW0]; simp [go_sem]))
  have HB0 := hid hB0; have HW := hid hW0
  clear hW0 hB0 hz0
  rcases h with h | ⟨h1, h⟩ | ⟨h1, h2, h⟩
  · have g1 : (16 : Int) < (n : Int) := by omega
    clear h
    go_enter Tryz.func4, Tryz.ntmps4
    go_wp2_with fail
    rw [← HW.out]
    refine (alive_any _).mono ?_
    rintro e w0 ⟨rfl, hX0⟩
    obtain ⟨k0, k1, k2, k3, k4, k5⟩ := HS.out _ hX0
    go_wp2
    go_ret
    exact ⟨rfl, HB0.out.trans (hX0.mono HB0.out.size)⟩
  · have g1 : ¬ (16 : Int) < (n : Int) := by omega
    have g2 : (16 : Int) < (m : Int) := by omega
    clear h h1
    go_enter Tryz.func4, Tryz.ntmps4
    go_wp2_with fail
    rw [← HW.out]
    refine (alive_any _).mono ?_
    rintro e w0 ⟨rfl, hX0⟩
    obtain ⟨k0, k1, k2, k3, k4, k5⟩ := HS.out _ hX0
    go_wp2
    go_ret
    exact ⟨rfl, HB0.out.trans (hX0.mono HB0.out.size)⟩
  · have g1 : ¬ (16 : Int) < (n : Int) := by omega
    have g2 : ¬ (16 : Int) < (m : Int) := by omega
    have g3 : (16 : Int) < (l : Int) := by omega
    clear h h1 h2
    go_enter Tryz.func4, Tryz.ntmps4
    go_wp2_with fail
    rw [← HW.out]
    refine (alive_any _).mono ?_
    rintro e w0 ⟨rfl, hX0⟩
    obtain ⟨k0, k1, k2, k3, k4, k5⟩ := HS.out _ hX0
    go_wp2
    go_ret
    exact ⟨rfl, HB0.out.trans (hX0.mono HB0.out.size)⟩

theorem exactDivision_any (u v t : Value) (na nb nc : Bool) (WA WB WC : List Int) (w : World) (hu : Lk w u na WA) (hv : Lk w v nb WB) (ht : Lk w t nc WC) (dA : Dig B32 WA) (dB : Dig B32 WB) (dC : Dig B32 WC) :
    Calls Tryz.prog 4 #[u, v, t] w fun e w' => e = .returned (.bool true) ∧ Below w.heap.size w w' := by
  obtain ⟨ao, ca, rfl, ra⟩ := hu
  obtain ⟨bo, cb, rfl, rb⟩ := hv
  obtain ⟨co, cc, rfl, rc⟩ := ht
  by_cases hA : WA.length ≤ 16
  · by_cases hB : WB.length ≤ 16
    · by_cases hC : WC.length ≤ 16
      · exact exactDivision_walk na nb nc ao bo co _ _ _ ca cb cc (sgn na (val B32 WA)) (sgn nb (val B32 WB)) (sgn nc (val B32 WC)) w ⟨na, ao, ca, WA, rfl, ra, dA, hA, rfl⟩ ⟨nb, bo, cb, WB, rfl, rb, dB, hB, rfl⟩ ⟨nc, co, cc, WC, rfl, rc, dC, hC, rfl⟩ hA hB hC
      · exact exactDivision_long na nb nc ao bo co _ _ _ ca cb cc w (Or.inr (Or.inr ⟨hA, hB, by omega⟩))
    · exact exactDivision_long na nb nc ao bo co _ _ _ ca cb cc w (Or.inr (Or.inl ⟨hA, by omega⟩))
  · exact exactDivision_long na nb nc ao bo co _ _ _ ca cb cc w (Or.inl (by omega))
end Go.Proofs.YtahbkcebifkniaaGreatDoor

/- A world for the rows' witnesses: the listed tables hold what they are said to hold. -/
namespace Go.Proofs.YtahbkcebifkniaaGreatDoor

/-- A number of a table as a value; a table's cells. -/
def litVal : Lit → Value | .int k x => .int k x | .bool b => .bool b | _ => undef
def datVal : DataW Unit → Value | .lit l => litVal l | _ => undef
def datCells : DataW Unit → Array Value | .agg l => (l.map datVal).toArray | _ => #[]
def laidAt (W : Array Obj) (b : Nat) (d : DataW Unit) : Array Obj := W.modify b fun
  | .cells _ t frozen => .cells (datCells d) t frozen
  | o => o
noncomputable def laidWorld (os : Os) : World :=
  { World.holding Tryz.prog os ⟨#[], #[], []⟩ with heap := laidAt (laidAt (laidAt (World.holding Tryz.prog os ⟨#[], #[], []⟩).heap 2 Rows.laid_internal_strconv_uint64pow10) 3 Rows.laid_math_bits_deBruijn32tab) 4 Rows.laid_math_bits_deBruijn64tab }
/-- Three integers that are 0. -/
def zero3 : Array Value := #[.agg #[.bool false, .slice none 0 0], .agg #[.bool false, .slice none 0 0], .agg #[.bool false, .slice none 0 0]]
end Go.Proofs.YtahbkcebifkniaaGreatDoor

/- The statement ExactDivision and its card: whatever the three integers are, the law returns true, and they read behind the call as they read before. Written by gen_ringrow.py. -/
namespace Go.Proofs.YtahbkcebifkniaaGreatDoor
open Go.ChangeShapes Go.WideShapes Go.ChangeAt Go.RowKit Go.Joins

set_option maxRecDepth 100000 in
theorem exactDivision_laid (os : Os) : laidMet Tryz.prog Rows.exactDivisionRow.laid ((laidWorld os).forCall (fun _ _ => 0) ⟨#[], zero3, []⟩).memory :=
  laidMet_of_run' 8 (by kernel_rfl) (by kernel_rfl)

set_option maxRecDepth 100000 in
theorem exactDivision_lifted (os : Os) (started : os.Started) (H : Type) (enc : TypeId × Value → H) (F : Stop.Interp) :
    ReturnsInHanded {} Tryz.checked os 4 .any ((OpenSpec.ofChange Rows.exactDivisionSpec).preRow enc Tryz.prog Tryz.f4 Rows.exactDivisionRow.domain false Rows.exactDivisionRow.laid) (((OpenSpec.ofChange Rows.exactDivisionSpec).at F).post enc Tryz.prog Tryz.f4 false true false false) := by
  obtain ⟨x, hx⟩ := Option.isSome_iff_exists.1 (show (DataW.whole enc Tryz.prog ((laidWorld os).forCall (fun _ _ => 0) ⟨#[], zero3, []⟩).memory Tryz.f4.params.toList Rows.exactDivisionSpec.vars false zero3.toList 8).isSome = true by kernel_rfl)
  refine returnsInHanded_of_row (C := Tryz.checked) (s := OpenSpec.ofChange Rows.exactDivisionSpec) Tryz.ownKnobNone started (by kernel_rfl) Tryz.func4
    (witness_row_at (enc := enc) (C := Tryz.checked) false (laidWorld os) zero3 rfl (by kernel_rfl) (by kernel_rfl) (by kernel_rfl)
      (OpenSpec.preRow_of_cond 8 hx (by kernel_rfl) (fun k hk => by cases hk) (by kernel_rfl) (exactDivision_laid os))) ?_
  intro W base args ds gs before hval0 hW _ _ _ _ _ _
  have hval : ∀ (j : Nat) t v, Tryz.f4.params[j]? = some t → args[j]? = some v → Value.okWide Tryz.prog W .any base t v := hval0
  have hW' := hW
  obtain ⟨p, q, hA0, hV, rfl, hfz, hnd⟩ := hW
  have hA : DataW.TrodAll enc Tryz.prog W 0 (fun _ => true) true Tryz.f4.params.toList args.toList ds p := hA0
  rw [Tryz.params4] at hA hval
  obtain ⟨v0, v1, v2, d0, d1, d2, p0, p1, p2, rfl, rfl, rfl, h0, h1, h2⟩ := trodAll_three hA
  obtain ⟨rfl, rfl⟩ := trodVars_none hV
  obtain ⟨na, WA, hu, dA⟩ := openInt (hval 0 24 v0 rfl rfl) h0
  obtain ⟨nb, WB, hv, dB⟩ := openInt (hval 1 24 v1 rfl rfl) h1
  obtain ⟨nc, WC, ht, dC⟩ := openInt (hval 2 24 v2 rfl rfl) h2
  clear hA0 hval0
  refine (exactDivision_any v0 v1 v2 na nb nc WA WB WC W hu hv ht dA dB dC).mono fun e W' ⟨he, hw⟩ => ?_
  subst he
  exact ⟨_, rfl, lawTrue (tb := 4) Tryz.laidOutAll (of_decide_eq_true (by kernel_rfl)) rfl rfl Tryz.underlying4 rfl hW' hw⟩

theorem exactDivision_said : Rows.ExactDivisionSaid :=
  OpenClaim.holds_of_cond 4 Tryz.f4 rfl rfl rfl rfl rfl rfl rfl ⟨rfl, rfl, rfl, rfl, rfl⟩ rfl rfl rfl rfl rfl (by kernel_rfl) Tryz.func4 (by kernel_rfl)
    (of_decide_eq_true (by kernel_rfl)) (by unfold Func.isWrapper; first | (rw [if_pos (by decide +kernel)]; kernel_rfl) | (rw [if_neg (by decide +kernel)]; exact ⟨rfl, rfl⟩))
    (fun os started H enc _ F => by rw [OpenClaim.pre_eq_preRow]; exact exactDivision_lifted os started H enc F)

theorem exactDivision_plain (f : FuncId) (fn : Func) (hf : Tryz.pinned.checked.prog.funcNamed "hodoscope/hodoscopelaw01.ExactDivision" = some f) (hfn : Tryz.pinned.checked.prog.funcs[f]? = some fn) :
    false = Tryz.pinned.checked.prog.looks [] ∧ ∀ (j : Nat) t, fn.params[j]? = some t → Tryz.pinned.checked.prog.wantsStandIn t = false := by
  obtain rfl : f = 4 := Option.some.inj ((show Tryz.prog.funcNamed "hodoscope/hodoscopelaw01.ExactDivision" = some 4 by kernel_rfl).symm.trans hf) |>.symm
  obtain rfl : fn = Tryz.f4 := (Option.some.inj (Tryz.func4.symm.trans hfn)).symm
  refine ⟨by kernel_rfl, fun j t ht => ?_⟩
  rw [Tryz.params4] at ht
  obtain rfl : t = 24 := by simpa using Array.mem_of_getElem? ht
  exact (show Tryz.prog.wantsStandIn 24 = false by kernel_rfl)

theorem exactDivision_card : Rows.ExactDivisionCardSaid :=
  Claim7.holds_tied_plain_at .later [] _ _ _ _ exactDivision_said (fun _ h => by cases h) (by kernel_rfl) (fun _ h => by cases h) exactDivision_row_tie rfl ⟨rfl, rfl⟩ (by kernel_rfl) rfl exactDivision_plain (by kernel_rfl)
#print axioms exactDivision_card
end Go.Proofs.YtahbkcebifkniaaGreatDoor
