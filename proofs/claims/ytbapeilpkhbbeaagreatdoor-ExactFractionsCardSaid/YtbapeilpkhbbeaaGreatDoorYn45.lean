/- exact.Nearest by values. exact.Fixed, FromFixed, RootFixed with bits out of range, and with any bits. Written by gen_nearb.py. How the arguments of the laws are opened (an api.Int reads as its sign and its list of words), and the last step of a row whose law returns true and leaves all that was there before. The law ExactField, its walk. Written by gen_field.py. An api.Ratio argument of a law, opened. Written by gen_fieldrow.py. The document's ratios: Twos, Fixed, FromFixed, RootFixed by values; Like; the law's ownRatio. Written by gen_rq2.py. The law's own once more: the words lie in memory of the call's own, with room for three more. A ratio argument whose words are known, as a value. What the law ExactForms says of numbers: scaled ratios; Decimal, Lowest by values. -/
import Derived.Test.YtbapeilpkhbbeaaGreatDoorYn43
import Derived.Test.YtbapeilpkhbbeaaGreatDoorYn42
import Derived.Test.YtbapeilpkhbbeaaGreatDoorYn39
import Derived.ProofKit
import Derived.Below
import Derived.Lib.SmallJoins
import Derived.Deep.Slices
import Derived.Test.YtbapeilpkhbbeaaGreatDoorYn29
import Derived.Test.YtbapeilpkhbbeaaGreatDoorYn32
import Derived.Test.YtbapeilpkhbbeaaGreatDoorYn44
import Derived.Deep.Onto
/- exact.Nearest by values. -/
namespace Go.Proofs.YtbapeilpkhbbeaaGreatDoor
open Go.RowKit

end Go.Proofs.YtbapeilpkhbbeaaGreatDoor

/- exact.Fixed, FromFixed, RootFixed with bits out of range, and with any bits. Written by gen_nearb.py. -/
namespace Go.Proofs.YtbapeilpkhbbeaaGreatDoor
open Go.RowKit

end Go.Proofs.YtbapeilpkhbbeaaGreatDoor

/- How the arguments of the laws are opened (an api.Int reads as its sign and its list of words), and the last step of a row whose law returns true and leaves all that was there before. -/
namespace Go.Proofs.YtbapeilpkhbbeaaGreatDoor
open Go.ChangeShapes Go.WideShapes Go.ChangeAt Go.RowKit Go.Joins

theorem Tryz.ownKnobNone : ownKnob Tryz.prog.godebug = none := by kernel_rfl
theorem Tryz.laidOutAll : laidOutB Tryz.prog = true := by kernel_rfl

/-- The number that a value is. -/
def intOf : Value → Int | .int _ x => x | _ => 0

/-- What lies below a bound reads as it did, whatever was made above it. -/
theorem allStays {H : Type} {enc : TypeId × Value → H} {P : Program} (hl : laidOutB P = true) {W W' : World} {sp' : Nat → Bool} : ∀ {ts : List TypeId} {vs : List Value} {ds : List (DataW H)} {ps : List MemPlace},
    (∀ t ∈ ts, P.readableRec t = true ∧ t < P.types.size) → DataW.TrodAll enc P W 0 (fun _ => true) true ts vs ds ps → (∀ p ∈ ps, W.sameAt W' p) → (∀ p ∈ ps, sp' p.block = true) → DataW.TrodAll enc P W' 0 sp' true ts vs ds ps
  | [], _, _, _, _, h, _, _ => by
    obtain ⟨rfl, rfl, rfl⟩ := trodAll_nil h
    exact trodAll_mk0
  | t :: ts, _, _, _, ht, h, hs, hp => by
    obtain ⟨v, vs1, d, ds1, a, b, rfl, rfl, rfl, h1, h2⟩ := trodAll_cons h
    refine ⟨a, b, ?_, ?_, rfl⟩
    · exact WideElems.Trod_stays hl (ht t (by simp)).1 (ht t (by simp)).2 h1 (fun p k => hs p (by simp [k])) (fun p k => hp p (by simp [k]))
    · exact allStays hl (fun u k => ht u (by simp [k])) h2 (fun p k => hs p (by simp [k])) (fun p k => hp p (by simp [k]))

/-- The last step of a row: the law returns true, its arguments read as they did. -/
theorem lawTrue {H : Type} {enc : TypeId × Value → H} {P : Program} {f : Func} {s : ChangeSpec} {apart fresh handsOn : Bool} {W W' : World} {args : Array Value} {ds gs : List (DataW H)} {before : List MemPlace} {tb : TypeId}
    (hl : laidOutB P = true) (hr : ∀ t ∈ f.params.toList, P.readableRec t = true ∧ t < P.types.size) (hv : s.vars = []) (hres : f.resultTypes = #[tb]) (hb : P.underlying tb = some .bool)
    (hfn : s.fn H (ds ++ gs) = { results := [.lit (.bool true)], args := ds })
    (hW : DataW.Whole enc P f.params.toList s.vars apart W args.toList ds gs before) (hlow : Below W.heap.size W W') :
    s.post enc P f apart fresh handsOn false W args (.bool true) W' := by
  have hW' := hW
  obtain ⟨p, q, hA, hV, hpq, _, _⟩ := hW
  rw [hv] at hV
  obtain ⟨rfl, rfl⟩ := trodVars_none hV
  have hlt := hW'.lt
  have e0 : before = p := by rw [hpq]; simp
  subst e0
  refine ⟨ds, [], before, [], before, [], hW', ?_, ?_, ?_, ?_, fun h => by cases h⟩
  · rw [hfn, hres]
    exact trodAll_mk1 (shut_bool hb _)
  · rw [hfn]
    exact allStays hl hr hA (fun p k => hlow.same (hlt p k)) (fun p k => by simpa using hlt p k)
  · rw [hfn, hv]
    rfl
  · exact World.keptBut_mono (fun p k => ⟨k, Or.inr (Or.inl k)⟩) (hlow.frame (· ∈ before))
end Go.Proofs.YtbapeilpkhbbeaaGreatDoor

/- The law ExactField, its walk. Written by gen_field.py. -/
namespace Go.Proofs.YtbapeilpkhbbeaaGreatDoor
open Go.RowKit

theorem wide_t (b1 b2 : Bool) (o1 o2 : Option Addr) (m1 c1 m2 c2 : Nat) (t : Int) (w : World) (ht : max (m1 : Int) (m2 : Int) = t) :
    Calls Tryz.prog 4 #[.agg #[.bool b1, .slice o1 m1 c1, .bool b2, .slice o2 m2 c2]] w fun e w' => e = .returned (.int .i64 t) ∧ Below w.heap.size w w' := by
  rw [← ht]; exact wide_any b1 b2 o1 o2 m1 c1 m2 c2 w
end Go.Proofs.YtbapeilpkhbbeaaGreatDoor

/- An api.Ratio argument of a law, opened. Written by gen_fieldrow.py. -/
namespace Go.Proofs.YtbapeilpkhbbeaaGreatDoor
open Go.ChangeShapes Go.WideShapes Go.ChangeAt Go.RowKit Go.Joins

set_option maxRecDepth 100000 in
theorem openIntT {H : Type} {enc : TypeId × Value → H} {W : World} {sp : Nat → Bool} {c0 c1 : Value} {y : DataW H × List MemPlace} {fuel : Nat}
    (h : DataW.trod enc Tryz.prog W 0 sp true fuel 24 [c0, c1] = some y) : ∃ neg L, Lk W (.agg #[c0, c1]) neg L ∧ Dig B32 L := by
  obtain ⟨y0, y1, m, _, _, h0, h1⟩ := trod_struct2 Tryz.underlying24 h
  have k0 : Tryz.prog.cellsOf 4 = 1 := by kernel_rfl
  have k1 : Tryz.prog.cellsOf 22 = 1 := by kernel_rfl
  have hy0 : DataW.trod enc Tryz.prog W 0 sp true m 4 [c0] = some y0 := by simpa [k0] using h0
  have hy1 : DataW.trod enc Tryz.prog W 0 sp true m 22 [c1] = some y1 := by simpa [k1] using h1
  clear h0 h1
  obtain ⟨b, e0, _⟩ := DataW.trod_bool Tryz.underlying4 hy0
  simp at e0
  subst e0
  rcases Go.Deep.open_slice1 Tryz.underlying22 (by kernel_rfl) hy1 with ⟨e1, _⟩ | ⟨a, len, cap, k, n, V, D, Pl, e1, hb, hl, hm, hmm, _, hx⟩
  · simp at e1
    subst e1
    exact ⟨b, [], ⟨none, 0, rfl, Rd.nil _ _⟩, fun x hx => by cases hx⟩
  · simp at e1
    subst e1
    have hk : len ≤ k := by rw [hmm]; split <;> omega
    have hw : ∀ i, i < len → ∃ x, V i = .int .u32 x ∧ 0 ≤ x ∧ x < B32 ∧ W.cell? (a.add i) = some (.int .u32 x) := by
      intro i hi
      obtain ⟨hc, ht⟩ := hx i (by omega)
      obtain ⟨x, ex, _, hwf⟩ := DataW.trod_int Tryz.underlying89 ht
      simp at ex
      simp [Lit.wf, IntKind.min, IntKind.max, IntKind.signed, IntKind.bits] at hwf
      refine ⟨x, ex, by omega, by unfold B32; omega, by rw [hc, ex]⟩
    have hget : ∀ i, i < len → (((List.range len).map fun i => intOf (V i))[i]?.getD 0) = intOf (V i) := by
      intro i hi
      simp [hi]
    refine ⟨b, (List.range len).map fun i => intOf (V i), ⟨some a, cap, by simp, ?_⟩, ?_⟩
    · refine ⟨by simpa using hl, by unfold maxLen at hm; omega, fun hp => ?_, fun b off e i hi => ?_⟩
      · obtain ⟨x, _, _, _, hc⟩ := hw 0 (by simpa using hp)
        have hs := World.cell?_spot hc
        obtain ⟨ab, aoff, asp⟩ := a
        have : asp = none := by simpa [Addr.add] using hs
        exact ⟨ab, aoff, by rw [this]⟩
      · simp at hi
        obtain rfl := Option.some.inj e
        obtain ⟨x, ex, _, _, hc⟩ := hw i hi
        rw [hget i hi, ex]
        have ea : Addr.add ⟨b, off, none⟩ i = ⟨b, off + i, none⟩ := by
          by_cases h0 : i = 0 <;> simp [Addr.add, h0]
        rw [ea] at hc
        simpa [intOf] using hc
    · intro x hx
      obtain ⟨i, hi, rfl⟩ := List.mem_map.1 hx
      obtain ⟨y, ey, y0, y1, _⟩ := hw i (by simpa using hi)
      rw [ey]
      exact ⟨y0, y1⟩


set_option maxRecDepth 100000 in
theorem openRatio {H : Type} {enc : TypeId × Value → H} {r : Reach} {b0 : Nat} {W : World} {sp : Nat → Bool} {v : Value} {d : DataW H} {p : List MemPlace}
    (hv : Value.okWide Tryz.prog W r b0 26 v) (h : DataW.Trod enc Tryz.prog W 0 sp true 26 v d p) : ∃ c0 c1 c2 c3 na LA nb LB, v = .agg #[c0, c1, c2, c3] ∧ Lk W (.agg #[c0, c1]) na LA ∧ Dig B32 LA ∧ Lk W (.agg #[c2, c3]) nb LB ∧ Dig B32 LB := by
  obtain ⟨cs, rfl, hsz⟩ := okWide_struct Tryz.underlying26 hv
  obtain ⟨c0, c1, c2, c3, rfl⟩ := array4 (hsz.trans (show Tryz.prog.cellsOf 26 = 4 by kernel_rfl))
  obtain ⟨fuel, hf⟩ := h
  obtain ⟨y0, y1, n, _, _, h0, h1⟩ := trod_struct2 Tryz.underlying26 hf
  have k : Tryz.prog.cellsOf 24 = 2 := by kernel_rfl
  obtain ⟨na, LA, hA, dA⟩ := openIntT (enc := enc) (c0 := c0) (c1 := c1) (by simpa [k, Value.cells] using h0)
  obtain ⟨nb, LB, hB, dB⟩ := openIntT (enc := enc) (c0 := c2) (c1 := c3) (by simpa [k, Value.cells] using h1)
  exact ⟨c0, c1, c2, c3, na, LA, nb, LB, rfl, hA, dA, hB, dB⟩

/-- The four cells of a ratio whose words are these. -/
def Lr (w : World) (v : Value) (na : Bool) (LA : List Int) (nb : Bool) (LB : List Int) : Prop := ∃ ao ca bo cb, v = .agg #[.bool na, .slice ao LA.length ca, .bool nb, .slice bo LB.length cb] ∧ Rd w .u32 ao ca LA ∧ Rd w .u32 bo cb LB ∧ Dig B32 LA ∧ Dig B32 LB
set_option maxRecDepth 100000 in
theorem openLr {H : Type} {enc : TypeId × Value → H} {r : Reach} {b0 : Nat} {W : World} {sp : Nat → Bool} {v : Value} {d : DataW H} {p : List MemPlace}
    (hv : Value.okWide Tryz.prog W r b0 26 v) (h : DataW.Trod enc Tryz.prog W 0 sp true 26 v d p) : ∃ na LA nb LB, Lr W v na LA nb LB := by
  obtain ⟨c0, c1, c2, c3, na, LA, nb, LB, rfl, ⟨ao, ca, e1, hA⟩, dA, ⟨bo, cb, e2, hB⟩, dB⟩ := openRatio hv h
  simp only [Value.agg.injEq, Array.mk.injEq, List.cons.injEq, and_true] at e1 e2
  obtain ⟨rfl, rfl⟩ := e1
  obtain ⟨rfl, rfl⟩ := e2
  exact ⟨na, LA, nb, LB, ao, ca, bo, cb, rfl, hA, hB, dA, dB⟩
end Go.Proofs.YtbapeilpkhbbeaaGreatDoor

/- The document's ratios: Twos, Fixed, FromFixed, RootFixed by values; Like; the law's ownRatio. Written by gen_rq2.py. -/
namespace Go.Proofs.YtbapeilpkhbbeaaGreatDoor
open Go.RowKit

theorem rneg_o (u : Value) (x : Int) (K : Nat) (w : World) (hu : Zt w u x K) : Calls Tryz.prog 48 #[u] w (RetZo w (-x) K) :=
  (rneg_any u x K w hu).mono fun _ _ h => h.op (Nat.le_refl _)
theorem rcmp_t (u v : Value) (x y t : Int) (K : Nat) (w : World) (hu : Zt w u x K) (hv : Zt w v y K) (ht : cmpI x y = t) (hK : K ≤ 1073741823) :
    Calls Tryz.prog 41 #[u, v] w fun e w' => e = .returned (.int .i64 t) ∧ Below w.heap.size w w' := by
  rw [← ht]; exact rcmp_any u v x y K w hu hv hK
theorem rsign_t (u : Value) (x t : Int) (K : Nat) (w : World) (hu : Zt w u x K) (ht : cmpI x 0 = t) :
    Calls Tryz.prog 37 #[u] w fun e w' => e = .returned (.int .i64 t) ∧ Below w.heap.size w w' := by
  rw [← ht]; exact rsign_any u x K w hu
theorem rtimes_w (u v : Value) (n d x : Int) (K R : Nat) (w : World) (hu : Qv w u n d K) (hv : Qv w v x 1 K) (hK4 : 4 ≤ K) (hK : K ≤ 1000000) (hR : 2 * K + 5 ≤ R) :
    Calls Tryz.prog 27 #[u, v] w (RetQ w (n * x) d R) := by
  have h := rtimes_v u v n d x 1 K R w hu hv hK4 hK hR
  rw [Int.mul_one] at h
  exact h
theorem rpow_t (u : Value) (x P : Int) (n K R : Nat) (w : World) (hn : n ≤ 1024) (hu : Zt w u x K) (hK : K ≤ 100000) (hP : x ^ n = P) (hR : 4 + n * (K + 1) ≤ R) :
    Calls Tryz.prog 66 #[u, .int .i64 n] w fun e w' => ∃ b o m c, e = .returned (.tuple #[.agg #[.bool b, .slice o m c], .int .i64 0]) ∧ Hid (Zt w' (.agg #[.bool b, .slice o m c]) P R) ∧ Below w.heap.size w w' := by
  subst hP
  refine (rpow_any u x n K w hn hu hK).mono ?_
  rintro e w' ⟨v, rfl, hv, hb⟩
  obtain ⟨b, o, m, c, rfl, _⟩ := Zt.opened hv
  exact ⟨b, o, m, c, rfl, hid (hv.mono hR), hb⟩

/-- A ratio with just these words, open. -/
def RetLr (w : World) (na : Bool) (LA : List Int) (nb : Bool) (LB : List Int) (e : Ending) (w' : World) : Prop := ∃ b1 o1 m1 c1 b2 o2 m2 c2, e = .returned (.agg #[.bool b1, .slice o1 m1 c1, .bool b2, .slice o2 m2 c2]) ∧ Hid (Lr w' (.agg #[.bool b1, .slice o1 m1 c1, .bool b2, .slice o2 m2 c2]) na LA nb LB) ∧ Below w.heap.size w w'
theorem Lr.below {w w' : World} {v : Value} {na nb : Bool} {LA LB : List Int} {B : Nat} (h : Lr w v na LA nb LB) (hb : Below B w w') (hB : w.heap.size ≤ B) : Lr w' v na LA nb LB := by
  obtain ⟨ao, ca, bo, cb, rfl, hA, hB', dA, dB⟩ := h
  exact ⟨ao, ca, bo, cb, rfl, hA.below hb hB, hB'.below hb hB, dA, dB⟩
theorem Lr.parts {w : World} {b1 b2 : Bool} {o1 o2 : Option Addr} {m1 c1 m2 c2 : Nat} {na nb : Bool} {LA LB : List Int} (h : Lr w (.agg #[.bool b1, .slice o1 m1 c1, .bool b2, .slice o2 m2 c2]) na LA nb LB) : Lk w (.agg #[.bool b1, .slice o1 m1 c1]) na LA ∧ Lk w (.agg #[.bool b2, .slice o2 m2 c2]) nb LB ∧ Dig B32 LA ∧ Dig B32 LB := by
  obtain ⟨ao, ca, bo, cb, e, hA, hB, dA, dB⟩ := h
  injection e with e
  simp at e
  obtain ⟨rfl, ⟨rfl, rfl, rfl⟩, rfl, rfl, rfl, rfl⟩ := e
  exact ⟨⟨_, _, rfl, hA⟩, ⟨_, _, rfl, hB⟩, dA, dB⟩
theorem lr_of {w : World} {b1 b2 : Bool} {o1 o2 : Option Addr} {m1 c1 m2 c2 : Nat} {na nb : Bool} {LA LB : List Int} (h1 : Lk w (.agg #[.bool b1, .slice o1 m1 c1]) na LA) (h2 : Lk w (.agg #[.bool b2, .slice o2 m2 c2]) nb LB) (dA : Dig B32 LA) (dB : Dig B32 LB) : Lr w (.agg #[.bool b1, .slice o1 m1 c1, .bool b2, .slice o2 m2 c2]) na LA nb LB := by
  obtain ⟨ao, ca, e1, hA⟩ := h1
  obtain ⟨bo, cb, e2, hB⟩ := h2
  injection e1 with e1
  injection e2 with e2
  simp at e1 e2
  obtain ⟨rfl, rfl, rfl, rfl⟩ := e1
  obtain ⟨rfl, rfl, rfl, rfl⟩ := e2
  exact ⟨_, _, _, _, rfl, hA, hB, dA, dB⟩
theorem Lr.opened {w : World} {v : Value} {na nb : Bool} {LA LB : List Int} (h : Lr w v na LA nb LB) : ∃ b1 o1 m1 c1 b2 o2 m2 c2, v = .agg #[.bool b1, .slice o1 m1 c1, .bool b2, .slice o2 m2 c2] ∧ Hid (∀ w', Below w.heap.size w w' → Lr w' (.agg #[.bool b1, .slice o1 m1 c1, .bool b2, .slice o2 m2 c2]) na LA nb LB) := by
  have h' := h
  obtain ⟨ao, ca, bo, cb, rfl, hA, hB, dA, dB⟩ := h
  exact ⟨_, _, _, _, _, _, _, _, rfl, hid (fun w' hb => h'.below hb (Nat.le_refl _))⟩
theorem own_o (v : Value) (neg : Bool) (W : List Int) (w : World) (hv : Lk w v neg W) (hn : W.length ≤ 1073741824) :
    Calls Tryz.prog 15 #[v] w fun e w' => ∃ b o m c, e = .returned (.agg #[.bool b, .slice o m c]) ∧ Hid (Lk w' (.agg #[.bool b, .slice o m c]) neg W) ∧ Below w.heap.size w w' := by
  refine (own_any v neg W w hv hn).mono ?_
  rintro e w' ⟨_, rfl, ⟨ao, c, rfl, h⟩, hb⟩
  exact ⟨_, _, _, _, rfl, hid ⟨ao, c, rfl, h⟩, hb⟩
/-- What a ratio with these words stands for. -/
theorem Lr.rv {w : World} {v : Value} {na nb : Bool} {LA LB : List Int} (h : Lr w v na LA nb LB) {K : Nat} (hA : LA.length ≤ K) (hB : LB.length ≤ K) : Rv w v (rn (sgn na (val B32 LA)) (sgn nb (val B32 LB))) (rd (sgn nb (val B32 LB))) K := by
  obtain ⟨ao, ca, bo, cb, rfl, rA, rB, dA, dB⟩ := h
  exact ⟨rd_pos _, _, _, ⟨_, _, _, _, _, _, _, _, rfl, ⟨_, _, _, _, rfl, rA, dA, hA, rfl⟩, ⟨_, _, _, _, rfl, rB, dB, hB, rfl⟩⟩, rfl⟩

set_option maxRecDepth 100000 in
set_option maxHeartbeats 2000000 in
theorem ownRatio_any (v : Value) (na nb : Bool) (LA LB : List Int) (w : World) (hv : Lr w v na LA nb LB) (hA : LA.length ≤ 1073741824) (hB : LB.length ≤ 1073741824) :
    Calls Tryz.prog 5 #[v] w (RetLr w na LA nb LB) := by
  obtain ⟨b1, o1, m1, c1, bb1, oo1, mm1, cc1, rfl, _⟩ := Lr.opened hv
  have HA := hid hA; have HB := hid hB
  have HD := hid hv.parts.2.2
  clear hA hB
  obtain ⟨W0, hW0⟩ : ∃ W0, W0 = ((w.alloc (.cells #[.bool b1, .slice o1 m1 c1, .bool bb1, .slice oo1 mm1 cc1] 26)).alloc (.cells #[.bool false, .slice none 0 0, .bool false, .slice none 0 0] 26)) := ⟨_, rfl⟩
  have hB0 : Below w.heap.size w W0 := by rw [hW0]; exact ((Below.refl _ _).alloc (Nat.le_refl _) _).alloc (by simp <;> omega) _
  have hz0 : W0.heap.size = w.heap.size + 2 := by rw [hW0]; simp
  have HN0 := hid (show w.heap.size + 1 < W0.heap.size by rw [hz0]; omega)
  have HS0 : Hid (∀ w', Kp W0.heap.size (w.heap.size + 1) W0 w' → w'.cell? ⟨w.heap.size, 0, none⟩ = some (.bool b1) ∧ w'.cell? ⟨w.heap.size, 1, none⟩ = some (.slice o1 m1 c1) ∧ w'.cell? ⟨w.heap.size, 2, none⟩ = some (.bool bb1) ∧ w'.cell? ⟨w.heap.size, 3, none⟩ = some (.slice oo1 mm1 cc1)) := hid (fun w' hb => by
    refine ⟨?_, ?_, ?_, ?_⟩ <;> (rw [hb.cell _ (by rw [hz0]; simp <;> omega) (by simp <;> omega), hW0]; simp [go_sem]))
  have HT : Hid (∀ w', Below W0.heap.size W0 w' → (w'.cell? ⟨w.heap.size + 1, 0, none⟩ = some (.bool false) ∧ w'.cell? ⟨w.heap.size + 1, 1, none⟩ = some (.slice none 0 0) ∧ w'.cell? ⟨w.heap.size + 1, 2, none⟩ = some (.bool false) ∧ w'.cell? ⟨w.heap.size + 1, 3, none⟩ = some (.slice none 0 0)) ∧ (w'.frozen? ⟨w.heap.size + 1, 0, none⟩ = false ∧ w'.frozen? ⟨w.heap.size + 1, 1, none⟩ = false ∧ w'.frozen? ⟨w.heap.size + 1, 2, none⟩ = false ∧ w'.frozen? ⟨w.heap.size + 1, 3, none⟩ = false)) := hid (fun w' hb => by
    refine ⟨⟨?_, ?_, ?_, ?_⟩, ?_, ?_, ?_, ?_⟩ <;> (first | (rw [hb.cell (by rw [hz0]; simp), hW0]; simp [go_sem]; done) | (rw [hb.frozen (by rw [hz0]; simp), hW0]; simp [go_sem]; done)))
  have VU : Hid (∀ w', Below W0.heap.size W0 w' → Lr w' (.agg #[.bool b1, .slice o1 m1 c1, .bool bb1, .slice oo1 mm1 cc1]) na LA nb LB) := hid (fun w' hb => (hv.below hB0 (Nat.le_refl _)).below hb (Nat.le_refl _))
  have hbld : ∀ (b b2 : Bool) (o o2 : Option Addr) (m c m2 c2 : Nat) (w : World), (Instr.build 26 #[(0, .agg #[.bool b, .slice o m c]), (1, .agg #[.bool b2, .slice o2 m2 c2])]).run Tryz.prog w = .ok (.agg #[.bool b, .slice o m c, .bool b2, .slice o2 m2 c2]) w := fun b b2 o o2 m c m2 c2 w => by kernel_rfl
  have HB0 := hid hB0; have HW0 := hid hW0
  clear hW0 hB0 hz0 hv
  go_enter Tryz.func5, Tryz.ntmps5
  go_upto_region 1 with (fail)
  rw [← HW0.out]
  have hY0 := Below.refl W0.heap.size W0
  have tk1 := hid trivial
  have tk2 := hid trivial
  go_region_held3 (fun w' => w'.cell? ⟨w.heap.size, 0, none⟩ = some (.bool b1) ∧ w'.cell? ⟨w.heap.size, 1, none⟩ = some (.slice o1 m1 c1) ∧ w'.cell? ⟨w.heap.size, 2, none⟩ = some (.bool bb1) ∧ w'.cell? ⟨w.heap.size, 3, none⟩ = some (.slice oo1 mm1 cc1)) ((refine HS0.out _ ?_; (repeat (first | assumption | exact Kp.of_below (by assumption) | exact Kp.of_below (Below.drew (by assumption)) | exact Kp.of_below (Below.refl _ _) | exact Kp.of_below (Below.refl _ _).drew | (refine Kp.set ?_ (by simp) _))))) (first
    | (clear tk1; go_at_call 15; refine (own_o _ na LA _ (VU.out _ hY0.drew).parts.1 HA.out).mono ?_; rintro e v1 ⟨b4, o4, m4, c4, rfl, H4, hbq⟩; have hY1 : Below W0.heap.size W0 v1 := (hY0.drew).trans (hbq.mono (hY0.drew).size))
    | (clear tk2; go_at_call 15; refine (own_o _ nb LB _ (VU.out _ hY1).parts.2.1 HB.out).mono ?_; rintro e v2 ⟨b5, o5, m5, c5, rfl, H5, hbq⟩; have hY2 : Below W0.heap.size W0 v2 := (hY1).trans (hbq.mono (hY1).size); have H4b := H4.out.below hbq (Nat.le_refl _); obtain ⟨⟨hr0, hr1, hr2, hr3⟩, hf0, hf1, hf2, hf3⟩ := HT.out _ hY2))
  have hn0 := HN0.out
  have hbel : Below w.heap.size w v2 := HB0.out.trans (hY2.mono HB0.out.size)
  go_wp2
  refine bodyPost_ret (v := .agg #[.bool b4, .slice o4 m4 c4, .bool b5, .slice o5 m5 c5]) (by simp [results, Tryz.results5, go_sem, hr0, hr1, hr2, hr3]) rfl ⟨_, _, _, _, _, _, _, _, rfl, hid (lr_of (Lk.keeps _ _ _ (((((Keeps.refl _ _).setCell (u := .bool false) hr0 (fun x h => (by cases h)) _).setCell (u := .slice none 0 0) (by simp [go_sem, hr1]) (fun x h => (by cases h)) _).setCell (u := .bool false) (by simp [go_sem, hr2]) (fun x h => (by cases h)) _).setCell (u := .slice none 0 0) (by simp [go_sem, hr3]) (fun x h => (by cases h)) _) H4b) (Lk.keeps _ _ _ (((((Keeps.refl _ _).setCell (u := .bool false) hr0 (fun x h => (by cases h)) _).setCell (u := .slice none 0 0) (by simp [go_sem, hr1]) (fun x h => (by cases h)) _).setCell (u := .bool false) (by simp [go_sem, hr2]) (fun x h => (by cases h)) _).setCell (u := .slice none 0 0) (by simp [go_sem, hr3]) (fun x h => (by cases h)) _) H5.out) HD.out.1 HD.out.2), ((((hbel.setCell (by simp <;> omega) _).setCell (by simp <;> omega) _).setCell (by simp <;> omega) _).setCell (by simp <;> omega) _)⟩

set_option maxRecDepth 100000 in
set_option maxHeartbeats 2000000 in
theorem like_any (u v : Value) (na nb : Bool) (LA LB : List Int) (w : World) (hu : Lr w u na LA nb LB) (hv : Lr w v na LA nb LB) :
    Calls Tryz.prog 14 #[u, v] w fun e w' => e = .returned (.bool true) ∧ Below w.heap.size w w' := by
  obtain ⟨b1, o1, m1, c1, bb1, oo1, mm1, cc1, rfl, _⟩ := Lr.opened hu
  obtain ⟨b2, o2, m2, c2, bb2, oo2, mm2, cc2, rfl, _⟩ := Lr.opened hv
  obtain ⟨W0, hW0⟩ : ∃ W0, W0 = ((w.alloc (.cells #[.bool b1, .slice o1 m1 c1, .bool bb1, .slice oo1 mm1 cc1] 26)).alloc (.cells #[.bool b2, .slice o2 m2 c2, .bool bb2, .slice oo2 mm2 cc2] 26)) := ⟨_, rfl⟩
  have hB0 : Below w.heap.size w W0 := by rw [hW0]; exact ((Below.refl _ _).alloc (Nat.le_refl _) _).alloc (by simp <;> omega) _
  have hz0 : W0.heap.size = w.heap.size + 2 := by rw [hW0]; simp
  have HN0 := hid (show w.heap.size + 1 < W0.heap.size by rw [hz0]; omega)
  have HS0 : Hid (∀ w', Kp W0.heap.size (w.heap.size + 2) W0 w' → w'.cell? ⟨w.heap.size, 0, none⟩ = some (.bool b1) ∧ w'.cell? ⟨w.heap.size, 1, none⟩ = some (.slice o1 m1 c1) ∧ w'.cell? ⟨w.heap.size, 2, none⟩ = some (.bool bb1) ∧ w'.cell? ⟨w.heap.size, 3, none⟩ = some (.slice oo1 mm1 cc1) ∧ w'.cell? ⟨w.heap.size + 1, 0, none⟩ = some (.bool b2) ∧ w'.cell? ⟨w.heap.size + 1, 1, none⟩ = some (.slice o2 m2 c2) ∧ w'.cell? ⟨w.heap.size + 1, 2, none⟩ = some (.bool bb2) ∧ w'.cell? ⟨w.heap.size + 1, 3, none⟩ = some (.slice oo2 mm2 cc2)) := hid (fun w' hb => by
    refine ⟨?_, ?_, ?_, ?_, ?_, ?_, ?_, ?_⟩ <;> (rw [hb.cell _ (by rw [hz0]; simp <;> omega) (by simp <;> omega), hW0]; simp [go_sem]))
  have VU : Hid (∀ w', Below W0.heap.size W0 w' → Lr w' (.agg #[.bool b1, .slice o1 m1 c1, .bool bb1, .slice oo1 mm1 cc1]) na LA nb LB) := hid (fun w' hb => (hu.below hB0 (Nat.le_refl _)).below hb (Nat.le_refl _))
  have VV : Hid (∀ w', Below W0.heap.size W0 w' → Lr w' (.agg #[.bool b2, .slice o2 m2 c2, .bool bb2, .slice oo2 mm2 cc2]) na LA nb LB) := hid (fun w' hb => (hv.below hB0 (Nat.le_refl _)).below hb (Nat.le_refl _))
  have HB0 := hid hB0; have HW0 := hid hW0
  clear hW0 hB0 hz0 hu hv
  go_enter Tryz.func14, Tryz.ntmps14
  go_upto_region 1 with (fail)
  rw [← HW0.out]
  obtain ⟨k0, k1, k2, k3, k4, k5, k6, k7⟩ := HS0.out _ (Kp.of_below (Below.refl _ _))
  go_wp2_with fail
  refine (likeInt_any _ _ na LA _ (VU.out _ (Below.refl _ _)).parts.1 (VV.out _ (Below.refl _ _)).parts.1).mono ?_
  rintro e wq1 ⟨rfl, hb1⟩
  clear k0 k1 k2 k3 k4 k5 k6 k7
  obtain ⟨k0, k1, k2, k3, k4, k5, k6, k7⟩ := HS0.out _ (Kp.of_below hb1)
  go_wp2_with fail
  refine (likeInt_any _ _ nb LB _ (VU.out _ hb1).parts.2.1 (VV.out _ hb1).parts.2.1).mono ?_
  rintro e wq2 ⟨rfl, hb2⟩
  clear k0 k1 k2 k3 k4 k5 k6 k7
  have hX2 : Below W0.heap.size W0 wq2 := bl_tr hb1 hb2
  go_wp2
  go_ret
  exact ⟨rfl, HB0.out.trans (hX2.mono HB0.out.size)⟩

end Go.Proofs.YtbapeilpkhbbeaaGreatDoor

/- The law's own once more: the words lie in memory of the call's own, with room for three more. -/
namespace Go.Proofs.YtbapeilpkhbbeaaGreatDoor
open Go.RowKit

end Go.Proofs.YtbapeilpkhbbeaaGreatDoor

/- A ratio argument whose words are known, as a value. -/
namespace Go.Proofs.YtbapeilpkhbbeaaGreatDoor
open Go.RowKit

end Go.Proofs.YtbapeilpkhbbeaaGreatDoor

/- What the law ExactForms says of numbers: scaled ratios; Decimal, Lowest by values. -/
namespace Go.Proofs.YtbapeilpkhbbeaaGreatDoor
open Go.RowKit

theorem Decimal_rv (v : Value) (n d : Int) (K p : Nat) (w : World) (hv : Rv w v n d K) (hK : K ≤ 140) (hp : p ≤ 100) (hT : Tab w) :
    Calls Tryz.prog 7 #[v, .int .i64 (p : Int)] w fun e w' => e = .returned (.tuple #[.string (dcT ((n * 10 ^ p * 2 + d).fdiv (d * 2)) p), .int .i64 0]) ∧ Below w.heap.size w w' := by
  obtain ⟨hd, x, y, hr, he⟩ := hv
  have h := Decimal_ra v x y K p w hr hK hp hT
  rw [fdiv_ratio (c := n * 10 ^ p * 2 + d) (e := d * 2) (by have := rd_pos y; omega) (by omega) (by grind)] at h
  exact h
end Go.Proofs.YtbapeilpkhbbeaaGreatDoor
