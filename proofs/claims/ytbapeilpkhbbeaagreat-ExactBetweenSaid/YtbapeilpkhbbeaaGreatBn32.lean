/- An api.Ratio argument of a law, opened. Written by gen_fieldrow.py. The document's ratios: Twos, Fixed, FromFixed, RootFixed by values; Like; the law's ownRatio. Written by gen_rq2.py. The simplest fraction between two: plain mathematics, nothing of the program. -/
import Derived.Test.YtbapeilpkhbbeaaGreatBn31
import Derived.Test.YtbapeilpkhbbeaaGreatBn01
/- An api.Ratio argument of a law, opened. Written by gen_fieldrow.py. -/
namespace Go.Proofs.YtbapeilpkhbbeaaGreat
open Go.ChangeShapes Go.WideShapes Go.ChangeAt Go.RowKit Go.Joins

set_option maxRecDepth 100000 in
theorem openIntT {H : Type} {enc : TypeId × Value → H} {W : World} {sp : Nat → Bool} {c0 c1 : Value} {y : DataW H × List MemPlace} {fuel : Nat}
    (h : DataW.trod enc Tryz.prog W 0 sp true fuel 24 [c0, c1] = some y) : ∃ neg L, Lk W (.agg #[c0, c1]) neg L ∧ Dig B32 L := by
  obtain ⟨y0, y1, m, _, _, h0, h1⟩ := trod_struct2 Tryz.underlying24 h
  have k0 : Tryz.prog.cellsOf 4 = 1 := by kernel_rfl
  have k1 : Tryz.prog.cellsOf 22 = 1 := by kernel_rfl
  have hy0 : DataW.trod enc Tryz.prog W 0 sp true m 4 [c0] = some y0 := by simpa [k0] using h0
  have hy1 : DataW.trod enc Tryz.prog W 0 sp true m 22 [c1] = some y1 := by simpa [k1] using h1
  clear h0 h1
  obtain ⟨b, e0, _⟩ := DataW.trod_bool Tryz.underlying4 hy0
  simp at e0
  subst e0
  rcases Go.Deep.open_slice1 Tryz.underlying22 (by kernel_rfl) hy1 with ⟨e1, _⟩ | ⟨a, len, cap, k, n, V, D, Pl, e1, hb, hl, hm, hmm, _, hx⟩
  · simp at e1
    subst e1
    exact ⟨b, [], ⟨none, 0, rfl, Rd.nil _ _⟩, fun x hx => by cases hx⟩
  · simp at e1
    subst e1
    have hk : len ≤ k := by rw [hmm]; split <;> omega
    have hw : ∀ i, i < len → ∃ x, V i = .int .u32 x ∧ 0 ≤ x ∧ x < B32 ∧ W.cell? (a.add i) = some (.int .u32 x) := by
      intro i hi
      obtain ⟨hc, ht⟩ := hx i (by omega)
      obtain ⟨x, ex, _, hwf⟩ := DataW.trod_int Tryz.underlying107 ht
      simp at ex
      simp [Lit.wf, IntKind.min, IntKind.max, IntKind.signed, IntKind.bits] at hwf
      refine ⟨x, ex, by omega, by unfold B32; omega, by rw [hc, ex]⟩
    have hget : ∀ i, i < len → (((List.range len).map fun i => intOf (V i))[i]?.getD 0) = intOf (V i) := by
      intro i hi
      simp [hi]
    refine ⟨b, (List.range len).map fun i => intOf (V i), ⟨some a, cap, by simp, ?_⟩, ?_⟩
    · refine ⟨by simpa using hl, by unfold maxLen at hm; omega, fun hp => ?_, fun b off e i hi => ?_⟩
      · obtain ⟨x, _, _, _, hc⟩ := hw 0 (by simpa using hp)
        have hs := World.cell?_spot hc
        obtain ⟨ab, aoff, asp⟩ := a
        have : asp = none := by simpa [Addr.add] using hs
        exact ⟨ab, aoff, by rw [this]⟩
      · simp at hi
        obtain rfl := Option.some.inj e
        obtain ⟨x, ex, _, _, hc⟩ := hw i hi
        rw [hget i hi, ex]
        have ea : Addr.add ⟨b, off, none⟩ i = ⟨b, off + i, none⟩ := by
          by_cases h0 : i = 0 <;> simp [Addr.add, h0]
        rw [ea] at hc
        simpa [intOf] using hc
    · intro x hx
      obtain ⟨i, hi, rfl⟩ := List.mem_map.1 hx
      obtain ⟨y, ey, y0, y1, _⟩ := hw i (by simpa using hi)
      rw [ey]
      exact ⟨y0, y1⟩


set_option maxRecDepth 100000 in
theorem openRatio {H : Type} {enc : TypeId × Value → H} {r : Reach} {b0 : Nat} {W : World} {sp : Nat → Bool} {v : Value} {d : DataW H} {p : List MemPlace}
    (hv : Value.okWide Tryz.prog W r b0 26 v) (h : DataW.Trod enc Tryz.prog W 0 sp true 26 v d p) : ∃ c0 c1 c2 c3 na LA nb LB, v = .agg #[c0, c1, c2, c3] ∧ Lk W (.agg #[c0, c1]) na LA ∧ Dig B32 LA ∧ Lk W (.agg #[c2, c3]) nb LB ∧ Dig B32 LB := by
  obtain ⟨cs, rfl, hsz⟩ := okWide_struct Tryz.underlying26 hv
  obtain ⟨c0, c1, c2, c3, rfl⟩ := array4 (hsz.trans (show Tryz.prog.cellsOf 26 = 4 by kernel_rfl))
  obtain ⟨fuel, hf⟩ := h
  obtain ⟨y0, y1, n, _, _, h0, h1⟩ := trod_struct2 Tryz.underlying26 hf
  have k : Tryz.prog.cellsOf 24 = 2 := by kernel_rfl
  obtain ⟨na, LA, hA, dA⟩ := openIntT (enc := enc) (c0 := c0) (c1 := c1) (by simpa [k, Value.cells] using h0)
  obtain ⟨nb, LB, hB, dB⟩ := openIntT (enc := enc) (c0 := c2) (c1 := c3) (by simpa [k, Value.cells] using h1)
  exact ⟨c0, c1, c2, c3, na, LA, nb, LB, rfl, hA, dA, hB, dB⟩

/-- The four cells of a ratio whose words are these. -/
def Lr (w : World) (v : Value) (na : Bool) (LA : List Int) (nb : Bool) (LB : List Int) : Prop := ∃ ao ca bo cb, v = .agg #[.bool na, .slice ao LA.length ca, .bool nb, .slice bo LB.length cb] ∧ Rd w .u32 ao ca LA ∧ Rd w .u32 bo cb LB ∧ Dig B32 LA ∧ Dig B32 LB
set_option maxRecDepth 100000 in
theorem openLr {H : Type} {enc : TypeId × Value → H} {r : Reach} {b0 : Nat} {W : World} {sp : Nat → Bool} {v : Value} {d : DataW H} {p : List MemPlace}
    (hv : Value.okWide Tryz.prog W r b0 26 v) (h : DataW.Trod enc Tryz.prog W 0 sp true 26 v d p) : ∃ na LA nb LB, Lr W v na LA nb LB := by
  obtain ⟨c0, c1, c2, c3, na, LA, nb, LB, rfl, ⟨ao, ca, e1, hA⟩, dA, ⟨bo, cb, e2, hB⟩, dB⟩ := openRatio hv h
  simp only [Value.agg.injEq, Array.mk.injEq, List.cons.injEq, and_true] at e1 e2
  obtain ⟨rfl, rfl⟩ := e1
  obtain ⟨rfl, rfl⟩ := e2
  exact ⟨na, LA, nb, LB, ao, ca, bo, cb, rfl, hA, hB, dA, dB⟩
end Go.Proofs.YtbapeilpkhbbeaaGreat

/- The document's ratios: Twos, Fixed, FromFixed, RootFixed by values; Like; the law's ownRatio. Written by gen_rq2.py. -/
namespace Go.Proofs.YtbapeilpkhbbeaaGreat
open Go.RowKit

theorem rtimes_w (u v : Value) (n d x : Int) (K R : Nat) (w : World) (hu : Qv w u n d K) (hv : Qv w v x 1 K) (hK4 : 4 ≤ K) (hK : K ≤ 1000000) (hR : 2 * K + 5 ≤ R) :
    Calls Tryz.prog 16 #[u, v] w (RetQ w (n * x) d R) := by
  have h := rtimes_v u v n d x 1 K R w hu hv hK4 hK hR
  rw [Int.mul_one] at h
  exact h
/-- A ratio with just these words, open. -/
def RetLr (w : World) (na : Bool) (LA : List Int) (nb : Bool) (LB : List Int) (e : Ending) (w' : World) : Prop := ∃ b1 o1 m1 c1 b2 o2 m2 c2, e = .returned (.agg #[.bool b1, .slice o1 m1 c1, .bool b2, .slice o2 m2 c2]) ∧ Hid (Lr w' (.agg #[.bool b1, .slice o1 m1 c1, .bool b2, .slice o2 m2 c2]) na LA nb LB) ∧ Below w.heap.size w w'
theorem Lr.below {w w' : World} {v : Value} {na nb : Bool} {LA LB : List Int} {B : Nat} (h : Lr w v na LA nb LB) (hb : Below B w w') (hB : w.heap.size ≤ B) : Lr w' v na LA nb LB := by
  obtain ⟨ao, ca, bo, cb, rfl, hA, hB', dA, dB⟩ := h
  exact ⟨ao, ca, bo, cb, rfl, hA.below hb hB, hB'.below hb hB, dA, dB⟩
theorem Lr.parts {w : World} {b1 b2 : Bool} {o1 o2 : Option Addr} {m1 c1 m2 c2 : Nat} {na nb : Bool} {LA LB : List Int} (h : Lr w (.agg #[.bool b1, .slice o1 m1 c1, .bool b2, .slice o2 m2 c2]) na LA nb LB) : Lk w (.agg #[.bool b1, .slice o1 m1 c1]) na LA ∧ Lk w (.agg #[.bool b2, .slice o2 m2 c2]) nb LB ∧ Dig B32 LA ∧ Dig B32 LB := by
  obtain ⟨ao, ca, bo, cb, e, hA, hB, dA, dB⟩ := h
  injection e with e
  simp at e
  obtain ⟨rfl, ⟨rfl, rfl, rfl⟩, rfl, rfl, rfl, rfl⟩ := e
  exact ⟨⟨_, _, rfl, hA⟩, ⟨_, _, rfl, hB⟩, dA, dB⟩
theorem lr_of {w : World} {b1 b2 : Bool} {o1 o2 : Option Addr} {m1 c1 m2 c2 : Nat} {na nb : Bool} {LA LB : List Int} (h1 : Lk w (.agg #[.bool b1, .slice o1 m1 c1]) na LA) (h2 : Lk w (.agg #[.bool b2, .slice o2 m2 c2]) nb LB) (dA : Dig B32 LA) (dB : Dig B32 LB) : Lr w (.agg #[.bool b1, .slice o1 m1 c1, .bool b2, .slice o2 m2 c2]) na LA nb LB := by
  obtain ⟨ao, ca, e1, hA⟩ := h1
  obtain ⟨bo, cb, e2, hB⟩ := h2
  injection e1 with e1
  injection e2 with e2
  simp at e1 e2
  obtain ⟨rfl, rfl, rfl, rfl⟩ := e1
  obtain ⟨rfl, rfl, rfl, rfl⟩ := e2
  exact ⟨_, _, _, _, rfl, hA, hB, dA, dB⟩
theorem Lr.opened {w : World} {v : Value} {na nb : Bool} {LA LB : List Int} (h : Lr w v na LA nb LB) : ∃ b1 o1 m1 c1 b2 o2 m2 c2, v = .agg #[.bool b1, .slice o1 m1 c1, .bool b2, .slice o2 m2 c2] ∧ Hid (∀ w', Below w.heap.size w w' → Lr w' (.agg #[.bool b1, .slice o1 m1 c1, .bool b2, .slice o2 m2 c2]) na LA nb LB) := by
  have h' := h
  obtain ⟨ao, ca, bo, cb, rfl, hA, hB, dA, dB⟩ := h
  exact ⟨_, _, _, _, _, _, _, _, rfl, hid (fun w' hb => h'.below hb (Nat.le_refl _))⟩
theorem lrV (na nb : Bool) (LA LB : List Int) : KeepV (fun w v => Lr w v na LA nb LB) := fun _ _ _ hk h => by
  obtain ⟨ao, ca, bo, cb, rfl, hA, hB, dA, dB⟩ := h
  exact ⟨ao, ca, bo, cb, rfl, hA.keeps (hk .u32), hB.keeps (hk .u32), dA, dB⟩
theorem own_o (v : Value) (neg : Bool) (W : List Int) (w : World) (hv : Lk w v neg W) (hn : W.length ≤ 1073741824) :
    Calls Tryz.prog 32 #[v] w fun e w' => ∃ b o m c, e = .returned (.agg #[.bool b, .slice o m c]) ∧ Hid (Lk w' (.agg #[.bool b, .slice o m c]) neg W) ∧ Below w.heap.size w w' := by
  refine (own_any v neg W w hv hn).mono ?_
  rintro e w' ⟨_, rfl, ⟨ao, c, rfl, h⟩, hb⟩
  exact ⟨_, _, _, _, rfl, hid ⟨ao, c, rfl, h⟩, hb⟩
/-- What a ratio with these words stands for. -/
theorem Lr.rv {w : World} {v : Value} {na nb : Bool} {LA LB : List Int} (h : Lr w v na LA nb LB) {K : Nat} (hA : LA.length ≤ K) (hB : LB.length ≤ K) : Rv w v (rn (sgn na (val B32 LA)) (sgn nb (val B32 LB))) (rd (sgn nb (val B32 LB))) K := by
  obtain ⟨ao, ca, bo, cb, rfl, rA, rB, dA, dB⟩ := h
  exact ⟨rd_pos _, _, _, ⟨_, _, _, _, _, _, _, _, rfl, ⟨_, _, _, _, rfl, rA, dA, hA, rfl⟩, ⟨_, _, _, _, rfl, rB, dB, hB, rfl⟩⟩, rfl⟩

set_option maxRecDepth 100000 in
set_option maxHeartbeats 2000000 in
theorem ownRatio_any (v : Value) (na nb : Bool) (LA LB : List Int) (w : World) (hv : Lr w v na LA nb LB) (hA : LA.length ≤ 1073741824) (hB : LB.length ≤ 1073741824) :
    Calls Tryz.prog 8 #[v] w (RetLr w na LA nb LB) := by
  obtain ⟨b1, o1, m1, c1, bb1, oo1, mm1, cc1, rfl, _⟩ := Lr.opened hv
  have HA := hid hA; have HB := hid hB
  have HD := hid hv.parts.2.2
  clear hA hB
  obtain ⟨W0, hW0⟩ : ∃ W0, W0 = ((w.alloc (.cells #[.bool b1, .slice o1 m1 c1, .bool bb1, .slice oo1 mm1 cc1] 26)).alloc (.cells #[.bool false, .slice none 0 0, .bool false, .slice none 0 0] 26)) := ⟨_, rfl⟩
  have hB0 : Below w.heap.size w W0 := by rw [hW0]; exact ((Below.refl _ _).alloc (Nat.le_refl _) _).alloc (by simp <;> omega) _
  have hz0 : W0.heap.size = w.heap.size + 2 := by rw [hW0]; simp
  have HN0 := hid (show w.heap.size + 1 < W0.heap.size by rw [hz0]; omega)
  have HS0 : Hid (∀ w', Kp W0.heap.size (w.heap.size + 1) W0 w' → w'.cell? ⟨w.heap.size, 0, none⟩ = some (.bool b1) ∧ w'.cell? ⟨w.heap.size, 1, none⟩ = some (.slice o1 m1 c1) ∧ w'.cell? ⟨w.heap.size, 2, none⟩ = some (.bool bb1) ∧ w'.cell? ⟨w.heap.size, 3, none⟩ = some (.slice oo1 mm1 cc1)) := hid (fun w' hb => by
    refine ⟨?_, ?_, ?_, ?_⟩ <;> (rw [hb.cell _ (by rw [hz0]; simp <;> omega) (by simp <;> omega), hW0]; simp [go_sem]))
  have HT : Hid (∀ w', Below W0.heap.size W0 w' → (w'.cell? ⟨w.heap.size + 1, 0, none⟩ = some (.bool false) ∧ w'.cell? ⟨w.heap.size + 1, 1, none⟩ = some (.slice none 0 0) ∧ w'.cell? ⟨w.heap.size + 1, 2, none⟩ = some (.bool false) ∧ w'.cell? ⟨w.heap.size + 1, 3, none⟩ = some (.slice none 0 0)) ∧ (w'.frozen? ⟨w.heap.size + 1, 0, none⟩ = false ∧ w'.frozen? ⟨w.heap.size + 1, 1, none⟩ = false ∧ w'.frozen? ⟨w.heap.size + 1, 2, none⟩ = false ∧ w'.frozen? ⟨w.heap.size + 1, 3, none⟩ = false)) := hid (fun w' hb => by
    refine ⟨⟨?_, ?_, ?_, ?_⟩, ?_, ?_, ?_, ?_⟩ <;> (first | (rw [hb.cell (by rw [hz0]; simp), hW0]; simp [go_sem]; done) | (rw [hb.frozen (by rw [hz0]; simp), hW0]; simp [go_sem]; done)))
  have VU : Hid (∀ w', Below W0.heap.size W0 w' → Lr w' (.agg #[.bool b1, .slice o1 m1 c1, .bool bb1, .slice oo1 mm1 cc1]) na LA nb LB) := hid (fun w' hb => (hv.below hB0 (Nat.le_refl _)).below hb (Nat.le_refl _))
  have hbld : ∀ (b b2 : Bool) (o o2 : Option Addr) (m c m2 c2 : Nat) (w : World), (Instr.build 26 #[(0, .agg #[.bool b, .slice o m c]), (1, .agg #[.bool b2, .slice o2 m2 c2])]).run Tryz.prog w = .ok (.agg #[.bool b, .slice o m c, .bool b2, .slice o2 m2 c2]) w := fun b b2 o o2 m c m2 c2 w => by kernel_rfl
  have HB0 := hid hB0; have HW0 := hid hW0
  clear hW0 hB0 hz0 hv
  go_enter Tryz.func8, Tryz.ntmps8
  go_upto_region 1 with (fail)
  rw [← HW0.out]
  have hY0 := Below.refl W0.heap.size W0
  have tk1 := hid trivial
  have tk2 := hid trivial
  go_region_held3 (fun w' => w'.cell? ⟨w.heap.size, 0, none⟩ = some (.bool b1) ∧ w'.cell? ⟨w.heap.size, 1, none⟩ = some (.slice o1 m1 c1) ∧ w'.cell? ⟨w.heap.size, 2, none⟩ = some (.bool bb1) ∧ w'.cell? ⟨w.heap.size, 3, none⟩ = some (.slice oo1 mm1 cc1)) ((refine HS0.out _ ?_; (repeat (first | assumption | exact Kp.of_below (by assumption) | exact Kp.of_below (Below.drew (by assumption)) | exact Kp.of_below (Below.refl _ _) | exact Kp.of_below (Below.refl _ _).drew | (refine Kp.set ?_ (by simp) _))))) (first
    | (clear tk1; go_at_call 32; refine (own_o _ na LA _ (VU.out _ hY0.drew).parts.1 HA.out).mono ?_; rintro e v1 ⟨b4, o4, m4, c4, rfl, H4, hbq⟩; have hY1 : Below W0.heap.size W0 v1 := (hY0.drew).trans (hbq.mono (hY0.drew).size))
    | (clear tk2; go_at_call 32; refine (own_o _ nb LB _ (VU.out _ hY1).parts.2.1 HB.out).mono ?_; rintro e v2 ⟨b5, o5, m5, c5, rfl, H5, hbq⟩; have hY2 : Below W0.heap.size W0 v2 := (hY1).trans (hbq.mono (hY1).size); have H4b := H4.out.below hbq (Nat.le_refl _); obtain ⟨⟨hr0, hr1, hr2, hr3⟩, hf0, hf1, hf2, hf3⟩ := HT.out _ hY2))
  have hn0 := HN0.out
  have hbel : Below w.heap.size w v2 := HB0.out.trans (hY2.mono HB0.out.size)
  go_wp2
  refine bodyPost_ret (v := .agg #[.bool b4, .slice o4 m4 c4, .bool b5, .slice o5 m5 c5]) (by simp [results, Tryz.results8, go_sem, hr0, hr1, hr2, hr3]) rfl ⟨_, _, _, _, _, _, _, _, rfl, hid (lr_of (Lk.keeps _ _ _ (((((Keeps.refl _ _).setCell (u := .bool false) hr0 (fun x h => (by cases h)) _).setCell (u := .slice none 0 0) (by simp [go_sem, hr1]) (fun x h => (by cases h)) _).setCell (u := .bool false) (by simp [go_sem, hr2]) (fun x h => (by cases h)) _).setCell (u := .slice none 0 0) (by simp [go_sem, hr3]) (fun x h => (by cases h)) _) H4b) (Lk.keeps _ _ _ (((((Keeps.refl _ _).setCell (u := .bool false) hr0 (fun x h => (by cases h)) _).setCell (u := .slice none 0 0) (by simp [go_sem, hr1]) (fun x h => (by cases h)) _).setCell (u := .bool false) (by simp [go_sem, hr2]) (fun x h => (by cases h)) _).setCell (u := .slice none 0 0) (by simp [go_sem, hr3]) (fun x h => (by cases h)) _) H5.out) HD.out.1 HD.out.2), ((((hbel.setCell (by simp <;> omega) _).setCell (by simp <;> omega) _).setCell (by simp <;> omega) _).setCell (by simp <;> omega) _)⟩

set_option maxRecDepth 100000 in
set_option maxHeartbeats 2000000 in
theorem like_any (u v : Value) (na nb : Bool) (LA LB : List Int) (w : World) (hu : Lr w u na LA nb LB) (hv : Lr w v na LA nb LB) :
    Calls Tryz.prog 31 #[u, v] w fun e w' => e = .returned (.bool true) ∧ Below w.heap.size w w' := by
  obtain ⟨b1, o1, m1, c1, bb1, oo1, mm1, cc1, rfl, _⟩ := Lr.opened hu
  obtain ⟨b2, o2, m2, c2, bb2, oo2, mm2, cc2, rfl, _⟩ := Lr.opened hv
  obtain ⟨W0, hW0⟩ : ∃ W0, W0 = ((w.alloc (.cells #[.bool b1, .slice o1 m1 c1, .bool bb1, .slice oo1 mm1 cc1] 26)).alloc (.cells #[.bool b2, .slice o2 m2 c2, .bool bb2, .slice oo2 mm2 cc2] 26)) := ⟨_, rfl⟩
  have hB0 : Below w.heap.size w W0 := by rw [hW0]; exact ((Below.refl _ _).alloc (Nat.le_refl _) _).alloc (by simp <;> omega) _
  have hz0 : W0.heap.size = w.heap.size + 2 := by rw [hW0]; simp
  have HN0 := hid (show w.heap.size + 1 < W0.heap.size by rw [hz0]; omega)
  have HS0 : Hid (∀ w', Kp W0.heap.size (w.heap.size + 2) W0 w' → w'.cell? ⟨w.heap.size, 0, none⟩ = some (.bool b1) ∧ w'.cell? ⟨w.heap.size, 1, none⟩ = some (.slice o1 m1 c1) ∧ w'.cell? ⟨w.heap.size, 2, none⟩ = some (.bool bb1) ∧ w'.cell? ⟨w.heap.size, 3, none⟩ = some (.slice oo1 mm1 cc1) ∧ w'.cell? ⟨w.heap.size + 1, 0, none⟩ = some (.bool b2) ∧ w'.cell? ⟨w.heap.size + 1, 1, none⟩ = some (.slice o2 m2 c2) ∧ w'.cell? ⟨w.heap.size + 1, 2, none⟩ = some (.bool bb2) ∧ w'.cell? ⟨w.heap.size + 1, 3, none⟩ = some (.slice oo2 mm2 cc2)) := hid (fun w' hb => by
    refine ⟨?_, ?_, ?_, ?_, ?_, ?_, ?_, ?_⟩ <;> (rw [hb.cell _ (by rw [hz0]; simp <;> omega) (by simp <;> omega), hW0]; simp [go_sem]))
  have VU : Hid (∀ w', Below W0.heap.size W0 w' → Lr w' (.agg #[.bool b1, .slice o1 m1 c1, .bool bb1, .slice oo1 mm1 cc1]) na LA nb LB) := hid (fun w' hb => (hu.below hB0 (Nat.le_refl _)).below hb (Nat.le_refl _))
  have VV : Hid (∀ w', Below W0.heap.size W0 w' → Lr w' (.agg #[.bool b2, .slice o2 m2 c2, .bool bb2, .slice oo2 mm2 cc2]) na LA nb LB) := hid (fun w' hb => (hv.below hB0 (Nat.le_refl _)).below hb (Nat.le_refl _))
  have HB0 := hid hB0; have HW0 := hid hW0
  clear hW0 hB0 hz0 hu hv
  go_enter Tryz.func31, Tryz.ntmps31
  go_upto_region 1 with (fail)
  rw [← HW0.out]
  obtain ⟨k0, k1, k2, k3, k4, k5, k6, k7⟩ := HS0.out _ (Kp.of_below (Below.refl _ _))
  go_wp2_with fail
  refine (likeInt_any _ _ na LA _ (VU.out _ (Below.refl _ _)).parts.1 (VV.out _ (Below.refl _ _)).parts.1).mono ?_
  rintro e wq1 ⟨rfl, hb1⟩
  clear k0 k1 k2 k3 k4 k5 k6 k7
  obtain ⟨k0, k1, k2, k3, k4, k5, k6, k7⟩ := HS0.out _ (Kp.of_below hb1)
  go_wp2_with fail
  refine (likeInt_any _ _ nb LB _ (VU.out _ hb1).parts.2.1 (VV.out _ hb1).parts.2.1).mono ?_
  rintro e wq2 ⟨rfl, hb2⟩
  clear k0 k1 k2 k3 k4 k5 k6 k7
  have hX2 : Below W0.heap.size W0 wq2 := bl_tr hb1 hb2
  go_wp2
  go_ret
  exact ⟨rfl, HB0.out.trans (hX2.mono HB0.out.size)⟩

end Go.Proofs.YtbapeilpkhbbeaaGreat

/- The simplest fraction between two: plain mathematics, nothing of the program. -/
namespace Go.Proofs.YtbapeilpkhbbeaaGreat

/-- Of the fractions from a / b to c / d (all above 0) n / m is the simplest one: each has a denominator and a numerator at least as great. -/
structure Smp (a b c d n m : Int) : Prop where
  n0 : 0 < n
  m0 : 0 < m
  lo : a * m ≤ n * b
  hi : n * d ≤ c * m
  least : ∀ p q, 0 < q → a * q ≤ p * b → p * d ≤ c * q → m ≤ q ∧ n ≤ p

theorem smp_whole {a b c d q : Int} (ha : 0 < a) (hb : 0 < b) (hle : a * d ≤ c * b) (e : a = q * b) : Smp a b c d q 1 := by
  have hq : 0 < q := by
    rcases Int.lt_or_le 0 q with h | h
    · exact h
    · have := Int.mul_nonneg (show 0 ≤ -q by omega) (Int.le_of_lt hb)
      rw [Int.neg_mul] at this
      omega
  refine ⟨hq, by decide, by omega, ?_, fun p s hs h1 h2 => ⟨by omega, ?_⟩⟩
  · rw [Int.mul_one]
    refine Int.le_of_mul_le_mul_right (a := b) ?_ hb
    rw [e] at hle
    grind
  · have h3 : q * s * b ≤ p * b := by rw [e] at h1; grind
    have h4 : q * s ≤ p := Int.le_of_mul_le_mul_right h3 hb
    have h5 : q * 1 ≤ q * s := Int.mul_le_mul_of_nonneg_left (by omega) (Int.le_of_lt hq)
    omega
theorem smp_next {a b c d q r : Int} (hb : 0 < b) (e : a = q * b + r) (hq : 0 ≤ q) (hr : 0 < r) (hrb : r < b) (hc : (q + 1) * d ≤ c) : Smp a b c d (q + 1) 1 := by
  refine ⟨by omega, by decide, ?_, by omega, fun p s hs h1 h2 => ⟨by omega, ?_⟩⟩
  · rw [Int.add_mul]; omega
  · rcases Int.lt_or_le q p with h | h
    · omega
    · exfalso
      have ha : 0 < a := by have := Int.mul_nonneg hq (Int.le_of_lt hb); omega
      have h3 : p * b ≤ q * b := Int.mul_le_mul_of_nonneg_right h (Int.le_of_lt hb)
      have h4 : a * 1 ≤ a * s := Int.mul_le_mul_of_nonneg_left (by omega) (Int.le_of_lt ha)
      omega
theorem smp_rest {a b c d q r : Int} (hb : 0 < b) (hd : 0 < d) (e : a = q * b + r) (hr : 0 < r) (hle : a * d ≤ c * b) : 0 < c - q * d ∧ d * r ≤ b * (c - q * d) := by
  have h1 : r * d ≤ (c - q * d) * b := by rw [e] at hle; grind
  refine ⟨?_, by grind⟩
  rcases Int.lt_or_le 0 (c - q * d) with h | h
  · exact h
  · have h2 := Int.mul_pos hr hd
    have h3 := Int.mul_nonneg (show 0 ≤ -(c - q * d) by omega) (Int.le_of_lt hb)
    rw [Int.neg_mul] at h3
    omega
theorem smp_step {a b c d q r n m : Int} (hb : 0 < b) (e : a = q * b + r) (hq : 0 ≤ q) (hr : 0 < r) (h : Smp d (c - q * d) b r n m) : Smp a b c d (q * n + m) n := by
  have hm := h.m0
  have hn := h.n0
  refine ⟨?_, h.n0, ?_, ?_, fun p s hs h1 h2 => ?_⟩
  · have := Int.mul_nonneg hq (Int.le_of_lt hn); omega
  · have := h.hi; rw [e]; grind
  · have := h.lo; grind
  · have h3 : r * s ≤ (p - q * s) * b := by rw [e] at h1; grind
    have h4 : 0 < p - q * s := by
      rcases Int.lt_or_le 0 (p - q * s) with h5 | h5
      · exact h5
      · have h6 := Int.mul_pos hr hs
        have h7 := Int.mul_nonneg (show 0 ≤ -(p - q * s) by omega) (Int.le_of_lt hb)
        rw [Int.neg_mul] at h7
        omega
    obtain ⟨h8, h9⟩ := h.least s (p - q * s) h4 (by grind) (by grind)
    refine ⟨h9, ?_⟩
    have h10 : q * n ≤ q * s := Int.mul_le_mul_of_nonneg_left h9 hq
    omega
theorem smp_ex : ∀ (k : Nat) (a b c d : Int), 0 < a → 0 < b → 0 < c → 0 < d → a * d ≤ c * b → (b + d).toNat ≤ k → ∃ n m, Smp a b c d n m
  | 0, _, b, _, d, _, hb, _, hd, _, hk => by omega
  | k + 1, a, b, c, d, ha, hb, hc, hd, hle, hk => by
    have e : a = a / b * b + a % b := (Int.ediv_mul_add_emod a b).symm
    have hr0 := Int.emod_nonneg a (show b ≠ 0 by omega)
    have hrb := Int.emod_lt_of_pos a hb
    have hq : 0 ≤ a / b := Int.ediv_nonneg (Int.le_of_lt ha) (Int.le_of_lt hb)
    rcases Int.lt_or_le 0 (a % b) with hr | hr
    · rcases Int.lt_or_le c ((a / b + 1) * d) with hcc | hcc
      · obtain ⟨h1, h2⟩ := smp_rest hb hd e hr hle
        have h3 : c - a / b * d < d := by rw [Int.add_mul] at hcc; omega
        obtain ⟨n, m, h⟩ := smp_ex k d (c - a / b * d) b (a % b) hd h1 hb hr h2 (by omega)
        exact ⟨_, _, smp_step hb e hq hr h⟩
      · exact ⟨_, _, smp_next hb e hq hr hrb hcc⟩
    · exact ⟨_, _, smp_whole (q := a / b) ha hb hle (by omega)⟩
/-- What a round keeps: what is simplest for what is left makes what is simplest for all. -/
def SmpC (A B C D a b c d n l e m : Int) : Prop := ∀ x y, Smp a b c d x y → Smp A B C D (n * x + l * y) (e * x + m * y)
theorem smpC_begin (A B C D : Int) : SmpC A B C D A B C D 1 0 0 1 := fun x y h => by
  rw [Int.one_mul, Int.zero_mul, Int.zero_mul, Int.one_mul, Int.add_zero, Int.zero_add]; exact h
theorem smpC_step {A B C D a b c d n l e m q r : Int} (hb : 0 < b) (eq : a = q * b + r) (hq : 0 ≤ q) (hr : 0 < r) (h : SmpC A B C D a b c d n l e m) : SmpC A B C D d (c - q * d) b r (q * n + l) n (q * e + m) e := fun x y hs => by
  have := h _ _ (smp_step hb eq hq hr hs)
  rw [show (q * n + l) * x + n * y = n * (q * x + y) + l * x by grind, show (q * e + m) * x + e * y = e * (q * x + y) + m * x by grind]
  exact this
theorem smpC_stop {A B C D a b c d n l e m t : Int} (h : SmpC A B C D a b c d n l e m) (hs : Smp a b c d t 1) : Smp A B C D (t * n + l) (t * e + m) := by
  have := h _ _ hs
  rw [show t * n + l = n * t + l * 1 by grind, show t * e + m = e * t + m * 1 by grind]
  exact this
/-- The answer is no greater than the lower end's parts. -/
theorem Smp.small {A B C D n m : Int} (h : Smp A B C D n m) (hB : 0 < B) (hle : A * D ≤ C * B) : n ≤ A ∧ m ≤ B := by
  obtain ⟨h1, h2⟩ := h.least A B hB (Int.le_refl _) hle
  exact ⟨h2, h1⟩
/-- Nor are the parts of a round's four numbers. -/
theorem smpC_small {A B C D a b c d n l e m : Int} (hB : 0 < B) (hle : A * D ≤ C * B) (n0 : 0 ≤ n) (l0 : 0 ≤ l) (e0 : 0 ≤ e) (m0 : 0 ≤ m) (ha : 0 < a) (hb : 0 < b) (hc : 0 < c) (hd : 0 < d) (hl : a * d ≤ c * b) (h : SmpC A B C D a b c d n l e m) : n ≤ A ∧ l ≤ A ∧ e ≤ B ∧ m ≤ B := by
  obtain ⟨x, y, hs⟩ := smp_ex _ a b c d ha hb hc hd hl (Nat.le_refl _)
  obtain ⟨h1, h2⟩ := (h _ _ hs).small hB hle
  have hx := hs.n0
  have hy := hs.m0
  have a1 : n * 1 ≤ n * x := Int.mul_le_mul_of_nonneg_left (by omega) n0
  have a2 : l * 1 ≤ l * y := Int.mul_le_mul_of_nonneg_left (by omega) l0
  have a3 : e * 1 ≤ e * x := Int.mul_le_mul_of_nonneg_left (by omega) e0
  have a4 : m * 1 ≤ m * y := Int.mul_le_mul_of_nonneg_left (by omega) m0
  omega
end Go.Proofs.YtbapeilpkhbbeaaGreat
