/- exact: divided and whole: fractions of integers. exact.Sign, exact.Cmp. exact.Make: the ratio of two integers in lowest terms, or ErrZero. exact.Make where the divisor is 0; exact.Whole. The document's own integers: cut, digit, order. Digits to the base 65536, the lowest first. The document's own integers: few, even, value. The document's own integers: naturals as digits; half. -/
import Derived.Test.YtbapeilpkhbbeaaGreatBn13
import Derived.Test.YtbapeilpkhbbeaaGreatBn12
import Derived.Test.YtbapeilpkhbbeaaGreatBn04
import Derived.Test.YtbapeilpkhbbeaaGreatBn02
/- exact: divided and whole: fractions of integers. -/
namespace Go.Proofs.YtbapeilpkhbbeaaGreat
open Go.RowKit

theorem nt_keeps {n : Int} {K : Nat} {w w' : World} {v : Value} (hk : Keeps .u64 w w') (h : Nt w v n K) : Nt w' v n K := by
  obtain ⟨ao, c, L, rfl, h⟩ := h
  exact ⟨ao, c, L, rfl, h.rd.keeps hk, h.dig, h.nrm, h.eq, h.le⟩

set_option maxRecDepth 100000 in
set_option maxHeartbeats 800000 in
theorem divided_any (u v : Value) (x y : Int) (K : Nat) (w : World) (hu : It w u x K) (hv : It w v y K) :
    Calls Tryz.prog 94 #[u, v] w fun e w' => ∃ f, e = .returned f ∧ Ft w' f (sgn (decide (x < 0) != decide (y < 0)) (x.natAbs : Int)) (y.natAbs : Int) K ∧ Below w.heap.size w w' := by
  obtain ⟨xb, xo, xm, xc, rfl, Hx, Hxs, Hxb⟩ := It.opened hu
  obtain ⟨yb, yo, ym, yc, rfl, Hy, Hys, Hyb⟩ := It.opened hv
  rw [← Hxb.out, ← Hyb.out]
  clear hu hv
  obtain ⟨W0, hW0⟩ : ∃ W0, W0 = (((w.alloc (.cells #[.bool xb, .slice xo xm xc] 78)).alloc (.cells #[.bool yb, .slice yo ym yc] 78)).alloc (.cells #[.bool false, .slice none 0 0, .slice none 0 0] 80)) := ⟨_, rfl⟩
  have hB0 : Below w.heap.size w W0 := by rw [hW0]; exact (((Below.refl _ _).alloc (Nat.le_refl _) _).alloc (by simp) _).alloc (by simp <;> omega) _
  have hz0 : W0.heap.size = w.heap.size + 3 := by rw [hW0]; simp
  have HS : Hid (∀ w', Below (w.heap.size + 2) W0 w' → w'.cell? ⟨w.heap.size, 0, none⟩ = some (.bool xb) ∧ w'.cell? ⟨w.heap.size, 1, none⟩ = some (.slice xo xm xc) ∧ w'.cell? ⟨w.heap.size + 1, 0, none⟩ = some (.bool yb) ∧ w'.cell? ⟨w.heap.size + 1, 1, none⟩ = some (.slice yo ym yc)) := hid (fun w' hb => by
    refine ⟨?_, ?_, ?_, ?_⟩ <;> (rw [hb.cell (by simp <;> omega), hW0]; simp [go_sem]))
  have HT : Hid (∀ w', Below (w.heap.size + 3) W0 w' → (w'.cell? ⟨w.heap.size + 2, 0, none⟩ = some (.bool false) ∧ w'.cell? ⟨w.heap.size + 2, 1, none⟩ = some (.slice none 0 0) ∧ w'.cell? ⟨w.heap.size + 2, 2, none⟩ = some (.slice none 0 0)) ∧ (w'.frozen? ⟨w.heap.size + 2, 0, none⟩ = false ∧ w'.frozen? ⟨w.heap.size + 2, 1, none⟩ = false ∧ w'.frozen? ⟨w.heap.size + 2, 2, none⟩ = false)) := hid (fun w' hb => by
    refine ⟨⟨?_, ?_, ?_⟩, ?_, ?_, ?_⟩ <;> (first | (rw [hb.cell (by simp <;> omega), hW0]; simp [go_sem]; done) | (rw [hb.frozen (by simp <;> omega), hW0]; simp [go_sem]; done)))
  have HB0 := hid hB0; have Hz0 := hid hz0; have HW := hid hW0
  clear hW0
  go_enter Tryz.func94, Tryz.ntmps94
  go_upto_region 1 with (fail)
  rw [← HW.out]
  obtain ⟨k0, k1, k2, k3⟩ := HS.out _ (Below.refl _ _)
  clear k0 k1 k2 k3
  go_region_held3 (fun w' => w'.cell? ⟨w.heap.size, 0, none⟩ = some (.bool xb) ∧ w'.cell? ⟨w.heap.size, 1, none⟩ = some (.slice xo xm xc) ∧ w'.cell? ⟨w.heap.size + 1, 0, none⟩ = some (.bool yb) ∧ w'.cell? ⟨w.heap.size + 1, 1, none⟩ = some (.slice yo ym yc)) ((refine HS.out _ ?_; repeat (first | assumption | exact Below.refl _ _ | exact (Below.refl _ _).drew | exact Below.drew (by assumption) | (refine Below.setCell ?_ (by simp) _)))) (first
    | (go_at_call 82; refine (signed_any (xb != yb) _ _ K _ (Hxs.out _ hB0.drew)).mono ?_; rintro e w2 ⟨_, rfl, hv2, hb2⟩; obtain ⟨b2, o2, m2, c2, rfl, H2, H2s, H2b⟩ := It.opened hv2; have hB2 : Below (w.heap.size + 3) W0 w2 := ((Below.refl _ _).drew).trans (hb2.mono (by simp; omega)); have hB2s : Below (w.heap.size + 2) W0 w2 := hB2.mono (by omega); obtain ⟨⟨hr0, hr1, hr2⟩, hf0, hf1, hf2⟩ := HT.out _ hB2))
  go_wp2
  have hbel : Below w.heap.size w w2 := hB0.trans (hB2.mono (by omega))
  refine bodyPost_ret (v := .agg #[.bool b2, .slice o2 m2 c2, .slice yo ym yc]) (by simp [results, Tryz.results94, go_sem, hr0, hr1, hr2]) rfl ⟨_, rfl, ?_, ((hbel.setCell (by simp <;> omega) _).setCell (by simp <;> omega) _).setCell (by simp <;> omega) _⟩
  refine ⟨.slice o2 m2 c2, .slice yo ym yc, by rw [H2b.out], ?_, ?_⟩
  · exact nt_keeps (((((Keeps.refl _ _).setCell (u := .bool false) hr0 (fun x h => (by cases h)) _).setCell (u := .slice none 0 0) (by simp [go_sem, hr1]) (fun x h => (by cases h)) _).setCell (u := .slice none 0 0) (by simp [go_sem, hr2]) (fun x h => (by cases h)) _)) (H2s.out _ (Below.refl _ _))
  · exact nt_keeps (((((Keeps.refl _ _).setCell (u := .bool false) hr0 (fun x h => (by cases h)) _).setCell (u := .slice none 0 0) (by simp [go_sem, hr1]) (fun x h => (by cases h)) _).setCell (u := .slice none 0 0) (by simp [go_sem, hr2]) (fun x h => (by cases h)) _)) (Hys.out _ hbel)

set_option maxRecDepth 100000 in
set_option maxHeartbeats 800000 in
theorem whole_any (u : Value) (x : Int) (K : Nat) (w : World) (hu : It w u x K) (hK : 1 ≤ K) :
    Calls Tryz.prog 92 #[u] w fun e w' => ∃ f, e = .returned f ∧ Ft w' f x 1 K ∧ Below w.heap.size w w' := by
  obtain ⟨xb, xo, xm, xc, rfl, Hx, Hxs, Hxb⟩ := It.opened hu
  clear hu
  obtain ⟨W0, hW0⟩ : ∃ W0, W0 = ((w.alloc (.cells #[.bool xb, .slice xo xm xc] 78)).alloc (.cells #[.bool false, .slice none 0 0, .slice none 0 0] 80)) := ⟨_, rfl⟩
  have hB0 : Below w.heap.size w W0 := by rw [hW0]; exact ((Below.refl _ _).alloc (Nat.le_refl _) _).alloc (by simp) _
  have hz0 : W0.heap.size = w.heap.size + 2 := by rw [hW0]; simp
  have HS : Hid (∀ w', Below (w.heap.size + 1) W0 w' → w'.cell? ⟨w.heap.size, 0, none⟩ = some (.bool xb) ∧ w'.cell? ⟨w.heap.size, 1, none⟩ = some (.slice xo xm xc)) := hid (fun w' hb => by
    refine ⟨?_, ?_⟩ <;> (rw [hb.cell (by simp <;> omega), hW0]; simp [go_sem]))
  have HT : Hid (∀ w', Below (w.heap.size + 2) W0 w' → (w'.cell? ⟨w.heap.size + 1, 0, none⟩ = some (.bool false) ∧ w'.cell? ⟨w.heap.size + 1, 1, none⟩ = some (.slice none 0 0) ∧ w'.cell? ⟨w.heap.size + 1, 2, none⟩ = some (.slice none 0 0)) ∧ (w'.frozen? ⟨w.heap.size + 1, 0, none⟩ = false ∧ w'.frozen? ⟨w.heap.size + 1, 1, none⟩ = false ∧ w'.frozen? ⟨w.heap.size + 1, 2, none⟩ = false)) := hid (fun w' hb => by
    refine ⟨⟨?_, ?_, ?_⟩, ?_, ?_, ?_⟩ <;> (first | (rw [hb.cell (by simp <;> omega), hW0]; simp [go_sem]; done) | (rw [hb.frozen (by simp <;> omega), hW0]; simp [go_sem]; done)))
  have HB0 := hid hB0; have Hz0 := hid hz0; have HW := hid hW0
  clear hW0
  go_enter Tryz.func92, Tryz.ntmps92
  go_upto_region 1 with (fail)
  rw [← HW.out]
  obtain ⟨k0, k1⟩ := HS.out _ (Below.refl _ _)
  obtain ⟨⟨hr0, hr1, hr2⟩, hf0, hf1, hf2⟩ := HT.out _ (Below.refl _ _)
  go_wp2
  obtain ⟨W1, hW1⟩ : ∃ W1, W1 = (((W0.setCell ⟨w.heap.size + 1, 0, none⟩ (.bool xb)).setCell ⟨w.heap.size + 1, 1, none⟩ (.slice xo xm xc)).setCell ⟨w.heap.size + 1, 2, none⟩ (.slice (some ⟨w.heap.size + 2, 0, none⟩) 1 1)) := ⟨_, rfl⟩
  have hk : Keeps .u64 W0 W1 := by rw [hW1]; exact (((((Keeps.refl _ _).setCell (u := .bool false) hr0 (fun x h => (by cases h)) _).setCell (u := .slice none 0 0) (by simp [go_sem, hr1]) (fun x h => (by cases h)) _).setCell (u := .slice none 0 0) (by simp [go_sem, hr2]) (fun x h => (by cases h)) _))
  have hz1 : W1.heap.size = w.heap.size + 2 := by rw [hW1]; simp; omega
  have hb1 : Below w.heap.size w W1 := by rw [hW1]; exact ((hB0.setCell (by simp <;> omega) _).setCell (by simp <;> omega) _).setCell (by simp <;> omega) _
  have hc0 : W1.cell? ⟨w.heap.size + 1, 0, none⟩ = some (.bool xb) := by rw [hW1]; simp [go_sem, hr0]
  have hc1 : W1.cell? ⟨w.heap.size + 1, 1, none⟩ = some (.slice xo xm xc) := by rw [hW1]; simp [go_sem, hr1]
  have hc2 : W1.cell? ⟨w.heap.size + 1, 2, none⟩ = some (.slice (some ⟨w.heap.size + 2, 0, none⟩) 1 1) := by rw [hW1]; simp [go_sem, hr2]
  rw [← hW1]
  have hal : Below W1.heap.size W1 (W1.alloc (.cells #[.int .u64 1] 106 (0, 0))) := (Below.refl _ _).alloc (Nat.le_refl _) _
  have hd0 := (hal.cell (p := ⟨w.heap.size + 1, 0, none⟩) (by simp; omega)).trans hc0
  have hd1 := (hal.cell (p := ⟨w.heap.size + 1, 1, none⟩) (by simp; omega)).trans hc1
  have hd2 := (hal.cell (p := ⟨w.heap.size + 1, 2, none⟩) (by simp; omega)).trans hc2
  refine bodyPost_ret (v := .agg #[.bool xb, .slice xo xm xc, .slice (some ⟨w.heap.size + 2, 0, none⟩) 1 1]) (by simp [results, Tryz.results92, go_sem, hd0, hd1, hd2]) rfl ⟨_, rfl, ?_, hb1.alloc (by omega) _⟩
  refine ⟨.slice xo xm xc, .slice (some ⟨w.heap.size + 2, 0, none⟩) 1 1, by rw [Hxb.out], ?_, ?_⟩
  · exact (nt_keeps hk (Hxs.out _ hB0)).below hal (Nat.le_refl _)
  · have h1 := (one_row W1).mono hK
    rw [hz1] at h1
    exact h1
end Go.Proofs.YtbapeilpkhbbeaaGreat

/- exact.Sign, exact.Cmp. -/
namespace Go.Proofs.YtbapeilpkhbbeaaGreat
open Go.RowKit

theorem Nt.zero {w : World} {ao : Option Addr} {m c : Nat} {n : Int} {K : Nat} (h : Nt w (.slice ao m c) n K) : m = 0 ↔ n = 0 := by
  obtain ⟨ao, c, L, e, h⟩ := h
  cases e
  exact h.zero_iff

set_option maxHeartbeats 1000000 in
theorem sign_any (v : Value) (z : Int) (K : Nat) (w : World) (h : It w v z K) :
    Calls Tryz.prog 61 #[v] w fun e w' => e = .returned (.int .i64 (cmpI z 0)) ∧ Below w.heap.size w w' := by
  obtain ⟨xb, xo, xm, xc, rfl, Hx, Hxs, Hxb⟩ := It.opened h
  have hz := (Hxs.out w (Below.refl _ _)).zero
  by_cases h0 : z = 0
  · obtain rfl : xm = 0 := hz.2 (by omega)
    have e : cmpI z 0 = 0 := by rw [h0]; rfl
    rw [e]
    clear hz h h0 e
    go_enter Tryz.func61, Tryz.ntmps61
    go_wp2
    go_ret
    exact ⟨rfl, (Below.refl _ _).alloc (Nat.le_refl _) _⟩
  · have hm : ((xm : Int) == 0) = false := by rw [beq_eq_false_iff_ne]; have := hz.1; omega
    by_cases h1 : z < 0
    · obtain rfl : xb = true := by rw [Hxb.out]; exact decide_eq_true h1
      rw [cmpI_lt h1]
      clear hz h h0 h1
      go_enter Tryz.func61, Tryz.ntmps61
      go_wp2
      go_ret
      exact ⟨rfl, (Below.refl _ _).alloc (Nat.le_refl _) _⟩
    · obtain rfl : xb = false := by rw [Hxb.out]; exact decide_eq_false h1
      rw [cmpI_gt (show 0 < z by omega)]
      clear hz h h0 h1
      go_enter Tryz.func61, Tryz.ntmps61
      go_wp2
      go_ret
      exact ⟨rfl, (Below.refl _ _).alloc (Nat.le_refl _) _⟩

set_option maxHeartbeats 1000000 in
theorem order_ne (a b : Int) (f : Value) (w : World) (hne : a ≠ b) :
    Calls Tryz.prog 65 #[.int .i64 a, .int .i64 b, f] w fun e w' => e = .returned (.int .i64 (cmpI a b)) ∧ w' = w := by
  have hb : ((a : Int) != b) = true := by rw [bne_iff_ne]; exact hne
  go_enter Tryz.func65, Tryz.ntmps65
  go_wp2_with (go_at_call 105; refine (cmpInt _ _ _).mono ?_; rintro e w' ⟨rfl, rfl⟩)
  go_ret
  exact ⟨rfl, rfl⟩

theorem cmpI_bd (a b : Int) : -1 ≤ cmpI a b ∧ cmpI a b ≤ 1 := by unfold cmpI; split <;> (try split) <;> decide

end Go.Proofs.YtbapeilpkhbbeaaGreat

/- exact.Make: the ratio of two integers in lowest terms, or ErrZero. -/
namespace Go.Proofs.YtbapeilpkhbbeaaGreat
open Go.RowKit

/-- Cells below B that lie in another block than g are as they were. -/
structure Kp (B g : Nat) (w w' : World) : Prop where
  cell : ∀ a : Addr, a.block < B → a.block ≠ g → w'.cell? a = w.cell? a
theorem Kp.of_below {B g : Nat} {w w' : World} (h : Below B w w') : Kp B g w w' := ⟨fun _ ha _ => h.cell ha⟩
theorem Kp.set {B g : Nat} {w w' : World} (h : Kp B g w w') {a : Addr} (ha : a.block = g) (u : Value) : Kp B g w (w'.setCell a u) := by
  refine ⟨fun p hp hne => ?_⟩
  rw [World.cell?_setCell_other w' a p u (by rintro rfl; exact hne ha)]
  exact h.cell p hp hne
theorem FrA.opened {w0 w : World} {v : Value} {z : Int} {K : Nat} (h : FrA w0 w v z K) : ∃ b ao m c, v = .agg #[.bool b, .slice ao m c] ∧ Hid (FrA w0 w (.agg #[.bool b, .slice ao m c]) z K) := by
  obtain ⟨s, rfl, h⟩ := h
  obtain ⟨ao, m, c, rfl, H⟩ := FrW.opened h
  exact ⟨_, ao, m, c, rfl, hid ⟨_, rfl, H.out⟩⟩
theorem FrA.base {w0 w1 w : World} {v : Value} {z : Int} {K : Nat} (h : FrA w1 w v z K) (hb : w0.heap.size ≤ w1.heap.size) : FrA w0 w v z K := by
  obtain ⟨s, rfl, h⟩ := h
  exact ⟨s, rfl, h.base hb⟩
theorem FrR.opened {w0 w : World} {v : Value} {x y : Int} {K : Nat} (h : FrR w0 w v x y K) : ∃ b1 o1 m1 c1 b2 o2 m2 c2, v = .agg #[.bool b1, .slice o1 m1 c1, .bool b2, .slice o2 m2 c2] ∧ Hid (FrA w0 w (.agg #[.bool b1, .slice o1 m1 c1]) x K) ∧ Hid (FrA w0 w (.agg #[.bool b2, .slice o2 m2 c2]) y K) := by
  obtain ⟨_, _, _, _, rfl, h1, h2⟩ := h
  obtain ⟨b1, o1, m1, c1, e1, H1⟩ := FrA.opened h1
  obtain ⟨b2, o2, m2, c2, e2, H2⟩ := FrA.opened h2
  injection e1 with e1
  injection e2 with e2
  simp at e1 e2
  obtain ⟨rfl, rfl⟩ := e1
  obtain ⟨rfl, rfl⟩ := e2
  exact ⟨b1, o1, m1, c1, b2, o2, m2, c2, rfl, H1, H2⟩

end Go.Proofs.YtbapeilpkhbbeaaGreat

/- exact.Make where the divisor is 0; exact.Whole. -/
namespace Go.Proofs.YtbapeilpkhbbeaaGreat
open Go.RowKit

end Go.Proofs.YtbapeilpkhbbeaaGreat

/- The document's own integers: cut, digit, order. Digits to the base 65536, the lowest first. -/
namespace Go.Proofs.YtbapeilpkhbbeaaGreat
open Go.RowKit

def R16 : Int := 65536
theorem R16_pos : 0 < R16 := by decide

set_option maxHeartbeats 400000 in
theorem cut_any (ao : Option Addr) (c : Nat) (L : List Int) (w : World) (h : Rd w .i64 ao c L) :
    Calls Tryz.prog 115 #[.slice ao L.length c] w fun e w' => e = .returned (.slice ao (trimL L).length c) ∧ w' = w := by
  obtain ⟨n, hn⟩ : ∃ n, n = L.length := ⟨_, rfl⟩
  have hc := h.cap; have hm := h.most
  rw [← hn] at hc ⊢
  have Hn := hid hn; clear hn
  go_enter Tryz.func115, Tryz.ntmps115
  go_wp2
  go_loop [3] (fun v => ∃ m : Nat, m ≤ n ∧ v = .int .i64 m ∧ Hid (trimL (L.take m) = trimL L)) (fun v => (intOf v).toNat)
  case atStart => exact ⟨n, Nat.le_refl _, rfl, hid (by rw [Hn.out, List.take_length])⟩
  case round =>
    obtain ⟨m, hmn, rfl, HT⟩ := hrel
    cases m with
    | zero =>
      go_wp2
      go_ret
      exact ⟨by rw [trimL_stop L HT.out]; rfl, rfl⟩
    | succ m =>
      obtain ⟨b, off, rfl⟩ := h.adr (by have := Hn.out; omega)
      have hcell := h.cell b off rfl m (by have := Hn.out; omega)
      by_cases hz : L[m]?.getD 0 = 0
      · have HZ := hid hz
        rw [hz] at hcell
        clear hz
        go_wp2
        go_round
        case rel => exact ⟨m, by omega, by go_num, hid (trimL_step0 L m (by have := Hn.out; omega) HT.out HZ.out)⟩
        case measure => simp [intOf]
      · have HZ := hid hz
        go_wp2
        go_ret
        exact ⟨by rw [trimL_step1 L m (by have := Hn.out; omega) HT.out HZ.out]; rfl, rfl⟩

theorem digit_any (ao : Option Addr) (c i : Nat) (L : List Int) (w : World) (h : Rd w .i64 ao c L) (hi : i ≤ 9223372036854775807) :
    Calls Tryz.prog 101 #[.slice ao L.length c, .int .i64 (i : Int)] w fun e w' => e = .returned (.int .i64 (L[i]?.getD 0)) ∧ w' = w := by
  obtain ⟨n, hn⟩ : ∃ n, n = L.length := ⟨_, rfl⟩
  have hc := h.cap; have hm := h.most
  rw [← hn] at hc ⊢
  by_cases hlt : i < n
  · obtain ⟨b, off, rfl⟩ := h.adr (by omega)
    have hcell := h.cell b off rfl i (by omega)
    clear h hn
    go_enter Tryz.func101, Tryz.ntmps101
    go_wp2
    go_ret
    exact ⟨rfl, rfl⟩
  · have e : L[i]?.getD 0 = 0 := by simp [show L.length ≤ i by omega]
    rw [e]
    have hge : ¬ (i : Int) < (n : Int) := by omega
    clear h hn e
    go_enter Tryz.func101, Tryz.ntmps101
    go_wp2
    go_ret
    exact ⟨rfl, rfl⟩

/-- A list with zeros behind it, up to a length. -/
def pad (L : List Int) (N : Nat) : List Int := L ++ List.replicate (N - L.length) 0
theorem pad_len {L : List Int} {N : Nat} (h : L.length ≤ N) : (pad L N).length = N := by unfold pad; simp; omega
theorem pad_get (L : List Int) (N i : Nat) : (pad L N)[i]?.getD 0 = L[i]?.getD 0 := by
  unfold pad
  by_cases h : i < L.length
  · rw [List.getElem?_append_left h]
  · rw [List.getElem?_append_right (by omega)]
    have e : L[i]?.getD 0 = 0 := by simp [Nat.le_of_not_lt h]
    rw [e]
    by_cases h2 : i - L.length < N - L.length
    · simp [h2]
    · simp [h2]
theorem val_rep0 (B : Int) (n : Nat) : val B (List.replicate n 0) = 0 := by
  induction n with
  | zero => rfl
  | succ n ih => simp [List.replicate_succ, val, ih]
theorem pad_val (B : Int) (L : List Int) (N : Nat) : val B (pad L N) = val B L := by unfold pad; rw [val_append, val_rep0]; simp
theorem pad_dig {B : Int} (hB : 0 < B) {L : List Int} (h : Dig B L) (N : Nat) : Dig B (pad L N) := h.append (fun x hx => by rw [(List.mem_replicate.1 hx).2]; exact ⟨Int.le_refl 0, hB⟩)

set_option maxRecDepth 100000 in
set_option maxHeartbeats 1000000 in
theorem order_any (ao bo : Option Addr) (ca cb : Nat) (L M : List Int) (w : World) (hL : Rd w .i64 ao ca L) (hM : Rd w .i64 bo cb M) (dL : Dig R16 L) (dM : Dig R16 M) :
    Calls Tryz.prog 103 #[.slice ao L.length ca, .slice bo M.length cb] w fun e w' => e = .returned (.int .i64 (cmpI (val R16 L) (val R16 M))) ∧ w' = w := by
  obtain ⟨n, hn⟩ : ∃ n, n = L.length := ⟨_, rfl⟩
  obtain ⟨m, hm⟩ : ∃ m, m = M.length := ⟨_, rfl⟩
  obtain ⟨N, hN⟩ : ∃ N, N = max n m := ⟨_, rfl⟩
  have hnN : n ≤ N := by omega
  have hmN : m ≤ N := by omega
  have hN62 : N ≤ 9223372036854775807 := by have := hL.cap; have := hL.most; have := hM.cap; have := hM.most; omega
  have hNi : max (n : Int) (m : Int) = (N : Int) := by omega
  have hdl := fun (i : Nat) (hi : i ≤ 9223372036854775807) => digit_any ao ca i L w hL hi
  have hdm := fun (i : Nat) (hi : i ≤ 9223372036854775807) => digit_any bo cb i M w hM hi
  have lP := pad_len (L := L) (N := N) (by omega)
  have lQ := pad_len (L := M) (N := N) (by omega)
  rw [← hn] at hdl ⊢; rw [← hm] at hdm ⊢
  have HDl := hid hdl; have HDm := hid hdm; have HP := hid lP; have HQ := hid lQ; have DL := hid dL; have DM := hid dM
  clear hdl hdm lP lQ hL hM dL dM hn hm hNi
  go_enter Tryz.func103, Tryz.ntmps103
  go_wp2
  all_goals
    go_loop [5] (fun iv => ∃ k : Nat, k ≤ N ∧ iv = .int .i64 ((k : Int) - 1) ∧ Hid ((pad L N).drop k = (pad M N).drop k)) (fun iv => (intOf iv + 1).toNat)
    case atStart => exact ⟨N, Nat.le_refl _, by congr 1; omega, hid (by rw [List.drop_of_length_le (by rw [HP.out]; exact Nat.le_refl _), List.drop_of_length_le (by rw [HQ.out]; exact Nat.le_refl _)])⟩
    case round =>
      obtain ⟨k, hk, rfl, HD⟩ := hrel
      cases k with
      | zero =>
        have he : cmpI (val R16 L) (val R16 M) = 0 := by
          have h := HD.out
          simp only [List.drop_zero] at h
          rw [← pad_val R16 L N, ← pad_val R16 M N, h]; exact cmpI_self _
        have HE := hid he; clear he
        go_wp2
        go_ret
        exact ⟨by rw [HE.out]; rfl, rfl⟩
      | succ k =>
        have hk0 : (0 : Int) ≤ (k : Int) := by omega
        have h1 := HDl.out k (by omega); have h2 := HDm.out k (by omega)
        have hst := fun h => drop_step (pad L N) (pad M N) k (by have := HP.out; omega) (by have := HQ.out; omega) HD.out h
        have htp := fun h => cmp_top R16_pos (pad_dig R16_pos DL.out N) (pad_dig R16_pos DM.out N) (show k < (pad L N).length by have := HP.out; omega) (show k < (pad M N).length by have := HQ.out; omega) HD.out h
        simp only [pad_get, pad_val] at hst htp
        obtain ⟨x, hx⟩ : ∃ x, x = L[k]?.getD 0 := ⟨_, rfl⟩
        obtain ⟨y, hy⟩ : ∃ y, y = M[k]?.getD 0 := ⟨_, rfl⟩
        rw [← hx] at h1 hst htp; rw [← hy] at h2 hst htp
        have H1 := hid h1; have H2 := hid h2; have HSt := hid hst; have HTp := hid htp
        clear h1 h2 hst htp hx hy HD
        go_wp2_with fail
        refine H1.out.mono ?_
        rintro e w1 ⟨rfl, rfl⟩
        go_wp2_with fail
        refine H2.out.mono ?_
        rintro e w2 ⟨rfl, rfl⟩
        rcases Int.lt_trichotomy x y with hxy | hxy | hxy
        · have HC := hid ((HTp.out (by omega)).trans (cmpI_lt hxy))
          go_wp2
          go_ret
          exact ⟨by rw [HC.out]; rfl, rfl⟩
        · subst hxy
          have HD' := hid (HSt.out rfl)
          go_wp2
          go_round
          case rel => exact ⟨k, by omega, by go_num, HD'⟩
          case measure => simp [intOf]
        · have HC := hid ((HTp.out (by omega)).trans (cmpI_gt hxy))
          have hnl : ¬ x < y := by omega
          go_wp2
          go_ret
          exact ⟨by rw [HC.out]; rfl, rfl⟩

end Go.Proofs.YtbapeilpkhbbeaaGreat

/- The document's own integers: few, even, value. -/
namespace Go.Proofs.YtbapeilpkhbbeaaGreat
open Go.RowKit

theorem few_any (ao : Option Addr) (c n : Nat) (w : World) : Calls Tryz.prog 125 #[.slice ao n c] w fun e w' => e = .returned (.bool (decide (n ≤ 3))) ∧ w' = w := by
  have e : decide ((n : Int) ≤ 3) = decide (n ≤ 3) := by by_cases h : n ≤ 3 <;> simp [h] <;> omega
  rw [← e]
  clear e
  go_enter Tryz.func125, Tryz.ntmps125
  go_wp2
  go_ret
  exact ⟨rfl, rfl⟩

theorem val_mod2 (L : List Int) : val R16 L % 2 = L[0]?.getD 0 % 2 := by
  cases L with
  | nil => rfl
  | cons x l => simp only [val, R16]; simp; omega

theorem even_any (ao : Option Addr) (c : Nat) (L : List Int) (w : World) (h : Rd w .i64 ao c L) (hd : Dig R16 L) :
    Calls Tryz.prog 127 #[.slice ao L.length c] w fun e w' => e = .returned (.bool (decide (val R16 L % 2 = 0))) ∧ w' = w := by
  have hdg := digit_any ao c 0 L w h (by decide)
  have h0 := (hd.at R16_pos 0).1
  rw [val_mod2]
  obtain ⟨x, hx⟩ : ∃ x, x = L[0]?.getD 0 := ⟨_, rfl⟩
  obtain ⟨n, hn⟩ : ∃ n, n = L.length := ⟨_, rfl⟩
  rw [← hx] at hdg h0 ⊢
  rw [← hn] at hdg ⊢
  have ht : x.tmod 2 = x % 2 := Int.tmod_eq_emod_of_nonneg h0
  have HD := hid hdg
  clear hdg h hd hx hn
  go_enter Tryz.func127, Tryz.ntmps127
  go_wp2_with (go_at_call 101; refine HD.out.mono ?_; rintro e w1 ⟨rfl, rfl⟩)
  go_ret
  refine ⟨?_, rfl⟩
  first | rfl | (by_cases hz : x % 2 = 0 <;> simp [hz, beq_iff_eq])

theorem value_small {L : List Int} (hd : Dig R16 L) (hl : L.length ≤ 3) : 0 ≤ val R16 L ∧ val R16 L < 281474976710656 := by
  have h := val_lt R16_pos hd
  have h2 := pow_mono R16_pos hl
  have e : R16 ^ 3 = 281474976710656 := by decide
  exact ⟨val_nonneg R16_pos hd, by omega⟩

theorem val_drop (B : Int) (L : List Int) (k : Nat) (hk : k < L.length) : val B (L.drop k) = L[k]?.getD 0 + B * val B (L.drop (k + 1)) := by
  rw [List.drop_eq_getElem_cons hk]; simp [val, hk]

set_option maxRecDepth 100000 in
set_option maxHeartbeats 1000000 in
theorem rvalue_any (ao : Option Addr) (c : Nat) (L : List Int) (w : World) (h : Rd w .i64 ao c L) (hd : Dig R16 L) (hl : L.length ≤ 3) :
    Calls Tryz.prog 143 #[.slice ao L.length c] w fun e w' => e = .returned (.int .u64 (val R16 L)) ∧ w' = w := by
  obtain ⟨n, hn⟩ : ∃ n, n = L.length := ⟨_, rfl⟩
  have hc := h.cap; have hm := h.most
  rw [← hn] at hc hl ⊢
  have Hn := hid hn; have HD := hid hd; have HL := hid h
  clear hn hd h
  go_enter Tryz.func143, Tryz.ntmps143
  go_wp2
  go_loop [3, 4] (fun vv iv => ∃ k : Nat, k ≤ n ∧ iv = .int .i64 ((k : Int) - 1) ∧ vv = .int .u64 (val R16 (L.drop k))) (fun _ iv => (intOf iv + 1).toNat)
  case atStart => exact ⟨n, Nat.le_refl _, rfl, by rw [List.drop_of_length_le (by have := Hn.out; omega)]; rfl⟩
  case round =>
    obtain ⟨k, hk, rfl, rfl⟩ := hrel
    cases k with
    | zero =>
      rw [List.drop_zero]
      go_wp2
      go_ret
      exact ⟨rfl, rfl⟩
    | succ k =>
      obtain ⟨b, off, rfl⟩ := HL.out.adr (by have := Hn.out; omega)
      have hcell := HL.out.cell b off rfl k (by have := Hn.out; omega)
      have hx := HD.out.at R16_pos k
      have hv := value_small (HD.out.drop (k + 1)) (by rw [List.length_drop]; have := Hn.out; omega)
      have hv2 := value_small (HD.out.drop k) (by rw [List.length_drop]; have := Hn.out; omega)
      have hvd := val_drop R16 L k (by have := Hn.out; omega)
      obtain ⟨x, hxe⟩ : ∃ x, x = L[k]?.getD 0 := ⟨_, rfl⟩
      obtain ⟨t, ht⟩ : ∃ t, t = val R16 (L.drop (k + 1)) := ⟨_, rfl⟩
      rw [← hxe] at hcell hx hvd
      rw [← ht] at hv hvd ⊢
      have hs : t * 65536 + x = val R16 (L.drop k) := by rw [hvd]; unfold R16; omega
      rw [← hs] at hv2
      have hx0 := hx.1; have hx1 : x < 65536 := hx.2
      have ht0 := hv.1; have ht1 := hv.2; have hv20 := hv2.1; have hv21 := hv2.2
      have Hs := hid hs
      have hk0 : (0 : Int) ≤ (k : Int) := by omega
      clear hx hxe ht hvd hs hv hv2
      go_wp2
      go_round
      case rel => exact ⟨k, by omega, by go_num, by rw [← Hs.out]⟩
      case measure => simp [intOf]

end Go.Proofs.YtbapeilpkhbbeaaGreat

/- The document's own integers: naturals as digits; half. -/
namespace Go.Proofs.YtbapeilpkhbbeaaGreat
open Go.RowKit

/-- The value v reads in w as the natural number n: digits to the base 65536, in normal form, K at most. -/
structure MdL (w : World) (ao : Option Addr) (c : Nat) (L : List Int) (n : Int) (K : Nat) : Prop where
  rd : Rd w .i64 ao c L
  dig : Dig R16 L
  nrm : Nrm L
  eq : val R16 L = n
  le : L.length ≤ K
def Md (w : World) (v : Value) (n : Int) (K : Nat) : Prop := ∃ ao c L, v = .slice ao L.length c ∧ MdL w ao c L n K
def RetM (w : World) (n : Int) (K : Nat) (e : Ending) (w' : World) : Prop := ∃ v, e = .returned v ∧ Md w' v n K ∧ Below w.heap.size w w'

theorem Md.nonneg {w : World} {v : Value} {n : Int} {K : Nat} (h : Md w v n K) : 0 ≤ n := by obtain ⟨_, _, _, _, h⟩ := h; rw [← h.eq]; exact val_nonneg R16_pos h.dig
theorem Md.below {w w' : World} {v : Value} {n : Int} {K B : Nat} (h : Md w v n K) (hb : Below B w w') (hB : w.heap.size ≤ B) : Md w' v n K := by
  obtain ⟨ao, c, L, rfl, h⟩ := h
  exact ⟨ao, c, L, rfl, h.rd.below hb hB, h.dig, h.nrm, h.eq, h.le⟩
theorem Md.mono {w : World} {v : Value} {n : Int} {K K' : Nat} (h : Md w v n K) (hk : K ≤ K') : Md w v n K' := by
  obtain ⟨ao, c, L, rfl, h⟩ := h
  exact ⟨ao, c, L, rfl, h.rd, h.dig, h.nrm, h.eq, Nat.le_trans h.le hk⟩
theorem Md.nil (w : World) : Md w (.slice none 0 0) 0 0 := ⟨none, 0, [], rfl, Rd.nil _ _, Dig.nil _, rfl, rfl, Nat.le_refl _⟩

theorem rowi_rd {w : World} {g : Nat} {L : List Int} {c : Nat} (h : Row .i64 3 w g L) (hc : L.length ≤ c) (hc' : c ≤ 9223372036854775807) : Rd w .i64 (some ⟨g, 0, none⟩) c L := by
  have h' : Row .i64 3 w g ([] ++ L ++ []) := by simpa using h
  exact h'.rd hc hc'
theorem md_row {w : World} {g : Nat} {L : List Int} {c : Nat} {n : Int} {K : Nat} (h : Row .i64 3 w g L) (hd : Dig R16 L) (hv : val R16 L = n) (hc : L.length ≤ c) (hc' : c ≤ 9223372036854775807) (hK : L.length ≤ K) :
    Md w (.slice (some ⟨g, 0, none⟩) (trimL L).length c) n K := by
  refine ⟨_, c, trimL L, rfl, ?_, hd.trim, Nrm.trim L, by rw [val_trim]; exact hv, Nat.le_trans (trimL_len L) hK⟩
  rw [trimL_take L]; exact (rowi_rd h hc hc').take _

theorem Tryz.info3 : (Tryz.prog.info? 3).map (fun i => (i.zero, i.size, i.bytes)) = some (some (.int .i64 0), 1, 8) := by kernel_rfl

/-- Behind the digits from j on, divided by x. -/
structure DivR (w wr : World) (g : Nat) (LA : List Int) (x : Int) (j : Nat) (QT : List Int) (r : Int) : Prop where
  row : Row .i64 3 wr g (List.replicate j 0 ++ QT)
  gr : w.grownBy wr (some g)
  len : j + QT.length = LA.length
  dig : Dig R16 QT
  r0 : 0 ≤ r
  r1 : r < x
  eq : val R16 (LA.drop j) = val R16 QT * x + r

theorem DivR.step {w wr : World} {g : Nat} {LA QT : List Int} {x r : Int} {j : Nat} (h : DivR w wr g LA x (j + 1) QT r) (hx : 0 < x) (a : Int) (ha : a = LA[j]?.getD 0) (a0 : 0 ≤ a) (a1 : a < R16) :
    DivR w (wr.setCell ⟨g, j, none⟩ (.int .i64 ((r * 65536 + a) / x))) g LA x j ((r * 65536 + a) / x :: QT) ((r * 65536 + a) % x) ∧ 0 ≤ r * 65536 + a ∧ (r * 65536 + a) / x < 65536 := by
  have hj : j < LA.length := by have := h.len; omega
  have r0 := h.r0; have r1 := h.r1
  have hn0 : 0 ≤ r * 65536 + a := by omega
  have hn1 : r * 65536 + a < 65536 * x := by unfold R16 at a1; omega
  have q0 : 0 ≤ (r * 65536 + a) / x := Int.ediv_nonneg hn0 (Int.le_of_lt hx)
  have q1 : (r * 65536 + a) / x < 65536 := Int.ediv_lt_of_lt_mul hx hn1
  have hs := h.row.set j ((r * 65536 + a) / x)
  rw [List.replicate_succ', List.append_assoc, List.set_append_right _ _ (by simp), List.length_replicate, Nat.sub_self] at hs
  refine ⟨⟨hs, grown_trans h.gr (grown_set _ _ _ _), by have := h.len; simp; omega, Dig.cons q0 q1 h.dig, Int.emod_nonneg _ (by omega), Int.emod_lt_of_pos _ hx, ?_⟩, hn0, q1⟩
  have e := Int.emod_add_mul_ediv (r * 65536 + a) x
  rw [val_drop R16 LA j hj, ← ha, h.eq]
  simp only [val]
  generalize (r * 65536 + a) / x = q at *
  generalize (r * 65536 + a) % x = m at *
  generalize val R16 QT = t at *
  unfold R16
  grind

set_option maxRecDepth 100000 in
set_option maxHeartbeats 2000000 in
theorem half_any (va : Value) (a : Int) (K : Nat) (w : World) (hA : Md w va a K) (hK : K ≤ 1073741824) :
    Calls Tryz.prog 122 #[va] w (RetM w (a / 2) K) := by
  obtain ⟨ao, ca, LA, rfl, hA⟩ := hA
  obtain ⟨n, hn⟩ : ∃ n, n = LA.length := ⟨_, rfl⟩
  have hn30 : n ≤ 1073741824 := by have := hA.le; omega
  rw [← hn]
  have HA := hid hA; have Hn := hid hn
  clear hA hn
  obtain ⟨i0, hi, hz0, hz1, hz2⟩ := info_parts Tryz.info3
  go_enter Tryz.func122, Tryz.ntmps122
  go_wp2_with (at_make; refine wpList_make_row w rfl _ _ 31 rfl 3 i0 .i64 Tryz.underlying31 hi hz0 hz1 .i64 .i64 _ _ n rfl rfl rfl rfl (by rw [hz2]; omega) (by unfold maxLen; omega) ?_)
  intro w1 hrow hg1
  have hb1 := grown_below hg1
  have H0 : DivR w w1 w.heap.size LA 2 n [] 0 := ⟨by simpa using hrow, grown_any hg1, by simpa using Hn.out, Dig.nil _, Int.le_refl 0, by decide, by rw [List.drop_of_length_le (by have := Hn.out; omega)]; simp [val]⟩
  have HG1 := hid (HA.out.rd.ne (Nat.le_refl w.heap.size))
  clear hrow hg1
  go_wp2
  go_loopw [4, 5] (fun rv iv wr => ∃ j : Nat, ∃ QT r, j ≤ n ∧ iv = .int .i64 ((j : Int) - 1) ∧ rv = .int .i64 r ∧ DivR w wr w.heap.size LA 2 j QT r ∧ Below w.heap.size w wr) (fun _ iv _ => (intOf iv + 1).toNat)
  case atStart => exact ⟨n, [], 0, Nat.le_refl _, rfl, rfl, H0, hb1⟩
  case round =>
    obtain ⟨j, QT, r, hj, rfl, rfl, H, hb⟩ := hrel
    cases j with
    | zero =>
      have hr : Row .i64 3 wr w.heap.size QT := by have := H.row; simpa using this
      have hl : QT.length = n := by have := H.len; have := Hn.out; omega
      have he := H.eq
      rw [List.drop_zero, HA.out.eq] at he
      have hq : val R16 QT = a / 2 := by have := H.r0; have := H.r1; omega
      have ht := cut_any (some ⟨w.heap.size, 0, none⟩) n QT wr (rowi_rd hr (by omega) (by omega))
      have hres := md_row (c := n) (K := K) hr H.dig hq (by omega) (by omega) (by have := HA.out.le; have := Hn.out; omega)
      rw [hl] at ht
      have HT := hid ht; have Hres := hid hres
      clear ht hres hr hl he hq H H0 hb1
      go_wp2_with (go_at_call 115; refine HT.out.mono ?_; rintro e w2 ⟨rfl, rfl⟩)
      go_ret
      exact ⟨_, rfl, Hres.out, hb⟩
    | succ j =>
      have hjn : j < n := by omega
      obtain ⟨b, o, rfl⟩ := HA.out.rd.adr (by have := Hn.out; omega)
      have hc := (HA.out.rd.keptNew H.gr HG1.out).cell b o rfl j (by have := Hn.out; omega)
      have hd := HA.out.dig.at R16_pos j
      obtain ⟨y, hy⟩ : ∃ y, y = LA[j]?.getD 0 := ⟨_, rfl⟩
      rw [← hy] at hc hd
      obtain ⟨hS, hn0, hq1⟩ := H.step (by decide) y hy hd.1 hd.2
      have hq := H.row.cell j (by have := H.len; simp; omega)
      have hf := H.row.frozen j
      obtain ⟨u, hu⟩ : ∃ u, u = ((List.replicate (j + 1) 0 ++ QT)[j]?.getD 0 : Int) := ⟨_, rfl⟩
      rw [← hu] at hq
      have hr0 := H.r0; have hr1 := H.r1
      have hy0 := hd.1; have hy1 : y < 65536 := hd.2
      have hk0 : (0 : Int) ≤ (j : Int) := by omega
      have HS := hid hS
      clear hS H H0 hb1 hd hy hu
      go_wp2
      go_roundw
      case rel => exact ⟨j, _, _, by omega, by go_num, rfl, HS.out, hb.setCell (Nat.le_refl _) _⟩
      case measure => simp [intOf]

end Go.Proofs.YtbapeilpkhbbeaaGreat
