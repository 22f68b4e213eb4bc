/- A region that draws its order: what holds between two of its operations, for any number of values and of boxes that it makes. The document's own integers: cut, digit, order. Digits to the base 65536, the lowest first. The document's own integers: few, even, value. The document's own integers: naturals as digits; half. -/
import Derived.Test.YtilpkocmdpofpaaGreatDoorSq19
import Derived.Laws.IdiomCopy
import Derived.Test.YtilpkocmdpofpaaGreatDoorSq02
import Derived.Test.YtilpkocmdpofpaaGreatDoorSq04
/- A region that draws its order: what holds between two of its operations, for any number of values and of boxes that it makes. -/
namespace Go.Proofs.YtilpkocmdpofpaaGreatDoor
open Go.RowKit

def KeepAll (w w' : World) : Prop := ∀ k, Keeps k w w'
theorem KeepAll.of_below {w w' : World} (h : Below w.heap.size w w') : KeepAll w w' := fun _ => Keeps.below h (Nat.le_refl _)
theorem KeepAll.refl (w : World) : KeepAll w w := fun k => Keeps.refl k w
theorem KeepAll.trans {a b c : World} (h : KeepAll a b) (g : KeepAll b c) : KeepAll a c := fun k => (h k).trans (g k)
/-- A property of a value that stays where no number's cell turns. -/
def KeepV (G : World → Value → Prop) : Prop := ∀ w w' v, KeepAll w w' → G w v → G w' v
theorem keepV {k : IntKind} {G : World → Value → Prop} (h : KeepG k G) : KeepV G := fun w w' v hk hg => h w w' v (hk k) hg
theorem kcV (u : Value) : KeepV (fun _ v => v = u) := fun _ _ _ _ h => h
theorem itV (z : Int) (K : Nat) : KeepV (fun w v => It w v z K) := fun _ _ _ hk h => it_keeps (hk _) h
theorem ntV (n : Int) (K : Nat) : KeepV (fun w v => Nt w v n K) := fun _ _ _ hk h => by
  obtain ⟨ao, c, L, rfl, h⟩ := h
  exact ⟨ao, c, L, rfl, h.rd.keeps (hk _), h.dig, h.nrm, h.eq, h.le⟩
theorem ftV (z d : Int) (K : Nat) : KeepV (fun w v => Ft w v z d K) := fun _ _ _ hk h => by
  obtain ⟨s1, s2, rfl, h1, h2⟩ := h
  exact ⟨s1, s2, rfl, ntV _ _ _ _ _ hk h1, ntV _ _ _ _ _ hk h2⟩
theorem aiV (z : Int) (K : Nat) : KeepV (fun w v => Ai w v z K) := fun _ _ _ hk h => by
  obtain ⟨neg, ao, c, W, rfl, h⟩ := h
  exact ⟨neg, ao, c, W, rfl, h.rd.keeps (hk _), h.dig, h.le, h.eq⟩
theorem twoV {Gq Gr : World → Value → Prop} (hq : KeepV Gq) (hr : KeepV Gr) : KeepV (fun w s => ∃ u v, s = .tuple #[u, v] ∧ Gq w u ∧ Gr w v) := fun _ _ _ hk h => by
  obtain ⟨u, v, e, a, b⟩ := h
  exact ⟨u, v, e, hq _ _ _ hk a, hr _ _ _ hk b⟩

def Vals : List (Bool × (World → Value → Prop) × Value) → World → Prop
  | [], _ => True
  | (b, G, s) :: l, w => (b = true → G w s) ∧ Vals l w
def AllKeep : List (Bool × (World → Value → Prop) × Value) → Prop
  | [] => True
  | (_, G, _) :: l => KeepV G ∧ AllKeep l
theorem Vals.keep {w w' : World} : ∀ {l : List (Bool × (World → Value → Prop) × Value)}, AllKeep l → KeepAll w w' → Vals l w → Vals l w'
  | [], _, _, _ => trivial
  | (_, _, _) :: _, k, hk, h => ⟨fun e => k.1 _ _ _ hk (h.1 e), Vals.keep k.2 hk h.2⟩

/-- s points to a block of n cells that the region has made; b: it has been written with v. -/
def BoxN (B : Nat) (w : World) (n : Nat) (s : Value) (b : Bool) (v : Value) : Prop :=
  ∃ (p : Nat) (vs : List Value), s = .pointer (some ⟨p, 0, none⟩) ∧ B ≤ p ∧ p < w.heap.size ∧ vs.length = n ∧ (∀ i, i < n → w.cell? ⟨p, i, none⟩ = some (vs.getD i undef)) ∧ (∀ i, i < n → w.frozen? ⟨p, i, none⟩ = false) ∧ (∀ i k x, i < n → vs.getD i undef ≠ .int k x) ∧ (b = true → v = .agg vs.toArray)
theorem BoxN.below {B : Nat} {w w' : World} {n : Nat} {s v : Value} {b : Bool} (h : BoxN B w n s b v) (hb : Below w.heap.size w w') : BoxN B w' n s b v := by
  obtain ⟨p, vs, rfl, hp, hl, hn, hc, hf, hi, hv⟩ := h
  exact ⟨p, vs, rfl, hp, Nat.lt_of_lt_of_le hl hb.size, hn, fun i h => (hb.cell (p := ⟨p, i, none⟩) hl).trans (hc i h), fun i h => (hb.frozen (p := ⟨p, i, none⟩) hl).trans (hf i h), hi, hv⟩
theorem BoxN.fresh {B : Nat} {w : World} {n : Nat} {s v v' : Value} (h : BoxN B w n s false v) : BoxN B w n s false v' := by
  obtain ⟨p, vs, rfl, hp, hl, hn, hc, hf, hi, _⟩ := h
  exact ⟨p, vs, rfl, hp, hl, hn, hc, hf, hi, nofun⟩
theorem boxn_new (B : Nat) (w : World) (T : TypeId) (v : Value) (zs : List Value) (hz : ∀ i k x, i < zs.length → zs.getD i undef ≠ .int k x) (hs : B ≤ w.heap.size) : BoxN B (w.alloc (.cells zs.toArray T)) zs.length (.pointer (some ⟨w.heap.size, 0, none⟩)) false v := by
  refine ⟨w.heap.size, zs, rfl, hs, by simp, rfl, fun i hi => ?_, fun i hi => World.frozen?_alloc_new _ _ _ _, hz, nofun⟩
  rw [World.cell?_alloc_new]
  simp [hi]
theorem boxn_ne_new {B : Nat} {w : World} {n : Nat} {s v : Value} {b : Bool} (h : BoxN B w n s b v) : s ≠ .pointer (some ⟨w.heap.size, 0, none⟩) := by
  obtain ⟨p, vs, rfl, hp, hl, _⟩ := h
  intro e; cases e; omega
theorem size_setCells (b : Nat) : ∀ (vs : List Value) (o : Nat) (w : World), (w.setCells b o vs).heap.size = w.heap.size
  | [], _, _ => rfl
  | _ :: r, o, w => by rw [World.setCells, size_setCells b r]; simp
theorem below_setCells {B b : Nat} (hb : B ≤ b) : ∀ (vs : List Value) (o : Nat) {a w : World}, Below B a w → Below B a (w.setCells b o vs)
  | [], _, _, _, h => h
  | _ :: r, o, _, _, h => below_setCells hb r (o + 1) (h.setCell hb _)
theorem keep_setCells (b : Nat) : ∀ (vs : List Value) (o : Nat) (w : World), (∀ j, j < vs.length → ∃ u, w.cell? ⟨b, o + j, none⟩ = some u ∧ ∀ k x, u ≠ .int k x) → KeepAll w (w.setCells b o vs)
  | [], _, w, _ => KeepAll.refl w
  | v :: r, o, w, h => by
    obtain ⟨u, hu, hn⟩ := h 0 (by simp)
    have h1 : KeepAll w (w.setCell ⟨b, o, none⟩ v) := fun k => (Keeps.refl k w).setCell hu (hn k) v
    refine h1.trans (keep_setCells b r (o + 1) _ (fun j hj => ?_))
    obtain ⟨u', hu', hn'⟩ := h (j + 1) (by simp; omega)
    refine ⟨u', ?_, hn'⟩
    rw [World.cell?_setCell_other _ _ _ _ (by simp <;> omega)]
    rw [← hu', show o + (j + 1) = o + 1 + j by omega]
theorem BoxN.keeps {B : Nat} {w : World} {n p : Nat} {v : Value} {b : Bool} (h : BoxN B w n (.pointer (some ⟨p, 0, none⟩)) b v) {us : List Value} (hu : us.length = n) : KeepAll w (w.setCells p 0 us) := by
  obtain ⟨q, vs, e, hp, hl, hn, hc, hf, hi, _⟩ := h
  cases e
  refine keep_setCells p us 0 w (fun j hj => ⟨_, by rw [Nat.zero_add]; exact hc j (by omega), fun k x => hi j k x (by omega)⟩)
theorem BoxN.store {B : Nat} {w : World} {n p : Nat} {v : Value} {b : Bool} (h : BoxN B w n (.pointer (some ⟨p, 0, none⟩)) b v) (us : List Value) (hu : us.length = n) (hz : ∀ i k x, i < n → us.getD i undef ≠ .int k x) :
    BoxN B (w.setCells p 0 us) n (.pointer (some ⟨p, 0, none⟩)) true (.agg us.toArray) := by
  obtain ⟨q, vs, e, hp, hl, hn, hc, hf, hi, _⟩ := h
  cases e
  refine ⟨p, us, rfl, hp, by rw [size_setCells]; exact hl, hu, fun i h => ?_, fun i h => (World.frozen?_setCells p us 0 w _).trans (hf i h), hz, fun _ => rfl⟩
  have := World.cell?_setCells_in p us 0 w (fun j hj => by rw [Nat.zero_add, hc j (by omega)]; rfl) i (by omega)
  rw [Nat.zero_add] at this
  rw [this]
  simp [show i < us.length by omega]
theorem BoxN.other {B : Nat} {w : World} {n : Nat} {s v : Value} {b : Bool} (h : BoxN B w n s b v) {p : Nat} (hne : s ≠ .pointer (some ⟨p, 0, none⟩)) (o : Nat) (us : List Value) : BoxN B (w.setCells p o us) n s b v := by
  obtain ⟨q, vs, rfl, hp, hl, hn, hc, hf, hi, hv⟩ := h
  have hpq : q ≠ p := by rintro rfl; exact hne rfl
  exact ⟨q, vs, rfl, hp, by rw [size_setCells]; exact hl, hn, fun i h => (World.cell?_setCells_out p us o w _ (fun e => absurd e hpq)).trans (hc i h), fun i h => (World.frozen?_setCells p us o w _).trans (hf i h), hi, hv⟩

theorem BoxN.done {B : Nat} {w : World} {n : Nat} {s : Value} {us : List Value} (h : BoxN B w n s true (.agg us.toArray)) : ∃ p, s = .pointer (some ⟨p, 0, none⟩) ∧ B ≤ p ∧ p < w.heap.size ∧ ∀ i, i < n → w.cell? ⟨p, i, none⟩ = some (us.getD i undef) ∧ w.frozen? ⟨p, i, none⟩ = false := by
  obtain ⟨p, vs, rfl, hp, hl, hn, hc, hf, hi, hv⟩ := h
  have e := hv rfl
  simp only [Value.agg.injEq] at e
  have e' : us = vs := by simpa using congrArg Array.toList e
  subst e'
  exact ⟨p, rfl, hp, hl, fun i h => ⟨hc i h, hf i h⟩⟩

def Boxes (B : Nat) : List (Nat × Bool × Bool × Value × Value) → World → Prop
  | [], _ => True
  | (n, p, q, t, x) :: l, w => (p = true → BoxN B w n t q x) ∧ Boxes B l w
theorem Boxes.below {B : Nat} {w w' : World} (hb : Below w.heap.size w w') : ∀ {l : List (Nat × Bool × Bool × Value × Value)}, Boxes B l w → Boxes B l w'
  | [], _ => trivial
  | (_, _, _, _, _) :: _, h => ⟨fun e => (h.1 e).below hb, Boxes.below hb h.2⟩
def AwayAll (p : Bool) (t : Value) : List (Nat × Bool × Bool × Value × Value) → Prop
  | [] => True
  | (_, p', _, t', _) :: l => (p = true → p' = true → t ≠ t') ∧ AwayAll p t l
def Apart : List (Nat × Bool × Bool × Value × Value) → Prop
  | [] => True
  | (_, p, _, t, _) :: l => AwayAll p t l ∧ Apart l

structure RX (B : Nat) (W0 : World) (l : List (Bool × (World → Value → Prop) × Value)) (bx : List (Nat × Bool × Bool × Value × Value)) (w : World) : Prop where
  bel : Below B W0 w
  siz : B ≤ w.heap.size
  vals : Vals l w
  boxes : Boxes B bx w
  ne : Apart bx
theorem RX.step {B : Nat} {W0 w w' : World} {l : List (Bool × (World → Value → Prop) × Value)} {bx : List (Nat × Bool × Bool × Value × Value)} (h : RX B W0 l bx w) (k : AllKeep l) (hb : Below w.heap.size w w') : RX B W0 l bx w' :=
  ⟨h.bel.trans (hb.mono h.siz), Nat.le_trans h.siz hb.size, h.vals.keep k (KeepAll.of_below hb), h.boxes.below hb, h.ne⟩
theorem bl_new {w : World} (o : Obj) : Below w.heap.size w (w.alloc o) := (Below.refl _ _).alloc (Nat.le_refl _) o
end Go.Proofs.YtilpkocmdpofpaaGreatDoor

/- The document's own integers: cut, digit, order. Digits to the base 65536, the lowest first. -/
namespace Go.Proofs.YtilpkocmdpofpaaGreatDoor
open Go.RowKit

def R16 : Int := 65536
theorem R16_pos : 0 < R16 := by decide

set_option maxHeartbeats 400000 in
theorem cut_any (ao : Option Addr) (c : Nat) (L : List Int) (w : World) (h : Rd w .i64 ao c L) :
    Calls Tryz.prog 149 #[.slice ao L.length c] w fun e w' => e = .returned (.slice ao (trimL L).length c) ∧ w' = w := by
  obtain ⟨n, hn⟩ : ∃ n, n = L.length := ⟨_, rfl⟩
  have hc := h.cap; have hm := h.most
  rw [← hn] at hc ⊢
  have Hn := hid hn; clear hn
  go_enter Tryz.func149, Tryz.ntmps149
  go_wp2
  go_loop [3] (fun v => ∃ m : Nat, m ≤ n ∧ v = .int .i64 m ∧ Hid (trimL (L.take m) = trimL L)) (fun v => (intOf v).toNat)
  case atStart => exact ⟨n, Nat.le_refl _, rfl, hid (by rw [Hn.out, List.take_length])⟩
  case round =>
    obtain ⟨m, hmn, rfl, HT⟩ := hrel
    cases m with
    | zero =>
      go_wp2
      go_ret
      exact ⟨by rw [trimL_stop L HT.out]; rfl, rfl⟩
    | succ m =>
      obtain ⟨b, off, rfl⟩ := h.adr (by have := Hn.out; omega)
      have hcell := h.cell b off rfl m (by have := Hn.out; omega)
      by_cases hz : L[m]?.getD 0 = 0
      · have HZ := hid hz
        rw [hz] at hcell
        clear hz
        go_wp2
        go_round
        case rel => exact ⟨m, by omega, by go_num, hid (trimL_step0 L m (by have := Hn.out; omega) HT.out HZ.out)⟩
        case measure => simp [intOf]
      · have HZ := hid hz
        go_wp2
        go_ret
        exact ⟨by rw [trimL_step1 L m (by have := Hn.out; omega) HT.out HZ.out]; rfl, rfl⟩

theorem digit_any (ao : Option Addr) (c i : Nat) (L : List Int) (w : World) (h : Rd w .i64 ao c L) (hi : i ≤ 9223372036854775807) :
    Calls Tryz.prog 167 #[.slice ao L.length c, .int .i64 (i : Int)] w fun e w' => e = .returned (.int .i64 (L[i]?.getD 0)) ∧ w' = w := by
  obtain ⟨n, hn⟩ : ∃ n, n = L.length := ⟨_, rfl⟩
  have hc := h.cap; have hm := h.most
  rw [← hn] at hc ⊢
  by_cases hlt : i < n
  · obtain ⟨b, off, rfl⟩ := h.adr (by omega)
    have hcell := h.cell b off rfl i (by omega)
    clear h hn
    go_enter Tryz.func167, Tryz.ntmps167
    go_wp2
    go_ret
    exact ⟨rfl, rfl⟩
  · have e : L[i]?.getD 0 = 0 := by simp [show L.length ≤ i by omega]
    rw [e]
    have hge : ¬ (i : Int) < (n : Int) := by omega
    clear h hn e
    go_enter Tryz.func167, Tryz.ntmps167
    go_wp2
    go_ret
    exact ⟨rfl, rfl⟩

/-- A list with zeros behind it, up to a length. -/
def pad (L : List Int) (N : Nat) : List Int := L ++ List.replicate (N - L.length) 0
theorem pad_len {L : List Int} {N : Nat} (h : L.length ≤ N) : (pad L N).length = N := by unfold pad; simp; omega
theorem pad_get (L : List Int) (N i : Nat) : (pad L N)[i]?.getD 0 = L[i]?.getD 0 := by
  unfold pad
  by_cases h : i < L.length
  · rw [List.getElem?_append_left h]
  · rw [List.getElem?_append_right (by omega)]
    have e : L[i]?.getD 0 = 0 := by simp [Nat.le_of_not_lt h]
    rw [e]
    by_cases h2 : i - L.length < N - L.length
    · simp [h2]
    · simp [h2]
theorem val_rep0 (B : Int) (n : Nat) : val B (List.replicate n 0) = 0 := by
  induction n with
  | zero => rfl
  | succ n ih => simp [List.replicate_succ, val, ih]
theorem pad_val (B : Int) (L : List Int) (N : Nat) : val B (pad L N) = val B L := by unfold pad; rw [val_append, val_rep0]; simp
theorem pad_dig {B : Int} (hB : 0 < B) {L : List Int} (h : Dig B L) (N : Nat) : Dig B (pad L N) := h.append (fun x hx => by rw [(List.mem_replicate.1 hx).2]; exact ⟨Int.le_refl 0, hB⟩)

set_option maxRecDepth 100000 in
set_option maxHeartbeats 1000000 in
theorem order_any (ao bo : Option Addr) (ca cb : Nat) (L M : List Int) (w : World) (hL : Rd w .i64 ao ca L) (hM : Rd w .i64 bo cb M) (dL : Dig R16 L) (dM : Dig R16 M) :
    Calls Tryz.prog 154 #[.slice ao L.length ca, .slice bo M.length cb] w fun e w' => e = .returned (.int .i64 (cmpI (val R16 L) (val R16 M))) ∧ w' = w := by
  obtain ⟨n, hn⟩ : ∃ n, n = L.length := ⟨_, rfl⟩
  obtain ⟨m, hm⟩ : ∃ m, m = M.length := ⟨_, rfl⟩
  obtain ⟨N, hN⟩ : ∃ N, N = max n m := ⟨_, rfl⟩
  have hnN : n ≤ N := by omega
  have hmN : m ≤ N := by omega
  have hN62 : N ≤ 9223372036854775807 := by have := hL.cap; have := hL.most; have := hM.cap; have := hM.most; omega
  have hNi : max (n : Int) (m : Int) = (N : Int) := by omega
  have hdl := fun (i : Nat) (hi : i ≤ 9223372036854775807) => digit_any ao ca i L w hL hi
  have hdm := fun (i : Nat) (hi : i ≤ 9223372036854775807) => digit_any bo cb i M w hM hi
  have lP := pad_len (L := L) (N := N) (by omega)
  have lQ := pad_len (L := M) (N := N) (by omega)
  rw [← hn] at hdl ⊢; rw [← hm] at hdm ⊢
  have HDl := hid hdl; have HDm := hid hdm; have HP := hid lP; have HQ := hid lQ; have DL := hid dL; have DM := hid dM
  clear hdl hdm lP lQ hL hM dL dM hn hm hNi
  go_enter Tryz.func154, Tryz.ntmps154
  go_wp2
  all_goals
    go_loop [5] (fun iv => ∃ k : Nat, k ≤ N ∧ iv = .int .i64 ((k : Int) - 1) ∧ Hid ((pad L N).drop k = (pad M N).drop k)) (fun iv => (intOf iv + 1).toNat)
    case atStart => exact ⟨N, Nat.le_refl _, by congr 1; omega, hid (by rw [List.drop_of_length_le (by rw [HP.out]; exact Nat.le_refl _), List.drop_of_length_le (by rw [HQ.out]; exact Nat.le_refl _)])⟩
    case round =>
      obtain ⟨k, hk, rfl, HD⟩ := hrel
      cases k with
      | zero =>
        have he : cmpI (val R16 L) (val R16 M) = 0 := by
          have h := HD.out
          simp only [List.drop_zero] at h
          rw [← pad_val R16 L N, ← pad_val R16 M N, h]; exact cmpI_self _
        have HE := hid he; clear he
        go_wp2
        go_ret
        exact ⟨by rw [HE.out]; rfl, rfl⟩
      | succ k =>
        have hk0 : (0 : Int) ≤ (k : Int) := by omega
        have h1 := HDl.out k (by omega); have h2 := HDm.out k (by omega)
        have hst := fun h => drop_step (pad L N) (pad M N) k (by have := HP.out; omega) (by have := HQ.out; omega) HD.out h
        have htp := fun h => cmp_top R16_pos (pad_dig R16_pos DL.out N) (pad_dig R16_pos DM.out N) (show k < (pad L N).length by have := HP.out; omega) (show k < (pad M N).length by have := HQ.out; omega) HD.out h
        simp only [pad_get, pad_val] at hst htp
        obtain ⟨x, hx⟩ : ∃ x, x = L[k]?.getD 0 := ⟨_, rfl⟩
        obtain ⟨y, hy⟩ : ∃ y, y = M[k]?.getD 0 := ⟨_, rfl⟩
        rw [← hx] at h1 hst htp; rw [← hy] at h2 hst htp
        have H1 := hid h1; have H2 := hid h2; have HSt := hid hst; have HTp := hid htp
        clear h1 h2 hst htp hx hy HD
        go_wp2_with fail
        refine H1.out.mono ?_
        rintro e w1 ⟨rfl, rfl⟩
        go_wp2_with fail
        refine H2.out.mono ?_
        rintro e w2 ⟨rfl, rfl⟩
        rcases Int.lt_trichotomy x y with hxy | hxy | hxy
        · have HC := hid ((HTp.out (by omega)).trans (cmpI_lt hxy))
          go_wp2
          go_ret
          exact ⟨by rw [HC.out]; rfl, rfl⟩
        · subst hxy
          have HD' := hid (HSt.out rfl)
          go_wp2
          go_round
          case rel => exact ⟨k, by omega, by go_num, HD'⟩
          case measure => simp [intOf]
        · have HC := hid ((HTp.out (by omega)).trans (cmpI_gt hxy))
          have hnl : ¬ x < y := by omega
          go_wp2
          go_ret
          exact ⟨by rw [HC.out]; rfl, rfl⟩

end Go.Proofs.YtilpkocmdpofpaaGreatDoor

/- The document's own integers: few, even, value. -/
namespace Go.Proofs.YtilpkocmdpofpaaGreatDoor
open Go.RowKit

theorem few_any (ao : Option Addr) (c n : Nat) (w : World) : Calls Tryz.prog 150 #[.slice ao n c] w fun e w' => e = .returned (.bool (decide (n ≤ 3))) ∧ w' = w := by
  have e : decide ((n : Int) ≤ 3) = decide (n ≤ 3) := by by_cases h : n ≤ 3 <;> simp [h] <;> omega
  rw [← e]
  clear e
  go_enter Tryz.func150, Tryz.ntmps150
  go_wp2
  go_ret
  exact ⟨rfl, rfl⟩

theorem val_mod2 (L : List Int) : val R16 L % 2 = L[0]?.getD 0 % 2 := by
  cases L with
  | nil => rfl
  | cons x l => simp only [val, R16]; simp; omega

theorem even_any (ao : Option Addr) (c : Nat) (L : List Int) (w : World) (h : Rd w .i64 ao c L) (hd : Dig R16 L) :
    Calls Tryz.prog 152 #[.slice ao L.length c] w fun e w' => e = .returned (.bool (decide (val R16 L % 2 = 0))) ∧ w' = w := by
  have hdg := digit_any ao c 0 L w h (by decide)
  have h0 := (hd.at R16_pos 0).1
  rw [val_mod2]
  obtain ⟨x, hx⟩ : ∃ x, x = L[0]?.getD 0 := ⟨_, rfl⟩
  obtain ⟨n, hn⟩ : ∃ n, n = L.length := ⟨_, rfl⟩
  rw [← hx] at hdg h0 ⊢
  rw [← hn] at hdg ⊢
  have ht : x.tmod 2 = x % 2 := Int.tmod_eq_emod_of_nonneg h0
  have HD := hid hdg
  clear hdg h hd hx hn
  go_enter Tryz.func152, Tryz.ntmps152
  go_wp2_with (go_at_call 167; refine HD.out.mono ?_; rintro e w1 ⟨rfl, rfl⟩)
  go_ret
  refine ⟨?_, rfl⟩
  first | rfl | (by_cases hz : x % 2 = 0 <;> simp [hz, beq_iff_eq])

theorem value_small {L : List Int} (hd : Dig R16 L) (hl : L.length ≤ 3) : 0 ≤ val R16 L ∧ val R16 L < 281474976710656 := by
  have h := val_lt R16_pos hd
  have h2 := pow_mono R16_pos hl
  have e : R16 ^ 3 = 281474976710656 := by decide
  exact ⟨val_nonneg R16_pos hd, by omega⟩

theorem val_drop (B : Int) (L : List Int) (k : Nat) (hk : k < L.length) : val B (L.drop k) = L[k]?.getD 0 + B * val B (L.drop (k + 1)) := by
  rw [List.drop_eq_getElem_cons hk]; simp [val, hk]

set_option maxRecDepth 100000 in
set_option maxHeartbeats 1000000 in
theorem rvalue_any (ao : Option Addr) (c : Nat) (L : List Int) (w : World) (h : Rd w .i64 ao c L) (hd : Dig R16 L) (hl : L.length ≤ 3) :
    Calls Tryz.prog 186 #[.slice ao L.length c] w fun e w' => e = .returned (.int .u64 (val R16 L)) ∧ w' = w := by
  obtain ⟨n, hn⟩ : ∃ n, n = L.length := ⟨_, rfl⟩
  have hc := h.cap; have hm := h.most
  rw [← hn] at hc hl ⊢
  have Hn := hid hn; have HD := hid hd; have HL := hid h
  clear hn hd h
  go_enter Tryz.func186, Tryz.ntmps186
  go_wp2
  go_loop [3, 4] (fun vv iv => ∃ k : Nat, k ≤ n ∧ iv = .int .i64 ((k : Int) - 1) ∧ vv = .int .u64 (val R16 (L.drop k))) (fun _ iv => (intOf iv + 1).toNat)
  case atStart => exact ⟨n, Nat.le_refl _, rfl, by rw [List.drop_of_length_le (by have := Hn.out; omega)]; rfl⟩
  case round =>
    obtain ⟨k, hk, rfl, rfl⟩ := hrel
    cases k with
    | zero =>
      rw [List.drop_zero]
      go_wp2
      go_ret
      exact ⟨rfl, rfl⟩
    | succ k =>
      obtain ⟨b, off, rfl⟩ := HL.out.adr (by have := Hn.out; omega)
      have hcell := HL.out.cell b off rfl k (by have := Hn.out; omega)
      have hx := HD.out.at R16_pos k
      have hv := value_small (HD.out.drop (k + 1)) (by rw [List.length_drop]; have := Hn.out; omega)
      have hv2 := value_small (HD.out.drop k) (by rw [List.length_drop]; have := Hn.out; omega)
      have hvd := val_drop R16 L k (by have := Hn.out; omega)
      obtain ⟨x, hxe⟩ : ∃ x, x = L[k]?.getD 0 := ⟨_, rfl⟩
      obtain ⟨t, ht⟩ : ∃ t, t = val R16 (L.drop (k + 1)) := ⟨_, rfl⟩
      rw [← hxe] at hcell hx hvd
      rw [← ht] at hv hvd ⊢
      have hs : t * 65536 + x = val R16 (L.drop k) := by rw [hvd]; unfold R16; omega
      rw [← hs] at hv2
      have hx0 := hx.1; have hx1 : x < 65536 := hx.2
      have ht0 := hv.1; have ht1 := hv.2; have hv20 := hv2.1; have hv21 := hv2.2
      have Hs := hid hs
      have hk0 : (0 : Int) ≤ (k : Int) := by omega
      clear hx hxe ht hvd hs hv hv2
      go_wp2
      go_round
      case rel => exact ⟨k, by omega, by go_num, by rw [← Hs.out]⟩
      case measure => simp [intOf]

end Go.Proofs.YtilpkocmdpofpaaGreatDoor

/- The document's own integers: naturals as digits; half. -/
namespace Go.Proofs.YtilpkocmdpofpaaGreatDoor
open Go.RowKit

/-- The value v reads in w as the natural number n: digits to the base 65536, in normal form, K at most. -/
structure MdL (w : World) (ao : Option Addr) (c : Nat) (L : List Int) (n : Int) (K : Nat) : Prop where
  rd : Rd w .i64 ao c L
  dig : Dig R16 L
  nrm : Nrm L
  eq : val R16 L = n
  le : L.length ≤ K
def Md (w : World) (v : Value) (n : Int) (K : Nat) : Prop := ∃ ao c L, v = .slice ao L.length c ∧ MdL w ao c L n K
def RetM (w : World) (n : Int) (K : Nat) (e : Ending) (w' : World) : Prop := ∃ v, e = .returned v ∧ Md w' v n K ∧ Below w.heap.size w w'

theorem Md.nonneg {w : World} {v : Value} {n : Int} {K : Nat} (h : Md w v n K) : 0 ≤ n := by obtain ⟨_, _, _, _, h⟩ := h; rw [← h.eq]; exact val_nonneg R16_pos h.dig
theorem Md.below {w w' : World} {v : Value} {n : Int} {K B : Nat} (h : Md w v n K) (hb : Below B w w') (hB : w.heap.size ≤ B) : Md w' v n K := by
  obtain ⟨ao, c, L, rfl, h⟩ := h
  exact ⟨ao, c, L, rfl, h.rd.below hb hB, h.dig, h.nrm, h.eq, h.le⟩
theorem Md.mono {w : World} {v : Value} {n : Int} {K K' : Nat} (h : Md w v n K) (hk : K ≤ K') : Md w v n K' := by
  obtain ⟨ao, c, L, rfl, h⟩ := h
  exact ⟨ao, c, L, rfl, h.rd, h.dig, h.nrm, h.eq, Nat.le_trans h.le hk⟩
theorem Md.nil (w : World) : Md w (.slice none 0 0) 0 0 := ⟨none, 0, [], rfl, Rd.nil _ _, Dig.nil _, rfl, rfl, Nat.le_refl _⟩

theorem rowi_rd {w : World} {g : Nat} {L : List Int} {c : Nat} (h : Row .i64 3 w g L) (hc : L.length ≤ c) (hc' : c ≤ 9223372036854775807) : Rd w .i64 (some ⟨g, 0, none⟩) c L := by
  have h' : Row .i64 3 w g ([] ++ L ++ []) := by simpa using h
  exact h'.rd hc hc'
theorem md_row {w : World} {g : Nat} {L : List Int} {c : Nat} {n : Int} {K : Nat} (h : Row .i64 3 w g L) (hd : Dig R16 L) (hv : val R16 L = n) (hc : L.length ≤ c) (hc' : c ≤ 9223372036854775807) (hK : L.length ≤ K) :
    Md w (.slice (some ⟨g, 0, none⟩) (trimL L).length c) n K := by
  refine ⟨_, c, trimL L, rfl, ?_, hd.trim, Nrm.trim L, by rw [val_trim]; exact hv, Nat.le_trans (trimL_len L) hK⟩
  rw [trimL_take L]; exact (rowi_rd h hc hc').take _

theorem Tryz.info3 : (Tryz.prog.info? 3).map (fun i => (i.zero, i.size, i.bytes)) = some (some (.int .i64 0), 1, 8) := by kernel_rfl

/-- Behind the digits from j on, divided by x. -/
structure DivR (w wr : World) (g : Nat) (LA : List Int) (x : Int) (j : Nat) (QT : List Int) (r : Int) : Prop where
  row : Row .i64 3 wr g (List.replicate j 0 ++ QT)
  gr : w.grownBy wr (some g)
  len : j + QT.length = LA.length
  dig : Dig R16 QT
  r0 : 0 ≤ r
  r1 : r < x
  eq : val R16 (LA.drop j) = val R16 QT * x + r

theorem DivR.step {w wr : World} {g : Nat} {LA QT : List Int} {x r : Int} {j : Nat} (h : DivR w wr g LA x (j + 1) QT r) (hx : 0 < x) (a : Int) (ha : a = LA[j]?.getD 0) (a0 : 0 ≤ a) (a1 : a < R16) :
    DivR w (wr.setCell ⟨g, j, none⟩ (.int .i64 ((r * 65536 + a) / x))) g LA x j ((r * 65536 + a) / x :: QT) ((r * 65536 + a) % x) ∧ 0 ≤ r * 65536 + a ∧ (r * 65536 + a) / x < 65536 := by
  have hj : j < LA.length := by have := h.len; omega
  have r0 := h.r0; have r1 := h.r1
  have hn0 : 0 ≤ r * 65536 + a := by omega
  have hn1 : r * 65536 + a < 65536 * x := by unfold R16 at a1; omega
  have q0 : 0 ≤ (r * 65536 + a) / x := Int.ediv_nonneg hn0 (Int.le_of_lt hx)
  have q1 : (r * 65536 + a) / x < 65536 := Int.ediv_lt_of_lt_mul hx hn1
  have hs := h.row.set j ((r * 65536 + a) / x)
  rw [List.replicate_succ', List.append_assoc, List.set_append_right _ _ (by simp), List.length_replicate, Nat.sub_self] at hs
  refine ⟨⟨hs, grown_trans h.gr (grown_set _ _ _ _), by have := h.len; simp; omega, Dig.cons q0 q1 h.dig, Int.emod_nonneg _ (by omega), Int.emod_lt_of_pos _ hx, ?_⟩, hn0, q1⟩
  have e := Int.emod_add_mul_ediv (r * 65536 + a) x
  rw [val_drop R16 LA j hj, ← ha, h.eq]
  simp only [val]
  generalize (r * 65536 + a) / x = q at *
  generalize (r * 65536 + a) % x = m at *
  generalize val R16 QT = t at *
  unfold R16
  grind

set_option maxRecDepth 100000 in
set_option maxHeartbeats 2000000 in
theorem half_any (va : Value) (a : Int) (K : Nat) (w : World) (hA : Md w va a K) (hK : K ≤ 1073741824) :
    Calls Tryz.prog 153 #[va] w (RetM w (a / 2) K) := by
  obtain ⟨ao, ca, LA, rfl, hA⟩ := hA
  obtain ⟨n, hn⟩ : ∃ n, n = LA.length := ⟨_, rfl⟩
  have hn30 : n ≤ 1073741824 := by have := hA.le; omega
  rw [← hn]
  have HA := hid hA; have Hn := hid hn
  clear hA hn
  obtain ⟨i0, hi, hz0, hz1, hz2⟩ := info_parts Tryz.info3
  go_enter Tryz.func153, Tryz.ntmps153
  go_wp2_with (at_make; refine wpList_make_row w rfl _ _ 29 rfl 3 i0 .i64 Tryz.underlying29 hi hz0 hz1 .i64 .i64 _ _ n rfl rfl rfl rfl (by rw [hz2]; omega) (by unfold maxLen; omega) ?_)
  intro w1 hrow hg1
  have hb1 := grown_below hg1
  have H0 : DivR w w1 w.heap.size LA 2 n [] 0 := ⟨by simpa using hrow, grown_any hg1, by simpa using Hn.out, Dig.nil _, Int.le_refl 0, by decide, by rw [List.drop_of_length_le (by have := Hn.out; omega)]; simp [val]⟩
  have HG1 := hid (HA.out.rd.ne (Nat.le_refl w.heap.size))
  clear hrow hg1
  go_wp2
  go_loopw [4, 5] (fun rv iv wr => ∃ j : Nat, ∃ QT r, j ≤ n ∧ iv = .int .i64 ((j : Int) - 1) ∧ rv = .int .i64 r ∧ DivR w wr w.heap.size LA 2 j QT r ∧ Below w.heap.size w wr) (fun _ iv _ => (intOf iv + 1).toNat)
  case atStart => exact ⟨n, [], 0, Nat.le_refl _, rfl, rfl, H0, hb1⟩
  case round =>
    obtain ⟨j, QT, r, hj, rfl, rfl, H, hb⟩ := hrel
    cases j with
    | zero =>
      have hr : Row .i64 3 wr w.heap.size QT := by have := H.row; simpa using this
      have hl : QT.length = n := by have := H.len; have := Hn.out; omega
      have he := H.eq
      rw [List.drop_zero, HA.out.eq] at he
      have hq : val R16 QT = a / 2 := by have := H.r0; have := H.r1; omega
      have ht := cut_any (some ⟨w.heap.size, 0, none⟩) n QT wr (rowi_rd hr (by omega) (by omega))
      have hres := md_row (c := n) (K := K) hr H.dig hq (by omega) (by omega) (by have := HA.out.le; have := Hn.out; omega)
      rw [hl] at ht
      have HT := hid ht; have Hres := hid hres
      clear ht hres hr hl he hq H H0 hb1
      go_wp2_with (go_at_call 149; refine HT.out.mono ?_; rintro e w2 ⟨rfl, rfl⟩)
      go_ret
      exact ⟨_, rfl, Hres.out, hb⟩
    | succ j =>
      have hjn : j < n := by omega
      obtain ⟨b, o, rfl⟩ := HA.out.rd.adr (by have := Hn.out; omega)
      have hc := (HA.out.rd.keptNew H.gr HG1.out).cell b o rfl j (by have := Hn.out; omega)
      have hd := HA.out.dig.at R16_pos j
      obtain ⟨y, hy⟩ : ∃ y, y = LA[j]?.getD 0 := ⟨_, rfl⟩
      rw [← hy] at hc hd
      obtain ⟨hS, hn0, hq1⟩ := H.step (by decide) y hy hd.1 hd.2
      have hq := H.row.cell j (by have := H.len; simp; omega)
      have hf := H.row.frozen j
      obtain ⟨u, hu⟩ : ∃ u, u = ((List.replicate (j + 1) 0 ++ QT)[j]?.getD 0 : Int) := ⟨_, rfl⟩
      rw [← hu] at hq
      have hr0 := H.r0; have hr1 := H.r1
      have hy0 := hd.1; have hy1 : y < 65536 := hd.2
      have hk0 : (0 : Int) ≤ (j : Int) := by omega
      have HS := hid hS
      clear hS H H0 hb1 hd hy hu
      go_wp2
      go_roundw
      case rel => exact ⟨j, _, _, by omega, by go_num, rfl, HS.out, hb.setCell (Nat.le_refl _) _⟩
      case measure => simp [intOf]

end Go.Proofs.YtilpkocmdpofpaaGreatDoor
