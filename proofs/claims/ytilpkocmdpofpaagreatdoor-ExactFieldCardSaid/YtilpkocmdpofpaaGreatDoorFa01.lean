/- Plain facts on lists of digits: nothing of the program. What it says that a slice of numbers reads as a list; small words for the walks. exact.trim, at natural and at []uint32: a prefix. -/
import Derived.Test.YtilpkocmdpofpaaGreatDoorRows
import Derived.WalkKit
import Derived.WalkSpells
import Derived.WalkLawsBesides
import Derived.BigQuiet
import Derived.Deep.QuietTactic
/- Plain facts on lists of digits: nothing of the program. -/
namespace Go.Proofs.YtilpkocmdpofpaaGreatDoor

/-- The number of a list of digits to the base B, the lowest first. -/
def val (B : Int) : List Int → Int
  | [] => 0
  | x :: l => x + B * val B l

/-- Each element is a digit to the base B. -/
def Dig (B : Int) (l : List Int) : Prop := ∀ x, x ∈ l → 0 ≤ x ∧ x < B

/-- A list without the zeros at its end. -/
def trimL : List Int → List Int
  | [] => []
  | x :: l => if trimL l = [] ∧ x = 0 then [] else x :: trimL l

theorem Dig.nil (B : Int) : Dig B [] := fun _ h => by cases h
theorem Dig.tail {B x : Int} {l : List Int} (h : Dig B (x :: l)) : Dig B l := fun y hy => h y (List.mem_cons_of_mem _ hy)
theorem Dig.head {B x : Int} {l : List Int} (h : Dig B (x :: l)) : 0 ≤ x ∧ x < B := h x List.mem_cons_self
theorem Dig.cons {B x : Int} {l : List Int} (h0 : 0 ≤ x) (h1 : x < B) (h : Dig B l) : Dig B (x :: l) := fun y hy => by
  rcases List.mem_cons.1 hy with rfl | hy
  · exact ⟨h0, h1⟩
  · exact h y hy
theorem Dig.append {B : Int} {l m : List Int} (h : Dig B l) (k : Dig B m) : Dig B (l ++ m) := fun y hy => by
  rcases List.mem_append.1 hy with hy | hy
  · exact h y hy
  · exact k y hy
theorem Dig.take {B : Int} {l : List Int} (h : Dig B l) (n : Nat) : Dig B (l.take n) := fun y hy => h y (List.mem_of_mem_take hy)
theorem Dig.drop {B : Int} {l : List Int} (h : Dig B l) (n : Nat) : Dig B (l.drop n) := fun y hy => h y (List.mem_of_mem_drop hy)
theorem Dig.at {B : Int} {l : List Int} (h : Dig B l) (hB : 0 < B) (i : Nat) : 0 ≤ l[i]?.getD 0 ∧ l[i]?.getD 0 < B := by
  by_cases hi : i < l.length
  · have e : l[i]?.getD 0 = l[i] := by simp [hi]
    rw [e]; exact h _ (List.getElem_mem hi)
  · have e : l[i]?.getD 0 = 0 := by simp [Nat.le_of_not_lt hi]
    rw [e]; exact ⟨Int.le_refl 0, hB⟩

theorem trimL_snoc (l : List Int) (x : Int) : trimL (l ++ [x]) = if x = 0 then trimL l else l ++ [x] := by
  induction l with
  | nil => by_cases h : x = 0 <;> simp [trimL, h]
  | cons y l ih =>
    by_cases h : x = 0
    · simp only [h, if_true] at ih ⊢
      simp [trimL, ih]
    · simp only [h, if_false] at ih ⊢
      simp [trimL, ih]

theorem trimL_len (l : List Int) : (trimL l).length ≤ l.length := by
  induction l with
  | nil => simp [trimL]
  | cons x l ih => simp only [trimL]; split <;> simp <;> omega

theorem trimL_take (l : List Int) : trimL l = l.take (trimL l).length := by
  induction l with
  | nil => simp [trimL]
  | cons x l ih =>
    simp only [trimL]
    split
    · simp
    · simp [← ih]

theorem take_succ_getD (l : List Int) (k : Nat) (h : k < l.length) : l.take (k + 1) = l.take k ++ [l[k]?.getD 0] := by
  rw [List.take_succ_eq_append_getElem h]; simp [h]

theorem val_append (B : Int) (l m : List Int) : val B (l ++ m) = val B l + B ^ l.length * val B m := by
  induction l with
  | nil => simp [val]
  | cons x l ih => simp only [List.cons_append, val, ih, List.length_cons, Int.pow_succ]; grind

theorem val_snoc (B : Int) (l : List Int) (x : Int) : val B (l ++ [x]) = val B l + B ^ l.length * x := by
  rw [val_append]; simp [val]

theorem val_trim (B : Int) (l : List Int) : val B (trimL l) = val B l := by
  induction l with
  | nil => rfl
  | cons x l ih =>
    simp only [trimL]
    split
    · next h => obtain ⟨h1, h2⟩ := h; rw [h1] at ih; simp only [val] at ih ⊢; rw [← ih, h2]; simp
    · simp only [val, ih]

theorem val_nonneg {B : Int} (hB : 0 < B) {l : List Int} (h : Dig B l) : 0 ≤ val B l := by
  induction l with
  | nil => simp [val]
  | cons x l ih =>
    have := ih h.tail; have := h.head.1
    have := Int.mul_nonneg (Int.le_of_lt hB) (ih h.tail)
    simp only [val]; omega

theorem val_lt {B : Int} (hB : 0 < B) {l : List Int} (h : Dig B l) : val B l < B ^ l.length := by
  induction l with
  | nil => simp [val]
  | cons x l ih =>
    have h1 := ih h.tail; have h2 := h.head
    simp only [val, List.length_cons, Int.pow_succ]
    have h3 : B * (val B l + 1) ≤ B * B ^ l.length := Int.mul_le_mul_of_nonneg_left (by omega) (Int.le_of_lt hB)
    rw [Int.mul_comm (B ^ l.length) B]
    rw [Int.mul_add] at h3
    omega

/-- Normal form: no zero at the end. -/
def Nrm (l : List Int) : Prop := trimL l = l

theorem Nrm.nil : Nrm [] := rfl
theorem trimL_trimL (l : List Int) : trimL (trimL l) = trimL l := by
  induction l with
  | nil => rfl
  | cons x l ih =>
    simp only [trimL]
    split
    · rfl
    · next h => simp only [trimL, ih]; rw [if_neg h]
theorem Nrm.trim (l : List Int) : Nrm (trimL l) := trimL_trimL l
theorem Nrm.tail {x : Int} {l : List Int} (h : Nrm (x :: l)) : Nrm l := by
  unfold Nrm at h ⊢
  simp only [trimL] at h
  split at h
  · cases h
  · exact (List.cons.inj h).2
theorem Dig.trim {B : Int} {l : List Int} (h : Dig B l) : Dig B (trimL l) := by rw [trimL_take]; exact h.take _

/-- A list in normal form with value 0 is empty. -/
theorem Nrm.eq_nil {B : Int} (hB : 0 < B) {l : List Int} (h : Dig B l) (hn : Nrm l) (hv : val B l = 0) : l = [] := by
  induction l with
  | nil => rfl
  | cons x l ih =>
    have h1 := val_nonneg hB h.tail
    have h2 := h.head.1
    have h3 := Int.mul_nonneg (Int.le_of_lt hB) h1
    simp only [val] at hv
    have hx : x = 0 := by omega
    have hz : B * val B l = 0 := by omega
    have hl : val B l = 0 := by
      rcases Int.mul_eq_zero.1 hz with h | h
      · omega
      · exact h
    have hl' := ih h.tail hn.tail hl
    subst hl'; subst hx
    simp [Nrm, trimL] at hn

/-- Digits in normal form are fixed by their number. -/
theorem val_inj {B : Int} (hB : 0 < B) : ∀ {l m : List Int}, Dig B l → Dig B m → Nrm l → Nrm m → val B l = val B m → l = m := by
  intro l
  induction l with
  | nil => intro m _ hm _ hnm hv; exact (Nrm.eq_nil hB hm hnm (by simpa [val] using hv.symm)).symm
  | cons x l ih =>
    intro m hl hm hnl hnm hv
    cases m with
    | nil => exact Nrm.eq_nil hB hl hnl (by simpa [val] using hv)
    | cons y m =>
      simp only [val] at hv
      have hx := hl.head; have hy := hm.head
      have e1 : (x + B * val B l) % B = x := by rw [Int.add_mul_emod_self_left]; exact Int.emod_eq_of_lt hx.1 hx.2
      have e2 : (y + B * val B m) % B = y := by rw [Int.add_mul_emod_self_left]; exact Int.emod_eq_of_lt hy.1 hy.2
      have exy : x = y := by rw [← e1, ← e2, hv]
      subst exy
      have hm' : B * val B l = B * val B m := by omega
      have := ih hl.tail hm.tail hnl.tail hnm.tail (Int.eq_of_mul_eq_mul_left (by omega) hm')
      rw [this]

theorem pow_mono {B : Int} (hB : 0 < B) {m n : Nat} (h : m ≤ n) : B ^ m ≤ B ^ n := by
  obtain ⟨k, rfl⟩ := Nat.exists_eq_add_of_le h
  rw [Int.pow_add]
  have h1 : 0 < B ^ m := Int.pow_pos hB
  have h2 : 0 < B ^ k := Int.pow_pos hB
  have := Int.mul_le_mul_of_nonneg_left (show (1 : Int) ≤ B ^ k by omega) (Int.le_of_lt h1)
  omega

/-- A number with n + 1 digits in normal form is at least B^n. -/
theorem Nrm.low {B : Int} (hB : 0 < B) : ∀ {l : List Int}, Dig B l → Nrm l → 0 < l.length → B ^ (l.length - 1) ≤ val B l := by
  intro l
  induction l with
  | nil => intro _ _ h; simp at h
  | cons x l ih =>
    intro hd hn _
    cases l with
    | nil =>
      have hx : x ≠ 0 := by
        intro h; subst h; simp [Nrm, trimL] at hn
      have := hd.head
      simp [val]; omega
    | cons y l =>
      have h1 := ih hd.tail hn.tail (by simp)
      have h2 := hd.head.1
      simp only [List.length_cons, Nat.add_sub_cancel] at h1 ⊢
      have h3 := Int.mul_le_mul_of_nonneg_left h1 (Int.le_of_lt hB)
      rw [val, Int.pow_succ, Int.mul_comm]
      omega

end Go.Proofs.YtilpkocmdpofpaaGreatDoor

/- What it says that a slice of numbers reads as a list; small words for the walks. -/
namespace Go.Proofs.YtilpkocmdpofpaaGreatDoor
open Go.RowKit

/-- A fact kept from the walk. -/
theorem hid {p : Prop} (h : p) : Hid p := h

/-- A slice of numbers of kind k at the address ao, with capacity c, reads as the list L. -/
structure Rd (w : World) (k : IntKind) (ao : Option Addr) (c : Nat) (L : List Int) : Prop where
  cap : L.length ≤ c
  most : c ≤ 9223372036854775807
  adr : 0 < L.length → ∃ b off, ao = some ⟨b, off, none⟩
  cell : ∀ b off, ao = some ⟨b, off, none⟩ → ∀ i, i < L.length → w.cell? ⟨b, off + i, none⟩ = some (.int k (L[i]?.getD 0))

/-- The length of a slice: for a loop's measure. -/
def lenOf : Value → Nat | .slice _ n _ => n | _ => 0

theorem Rd.nil (w : World) (k : IntKind) : Rd w k none 0 [] := ⟨Nat.le_refl _, (by decide), fun h => (nomatch h), fun _ _ h => (nomatch h)⟩
theorem Rd.take {w : World} {k : IntKind} {ao : Option Addr} {c : Nat} {L : List Int} (h : Rd w k ao c L) (n : Nat) : Rd w k ao c (L.take n) := by
  have hl : (L.take n).length ≤ L.length := List.length_take_le' _ _
  refine ⟨Nat.le_trans hl h.cap, h.most, fun hp => h.adr (by omega), fun b off e i hi => ?_⟩
  rw [h.cell b off e i (by omega)]
  have : i < n := by simp at hi; omega
  simp [this]
theorem Rd.below {w w' : World} {k : IntKind} {ao : Option Addr} {c : Nat} {L : List Int} {B : Nat} (h : Rd w k ao c L) (hb : Below B w w') (hB : w.heap.size ≤ B) : Rd w' k ao c L :=
  ⟨h.cap, h.most, h.adr, fun b off e i hi => (hb.cell (p := ⟨b, off + i, none⟩) (Nat.lt_of_lt_of_le (World.block_lt_of_cell? w _ (h.cell b off e i hi)) hB)).trans (h.cell b off e i hi)⟩

/-- A quiet call behind a quiet region. -/
theorem quietMore {P : Program} {f : FuncId} {args : Array Value} {w : World} {a n : Nat} {v : Value} (h : Calls P f args (w.drewN (a + n)) fun e w' => e = .returned v ∧ w' = w.drewN (a + n)) :
    Calls P f args (w.drewN (a + n)) fun e w' => e = .returned v ∧ ∃ m, w' = w.drewN (a + m) := h.mono fun _ _ ⟨he, hm⟩ => ⟨he, n, hm⟩
theorem cell_drewN (w : World) (n : Nat) (a : Addr) : (w.drewN n).cell? a = w.cell? a := rfl
theorem below_drewN {B : Nat} {a w : World} (h : Below B a w) (n : Nat) : Below B a (w.drewN n) := ⟨h.os, h.tape, h.output, h.size, h.block⟩

/-- What lay there reads as it did: two rules for the walk. -/
theorem bcell {w w1 : World} (hb : Below w.heap.size w w1) : (∀ b o, b < w.heap.size → w1.cell? ⟨b, o, none⟩ = w.cell? ⟨b, o, none⟩) ∧ (∀ b o, b < w.heap.size → w1.frozen? ⟨b, o, none⟩ = w.frozen? ⟨b, o, none⟩) :=
  ⟨fun b o h => hb.cell (p := ⟨b, o, none⟩) h, fun b o h => hb.frozen (p := ⟨b, o, none⟩) h⟩

/-- Each cell that holds a number of kind k holds it still. -/
def Keeps (k : IntKind) (w w' : World) : Prop := ∀ a x, w.cell? a = some (.int k x) → w'.cell? a = some (.int k x)
theorem Keeps.refl (k : IntKind) (w : World) : Keeps k w w := fun _ _ h => h
theorem Keeps.trans {k : IntKind} {a b c : World} (h : Keeps k a b) (g : Keeps k b c) : Keeps k a c := fun p x e => g p x (h p x e)
theorem Keeps.below {k : IntKind} {w w' : World} {B : Nat} (h : Below B w w') (hB : w.heap.size ≤ B) : Keeps k w w' := fun a _ e =>
  (h.cell (Nat.lt_of_lt_of_le (World.block_lt_of_cell? w a e) hB)).trans e
theorem Keeps.alloc {k : IntKind} {w w' : World} (h : Keeps k w w') (o : Obj) : Keeps k w (w'.alloc o) := h.trans (Keeps.below (((Below.refl _ w').alloc (Nat.le_refl _) o)) (Nat.le_refl _))
theorem Keeps.drew {k : IntKind} {w w' : World} (h : Keeps k w w') : Keeps k w w'.drew := h
theorem Keeps.drewN {k : IntKind} {w w' : World} (h : Keeps k w w') (n : Nat) : Keeps k w (w'.drewN n) := h
theorem Keeps.setCell {k : IntKind} {w w' : World} (h : Keeps k w w') {a : Addr} {u : Value} (hu : w'.cell? a = some u) (hn : ∀ x, u ≠ .int k x) (v : Value) : Keeps k w (w'.setCell a v) := fun p x e => by
  have hp := h p x e
  have hne : a ≠ p := by rintro rfl; rw [hp] at hu; exact hn _ (Option.some.inj hu).symm
  exact (World.cell?_setCell_other w' a _ v hne).trans hp
theorem Rd.keeps {w w' : World} {k : IntKind} {ao : Option Addr} {c : Nat} {L : List Int} (h : Rd w k ao c L) (hk : Keeps k w w') : Rd w' k ao c L :=
  ⟨h.cap, h.most, h.adr, fun b off e i hi => hk _ _ (h.cell b off e i hi)⟩

end Go.Proofs.YtilpkocmdpofpaaGreatDoor

/- exact.trim, at natural and at []uint32: a prefix. -/
namespace Go.Proofs.YtilpkocmdpofpaaGreatDoor
open Go.RowKit

theorem trimL_step0 (L : List Int) (m : Nat) (hm : m < L.length) (h : trimL (L.take (m + 1)) = trimL L) (hz : L[m]?.getD 0 = 0) : trimL (L.take m) = trimL L := by
  rw [take_succ_getD L m hm, trimL_snoc, if_pos hz] at h; exact h
theorem trimL_step1 (L : List Int) (m : Nat) (hm : m < L.length) (h : trimL (L.take (m + 1)) = trimL L) (hz : ¬ L[m]?.getD 0 = 0) : (trimL L).length = m + 1 := by
  rw [take_succ_getD L m hm, trimL_snoc, if_neg hz] at h; rw [← h]; simp; omega
theorem trimL_stop (L : List Int) (h : trimL (L.take 0) = trimL L) : (trimL L).length = 0 := by rw [← h]; rfl

set_option maxHeartbeats 400000 in
theorem trim64_any (ao : Option Addr) (c : Nat) (L : List Int) (w : World) (h : Rd w .u64 ao c L) :
    Calls Tryz.prog 136 #[.slice ao L.length c] w fun e w' => e = .returned (.slice ao (trimL L).length c) ∧ w = w' := by
  obtain ⟨n, hn⟩ : ∃ n, n = L.length := ⟨_, rfl⟩
  have hc := h.cap; have hm := h.most
  rw [← hn] at hc ⊢
  have Hn := hid hn; clear hn
  go_enter Tryz.func136, Tryz.ntmps136
  go_wp2
  go_loop [0] (fun v => ∃ m : Nat, m ≤ n ∧ v = .slice ao m c ∧ Hid (trimL (L.take m) = trimL L)) (fun v => lenOf v)
  case atStart => exact ⟨n, Nat.le_refl _, rfl, hid (by rw [Hn.out, List.take_length])⟩
  case round =>
    obtain ⟨m, hmn, rfl, HT⟩ := hrel
    cases m with
    | zero =>
      go_wp2
      go_ret
      exact ⟨by rw [trimL_stop L HT.out]; rfl, rfl⟩
    | succ m =>
      obtain ⟨b, off, rfl⟩ := h.adr (by have := Hn.out; omega)
      have hcell := h.cell b off rfl m (by have := Hn.out; omega)
      by_cases hz : L[m]?.getD 0 = 0
      · have HZ := hid hz
        rw [hz] at hcell
        clear hz
        go_wp2
        go_round
        case rel => exact ⟨m, by omega, rfl, hid (trimL_step0 L m (by have := Hn.out; omega) HT.out HZ.out)⟩
        case measure => simp [lenOf]
      · have HZ := hid hz
        go_wp2
        go_ret
        exact ⟨by rw [trimL_step1 L m (by have := Hn.out; omega) HT.out HZ.out]; rfl, rfl⟩

set_option maxHeartbeats 400000 in
theorem trim32_any (ao : Option Addr) (c : Nat) (L : List Int) (w : World) (h : Rd w .u32 ao c L) :
    Calls Tryz.prog 173 #[.slice ao L.length c] w fun e w' => e = .returned (.slice ao (trimL L).length c) ∧ w = w' := by
  obtain ⟨n, hn⟩ : ∃ n, n = L.length := ⟨_, rfl⟩
  have hc := h.cap; have hm := h.most
  rw [← hn] at hc ⊢
  have Hn := hid hn; clear hn
  go_enter Tryz.func173, Tryz.ntmps173
  go_wp2
  go_loop [0] (fun v => ∃ m : Nat, m ≤ n ∧ v = .slice ao m c ∧ Hid (trimL (L.take m) = trimL L)) (fun v => lenOf v)
  case atStart => exact ⟨n, Nat.le_refl _, rfl, hid (by rw [Hn.out, List.take_length])⟩
  case round =>
    obtain ⟨m, hmn, rfl, HT⟩ := hrel
    cases m with
    | zero =>
      go_wp2
      go_ret
      exact ⟨by rw [trimL_stop L HT.out]; rfl, rfl⟩
    | succ m =>
      obtain ⟨b, off, rfl⟩ := h.adr (by have := Hn.out; omega)
      have hcell := h.cell b off rfl m (by have := Hn.out; omega)
      by_cases hz : L[m]?.getD 0 = 0
      · have HZ := hid hz
        rw [hz] at hcell
        clear hz
        go_wp2
        go_round
        case rel => exact ⟨m, by omega, rfl, hid (trimL_step0 L m (by have := Hn.out; omega) HT.out HZ.out)⟩
        case measure => simp [lenOf]
      · have HZ := hid hz
        go_wp2
        go_ret
        exact ⟨by rw [trimL_step1 L m (by have := Hn.out; omega) HT.out HZ.out]; rfl, rfl⟩

end Go.Proofs.YtilpkocmdpofpaaGreatDoor
