/- Plain facts on lists of digits: nothing of the program. What it says that a slice of numbers reads as a list; small words for the walks. math/bits and cmp: what the calls return. math/bits.LeadingZeros64, Len64: by the library's contracts. -/
import Derived.Test.YtbapeilpkhbbeaaGreatDoorRows
import Derived.WalkKit
import Derived.WalkSpells
import Derived.WalkLawsBesides
import Derived.BigQuiet
import Derived.Deep.QuietTactic
import Derived.Lib.Mul64
import Derived.Laws.Bits64b
import Derived.Laws.Externs
import Derived.Shelf.Small.Bits
import Derived.Shelf.Strconv.Itoa0
/- Plain facts on lists of digits: nothing of the program. -/
namespace Go.Proofs.YtbapeilpkhbbeaaGreatDoor

/-- The number of a list of digits to the base B, the lowest first. -/
def val (B : Int) : List Int → Int
  | [] => 0
  | x :: l => x + B * val B l

/-- Each element is a digit to the base B. -/
def Dig (B : Int) (l : List Int) : Prop := ∀ x, x ∈ l → 0 ≤ x ∧ x < B

/-- A list without the zeros at its end. -/
def trimL : List Int → List Int
  | [] => []
  | x :: l => if trimL l = [] ∧ x = 0 then [] else x :: trimL l

theorem Dig.nil (B : Int) : Dig B [] := fun _ h => by cases h
theorem Dig.tail {B x : Int} {l : List Int} (h : Dig B (x :: l)) : Dig B l := fun y hy => h y (List.mem_cons_of_mem _ hy)
theorem Dig.head {B x : Int} {l : List Int} (h : Dig B (x :: l)) : 0 ≤ x ∧ x < B := h x List.mem_cons_self
theorem Dig.cons {B x : Int} {l : List Int} (h0 : 0 ≤ x) (h1 : x < B) (h : Dig B l) : Dig B (x :: l) := fun y hy => by
  rcases List.mem_cons.1 hy with rfl | hy
  · exact ⟨h0, h1⟩
  · exact h y hy
theorem Dig.append {B : Int} {l m : List Int} (h : Dig B l) (k : Dig B m) : Dig B (l ++ m) := fun y hy => by
  rcases List.mem_append.1 hy with hy | hy
  · exact h y hy
  · exact k y hy
theorem Dig.take {B : Int} {l : List Int} (h : Dig B l) (n : Nat) : Dig B (l.take n) := fun y hy => h y (List.mem_of_mem_take hy)
theorem Dig.drop {B : Int} {l : List Int} (h : Dig B l) (n : Nat) : Dig B (l.drop n) := fun y hy => h y (List.mem_of_mem_drop hy)
theorem Dig.at {B : Int} {l : List Int} (h : Dig B l) (hB : 0 < B) (i : Nat) : 0 ≤ l[i]?.getD 0 ∧ l[i]?.getD 0 < B := by
  by_cases hi : i < l.length
  · have e : l[i]?.getD 0 = l[i] := by simp [hi]
    rw [e]; exact h _ (List.getElem_mem hi)
  · have e : l[i]?.getD 0 = 0 := by simp [Nat.le_of_not_lt hi]
    rw [e]; exact ⟨Int.le_refl 0, hB⟩

theorem trimL_snoc (l : List Int) (x : Int) : trimL (l ++ [x]) = if x = 0 then trimL l else l ++ [x] := by
  induction l with
  | nil => by_cases h : x = 0 <;> simp [trimL, h]
  | cons y l ih =>
    by_cases h : x = 0
    · simp only [h, if_true] at ih ⊢
      simp [trimL, ih]
    · simp only [h, if_false] at ih ⊢
      simp [trimL, ih]

theorem trimL_len (l : List Int) : (trimL l).length ≤ l.length := by
  induction l with
  | nil => simp [trimL]
  | cons x l ih => simp only [trimL]; split <;> simp <;> omega

theorem trimL_take (l : List Int) : trimL l = l.take (trimL l).length := by
  induction l with
  | nil => simp [trimL]
  | cons x l ih =>
    simp only [trimL]
    split
    · simp
    · simp [← ih]

theorem take_succ_getD (l : List Int) (k : Nat) (h : k < l.length) : l.take (k + 1) = l.take k ++ [l[k]?.getD 0] := by
  rw [List.take_succ_eq_append_getElem h]; simp [h]

theorem val_append (B : Int) (l m : List Int) : val B (l ++ m) = val B l + B ^ l.length * val B m := by
  induction l with
  | nil => simp [val]
  | cons x l ih => simp only [List.cons_append, val, ih, List.length_cons, Int.pow_succ]; grind

theorem val_snoc (B : Int) (l : List Int) (x : Int) : val B (l ++ [x]) = val B l + B ^ l.length * x := by
  rw [val_append]; simp [val]

theorem val_trim (B : Int) (l : List Int) : val B (trimL l) = val B l := by
  induction l with
  | nil => rfl
  | cons x l ih =>
    simp only [trimL]
    split
    · next h => obtain ⟨h1, h2⟩ := h; rw [h1] at ih; simp only [val] at ih ⊢; rw [← ih, h2]; simp
    · simp only [val, ih]

theorem val_nonneg {B : Int} (hB : 0 < B) {l : List Int} (h : Dig B l) : 0 ≤ val B l := by
  induction l with
  | nil => simp [val]
  | cons x l ih =>
    have := ih h.tail; have := h.head.1
    have := Int.mul_nonneg (Int.le_of_lt hB) (ih h.tail)
    simp only [val]; omega

theorem val_lt {B : Int} (hB : 0 < B) {l : List Int} (h : Dig B l) : val B l < B ^ l.length := by
  induction l with
  | nil => simp [val]
  | cons x l ih =>
    have h1 := ih h.tail; have h2 := h.head
    simp only [val, List.length_cons, Int.pow_succ]
    have h3 : B * (val B l + 1) ≤ B * B ^ l.length := Int.mul_le_mul_of_nonneg_left (by omega) (Int.le_of_lt hB)
    rw [Int.mul_comm (B ^ l.length) B]
    rw [Int.mul_add] at h3
    omega

/-- Normal form: no zero at the end. -/
def Nrm (l : List Int) : Prop := trimL l = l

theorem Nrm.nil : Nrm [] := rfl
theorem trimL_trimL (l : List Int) : trimL (trimL l) = trimL l := by
  induction l with
  | nil => rfl
  | cons x l ih =>
    simp only [trimL]
    split
    · rfl
    · next h => simp only [trimL, ih]; rw [if_neg h]
theorem Nrm.trim (l : List Int) : Nrm (trimL l) := trimL_trimL l
theorem Nrm.tail {x : Int} {l : List Int} (h : Nrm (x :: l)) : Nrm l := by
  unfold Nrm at h ⊢
  simp only [trimL] at h
  split at h
  · cases h
  · exact (List.cons.inj h).2
theorem Dig.trim {B : Int} {l : List Int} (h : Dig B l) : Dig B (trimL l) := by rw [trimL_take]; exact h.take _

/-- A list in normal form with value 0 is empty. -/
theorem Nrm.eq_nil {B : Int} (hB : 0 < B) {l : List Int} (h : Dig B l) (hn : Nrm l) (hv : val B l = 0) : l = [] := by
  induction l with
  | nil => rfl
  | cons x l ih =>
    have h1 := val_nonneg hB h.tail
    have h2 := h.head.1
    have h3 := Int.mul_nonneg (Int.le_of_lt hB) h1
    simp only [val] at hv
    have hx : x = 0 := by omega
    have hz : B * val B l = 0 := by omega
    have hl : val B l = 0 := by
      rcases Int.mul_eq_zero.1 hz with h | h
      · omega
      · exact h
    have hl' := ih h.tail hn.tail hl
    subst hl'; subst hx
    simp [Nrm, trimL] at hn

/-- Digits in normal form are fixed by their number. -/
theorem val_inj {B : Int} (hB : 0 < B) : ∀ {l m : List Int}, Dig B l → Dig B m → Nrm l → Nrm m → val B l = val B m → l = m := by
  intro l
  induction l with
  | nil => intro m _ hm _ hnm hv; exact (Nrm.eq_nil hB hm hnm (by simpa [val] using hv.symm)).symm
  | cons x l ih =>
    intro m hl hm hnl hnm hv
    cases m with
    | nil => exact Nrm.eq_nil hB hl hnl (by simpa [val] using hv)
    | cons y m =>
      simp only [val] at hv
      have hx := hl.head; have hy := hm.head
      have e1 : (x + B * val B l) % B = x := by rw [Int.add_mul_emod_self_left]; exact Int.emod_eq_of_lt hx.1 hx.2
      have e2 : (y + B * val B m) % B = y := by rw [Int.add_mul_emod_self_left]; exact Int.emod_eq_of_lt hy.1 hy.2
      have exy : x = y := by rw [← e1, ← e2, hv]
      subst exy
      have hm' : B * val B l = B * val B m := by omega
      have := ih hl.tail hm.tail hnl.tail hnm.tail (Int.eq_of_mul_eq_mul_left (by omega) hm')
      rw [this]

theorem pow_mono {B : Int} (hB : 0 < B) {m n : Nat} (h : m ≤ n) : B ^ m ≤ B ^ n := by
  obtain ⟨k, rfl⟩ := Nat.exists_eq_add_of_le h
  rw [Int.pow_add]
  have h1 : 0 < B ^ m := Int.pow_pos hB
  have h2 : 0 < B ^ k := Int.pow_pos hB
  have := Int.mul_le_mul_of_nonneg_left (show (1 : Int) ≤ B ^ k by omega) (Int.le_of_lt h1)
  omega

/-- A number with n + 1 digits in normal form is at least B^n. -/
theorem Nrm.low {B : Int} (hB : 0 < B) : ∀ {l : List Int}, Dig B l → Nrm l → 0 < l.length → B ^ (l.length - 1) ≤ val B l := by
  intro l
  induction l with
  | nil => intro _ _ h; simp at h
  | cons x l ih =>
    intro hd hn _
    cases l with
    | nil =>
      have hx : x ≠ 0 := by
        intro h; subst h; simp [Nrm, trimL] at hn
      have := hd.head
      simp [val]; omega
    | cons y l =>
      have h1 := ih hd.tail hn.tail (by simp)
      have h2 := hd.head.1
      simp only [List.length_cons, Nat.add_sub_cancel] at h1 ⊢
      have h3 := Int.mul_le_mul_of_nonneg_left h1 (Int.le_of_lt hB)
      rw [val, Int.pow_succ, Int.mul_comm]
      omega

end Go.Proofs.YtbapeilpkhbbeaaGreatDoor

/- What it says that a slice of numbers reads as a list; small words for the walks. -/
namespace Go.Proofs.YtbapeilpkhbbeaaGreatDoor
open Go.RowKit

/-- A fact kept from the walk. -/
theorem hid {p : Prop} (h : p) : Hid p := h

/-- A slice of numbers of kind k at the address ao, with capacity c, reads as the list L. -/
structure Rd (w : World) (k : IntKind) (ao : Option Addr) (c : Nat) (L : List Int) : Prop where
  cap : L.length ≤ c
  most : c ≤ 9223372036854775807
  adr : 0 < L.length → ∃ b off, ao = some ⟨b, off, none⟩
  cell : ∀ b off, ao = some ⟨b, off, none⟩ → ∀ i, i < L.length → w.cell? ⟨b, off + i, none⟩ = some (.int k (L[i]?.getD 0))

/-- The length of a slice: for a loop's measure. -/
def lenOf : Value → Nat | .slice _ n _ => n | _ => 0

theorem Rd.nil (w : World) (k : IntKind) : Rd w k none 0 [] := ⟨Nat.le_refl _, (by decide), fun h => (nomatch h), fun _ _ h => (nomatch h)⟩
theorem Rd.take {w : World} {k : IntKind} {ao : Option Addr} {c : Nat} {L : List Int} (h : Rd w k ao c L) (n : Nat) : Rd w k ao c (L.take n) := by
  have hl : (L.take n).length ≤ L.length := List.length_take_le' _ _
  refine ⟨Nat.le_trans hl h.cap, h.most, fun hp => h.adr (by omega), fun b off e i hi => ?_⟩
  rw [h.cell b off e i (by omega)]
  have : i < n := by simp at hi; omega
  simp [this]
theorem Rd.below {w w' : World} {k : IntKind} {ao : Option Addr} {c : Nat} {L : List Int} {B : Nat} (h : Rd w k ao c L) (hb : Below B w w') (hB : w.heap.size ≤ B) : Rd w' k ao c L :=
  ⟨h.cap, h.most, h.adr, fun b off e i hi => (hb.cell (p := ⟨b, off + i, none⟩) (Nat.lt_of_lt_of_le (World.block_lt_of_cell? w _ (h.cell b off e i hi)) hB)).trans (h.cell b off e i hi)⟩

/-- A quiet call behind a quiet region. -/
theorem quietMore {P : Program} {f : FuncId} {args : Array Value} {w : World} {a n : Nat} {v : Value} (h : Calls P f args (w.drewN (a + n)) fun e w' => e = .returned v ∧ w' = w.drewN (a + n)) :
    Calls P f args (w.drewN (a + n)) fun e w' => e = .returned v ∧ ∃ m, w' = w.drewN (a + m) := h.mono fun _ _ ⟨he, hm⟩ => ⟨he, n, hm⟩
theorem cell_drewN (w : World) (n : Nat) (a : Addr) : (w.drewN n).cell? a = w.cell? a := rfl
theorem below_drewN {B : Nat} {a w : World} (h : Below B a w) (n : Nat) : Below B a (w.drewN n) := ⟨h.os, h.tape, h.output, h.size, h.block⟩

/-- Each cell that holds a number of kind k holds it still. -/
def Keeps (k : IntKind) (w w' : World) : Prop := ∀ a x, w.cell? a = some (.int k x) → w'.cell? a = some (.int k x)
theorem Keeps.refl (k : IntKind) (w : World) : Keeps k w w := fun _ _ h => h
theorem Keeps.trans {k : IntKind} {a b c : World} (h : Keeps k a b) (g : Keeps k b c) : Keeps k a c := fun p x e => g p x (h p x e)
theorem Keeps.below {k : IntKind} {w w' : World} {B : Nat} (h : Below B w w') (hB : w.heap.size ≤ B) : Keeps k w w' := fun a _ e =>
  (h.cell (Nat.lt_of_lt_of_le (World.block_lt_of_cell? w a e) hB)).trans e
theorem Keeps.alloc {k : IntKind} {w w' : World} (h : Keeps k w w') (o : Obj) : Keeps k w (w'.alloc o) := h.trans (Keeps.below (((Below.refl _ w').alloc (Nat.le_refl _) o)) (Nat.le_refl _))
theorem Keeps.drew {k : IntKind} {w w' : World} (h : Keeps k w w') : Keeps k w w'.drew := h
theorem Keeps.drewN {k : IntKind} {w w' : World} (h : Keeps k w w') (n : Nat) : Keeps k w (w'.drewN n) := h
theorem Keeps.setCell {k : IntKind} {w w' : World} (h : Keeps k w w') {a : Addr} {u : Value} (hu : w'.cell? a = some u) (hn : ∀ x, u ≠ .int k x) (v : Value) : Keeps k w (w'.setCell a v) := fun p x e => by
  have hp := h p x e
  have hne : a ≠ p := by rintro rfl; rw [hp] at hu; exact hn _ (Option.some.inj hu).symm
  exact (World.cell?_setCell_other w' a _ v hne).trans hp
theorem Rd.keeps {w w' : World} {k : IntKind} {ao : Option Addr} {c : Nat} {L : List Int} (h : Rd w k ao c L) (hk : Keeps k w w') : Rd w' k ao c L :=
  ⟨h.cap, h.most, h.adr, fun b off e i hi => hk _ _ (h.cell b off e i hi)⟩

end Go.Proofs.YtbapeilpkhbbeaaGreatDoor

/- math/bits and cmp: what the calls return. -/
namespace Go.Proofs.YtbapeilpkhbbeaaGreatDoor
open Go.RowKit

/-- 2^64, behind a name. -/
def B64 : Int := 18446744073709551616

theorem add64 (x y c : Int) (hx : 0 ≤ x) (hy : 0 ≤ y) (hc0 : 0 ≤ c) (hc : c ≤ 1) (w : World) : (callFunc 149 #[.int .u64 x, .int .u64 y, .int .u64 c]).run Tryz.prog w =
    .ok (.value (.tuple #[.int .u64 ((x + y + c) % B64), .int .u64 ((x + y + c) / B64)])) w := by
  rw [run_callFunc_extern Tryz.func149 (by kernel_rfl) (by kernel_rfl) (by kernel_rfl) (e := add64Entry) (by kernel_rfl), run_add64 x y c hx hy hc0 hc]
  rfl

def sub64Ent : Array Value → Sem Value := fun args => do
  let (x, y, b) ← Extern.MathBitsCarry.three "Sub64" args
  pure (Extern.MathBitsCarry.pair ((x + Extern.MathBitsCarry.m64 - y - b) % Extern.MathBitsCarry.m64) (if x < y + b then 1 else 0))

theorem run_sub64' (P : Program) (x y b : Nat) (hb : b ≤ 1) (w : World) :
    (sub64Ent #[.int .u64 x, .int .u64 y, .int .u64 b]).run P w =
      .ok (.tuple #[.int .u64 (((x + 18446744073709551616 - y - b) % 18446744073709551616 : Nat) : Int), .int .u64 ((if x < y + b then 1 else 0 : Nat) : Int)]) w := by
  have : b = 0 ∨ b = 1 := by omega
  rcases this with rfl | rfl <;> rfl

/-- The borrow of x - y - b. -/
def bor (x y b : Int) : Int := if x < y + b then 1 else 0
theorem bor_01 (x y b : Int) : 0 ≤ bor x y b ∧ bor x y b ≤ 1 := by unfold bor; split <;> omega

theorem sub64 (x y b : Int) (hx : 0 ≤ x) (hy : 0 ≤ y) (hy' : y < B64) (hb0 : 0 ≤ b) (hb : b ≤ 1) (w : World) : (callFunc 150 #[.int .u64 x, .int .u64 y, .int .u64 b]).run Tryz.prog w =
    .ok (.value (.tuple #[.int .u64 ((x - y - b) % B64), .int .u64 (bor x y b)])) w := by
  obtain ⟨x, rfl⟩ := Int.eq_ofNat_of_zero_le hx
  obtain ⟨y, rfl⟩ := Int.eq_ofNat_of_zero_le hy
  obtain ⟨b, rfl⟩ := Int.eq_ofNat_of_zero_le hb0
  unfold bor B64 at *
  have e1 : (((x + 18446744073709551616 - y - b) % 18446744073709551616 : Nat) : Int) = ((x : Int) - y - b) % 18446744073709551616 := by omega
  have e2 : ((if x < y + b then 1 else 0 : Nat) : Int) = if (x : Int) < y + b then 1 else 0 := by split <;> split <;> omega
  rw [← e1, ← e2]
  rw [run_callFunc_extern Tryz.func150 (by kernel_rfl) (by kernel_rfl) (by kernel_rfl) (e := sub64Ent) (by kernel_rfl), run_sub64' _ x y b (by omega)]
  rfl

namespace Mul64
theorem maskN (a : Nat) (ha : a < 18446744073709551616) : bits .and .u64 (a : Int) 4294967295 = ((a % 4294967296 : Nat) : Int) := by
  have h := bits_and_u64_nat a 4294967295 ha (by omega)
  have e : a &&& 4294967295 = a % 4294967296 := Nat.and_two_pow_sub_one_eq_mod a 32
  rw [e] at h
  exact h
theorem divN (a : Nat) : (a : Int) / 4294967296 = ((a / 4294967296 : Nat) : Int) := by omega
theorem mulN (a b : Nat) : (a : Int) * (b : Int) = ((a * b : Nat) : Int) := (Int.natCast_mul a b).symm
theorem addN (a b : Nat) : (a : Int) + (b : Int) = ((a + b : Nat) : Int) := (Int.natCast_add a b).symm
theorem wrapN (a : Nat) (ha : a < 18446744073709551616) : IntKind.u64.wrap (a : Int) = (a : Int) := by rw [IntKind.wrap_u64]; omega
theorem wrapM (a : Nat) : IntKind.u64.wrap (a : Int) = ((a % 18446744073709551616 : Nat) : Int) := by rw [IntKind.wrap_u64]; omega
end Mul64

set_option maxHeartbeats 1000000 in
theorem mul64_nat (x y : Nat) (hx : x < 18446744073709551616) (hy : y < 18446744073709551616) (w : World) :
    Calls Tryz.prog 132 #[.int .u64 x, .int .u64 y] w fun e w' => e = .returned (.tuple #[.int .u64 ((x * y / 18446744073709551616 : Nat) : Int), .int .u64 ((x * y % 18446744073709551616 : Nat) : Int)]) ∧ w = w' := by
  obtain ⟨bd, bt, bw, hhi⟩ := Lib.mul64_hi x y hx hy
  have ba := Lib.half_mul_le (a := x / 4294967296) (b := y / 4294967296) (by omega) (by omega)
  have bb := Lib.half_mul_le (a := x / 4294967296) (b := y % 4294967296) (by omega) (by omega)
  have bc := Lib.half_mul_le (a := x % 4294967296) (b := y / 4294967296) (by omega) (by omega)
  have ba' : x / 4294967296 * (y / 4294967296) < 18446744073709551616 := by omega
  have bb' : x / 4294967296 * (y % 4294967296) < 18446744073709551616 := by omega
  have bc' : x % 4294967296 * (y / 4294967296) < 18446744073709551616 := by omega
  have bh1 : x / 4294967296 * (y / 4294967296) + (x / 4294967296 * (y % 4294967296) + x % 4294967296 * (y % 4294967296) / 4294967296) / 4294967296 < 18446744073709551616 := by omega
  have bh : x / 4294967296 * (y / 4294967296) + (x / 4294967296 * (y % 4294967296) + x % 4294967296 * (y % 4294967296) / 4294967296) / 4294967296 + ((x / 4294967296 * (y % 4294967296) + x % 4294967296 * (y % 4294967296) / 4294967296) % 4294967296 + x % 4294967296 * (y / 4294967296)) / 4294967296 < 18446744073709551616 := by omega
  go_enter Tryz.func132, Tryz.ntmps132
  go_wp2
  simp only [Mul64.maskN x hx, Mul64.maskN y hy, Mul64.divN, Mul64.mulN, Mul64.addN, Mul64.wrapN _ bd, Mul64.wrapN _ bb', Mul64.wrapN _ bt, Mul64.maskN _ bt, Mul64.wrapN _ bc', Mul64.wrapN _ bw, Mul64.wrapN _ ba', Mul64.wrapN _ bh1, Mul64.wrapN _ bh, Mul64.wrapM (x * y)]
  rw [hhi]
  go_ret2
  exact ⟨rfl, rfl⟩

theorem mul64 (x y : Int) (hx : 0 ≤ x) (hx' : x < B64) (hy : 0 ≤ y) (hy' : y < B64) (w : World) :
    Calls Tryz.prog 132 #[.int .u64 x, .int .u64 y] w fun e w' => e = .returned (.tuple #[.int .u64 (x * y / B64), .int .u64 (x * y % B64)]) ∧ w = w' := by
  obtain ⟨x, rfl⟩ := Int.eq_ofNat_of_zero_le hx
  obtain ⟨y, rfl⟩ := Int.eq_ofNat_of_zero_le hy
  unfold B64 at *
  have h := mul64_nat x y (by omega) (by omega) w
  have e1 : ((x * y / 18446744073709551616 : Nat) : Int) = (x : Int) * y / 18446744073709551616 := by rw [← Int.natCast_mul]; omega
  have e2 : ((x * y % 18446744073709551616 : Nat) : Int) = (x : Int) * y % 18446744073709551616 := by rw [← Int.natCast_mul]; omega
  rw [e1, e2] at h
  exact h

/-- The order of two numbers. -/
def cmpI (a b : Int) : Int := if a < b then -1 else if b < a then 1 else 0
theorem cmpI_lt {a b : Int} (h : a < b) : cmpI a b = -1 := by unfold cmpI; rw [if_pos h]
theorem cmpI_gt {a b : Int} (h : b < a) : cmpI a b = 1 := by unfold cmpI; rw [if_neg (by omega), if_pos h]
theorem cmpI_self (a : Int) : cmpI a a = 0 := by unfold cmpI; simp

set_option maxHeartbeats 400000 in
theorem cmpInt (a b : Int) (w : World) :
    Calls Tryz.prog 129 #[.int .i64 a, .int .i64 b] w fun e w' => e = .returned (.int .i64 (cmpI a b)) ∧ w = w' := by
  rcases Int.lt_trichotomy a b with h | h | h
  · have e : cmpI a b = -1 := by unfold cmpI; rw [if_pos h]
    rw [e]
    go_enter Tryz.func129, Tryz.ntmps129
    go_wp2
    go_ret
    exact ⟨rfl, rfl⟩
  · subst h
    have e : cmpI a a = 0 := by unfold cmpI; simp
    rw [e]
    go_enter Tryz.func129, Tryz.ntmps129
    go_wp2
    go_ret
    exact ⟨rfl, rfl⟩
  · have e : cmpI a b = 1 := by unfold cmpI; rw [if_neg (by omega), if_pos h]
    rw [e]
    go_enter Tryz.func129, Tryz.ntmps129
    go_wp2
    go_ret
    exact ⟨rfl, rfl⟩

set_option maxHeartbeats 400000 in
theorem cmpU64 (a b : Int) (w : World) :
    Calls Tryz.prog 130 #[.int .u64 a, .int .u64 b] w fun e w' => e = .returned (.int .i64 (cmpI a b)) ∧ w = w' := by
  rcases Int.lt_trichotomy a b with h | h | h
  · have e : cmpI a b = -1 := by unfold cmpI; rw [if_pos h]
    rw [e]
    go_enter Tryz.func130, Tryz.ntmps130
    go_wp2
    go_ret
    exact ⟨rfl, rfl⟩
  · subst h
    have e : cmpI a a = 0 := by unfold cmpI; simp
    rw [e]
    go_enter Tryz.func130, Tryz.ntmps130
    go_wp2
    go_ret
    exact ⟨rfl, rfl⟩
  · have e : cmpI a b = 1 := by unfold cmpI; rw [if_neg (by omega), if_pos h]
    rw [e]
    go_enter Tryz.func130, Tryz.ntmps130
    go_wp2
    go_ret
    exact ⟨rfl, rfl⟩

theorem cmpU64' (a b : Int) (w : World) : Calls Tryz.prog 130 #[.int .u64 a, .int .u64 b] w fun e w' => e = .returned (.int .i64 (cmpI a b)) ∧ w' = w :=
  (cmpU64 a b w).mono fun _ _ h => ⟨h.1, h.2.symm⟩

end Go.Proofs.YtbapeilpkhbbeaaGreatDoor

/- math/bits.LeadingZeros64, Len64: by the library's contracts. -/
namespace Go.Proofs.YtbapeilpkhbbeaaGreatDoor
open Go.RowKit Go.Shelf

def lz_ren : Go.Shelf.Ren := ⟨fun | 134 => 145 | 129 => 155 | n => n, fun | 53 => 63 | 3 => 3 | 4 => 4 | 46 => 145 | 5 => 5 | 9 => 9 | n => n, fun | n => n⟩
theorem lz_lays : Go.Proofs.Lays.n134 Tryz.prog lz_ren := {
  mixed := by kernel_rfl
  f129 := Tryz.func155.trans (congrArg some (by kernel_rfl))
  f134 := Tryz.func145.trans (congrArg some (by kernel_rfl))
  t3 := Tryz.underlying3
  a3 := Tryz.isAgg3
  z3 := Tryz.sizeOf3
  v3 := Tryz.zeroValue3
  t4 := Tryz.underlying4
  a4 := Tryz.isAgg4
  z4 := Tryz.sizeOf4
  v4 := Tryz.zeroValue4
  t5 := Tryz.underlying5
  a5 := Tryz.isAgg5
  z5 := Tryz.sizeOf5
  v5 := Tryz.zeroValue5
  t9 := Tryz.underlying9
  a9 := Tryz.isAgg9
  z9 := Tryz.sizeOf9
  v9 := Tryz.zeroValue9
  t46 := Tryz.underlying145
  a46 := Tryz.isAgg145
  z46 := Tryz.sizeOf145
  v46 := Tryz.zeroValue145
  t53 := Tryz.underlying63
  a53 := Tryz.isAgg63
  z53 := Tryz.sizeOf63
  v53 := Tryz.zeroValue63 }

theorem bitLenAux_bd : ∀ (f x : Nat), x < 2 ^ f → 0 < x → 0 < Lib.bitLenAux f x ∧ 2 ^ (Lib.bitLenAux f x - 1) ≤ x ∧ x < 2 ^ Lib.bitLenAux f x ∧ Lib.bitLenAux f x ≤ f
  | 0, x, h, h0 => by simp at h; omega
  | f + 1, x, h, h0 => by
    rw [Lib.bitLenAux, if_neg (by omega)]
    by_cases h1 : x / 2 = 0
    · have : x = 1 := by omega
      subst this
      cases f <;> simp [Lib.bitLenAux]
    · have ih := bitLenAux_bd f (x / 2) (by rw [Nat.pow_succ] at h; omega) (by omega)
      obtain ⟨a, b, c, d⟩ := ih
      refine ⟨by omega, ?_, ?_, by omega⟩
      · rw [Nat.add_sub_cancel_left]
        have e : Lib.bitLenAux f (x / 2) = (Lib.bitLenAux f (x / 2) - 1) + 1 := by omega
        rw [e, Nat.pow_succ]; omega
      · rw [Nat.add_comm, Nat.pow_succ]; omega

theorem bitLen_bd (x : Nat) (h : x < 18446744073709551616) (h0 : 0 < x) : 0 < Lib.bitLen x ∧ 2 ^ (Lib.bitLen x - 1) ≤ x ∧ x < 2 ^ Lib.bitLen x ∧ Lib.bitLen x ≤ 64 := bitLenAux_bd 64 x h h0

/-- The shift by which the highest bit comes to stand first. -/
theorem lz64 (y : Int) (h0 : 0 < y) (h1 : y < B64) (w : World) : Calls Tryz.prog 145 #[.int .u64 y] w fun e w' => ∃ s : Nat, e = .returned (.int .i64 s) ∧ s ≤ 63 ∧ 9223372036854775808 ≤ y * 2 ^ s ∧ y * 2 ^ s < B64 ∧ w = w' := by
  unfold B64 at h1
  refine (Any.bits_LeadingZeros64 lz_lays y w (by omega) (by omega)).mono ?_
  rintro e w' ⟨rfl, rfl⟩
  have hb := bitLen_bd y.toNat (by omega) (by omega)
  obtain ⟨a, b, c, d⟩ := hb
  refine ⟨64 - Lib.bitLen y.toNat, by congr 2; omega, by omega, ?_, ?_, rfl⟩
  · have e : (64 - Lib.bitLen y.toNat) + (Lib.bitLen y.toNat - 1) = 63 := by omega
    have := Nat.mul_le_mul_right (2 ^ (64 - Lib.bitLen y.toNat)) b
    rw [← Nat.pow_add, Nat.add_comm, e] at this
    have h2 : ((2 ^ 63 : Nat) : Int) ≤ ((y.toNat * 2 ^ (64 - Lib.bitLen y.toNat) : Nat) : Int) := by exact_mod_cast this
    rw [Int.natCast_mul, Int.natCast_pow, Int.toNat_of_nonneg (by omega)] at h2
    simpa using h2
  · have e : Lib.bitLen y.toNat + (64 - Lib.bitLen y.toNat) = 64 := by omega
    have := Nat.mul_lt_mul_of_pos_right c (Nat.two_pow_pos (64 - Lib.bitLen y.toNat))
    rw [← Nat.pow_add, e] at this
    have h2 : ((y.toNat * 2 ^ (64 - Lib.bitLen y.toNat) : Nat) : Int) < ((2 ^ 64 : Nat) : Int) := by exact_mod_cast this
    rw [Int.natCast_mul, Int.natCast_pow, Int.toNat_of_nonneg (by omega)] at h2
    simpa [B64] using h2

end Go.Proofs.YtbapeilpkhbbeaaGreatDoor
