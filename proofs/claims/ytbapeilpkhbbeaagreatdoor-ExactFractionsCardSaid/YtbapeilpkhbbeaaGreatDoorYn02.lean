/- Rows: a block of numbers that the call itself has made. exact.addTo: it adds to a row, and hands back what is carried beyond it. exact.subtractFrom: it subtracts from a row, and hands back what is borrowed from beyond it. exact.trim, at natural and at []uint32: a prefix. -/
import Derived.Test.YtbapeilpkhbbeaaGreatDoorYn01
import Derived.Laws.CopyOwn
/- Rows: a block of numbers that the call itself has made. -/
namespace Go.Proofs.YtbapeilpkhbbeaaGreatDoor
open Go.RowKit

/-- Lists of digits, parted in three: the middle's i-th one. -/
theorem mid_get? (P A S : List Int) (i : Nat) (hi : i < A.length) : (P ++ A ++ S)[P.length + i]? = A[i]? := by
  rw [List.append_assoc, List.getElem?_append_right (by omega), Nat.add_sub_cancel_left, List.getElem?_append_left hi]
theorem mid_get (P A S : List Int) (i : Nat) (hi : i < A.length) : (P ++ A ++ S)[P.length + i]?.getD 0 = A[i]?.getD 0 := by rw [mid_get? P A S i hi]
theorem mid_set (P A S : List Int) (i : Nat) (x : Int) (hi : i < A.length) : (P ++ A ++ S).set (P.length + i) x = P ++ A.set i x ++ S := by
  rw [List.append_assoc, List.set_append_right _ _ (by omega), Nat.add_sub_cancel_left, List.set_append_left _ _ hi, List.append_assoc]

/-- Block g is an array of numbers of kind k (type e), which are L. -/
def Row (k : IntKind) (e : TypeId) (w : World) (g : Nat) (L : List Int) : Prop := w.heap[g]? = some (.cells (L.map (Value.int k)).toArray e (0, 0))

theorem Row.lt {k : IntKind} {e : TypeId} {w : World} {g : Nat} {L : List Int} (h : Row k e w g L) : g < w.heap.size := (Array.getElem?_eq_some_iff.1 h).1
theorem Row.cell {k : IntKind} {e : TypeId} {w : World} {g : Nat} {L : List Int} (h : Row k e w g L) (i : Nat) (hi : i < L.length) : w.cell? ⟨g, i, none⟩ = some (.int k (L[i]?.getD 0)) := by
  rw [cell_of_row w g i _ e (0, 0) h]; simp [hi]
theorem Row.frozen {k : IntKind} {e : TypeId} {w : World} {g : Nat} {L : List Int} (h : Row k e w g L) (i : Nat) : w.frozen? ⟨g, i, none⟩ = false := frozen_of_row w g i _ e h
theorem Row.set {k : IntKind} {e : TypeId} {w : World} {g : Nat} {L : List Int} (h : Row k e w g L) (i : Nat) (x : Int) : Row k e (w.setCell ⟨g, i, none⟩ (.int k x)) g (L.set i x) := by
  unfold Row
  rw [heap_setCell_same w g i _ e _ h]
  simp [List.map_set]
theorem Row.kept {k : IntKind} {e : TypeId} {w w' : World} {g : Nat} {L : List Int} {r : Option Nat} (h : Row k e w g L) (hg : w.grownBy w' r) (hne : some g ≠ r) : Row k e w' g L := by
  unfold Row; rw [hg.block g h.lt hne]; exact h
theorem Row.alloc {k : IntKind} {e : TypeId} {w : World} {g : Nat} {L : List Int} (h : Row k e w g L) (o : Obj) : Row k e (w.alloc o) g L := h.kept (World.grownBy_alloc w o none) (by simp)

theorem grown_refl (w : World) (r : Option Nat) : w.grownBy w r := ⟨rfl, rfl, rfl, Nat.le_refl _, fun _ _ _ => rfl⟩
theorem grown_trans {a b c : World} {r : Option Nat} (h : a.grownBy b r) (k : b.grownBy c r) : a.grownBy c r :=
  ⟨k.os.trans h.os, k.tape.trans h.tape, k.output.trans h.output, Nat.le_trans h.size k.size, fun i hi hr => (k.block i (Nat.lt_of_lt_of_le hi h.size) hr).trans (h.block i hi hr)⟩
theorem grown_set (w : World) (g i : Nat) (v : Value) : w.grownBy (w.setCell ⟨g, i, none⟩ v) (some g) :=
  ⟨rfl, rfl, rfl, by simp, fun k _ hk => heap_setCell_other w ⟨g, i, none⟩ k v (fun e => hk (by simp [e]))⟩
theorem grown_drew {a b : World} {r : Option Nat} (h : a.grownBy b r) : a.grownBy b.drew r := ⟨h.os, h.tape, h.output, h.size, h.block⟩
theorem grown_drewN {a b : World} {r : Option Nat} (h : a.grownBy b r) (n : Nat) : a.grownBy (b.drewN n) r := ⟨h.os, h.tape, h.output, h.size, h.block⟩
theorem grown_any {a b : World} {r : Option Nat} (h : a.grownBy b none) : a.grownBy b r := ⟨h.os, h.tape, h.output, h.size, fun i hi _ => h.block i hi (by simp)⟩
theorem grown_below {a b : World} (h : a.grownBy b none) : Below a.heap.size a b := ⟨h.os, h.tape, h.output, h.size, fun k hk => h.block k hk (by simp)⟩
theorem below_grown {a b : World} (h : Below a.heap.size a b) : a.grownBy b none := ⟨h.os, h.tape, h.output, h.size, fun k hk _ => h.block k hk⟩

/-- A part of a row reads as a slice. -/
theorem Row.rd {k : IntKind} {e : TypeId} {w : World} {g : Nat} {P A S : List Int} {c : Nat} (h : Row k e w g (P ++ A ++ S)) (h1 : A.length ≤ c) (h2 : c ≤ 9223372036854775807) : Rd w k (some ⟨g, P.length, none⟩) c A := by
  refine ⟨h1, h2, fun _ => ⟨_, _, rfl⟩, fun b off e i hi => ?_⟩
  cases e
  rw [h.cell (P.length + i) (by simp; omega)]
  rw [mid_get P A S i hi]

/-- What is read stays, where another row alone is written. -/
theorem Rd.kept {w w' : World} {k : IntKind} {ao : Option Addr} {c : Nat} {L : List Int} {r : Option Nat} (h : Rd w k ao c L) (hg : w.grownBy w' r) (hne : 0 < L.length → ∀ b off, ao = some ⟨b, off, none⟩ → some b ≠ r) : Rd w' k ao c L :=
  ⟨h.cap, h.most, h.adr, fun b off e i hi => hg.cell (a := ⟨b, off + i, none⟩) (h.cell b off e i hi) (hne (by omega) b off e)⟩
/-- What is read lies in no block that is made later. -/
theorem Rd.ne {w : World} {k : IntKind} {ao : Option Addr} {c : Nat} {L : List Int} {g : Nat} (h : Rd w k ao c L) (hg : w.heap.size ≤ g) : 0 < L.length → ∀ b off, ao = some ⟨b, off, none⟩ → b ≠ g := fun hl b off e hb => by
  have := World.block_lt_of_cell? w _ (h.cell b off e 0 hl)
  simp at this; omega
theorem Rd.keptNew {w w' : World} {k : IntKind} {ao : Option Addr} {c : Nat} {L : List Int} {g : Nat} (h : Rd w k ao c L) (hg : w.grownBy w' (some g)) (hne : 0 < L.length → ∀ b off, ao = some ⟨b, off, none⟩ → b ≠ g) : Rd w' k ao c L :=
  h.kept hg (fun hl b off e hb => hne hl b off e (by simpa using hb))

/-- What is read stays, where a cell that holds no such number is written. -/
theorem Rd.set {w : World} {k : IntKind} {ao : Option Addr} {c : Nat} {L : List Int} (h : Rd w k ao c L) {a : Addr} {u : Value} (hu : w.cell? a = some u) (hn : ∀ x, u ≠ .int k x) (v : Value) : Rd (w.setCell a v) k ao c L := by
  refine ⟨h.cap, h.most, h.adr, fun b off e i hi => ?_⟩
  have hc := h.cell b off e i hi
  have hne : a ≠ ⟨b, off + i, none⟩ := by rintro rfl; rw [hc] at hu; exact hn _ (Option.some.inj hu).symm
  have := World.cell?_setCell_other w a _ v hne
  exact this.trans hc

/-- 'make([]T, n)' of numbers: a row of zeros. -/
theorem wpList_make_row {P : Program} (w : World) {ops : Array Oper} {rest : List Oper} {o : Oper} {a : Act} {Q : Exit → Act → World → Prop}
    (hg : o.guard = none) (l c : Operand) (t : TypeId) (hop : o.op = Op.makeSlice t l c)
    (e : TypeId) (i : TypeInfo) (k : IntKind) (h1 : P.underlying t = some (.slice e)) (h2 : P.info? e = some i) (h3 : i.zero = some (.int k 0)) (h4 : i.size = 1)
    (kl kc : IntKind) (L C : Int) (n : Nat) (hl : a.eval l = .int kl L) (hc : a.eval c = .int kc C) (hL : L = (n : Int)) (hC : C = (n : Int)) (b2 : i.bytes * n ≤ 281474976710656) (b3 : n ≤ maxLen)
    (hK : ∀ w', Row k e w' w.heap.size (List.replicate n 0) → w.grownBy w' none → wpList P ops Q rest (a.put o.dst (.slice (some ⟨w.heap.size, 0, none⟩) n n)) w') :
    wpList P ops Q (o :: rest) a w := by
  refine wpList_make_full w hg l c t hop 0 e i (.int k 0) 1 h1 h2 h3 h4 kl kc L C n hl hc hL hC b2 b3 (Nat.zero_le _) ?_
  intro w' hown hgr
  refine hK w' ?_ hgr
  rcases hown.2 with ⟨h, _⟩ | ⟨g, cap, cur, hv, _, hh, hn, _, hs, ht⟩
  · simp at h
  · simp only [Value.slice.injEq, Option.some.injEq, Addr.mk.injEq, and_true, true_and] at hv
    obtain ⟨rfl, rfl⟩ := hv
    unfold Row
    rw [hh]
    have e1 : cur.toList = (madeCells (Value.cells (.int k 0)) (n * 1)).toList := by rw [← ht, List.take_of_length_le (by simp [hs])]
    have e2 : (madeCells (Value.cells (.int k 0)) (n * 1)).toList = List.replicate n (.int k 0) := by
      rw [Nat.mul_one]; exact toList_madeCells_one _ _
    have e3 : cur = (List.replicate n (Value.int k 0)).toArray := by rw [← e2, ← e1]
    rw [e3]; simp

/-- 'copy(dst, src)': dst a part of a row, src as long at most. -/
theorem wpList_copy_row {P : Program} {w : World} {ops : Array Oper} {rest : List Oper} {o : Oper} {a : Act} {Q : Exit → Act → World → Prop} (hgd : o.guard = none) (d s : Operand) (dT sT : TypeId)
    (ho : o.op = .call { callee := .builtin .copy, args := #[d, s], argTypes := #[dT, sT] }) (elem : TypeId) (hu : P.underlying dT = some (.slice elem)) (hsz : (P.info? elem).map (·.size) = some 1)
    (k : IntKind) (e : TypeId) (g : Nat) (R A S M : List Int) (off dLen sLen dCap : Nat) (so : Option Addr) (sCap : Nat) (hd : a.eval d = .slice (some ⟨g, off, none⟩) dLen dCap) (hs : a.eval s = .slice so sLen sCap)
    (hoff : off = R.length) (hdl : dLen = A.length) (hsl : sLen = M.length) (hrow : Row k e w g (R ++ A ++ S)) (hM : Rd w k so sCap M) (hl : M.length ≤ A.length)
    (h : ∀ w', Row k e w' g (R ++ (M ++ A.drop M.length) ++ S) → w.grownBy w' (some g) → wpList P ops Q rest (a.put o.dst (goInt sLen)) w') : wpList P ops Q (o :: rest) a w := by
  subst hoff hdl hsl
  by_cases h0 : M.length = 0
  · obtain rfl : M = [] := List.eq_nil_of_length_eq_zero h0
    refine wpList_copy_nothing hgd d s dT sT ho elem hu hsz (some ⟨g, R.length, none⟩) so A.length dCap [].length sCap hd hs (by simp) ?_
    exact h w (by simpa using hrow) (grown_refl _ _)
  · obtain ⟨b, of, rfl⟩ := hM.adr (by omega)
    have hcl : (M.map (Value.int k)).length = Nat.min M.length A.length := by rw [List.length_map]; exact (Nat.min_eq_left hl).symm
    refine wpList_copy_own hgd d s dT sT ho elem hu hsz g R.length A.length dCap ⟨b, of, none⟩ M.length sCap hd hs _ e hrow (M.map (Value.int k)) hcl ?_ ?_ ?_ ?_
    · intro j v hv
      have hj : j < M.length := by have := (List.getElem?_eq_some_iff.1 hv).1; simpa using this
      have hadd : (⟨b, of, none⟩ : Addr).add j = ⟨b, of + j, none⟩ := by unfold Addr.add; split <;> simp_all
      rw [hadd, hM.cell b of rfl j hj, ← hv]; simp [hj]
    · simp; omega
    · intro v hv; simp only [List.mem_map] at hv; obtain ⟨x, _, rfl⟩ := hv; rfl
    · have hcl' : (M.map (Value.int k)).length = M.length := by simp
      have hrow' := h (w.setRow g ((((R ++ A ++ S).map (Value.int k)).toArray.toList.take R.length) ++ (M.map (Value.int k) ++ ((R ++ A ++ S).map (Value.int k)).toArray.toList.drop (R.length + (M.map (Value.int k)).length))).toArray) ?_ ?_
      · rw [hcl'] at hrow' ⊢; exact hrow'
      · unfold Row
        rw [setRow_heap w g _ _ e _ hrow, hcl']
        have e1 : ((R ++ A ++ S).map (Value.int k)).take R.length = List.map (Value.int k) R := by
          rw [← List.map_take, List.append_assoc, List.take_append_of_le_length (Nat.le_refl _), List.take_length]
        have e2 : ((R ++ A ++ S).map (Value.int k)).drop (R.length + M.length) = List.map (Value.int k) (A.drop M.length) ++ List.map (Value.int k) S := by
          rw [← List.map_drop, ← List.map_append, List.append_assoc, ← List.drop_drop, List.drop_left, List.drop_append_of_le_length hl]
        show some (Obj.cells (((R ++ A ++ S).map (Value.int k)).take R.length ++ (M.map (Value.int k) ++ ((R ++ A ++ S).map (Value.int k)).drop (R.length + M.length))).toArray e (0, 0)) = _
        rw [e1, e2]; simp [List.append_assoc]
      · exact ⟨rfl, rfl, rfl, by simp [World.setRow], fun i _ hi => setRow_other w g i _ (fun e => hi (by simp [e]))⟩

end Go.Proofs.YtbapeilpkhbbeaaGreatDoor

/- exact.addTo: it adds to a row, and hands back what is carried beyond it. -/
namespace Go.Proofs.YtbapeilpkhbbeaaGreatDoor
open Go.RowKit

theorem B64_pos : 0 < B64 := by decide

theorem val_set (B : Int) (l : List Int) (i : Nat) (x : Int) (hi : i < l.length) : val B (l.set i x) = val B l + B ^ i * (x - l[i]?.getD 0) := by
  induction l generalizing i with
  | nil => simp at hi
  | cons y l ih =>
    cases i with
    | zero => simp [val]; omega
    | succ i =>
      have := ih i (by simpa using hi)
      simp only [List.set_cons_succ, val, this, List.getElem?_cons_succ, Int.pow_succ]
      grind
theorem Dig.set {B : Int} {l : List Int} (h : Dig B l) (i : Nat) {x : Int} (h0 : 0 ≤ x) (h1 : x < B) : Dig B (l.set i x) := fun y hy => by
  rcases List.mem_or_eq_of_mem_set hy with hy | rfl
  · exact h y hy
  · exact ⟨h0, h1⟩

/-- What holds of a sum: k digits have been added, whose number is m. -/
structure AddI (w wr : World) (g : Nat) (P A S : List Int) (k : Nat) (m : Int) (A1 : List Int) (cc : Int) : Prop where
  len : A1.length = A.length
  dig : Dig B64 A1
  c0 : 0 ≤ cc
  c1 : cc ≤ 1
  row : Row .u64 63 wr g (P ++ A1 ++ S)
  gr : w.grownBy wr (some g)
  eq : val B64 A1 + B64 ^ k * cc = val B64 A + m

theorem AddI.step {w wr : World} {g : Nat} {P A S : List Int} {k : Nat} {m : Int} {A1 : List Int} {cc : Int} (h : AddI w wr g P A S k m A1 cc) (y : Int) (h0 : 0 ≤ y) (h1 : y < B64) (hk : k < A.length) :
    AddI w (wr.setCell ⟨g, P.length + k, none⟩ (.int .u64 ((A1[k]?.getD 0 + y + cc) % B64))) g P A S (k + 1) (m + B64 ^ k * y) (A1.set k ((A1[k]?.getD 0 + y + cc) % B64)) ((A1[k]?.getD 0 + y + cc) / B64) := by
  have hl : k < A1.length := by rw [h.len]; exact hk
  have hx := h.dig.at B64_pos k
  have hc0 := h.c0; have hc1 := h.c1
  have hr := h.row.set (P.length + k) ((A1[k]?.getD 0 + y + cc) % B64)
  rw [mid_set P A1 S k _ hl] at hr
  have hd := Int.emod_add_mul_ediv (A1[k]?.getD 0 + y + cc) B64
  have b0 := Int.emod_nonneg (A1[k]?.getD 0 + y + cc) (show B64 ≠ 0 by decide)
  have b1 := Int.emod_lt_of_pos (A1[k]?.getD 0 + y + cc) B64_pos
  refine ⟨by simpa using h.len, h.dig.set k b0 b1, Int.ediv_nonneg (by omega) (Int.le_of_lt B64_pos), ?_, hr, grown_trans h.gr (grown_set _ _ _ _), ?_⟩
  · have : A1[k]?.getD 0 + y + cc < 2 * B64 := by omega
    have := Int.ediv_lt_of_lt_mul B64_pos this
    omega
  · rw [val_set _ _ _ _ hl, Int.pow_succ]
    have e := h.eq
    grind

theorem AddI.done {w wr : World} {g : Nat} {P A S : List Int} {k : Nat} {m : Int} {A1 : List Int} {cc : Int} (h : AddI w wr g P A S k m A1 cc) (he : cc = 0 ∨ k = A.length) : AddI w wr g P A S A.length m A1 cc := by
  rcases he with rfl | rfl
  · exact ⟨h.len, h.dig, h.c0, h.c1, h.row, h.gr, by have := h.eq; simpa using this⟩
  · exact h

theorem val_take_succ (B : Int) (M : List Int) (k : Nat) (hk : k < M.length) : val B (M.take (k + 1)) = val B (M.take k) + B ^ k * M[k]?.getD 0 := by
  rw [take_succ_getD M k hk, val_snoc, List.length_take, Nat.min_eq_left (by omega)]

set_option maxHeartbeats 1000000 in
theorem addTo_any (g : Nat) (P A S M : List Int) (c bc : Nat) (bo : Option Addr) (w : World) (hrow : Row .u64 63 w g (P ++ A ++ S)) (hdA : Dig B64 A) (hdM : Dig B64 M)
    (hcA : A.length ≤ c) (hcm : c ≤ 9223372036854775807) (hM : Rd w .u64 bo bc M) (hMA : M.length ≤ A.length) (hne : 0 < M.length → ∀ b off, bo = some ⟨b, off, none⟩ → b ≠ g) :
    Calls Tryz.prog 127 #[.slice (some ⟨g, P.length, none⟩) A.length c, .slice bo M.length bc] w fun e w' => ∃ A1 cc, e = .returned (.int .u64 cc) ∧ AddI w w' g P A S A.length (val B64 M) A1 cc := by
  obtain ⟨off, hoff⟩ : ∃ off, off = P.length := ⟨_, rfl⟩
  obtain ⟨n, hn⟩ : ∃ n, n = A.length := ⟨_, rfl⟩
  obtain ⟨m, hm⟩ : ∃ m, m = M.length := ⟨_, rfl⟩
  have hmn : m ≤ n := by omega
  have hmc := hM.cap; have hmm := hM.most
  rw [← hm] at hmc
  rw [← hn] at hcA
  rw [← hn, ← hm, ← hoff]
  have H0 : AddI w w g P A S 0 (val B64 (M.take 0)) A 0 := ⟨rfl, hdA, Int.le_refl 0, by decide, hrow, grown_refl _ _, by simp [val]⟩
  have Hoff := hid hoff; have Hn := hid hn; have Hm := hid hm; have HdM := hid hdM; have Hne := hid hne; have HM := hid hM
  clear hoff hn hm hdA hdM hne hrow hM hMA
  go_enter Tryz.func127, Tryz.ntmps127
  go_wp2
  go_loopw [4, 10] (fun cv iv wr => ∃ k : Nat, ∃ A1 cc, k ≤ m ∧ iv = .int .i64 k ∧ cv = .int .u64 cc ∧ AddI w wr g P A S k (val B64 (M.take k)) A1 cc) (fun _ iv _ => m - (intOf iv).toNat)
  case atStart => exact ⟨0, A, 0, Nat.zero_le _, rfl, rfl, H0⟩
  case round =>
    obtain ⟨k, A1, cc, hk, rfl, rfl, H⟩ := hrel
    by_cases hlt : k < m
    · have hAk := H.row.cell (off + k) (by have := Hoff.out; have := Hn.out; have := H.len; simp; omega)
      have hfr := H.row.frozen (off + k)
      rw [Hoff.out, mid_get P A1 S k (by have := Hn.out; have := H.len; omega), ← Hoff.out] at hAk
      have hkn : k < n := by omega
      obtain ⟨b, o, rfl⟩ := HM.out.adr (by have := Hm.out; omega)
      have hMk := (HM.out.keptNew H.gr Hne.out).cell b o rfl k (by have := Hm.out; omega)
      have h0 := HdM.out.at B64_pos k
      have h1 := H.dig.at B64_pos k
      have HS := H.step (M[k]?.getD 0) h0.1 h0.2 (by have := Hn.out; omega)
      rw [← val_take_succ B64 M k (by have := Hm.out; omega), ← Hoff.out] at HS
      have c0 := H.c0; have c1 := H.c1
      obtain ⟨x, hx⟩ : ∃ x, x = A1[k]?.getD 0 := ⟨_, rfl⟩
      obtain ⟨y, hy⟩ : ∃ y, y = M[k]?.getD 0 := ⟨_, rfl⟩
      rw [← hx, ← hy] at HS; rw [← hx] at hAk h1; rw [← hy] at hMk h0
      have H' := hid H; have HS' := hid HS; have Hx := hid hx; have Hy := hid hy
      clear H HS hx hy H0
      go_wp2_with (simp only [add64 x y cc h1.1 h0.1 c0 c1])
      go_roundw
      case rel => exact ⟨k + 1, _, _, by omega, by go_num, rfl, HS'.out⟩
      case measure => simp [intOf]; omega
    · obtain rfl : k = m := by omega
      have HT : AddI w wr g P A S k (val B64 M) A1 cc := by have := H; rwa [Hm.out, List.take_length, ← Hm.out] at this
      clear H H0
      go_wp2
      go_loopw [4, 7] (fun cv iv wr => ∃ j : Nat, ∃ A1 cc, k ≤ j ∧ j ≤ n ∧ iv = .int .i64 j ∧ cv = .int .u64 cc ∧ AddI w wr g P A S j (val B64 M) A1 cc) (fun _ iv _ => n - (intOf iv).toNat)
      case atStart => exact ⟨k, A1, cc, Nat.le_refl _, hmn, rfl, rfl, HT⟩
      case round =>
        obtain ⟨j, A1, cc, hkj, hjn, rfl, rfl, H⟩ := hrel
        have c0 := H.c0; have c1 := H.c1
        by_cases hz : cc = 0
        · subst hz
          have HD := H.done (.inl rfl)
          clear H HT
          go_wp2
          go_ret
          exact ⟨A1, 0, rfl, by rw [Hn.out]; exact HD⟩
        · obtain rfl : cc = 1 := by omega
          by_cases hlt : j < n
          · have hAk := H.row.cell (off + j) (by have := Hoff.out; have := Hn.out; have := H.len; simp; omega)
            have hfr := H.row.frozen (off + j)
            rw [Hoff.out, mid_get P A1 S j (by have := Hn.out; have := H.len; omega), ← Hoff.out] at hAk
            have h1 := H.dig.at B64_pos j
            have HS := H.step 0 (Int.le_refl 0) (by decide) (by have := Hn.out; omega)
            rw [← Hoff.out] at HS
            simp only [Int.add_zero, Int.mul_zero] at HS
            obtain ⟨x, hx⟩ : ∃ x, x = A1[j]?.getD 0 := ⟨_, rfl⟩
            rw [← hx] at HS hAk h1
            have H' := hid H; have HS' := hid HS; have Hx := hid hx
            clear H HS hx HT
            have ha := add64 x 0 1 h1.1 (Int.le_refl 0) (by decide) (by decide)
            simp only [Int.add_zero] at ha
            go_wp2_with (simp only [ha])
            go_roundw
            case rel => exact ⟨j + 1, _, _, by omega, by omega, by go_num, rfl, HS'.out⟩
            case measure => simp [intOf]; omega
          · have HD := H.done (.inr (by have := Hn.out; omega))
            clear H HT
            go_wp2
            go_ret
            exact ⟨A1, 1, rfl, by rw [Hn.out]; exact HD⟩

end Go.Proofs.YtbapeilpkhbbeaaGreatDoor

/- exact.subtractFrom: it subtracts from a row, and hands back what is borrowed from beyond it. -/
namespace Go.Proofs.YtbapeilpkhbbeaaGreatDoor
open Go.RowKit

theorem sub_wrap (x y b : Int) (h0 : 0 ≤ x) (h1 : x < B64) (k0 : 0 ≤ y) (k1 : y < B64) (b0 : 0 ≤ b) (b1 : b ≤ 1) : (x - y - b) % B64 = x - y - b + B64 * bor x y b := by
  unfold bor B64 at *; split <;> omega

/-- What holds of a difference: k digits have been subtracted, whose number is m. -/
structure SubI (w wr : World) (g : Nat) (P A S : List Int) (k : Nat) (m : Int) (A1 : List Int) (cc : Int) : Prop where
  len : A1.length = A.length
  dig : Dig B64 A1
  c0 : 0 ≤ cc
  c1 : cc ≤ 1
  row : Row .u64 63 wr g (P ++ A1 ++ S)
  gr : w.grownBy wr (some g)
  eq : val B64 A1 - B64 ^ k * cc = val B64 A - m

theorem SubI.step {w wr : World} {g : Nat} {P A S : List Int} {k : Nat} {m : Int} {A1 : List Int} {cc : Int} (h : SubI w wr g P A S k m A1 cc) (y : Int) (h0 : 0 ≤ y) (h1 : y < B64) (hk : k < A.length) :
    SubI w (wr.setCell ⟨g, P.length + k, none⟩ (.int .u64 ((A1[k]?.getD 0 - y - cc) % B64))) g P A S (k + 1) (m + B64 ^ k * y) (A1.set k ((A1[k]?.getD 0 - y - cc) % B64)) (bor (A1[k]?.getD 0) y cc) := by
  have hl : k < A1.length := by rw [h.len]; exact hk
  have hx := h.dig.at B64_pos k
  have hc0 := h.c0; have hc1 := h.c1
  have hr := h.row.set (P.length + k) ((A1[k]?.getD 0 - y - cc) % B64)
  rw [mid_set P A1 S k _ hl] at hr
  have hd := sub_wrap (A1[k]?.getD 0) y cc hx.1 hx.2 h0 h1 hc0 hc1
  have b0 := Int.emod_nonneg (A1[k]?.getD 0 - y - cc) (show B64 ≠ 0 by decide)
  have b1 := Int.emod_lt_of_pos (A1[k]?.getD 0 - y - cc) B64_pos
  refine ⟨by simpa using h.len, h.dig.set k b0 b1, (bor_01 _ _ _).1, (bor_01 _ _ _).2, hr, grown_trans h.gr (grown_set _ _ _ _), ?_⟩
  rw [val_set _ _ _ _ hl, Int.pow_succ, hd]
  have e := h.eq
  grind

theorem SubI.done {w wr : World} {g : Nat} {P A S : List Int} {k : Nat} {m : Int} {A1 : List Int} {cc : Int} (h : SubI w wr g P A S k m A1 cc) (he : cc = 0 ∨ k = A.length) : SubI w wr g P A S A.length m A1 cc := by
  rcases he with rfl | rfl
  · exact ⟨h.len, h.dig, h.c0, h.c1, h.row, h.gr, by have := h.eq; simpa using this⟩
  · exact h

set_option maxHeartbeats 1000000 in
theorem subFrom_any (g : Nat) (P A S M : List Int) (c bc : Nat) (bo : Option Addr) (w : World) (hrow : Row .u64 63 w g (P ++ A ++ S)) (hdA : Dig B64 A) (hdM : Dig B64 M)
    (hcA : A.length ≤ c) (hcm : c ≤ 9223372036854775807) (hM : Rd w .u64 bo bc M) (hMA : M.length ≤ A.length) (hne : 0 < M.length → ∀ b off, bo = some ⟨b, off, none⟩ → b ≠ g) :
    Calls Tryz.prog 128 #[.slice (some ⟨g, P.length, none⟩) A.length c, .slice bo M.length bc] w fun e w' => ∃ A1 cc, e = .returned (.int .u64 cc) ∧ SubI w w' g P A S A.length (val B64 M) A1 cc := by
  obtain ⟨off, hoff⟩ : ∃ off, off = P.length := ⟨_, rfl⟩
  obtain ⟨n, hn⟩ : ∃ n, n = A.length := ⟨_, rfl⟩
  obtain ⟨m, hm⟩ : ∃ m, m = M.length := ⟨_, rfl⟩
  have hmn : m ≤ n := by omega
  have hmc := hM.cap; have hmm := hM.most
  rw [← hm] at hmc
  rw [← hn] at hcA
  rw [← hn, ← hm, ← hoff]
  have H0 : SubI w w g P A S 0 (val B64 (M.take 0)) A 0 := ⟨rfl, hdA, Int.le_refl 0, by decide, hrow, grown_refl _ _, by simp [val]⟩
  have Hoff := hid hoff; have Hn := hid hn; have Hm := hid hm; have HdM := hid hdM; have Hne := hid hne; have HM := hid hM
  clear hoff hn hm hdA hdM hne hrow hM hMA
  go_enter Tryz.func128, Tryz.ntmps128
  go_wp2
  go_loopw [4, 10] (fun cv iv wr => ∃ k : Nat, ∃ A1 cc, k ≤ m ∧ iv = .int .i64 k ∧ cv = .int .u64 cc ∧ SubI w wr g P A S k (val B64 (M.take k)) A1 cc) (fun _ iv _ => m - (intOf iv).toNat)
  case atStart => exact ⟨0, A, 0, Nat.zero_le _, rfl, rfl, H0⟩
  case round =>
    obtain ⟨k, A1, cc, hk, rfl, rfl, H⟩ := hrel
    by_cases hlt : k < m
    · have hAk := H.row.cell (off + k) (by have := Hoff.out; have := Hn.out; have := H.len; simp; omega)
      have hfr := H.row.frozen (off + k)
      rw [Hoff.out, mid_get P A1 S k (by have := Hn.out; have := H.len; omega), ← Hoff.out] at hAk
      have hkn : k < n := by omega
      obtain ⟨b, o, rfl⟩ := HM.out.adr (by have := Hm.out; omega)
      have hMk := (HM.out.keptNew H.gr Hne.out).cell b o rfl k (by have := Hm.out; omega)
      have h0 := HdM.out.at B64_pos k
      have h1 := H.dig.at B64_pos k
      have HS := H.step (M[k]?.getD 0) h0.1 h0.2 (by have := Hn.out; omega)
      rw [← val_take_succ B64 M k (by have := Hm.out; omega), ← Hoff.out] at HS
      have c0 := H.c0; have c1 := H.c1
      obtain ⟨x, hx⟩ : ∃ x, x = A1[k]?.getD 0 := ⟨_, rfl⟩
      obtain ⟨y, hy⟩ : ∃ y, y = M[k]?.getD 0 := ⟨_, rfl⟩
      rw [← hx, ← hy] at HS; rw [← hx] at hAk h1; rw [← hy] at hMk h0
      have H' := hid H; have HS' := hid HS; have Hx := hid hx; have Hy := hid hy
      clear H HS hx hy H0
      go_wp2_with (simp only [sub64 x y cc h1.1 h0.1 h0.2 c0 c1])
      go_roundw
      case rel => exact ⟨k + 1, _, _, by omega, by go_num, rfl, HS'.out⟩
      case measure => simp [intOf]; omega
    · obtain rfl : k = m := by omega
      have HT : SubI w wr g P A S k (val B64 M) A1 cc := by have := H; rwa [Hm.out, List.take_length, ← Hm.out] at this
      clear H H0
      go_wp2
      go_loopw [4, 7] (fun cv iv wr => ∃ j : Nat, ∃ A1 cc, k ≤ j ∧ j ≤ n ∧ iv = .int .i64 j ∧ cv = .int .u64 cc ∧ SubI w wr g P A S j (val B64 M) A1 cc) (fun _ iv _ => n - (intOf iv).toNat)
      case atStart => exact ⟨k, A1, cc, Nat.le_refl _, hmn, rfl, rfl, HT⟩
      case round =>
        obtain ⟨j, A1, cc, hkj, hjn, rfl, rfl, H⟩ := hrel
        have c0 := H.c0; have c1 := H.c1
        by_cases hz : cc = 0
        · subst hz
          have HD := H.done (.inl rfl)
          clear H HT
          go_wp2
          go_ret
          exact ⟨A1, 0, rfl, by rw [Hn.out]; exact HD⟩
        · obtain rfl : cc = 1 := by omega
          by_cases hlt : j < n
          · have hAk := H.row.cell (off + j) (by have := Hoff.out; have := Hn.out; have := H.len; simp; omega)
            have hfr := H.row.frozen (off + j)
            rw [Hoff.out, mid_get P A1 S j (by have := Hn.out; have := H.len; omega), ← Hoff.out] at hAk
            have h1 := H.dig.at B64_pos j
            have HS := H.step 0 (Int.le_refl 0) (by decide) (by have := Hn.out; omega)
            rw [← Hoff.out] at HS
            simp only [Int.sub_zero, Int.add_zero, Int.mul_zero] at HS
            obtain ⟨x, hx⟩ : ∃ x, x = A1[j]?.getD 0 := ⟨_, rfl⟩
            rw [← hx] at HS hAk h1
            have H' := hid H; have HS' := hid HS; have Hx := hid hx
            clear H HS hx HT
            have ha := sub64 x 0 1 h1.1 (Int.le_refl 0) (by decide) (by decide) (by decide)
            simp only [Int.sub_zero] at ha
            go_wp2_with (simp only [ha])
            go_roundw
            case rel => exact ⟨j + 1, _, _, by omega, by omega, by go_num, rfl, HS'.out⟩
            case measure => simp [intOf]; omega
          · have HD := H.done (.inr (by have := Hn.out; omega))
            clear H HT
            go_wp2
            go_ret
            exact ⟨A1, 1, rfl, by rw [Hn.out]; exact HD⟩

end Go.Proofs.YtbapeilpkhbbeaaGreatDoor

/- exact.trim, at natural and at []uint32: a prefix. -/
namespace Go.Proofs.YtbapeilpkhbbeaaGreatDoor
open Go.RowKit

theorem trimL_step0 (L : List Int) (m : Nat) (hm : m < L.length) (h : trimL (L.take (m + 1)) = trimL L) (hz : L[m]?.getD 0 = 0) : trimL (L.take m) = trimL L := by
  rw [take_succ_getD L m hm, trimL_snoc, if_pos hz] at h; exact h
theorem trimL_step1 (L : List Int) (m : Nat) (hm : m < L.length) (h : trimL (L.take (m + 1)) = trimL L) (hz : ¬ L[m]?.getD 0 = 0) : (trimL L).length = m + 1 := by
  rw [take_succ_getD L m hm, trimL_snoc, if_neg hz] at h; rw [← h]; simp; omega
theorem trimL_stop (L : List Int) (h : trimL (L.take 0) = trimL L) : (trimL L).length = 0 := by rw [← h]; rfl

set_option maxHeartbeats 400000 in
theorem trim64_any (ao : Option Addr) (c : Nat) (L : List Int) (w : World) (h : Rd w .u64 ao c L) :
    Calls Tryz.prog 96 #[.slice ao L.length c] w fun e w' => e = .returned (.slice ao (trimL L).length c) ∧ w = w' := by
  obtain ⟨n, hn⟩ : ∃ n, n = L.length := ⟨_, rfl⟩
  have hc := h.cap; have hm := h.most
  rw [← hn] at hc ⊢
  have Hn := hid hn; clear hn
  go_enter Tryz.func96, Tryz.ntmps96
  go_wp2
  go_loop [0] (fun v => ∃ m : Nat, m ≤ n ∧ v = .slice ao m c ∧ Hid (trimL (L.take m) = trimL L)) (fun v => lenOf v)
  case atStart => exact ⟨n, Nat.le_refl _, rfl, hid (by rw [Hn.out, List.take_length])⟩
  case round =>
    obtain ⟨m, hmn, rfl, HT⟩ := hrel
    cases m with
    | zero =>
      go_wp2
      go_ret
      exact ⟨by rw [trimL_stop L HT.out]; rfl, rfl⟩
    | succ m =>
      obtain ⟨b, off, rfl⟩ := h.adr (by have := Hn.out; omega)
      have hcell := h.cell b off rfl m (by have := Hn.out; omega)
      by_cases hz : L[m]?.getD 0 = 0
      · have HZ := hid hz
        rw [hz] at hcell
        clear hz
        go_wp2
        go_round
        case rel => exact ⟨m, by omega, rfl, hid (trimL_step0 L m (by have := Hn.out; omega) HT.out HZ.out)⟩
        case measure => simp [lenOf]
      · have HZ := hid hz
        go_wp2
        go_ret
        exact ⟨by rw [trimL_step1 L m (by have := Hn.out; omega) HT.out HZ.out]; rfl, rfl⟩

set_option maxHeartbeats 400000 in
theorem trim32_any (ao : Option Addr) (c : Nat) (L : List Int) (w : World) (h : Rd w .u32 ao c L) :
    Calls Tryz.prog 122 #[.slice ao L.length c] w fun e w' => e = .returned (.slice ao (trimL L).length c) ∧ w = w' := by
  obtain ⟨n, hn⟩ : ∃ n, n = L.length := ⟨_, rfl⟩
  have hc := h.cap; have hm := h.most
  rw [← hn] at hc ⊢
  have Hn := hid hn; clear hn
  go_enter Tryz.func122, Tryz.ntmps122
  go_wp2
  go_loop [0] (fun v => ∃ m : Nat, m ≤ n ∧ v = .slice ao m c ∧ Hid (trimL (L.take m) = trimL L)) (fun v => lenOf v)
  case atStart => exact ⟨n, Nat.le_refl _, rfl, hid (by rw [Hn.out, List.take_length])⟩
  case round =>
    obtain ⟨m, hmn, rfl, HT⟩ := hrel
    cases m with
    | zero =>
      go_wp2
      go_ret
      exact ⟨by rw [trimL_stop L HT.out]; rfl, rfl⟩
    | succ m =>
      obtain ⟨b, off, rfl⟩ := h.adr (by have := Hn.out; omega)
      have hcell := h.cell b off rfl m (by have := Hn.out; omega)
      by_cases hz : L[m]?.getD 0 = 0
      · have HZ := hid hz
        rw [hz] at hcell
        clear hz
        go_wp2
        go_round
        case rel => exact ⟨m, by omega, rfl, hid (trimL_step0 L m (by have := Hn.out; omega) HT.out HZ.out)⟩
        case measure => simp [lenOf]
      · have HZ := hid hz
        go_wp2
        go_ret
        exact ⟨by rw [trimL_step1 L m (by have := Hn.out; omega) HT.out HZ.out]; rfl, rfl⟩

end Go.Proofs.YtbapeilpkhbbeaaGreatDoor
