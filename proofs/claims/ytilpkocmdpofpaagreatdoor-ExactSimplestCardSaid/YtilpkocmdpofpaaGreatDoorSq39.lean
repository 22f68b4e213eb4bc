/- strings.Builder: WriteString, String; strconv.FormatUint of a number below 100: by the library's contracts and after them. exact.decimals of a number below 100: its one group's digits. (exact.integer).text and exact.Text of numbers closer to 0 than 100. -/
import Derived.Test.YtilpkocmdpofpaaGreatDoorSq01
import Derived.Shelf.Strings.Builder1
import Derived.Shelf.Strconv.Itoa1
import Derived.Maps.AppendAt
import Derived.Test.YtilpkocmdpofpaaGreatDoorSq38
import Derived.Test.YtilpkocmdpofpaaGreatDoorSq11
/- strings.Builder: WriteString, String; strconv.FormatUint of a number below 100: by the library's contracts and after them. -/
namespace Go.Proofs.YtilpkocmdpofpaaGreatDoor
open Go.RowKit Go.Shelf

def sb_ren : Go.Shelf.Ren := ⟨fun | 169 => 112 | n => n, fun | 70 => 144 | 9 => 9 | 0 => 0 | 72 => 147 | 37 => 145 | 127 => 194 | 3 => 3 | 5 => 5 | n => n, fun | n => n⟩
theorem sb_lays : Go.Proofs.Lays.n169 Tryz.prog sb_ren := {
  mixed := by kernel_rfl
  f169 := Tryz.func112.trans (congrArg some (by kernel_rfl))
  t0 := Tryz.underlying0
  a0 := Tryz.isAgg0
  z0 := Tryz.sizeOf0
  v0 := Tryz.zeroValue0
  t3 := Tryz.underlying3
  a3 := Tryz.isAgg3
  z3 := Tryz.sizeOf3
  v3 := Tryz.zeroValue3
  t9 := Tryz.underlying9
  a9 := Tryz.isAgg9
  z9 := Tryz.sizeOf9
  v9 := Tryz.zeroValue9
  t37 := Tryz.underlying145
  a37 := Tryz.isAgg145
  z37 := Tryz.sizeOf145
  v37 := Tryz.zeroValue145
  t70 := Tryz.underlying144
  a70 := Tryz.isAgg144
  z70 := Tryz.sizeOf144
  v70 := Tryz.zeroValue144
  t72 := Tryz.underlying147
  a72 := Tryz.isAgg147
  z72 := Tryz.sizeOf147
  v72 := Tryz.zeroValue147
  t127 := Tryz.underlying194
  a127 := Tryz.isAgg194
  z127 := Tryz.sizeOf194
  v127 := Tryz.zeroValue194 }
theorem sb_extra : Builder.Extra Tryz.prog sb_ren := {
  sizeBuilder := by kernel_rfl
  liesBuilder := by kernel_rfl
  t5 := Tryz.underlying5
  a5 := Tryz.isAgg5
  z5 := Tryz.sizeOf5
  v5 := Tryz.zeroValue5
  infoByte := by kernel_rfl
  cellsByte := by kernel_rfl
  sizeByte := by kernel_rfl
  neB5 := by decide }
/-- A builder in block b holds these bytes; nothing of its own lies below B. -/
def Bu (B b : Nat) (bs : List Value) (w : World) : Prop := Lib.IsBuilder 147 5 B b bs w
theorem bstring_any (B b : Nat) (l : List UInt8) (w : World) (h : Bu B b (Lib.byteCells l) w) (hBw : B ≤ w.heap.size) :
    Calls Tryz.prog 112 #[.pointer (some ⟨b, 0, none⟩)] w fun e w' => e = .returned (.string ⟨l.toArray⟩) ∧ Below B w w' := Any.Builder_String_any sb_lays sb_extra B b l w h hBw
def sm_ren : Go.Shelf.Ren := ⟨fun | 283 => 193 | n => n, fun | 3 => 3 | 9 => 9 | 4 => 4 | n => n, fun | n => n⟩
theorem sm_lays : Go.Proofs.Lays.n283 Tryz.prog sm_ren := {
  mixed := by kernel_rfl
  f283 := Tryz.func193.trans (congrArg some (by kernel_rfl))
  t3 := Tryz.underlying3
  a3 := Tryz.isAgg3
  z3 := Tryz.sizeOf3
  v3 := Tryz.zeroValue3
  t4 := Tryz.underlying4
  a4 := Tryz.isAgg4
  z4 := Tryz.sizeOf4
  v4 := Tryz.zeroValue4
  t9 := Tryz.underlying9
  a9 := Tryz.isAgg9
  z9 := Tryz.sizeOf9
  v9 := Tryz.zeroValue9 }
theorem small_any (i : Nat) (h : i < 100) (w : World) : Calls Tryz.prog 193 #[.int .i64 i] w fun e w' => e = .returned (.string ⟨(Lib.decDigits i).toArray⟩) ∧ w' = w := Any.internal_strconv_small sm_lays i h w

theorem formatInner_small (i : Nat) (h : i < 100) (w : World) : Calls Tryz.prog 165 #[.int .u64 i, .int .i64 10] w fun e w' => e = .returned (.string ⟨(Lib.decDigits i).toArray⟩) ∧ w' = w := by
  have h1 : (i : Int) < 100 := by omega
  have HS := hid (small_any i h w)
  clear h
  go_enter Tryz.func165, Tryz.ntmps165
  go_wp2_with fail
  refine HS.out.mono ?_
  rintro e w' ⟨rfl, rfl⟩
  go_wp2
  go_ret
  exact ⟨rfl, rfl⟩
theorem format_small (i : Nat) (h : i < 100) (w : World) : Calls Tryz.prog 110 #[.int .u64 i, .int .i64 10] w fun e w' => e = .returned (.string ⟨(Lib.decDigits i).toArray⟩) ∧ w' = w := by
  have HS := hid (formatInner_small i h w)
  clear h
  go_enter Tryz.func110, Tryz.ntmps110
  go_wp2_with fail
  refine HS.out.mono ?_
  rintro e w' ⟨rfl, rfl⟩
  go_wp2
  go_ret
  exact ⟨rfl, rfl⟩

set_option maxHeartbeats 1000000 in
set_option maxRecDepth 100000 in
theorem copyCheck_used (b : Nat) (w : World) (h0 : w.cell? ⟨b, 0, none⟩ = some (.pointer (some ⟨b, 0, none⟩))) :
    Calls Tryz.prog 166 #[.pointer (some ⟨b, 0, none⟩)] w fun e w' => e = .returned (.tuple #[]) ∧ w' = w := by
  obtain ⟨j, hj, _⟩ := Option.map_eq_some_iff.1 sb_extra.sizeBuilder
  go_enter Tryz.func166, Tryz.ntmps166
  go_wp2
  rw [Lib.run_neq_ptr_same w _ Tryz.underlying144 hj]
  go_wp2
  go_end0
  exact ⟨rfl, rfl⟩

set_option maxHeartbeats 1000000 in
set_option maxRecDepth 100000 in
theorem copyCheck_fresh (b : Nat) (w : World) (h0 : w.cell? ⟨b, 0, none⟩ = some (.pointer none)) (hsh : w.shape? b = some (147, 2)) (hfz : w.frozen? ⟨b, 0, none⟩ = false) :
    Calls Tryz.prog 166 #[.pointer (some ⟨b, 0, none⟩)] w fun e w' => e = .returned (.tuple #[]) ∧ w' = w.setCell ⟨b, 0, none⟩ (.pointer (some ⟨b, 0, none⟩)) := by
  obtain ⟨j, hj, hjs⟩ := Option.map_eq_some_iff.1 sb_extra.sizeBuilder
  go_enter Tryz.func166, Tryz.ntmps166
  go_wp2
  rw [Lib.run_to_unsafe w ⟨b, 0, none⟩ Tryz.underlying144 Tryz.underlying220 hj (by rw [hjs]; decide) hsh (Nat.zero_lt_succ 1)]
  simp only [Result.andThen]
  rw [Oper.upon_value]
  go_wp2
  rw [run_callFunc_extern Tryz.func197 (by kernel_rfl) (by kernel_rfl) (by kernel_rfl) (e := Extern.AbiNoEscape.same) (by kernel_rfl)]
  rw [Lib.run_noEscape]
  simp only [Result.andThen]
  rw [Oper.upon_value]
  go_wp2
  rw [Lib.run_from_unsafe w ⟨b, 0, none⟩ Tryz.underlying220 Tryz.underlying144 hj hsh sb_extra.liesBuilder]
  simp only [Result.andThen]
  rw [Oper.upon_value]
  go_wp2
  go_end0
  exact ⟨rfl, rfl⟩

theorem copyCheck_any (B b : Nat) (bs : List Value) (w : World) (h : Bu B b bs w) :
    Calls Tryz.prog 166 #[.pointer (some ⟨b, 0, none⟩)] w fun e w' => e = .returned (.tuple #[]) ∧ (Lib.BuilderAt 147 5 B b (.pointer (some ⟨b, 0, none⟩)) bs w' ∧ Below B w w') := by
  rcases h with h | h
  · refine (copyCheck_fresh b w h.cell0 h.shape h.frozen0).mono ?_
    rintro e w' ⟨rfl, rfl⟩
    exact ⟨rfl, h.used _, (Below.refl B w).setCell (p := ⟨b, 0, none⟩) h.1 _⟩
  · refine (copyCheck_used b w h.cell0).mono ?_
    rintro e w' ⟨rfl, rfl⟩
    exact ⟨rfl, h, Below.refl B _⟩

set_option maxHeartbeats 2000000 in
set_option maxRecDepth 100000 in
theorem writeString_any (B b : Nat) (bs : List Value) (s : ByteArray) (w : World) (h : Bu B b bs w) (hlen : bs.length + s.size ≤ 140737488355328) (hBw : B ≤ w.heap.size) :
    Calls Tryz.prog 111 #[.pointer (some ⟨b, 0, none⟩), .string s] w fun e w' => e = .returned (.tuple #[.int .i64 s.size, .nilIface]) ∧ Bu B b (bs ++ Lib.strCells s) w' ∧ Below B w w' := by
  obtain ⟨i0, hi, hz0, hz1, hz2⟩ := info_parts sb_extra.infoByte
  go_enter Tryz.func111, Tryz.ntmps111
  go_wp2_with (go_at_call 166; refine (copyCheck_any B b bs _ h).mono ?_)
  rintro e w1 ⟨rfl, h1, hb1⟩
  obtain ⟨hB, v, hbk, hown, hne⟩ := h1
  have c0 : w1.cell? ⟨b, 0, none⟩ = some (.pointer (some ⟨b, 0, none⟩)) := by rw [Lib.cell_of_heap hbk]; rfl
  have c1 : w1.cell? ⟨b, 1, none⟩ = some v := by rw [Lib.cell_of_heap hbk]; rfl
  go_wp2_with (at_builtin; refine Lib.wpList_append_own_string _ rfl _ _ 145 9 rfl B 5 i0 Tryz.underlying145 Tryz.underlying9 hi hz0 hz1 hz2 _ _ _ rfl hown s rfl ?c3 ?c4 ?c5 ?_)
  case c3 => unfold maxLen; omega
  case c4 => omega
  case c5 => have := hb1.size; omega
  intro v' w2 hown' hgrow _
  have hlt : b < w1.heap.size := by
    rcases Nat.lt_or_ge b w1.heap.size with h' | h'
    · exact h'
    · simp [Array.getElem?_eq_none h'] at hbk
  have hb2 : w2.heap[b]? = some (.cells #[.pointer (some ⟨b, 0, none⟩), v] 147 (0, 0)) := by
    rw [hgrow.block b hlt (fun e => hne e.symm)]
    exact hbk
  have d0 : w2.cell? ⟨b, 0, none⟩ = some (.pointer (some ⟨b, 0, none⟩)) := by rw [Lib.cell_of_heap hb2]; rfl
  have d1 : w2.cell? ⟨b, 1, none⟩ = some v := by rw [Lib.cell_of_heap hb2]; rfl
  have f1 : w2.frozen? ⟨b, 1, none⟩ = false := Lib.frozen_of_heap hb2 1
  obtain ⟨ao, n', cap, rfl⟩ : ∃ ao n' cap, v' = .slice ao n' cap := by
    rcases hown'.2 with ⟨hv, _⟩ | ⟨g, cap, cur, hv, _⟩
    · exact ⟨_, _, _, hv⟩
    · exact ⟨_, _, _, hv⟩
  go_wp2
  go_ret2
  refine ⟨rfl, Or.inr ?_, ?_⟩
  · exact Lib.BuilderAt.put (T := 147) (e := 5) hB hb2 (bs' := bs ++ Lib.strCells s) (by simpa [Lib.strCells_length] using hown') sb_extra.neB5
  · exact (hb1.grown hgrow (by have := hb1.size; omega) (fun k hk => (hown.lt k hk).1)).setCell (p := ⟨b, 1, none⟩) hB _
end Go.Proofs.YtilpkocmdpofpaaGreatDoor

/- exact.decimals of a number below 100: its one group's digits. -/
namespace Go.Proofs.YtilpkocmdpofpaaGreatDoor
open Go.RowKit Go.Shelf
attribute [local go_sem] Oper.semAt_some

theorem nt_one {w : World} {ao : Option Addr} {c : Nat} {L : List Int} {y : Int} {K : Nat} (h : NtL w ao c L y K) (y0 : 0 < y) (y1 : y < B64) : L = [y] := by
  refine val_inj B64_pos h.dig (fun x hx => by simp at hx; omega) h.nrm ?_ ?_
  · simp [Nrm, trimL]; omega
  · rw [h.eq]; simp [val]

theorem Tryz.infoS : (Tryz.prog.info? 9).map (fun i => (i.zero, i.size, i.bytes)) = some (some (.string ⟨#[]⟩), 1, 16) := by kernel_rfl

theorem cell_one_at (w : World) (g : Nat) (x : Value) (h : w.cell? ⟨g, 0, none⟩ = some x) : ∀ j u, [x][j]? = some u → w.cell? ((⟨g, 0, none⟩ : Addr).add j) = some u := by
  intro j u hj
  match j, hj with
  | 0, hj =>
    simp at hj
    subst hj
    simpa [Addr.add] using h
  | j + 1, hj => simp at hj
theorem cell_al {w : World} {a : Addr} {v : Value} (o : Obj) (h : w.cell? a = some v) : (w.alloc o).cell? a = some v := (World.grownBy_alloc w o none).cell h (by simp)
theorem frozen_al {w : World} {a : Addr} {v : Value} (o : Obj) (h : w.cell? a = some v) : (w.alloc o).frozen? a = w.frozen? a := frozen_kept h (World.grownBy_alloc w o none) (by simp)

theorem dec_len (i : Nat) (h : i < 100) : (Lib.decDigits i).length ≤ 2 := by
  rw [Lib.decDigits]
  split
  · simp
  · rw [Lib.decDigits]
    split
    · simp
    · omega

/-- What one round's append and store leave. -/
theorem text_stored {w W : World} {b : Nat} {v v0 : Value} {s : ByteArray} (cs : Array Value) (hB : Below w.heap.size w W) (hb : w.heap.size ≤ b) (hc : W.cell? ⟨b, 0, none⟩ = some v0) (hf : W.frozen? ⟨b, 0, none⟩ = false) :
    Below w.heap.size W (((W.setCell ⟨b, 0, none⟩ v).alloc (.cells #[.string s] 9)).alloc (.cells (#[.string s] ++ cs) 9)).drew.drew ∧
    (((W.setCell ⟨b, 0, none⟩ v).alloc (.cells #[.string s] 9)).alloc (.cells (#[.string s] ++ cs) 9)).drew.drew.cell? ⟨b, 0, none⟩ = some v ∧
    (((W.setCell ⟨b, 0, none⟩ v).alloc (.cells #[.string s] 9)).alloc (.cells (#[.string s] ++ cs) 9)).drew.drew.cell? ⟨W.heap.size + 1, 0, none⟩ = some (.string s) ∧
    (((W.setCell ⟨b, 0, none⟩ v).alloc (.cells #[.string s] 9)).alloc (.cells (#[.string s] ++ cs) 9)).drew.drew.frozen? ⟨b, 0, none⟩ = false := by
  have hs := hB.size
  have h1 : (W.setCell ⟨b, 0, none⟩ v).cell? ⟨b, 0, none⟩ = some v := World.cell?_setCell_same' _ _ _ (by rw [hc]; rfl)
  have hz : (W.setCell ⟨b, 0, none⟩ v).heap.size = W.heap.size := by simp
  refine ⟨?_, cell_al _ (cell_al _ h1), ?_, ?_⟩
  · exact ((((Below.refl _ W).setCell (p := ⟨b, 0, none⟩) hb _).alloc (by rw [hz]; exact hs) _).alloc (by rw [World.size_alloc, hz]; omega) _).drew.drew
  · have e : W.heap.size + 1 = ((W.setCell ⟨b, 0, none⟩ v).alloc (.cells #[.string s] 9)).heap.size := by rw [World.size_alloc, hz]
    rw [e]
    show (World.alloc _ _).cell? _ = _
    rw [cell_of_row _ _ 0 _ _ _ (World.alloc_heap_new _ _)]
    simp [Array.getElem?_append]
  · show (World.alloc _ _).frozen? _ = _
    rw [frozen_al _ (cell_al _ h1), frozen_al _ h1, World.frozen?_setCell]
    exact hf

set_option maxRecDepth 100000 in
set_option maxHeartbeats 1000000 in
theorem decimals_one (i : Nat) (K : Nat) (v : Value) (w : World) (hA : Nt w v i K) (hy0 : 0 < i) (hy : i < 100) :
    Calls Tryz.prog 59 #[v] w fun e w' => e = .returned (.string ⟨(Lib.decDigits i).toArray⟩) ∧ Below w.heap.size w w' := by
  obtain ⟨ao, ca, L, rfl, hA⟩ := hA
  obtain rfl : L = [(i : Int)] := nt_one hA (by omega) (by unfold B64; omega)
  have HA1 : Nt w (.slice ao 1 ca) i 1 := ⟨ao, ca, [(i : Int)], rfl, hA.rd, hA.dig, hA.nrm, hA.eq, Nat.le_refl _⟩
  obtain ⟨s, hs⟩ : ∃ s : ByteArray, s = ⟨(Lib.decDigits i).toArray⟩ := ⟨_, rfl⟩
  have HF : ∀ (l : Nat) (W : World), CallsIn (Fence.wide.inRound l) 2 Tryz.prog 110 #[.int .u64 i, .int .i64 10] W fun e w' => e = .returned (.string s) ∧ w' = W :=
    fun l W => CallsIn.inRound l (callsIn_wide.2 (by rw [hs]; exact format_small i hy W))
  have hlen : s.size ≤ 2 := by rw [hs]; exact dec_len i hy
  rw [← hs]
  have HD := hid (show Lib.strCells s = Lib.byteCells (Lib.decDigits i) ∧ s = ⟨(Lib.decDigits i).toArray⟩ from ⟨by rw [hs]; rfl, hs⟩)
  clear hs
  refine (callsIn_wide (n := 5)).1 ?_
  refine callsIn_of_wp_marks Tryz.func59 rfl trivial ?_ rfl
  simp only [Tryz.ntmps59, List.size_toArray, List.length_cons, List.length_nil, Nat.reduceAdd, Nat.reduceSub, Array.replicate_succ, Array.replicate_zero, List.push_toArray, List.append_toArray, List.nil_append, List.cons_append]
  gi_wp2_with (refine ⟨trivial, ?_⟩; gi_at_call 109; refine (groups_in _ _ _ _ _).mono ?_; rintro e w' ⟨rfl, rfl⟩)
  obtain ⟨w0, hw0⟩ : ∃ w0, ((w.alloc (.cells #[] 9)).alloc (.cells #[.slice (some ⟨w.heap.size, 0, none⟩) 0 0] 139)) = w0 := ⟨_, rfl⟩
  have hB0 : Below w.heap.size w w0 := by rw [← hw0]; exact ((Below.refl _ w).alloc (Nat.le_refl _) _).alloc (by simp) _
  have hsz : w0.heap.size = w.heap.size + 2 := by rw [← hw0]; simp
  have hc0 : w0.cell? ⟨w.heap.size + 1, 0, none⟩ = some (.slice (some ⟨w.heap.size, 0, none⟩) 0 0) := by rw [← hw0]; simp
  have hf0 : w0.frozen? ⟨w.heap.size + 1, 0, none⟩ = false := by rw [← hw0]; simp
  rw [hw0]
  have bN := Boxed.new w0 82 (.slice ao 1 ca)
  have hB1 : Below w.heap.size w (w0.alloc (.cells #[.slice ao 1 ca] 82)) := hB0.alloc hB0.size _
  refine wpIn_rangeFunc_ownG rfl (by omega) (gf := 163) (lb := #[.pointer (some ⟨w.heap.size + 1 + 1, 0, none⟩)]) rfl trivial (enters_of Tryz.func163 (by kernel_rfl) rfl)
    (groups1_stops _ (by omega) (w.heap.size + 1 + 1) w.heap.size (i : Int) (by omega) (by omega) ao 1 ca _ (by simp; omega) (by rw [← hsz]; exact bN.cell) (HA1.below hB1 (Nat.le_refl _)) (by omega)) belowK_t (belowK_b (by simp; omega)) (Below.refl _ _) (fun _ => rfl)
    (fun pre W => (((pre = [] ∧ W.cell? ⟨w.heap.size + 1, 0, none⟩ = some (.slice (some ⟨w.heap.size, 0, none⟩) 0 0)) ∨
      (pre.length = 1 ∧ ∃ g cap, 0 < cap ∧ W.cell? ⟨w.heap.size + 1, 0, none⟩ = some (.slice (some ⟨g, 0, none⟩) 1 cap) ∧ W.cell? ⟨g, 0, none⟩ = some (.string s))) ∧ W.frozen? ⟨w.heap.size + 1, 0, none⟩ = false) ∧ Below w.heap.size w W)
    (fun _ _ _ => False)
    (OwnFrom.and (Own.from (fun p A B row hq hg hr => by
      obtain ⟨h1 | ⟨hp, g, cap, hcap, h1, h2⟩, h3⟩ := hq
      · exact ⟨.inl ⟨h1.1, cell_kept h1.2 hg hr⟩, (frozen_kept h1.2 hg hr).trans h3⟩
      · exact ⟨.inr ⟨hp, g, cap, hcap, cell_kept h1 hg hr, cell_kept h2 hg hr⟩, (frozen_kept h1 hg hr).trans h3⟩) _) (ownFrom_below (Nat.le_refl _) (by simp; omega)))
    (fun _ _ _ _ _ hq _ _ => hq)
    ⟨⟨.inl ⟨rfl, cell_al _ hc0⟩, (frozen_al _ hc0).trans hf0⟩, hB1⟩
    (fun x => { tmps := #[.slice ao 1 ca, undef, .string ⟨#[]⟩, .pointer (some ⟨w.heap.size + 1, 0, none⟩), .int .u64 x.1, undef, undef, undef, .slice (some ⟨w.heap.size, 0, none⟩) 0 0, .slice ao 1 ca, .func (.func 163) #[] #[.pointer (some ⟨w.heap.size + 1 + 1, 0, none⟩)], .int .u64 x.1, undef, undef, undef, undef, undef, undef, undef, undef, undef, undef, undef, undef, undef, undef, undef, undef, undef, undef, undef, undef, undef, undef, undef, undef, undef, undef, undef, undef, undef], defers := [] }) ?assign ?body ?done ?stop
  case assign =>
    intro l x W K hK
    gi_wp2
    exact hK
  case body =>
    rintro l pre ⟨x, rfl⟩ W ⟨⟨hq, hf⟩, hB⟩ hlt
    rcases hq with ⟨rfl, hc⟩ | ⟨hp, _⟩
    · have hns : ¬ 281474976710656 < Builtin.nextslicecap 1 0 * Tryz.t9.bytes := by rw [nextslicecap_zero (by omega)]; rw [show Tryz.t9.bytes = 16 by kernel_rfl]; omega
      have hcap : 0 < (Question.appendCap 1 0 9).cut (W.tape (W.drawn + 1) (Question.appendCap 1 0 9)) := grownCap_ge W.drew 1 0 9
      have hBs := hB.size
      have hl1 : w.heap.size + 1 < W.heap.size := World.block_lt_of_cell? W _ hc
      have hl2 : ¬ w.heap.size + 1 = W.heap.size := by omega
      have hl3 : ¬ w.heap.size = W.heap.size := by omega
      have hl4 : w.heap.size + 1 < W.heap.size + 1 := by omega
      have hl5 : ¬ w.heap.size + 1 = W.heap.size + 1 := by omega
      have hmx : Tryz.prog.follows .mixedOrders = true := by kernel_rfl
      gi_wp2
      gi_region_with_o (refine ⟨trivial, ?_⟩; gi_at_call 110; refine (HF _ _).mono ?_; rintro e w' ⟨rfl, rfl⟩)
      all_goals gi_wp2
      all_goals
        have HT := text_stored (s := s) (v := .slice (some ⟨W.heap.size + 1, 0, none⟩) 1 ((Question.appendCap 1 0 9).cut (W.tape (W.drawn + 1) (Question.appendCap 1 0 9)))) (Builtin.zeroCells #[.string ⟨#[]⟩] ((Question.appendCap 1 0 9).cut (W.tape (W.drawn + 1) (Question.appendCap 1 0 9)) - 1)) hB (by omega : w.heap.size ≤ w.heap.size + 1) hc hf
        exact ⟨((KeepsOthers.setCell _ _ _).trans ((KeepsOthers.alloc _ _).trans ((KeepsOthers.alloc _ _).trans ((KeepsOthers.drew _).trans (KeepsOthers.drew _))))).from _, HT.1, ⟨⟨.inr ⟨rfl, W.heap.size + 1, _, hcap, HT.2.1, HT.2.2.1⟩, HT.2.2.2⟩, hB.trans HT.1⟩⟩
    · exact absurd hlt (by simp at hlt; omega)
  case done =>
    rintro D ys W hD rfl ⟨⟨hq, hf⟩, hB⟩ hK
    rcases hq with ⟨h, _⟩ | ⟨_, g, cap, hcap, hc, hs1⟩
    · cases h
    · have hBu := Lib.fresh_isBuilder 147 5 W
      have HW := hid (fun w' (h : Bu W.heap.size W.heap.size [] w') (h2 : W.heap.size ≤ w'.heap.size) => writeString_any W.heap.size W.heap.size [] s w' h (by simp; omega) h2)
      have hl1 : w.heap.size + 1 < W.heap.size := World.block_lt_of_cell? W _ hc
      have hl2 : g < W.heap.size := World.block_lt_of_cell? W _ hs1
      have hcapI : ¬ cap = 0 := by omega
      gi_wp2_with (refine ⟨trivial, ?_⟩; gi_at_call 111; refine (callsIn_wide.2 (HW.out _ hBu (by simp))).mono ?_; rintro e w2 ⟨rfl, hb2, hbel⟩)
      gi_loopw [7] (fun p wr => p = .int .i64 (-1) ∧ wr = w2) (fun _ _ => 0)
      case atStart => exact ⟨rfl, rfl⟩
      case round =>
        obtain ⟨rfl, rfl⟩ := hrel
        have hb3 : Bu W.heap.size W.heap.size (Lib.byteCells (Lib.decDigits i)) wr := by rw [← HD.out.1]; simpa using hb2
        gi_wp2_with (refine ⟨trivial, ?_⟩; gi_at_call 112; refine (callsIn_wide.2 (bstring_any W.heap.size W.heap.size (Lib.decDigits i) _ hb3 (by have := hbel.size; simp at this; omega))).mono ?_; rintro e w3 ⟨rfl, hbel2⟩)
        have hDl := (Array.getElem?_eq_some_iff.1 hK).1
        have hK3 : w3.heap[D]? = some (.deferred (some [])) := by
          rw [hbel2.block D hDl, hbel.block D hDl]; exact (Below.heap_alloc W _ _ hDl).trans hK
        have hB3 : Below w.heap.size w w3 := ((hB.trans ((Below.refl _ W).alloc hB.size _)).trans (hbel.mono hB.size)).trans (hbel2.mono hB.size)
        refine ⟨by simp, .inl ⟨_, _, rfl, run_takeDeferred hK3, ?_⟩⟩
        refine ⟨_, results_tmp rfl _ _ _, ?_, hB3.trans (belowK_b (w := w) (Nat.le_refl _) w3 D _ _ (by simp at hD; omega) hK3 rfl rfl)⟩
        exact congrArg (fun t => Ending.returned (Value.string t)) HD.out.2.symm
  case stop =>
    rintro D c pre W _ _ h _
    exact h.elim
end Go.Proofs.YtilpkocmdpofpaaGreatDoor

/- (exact.integer).text and exact.Text of numbers closer to 0 than 100. -/
namespace Go.Proofs.YtilpkocmdpofpaaGreatDoor
open Go.RowKit

set_option maxRecDepth 100000 in
set_option maxHeartbeats 1000000 in
theorem text_pos (i : Nat) (K : Nat) (v : Value) (w : World) (h : It w v i K) (h0 : 0 < i) (h1 : i < 100) :
    Calls Tryz.prog 83 #[v] w fun e w' => e = .returned (.string ⟨(Lib.decDigits i).toArray⟩) ∧ Below w.heap.size w w' := by
  obtain ⟨xb, xo, xm, xc, rfl, Hx, Hxs, Hxb⟩ := It.opened h
  obtain rfl : xb = false := by rw [Hxb.out]; exact decide_eq_false (by omega)
  clear h
  obtain ⟨s, hs⟩ : ∃ s : ByteArray, s = ⟨(Lib.decDigits i).toArray⟩ := ⟨_, rfl⟩
  have HD := hid (fun (w' : World) (hb : Below w.heap.size w w') => by have := decimals_one i K _ w' (by simpa using Hxs.out w' hb) h0 h1; rw [← hs] at this; exact this)
  rw [← hs]
  clear hs
  have hB0 : Below w.heap.size w (w.alloc (.cells #[.bool false, .slice xo xm xc] 84)) := (Below.refl _ _).alloc (Nat.le_refl _) _
  have HB0 := hid hB0
  clear hB0
  go_enter Tryz.func83, Tryz.ntmps83
  go_wp2_with fail
  refine (HD.out _ HB0.out).mono ?_
  rintro e w1 ⟨rfl, hb1⟩
  go_wp2
  go_ret
  exact ⟨rfl, HB0.out.trans (hb1.mono (by simp))⟩

set_option maxRecDepth 100000 in
set_option maxHeartbeats 1000000 in
theorem text_neg (i : Nat) (K : Nat) (v : Value) (w : World) (h : It w v (-(i : Int)) K) (h0 : 0 < i) (h1 : i < 100) :
    Calls Tryz.prog 83 #[v] w fun e w' => e = .returned (.string (⟨#[45]⟩ ++ ⟨(Lib.decDigits i).toArray⟩)) ∧ Below w.heap.size w w' := by
  obtain ⟨xb, xo, xm, xc, rfl, Hx, Hxs, Hxb⟩ := It.opened h
  obtain rfl : xb = true := by rw [Hxb.out]; exact decide_eq_true (by omega)
  clear h
  obtain ⟨s, hs⟩ : ∃ s : ByteArray, s = ⟨(Lib.decDigits i).toArray⟩ := ⟨_, rfl⟩
  have HD := hid (fun (w' : World) (hb : Below w.heap.size w w') => by have := decimals_one i K _ w' (by simpa using Hxs.out w' hb) h0 h1; rw [← hs] at this; exact this)
  have hsz : ¬ 9223372036854775807 < 1 + s.size := by have := dec_len i h1; rw [hs]; show ¬ 9223372036854775807 < 1 + (Lib.decDigits i).length; omega
  rw [← hs]
  clear hs
  have hB0 : Below w.heap.size w (w.alloc (.cells #[.bool true, .slice xo xm xc] 84)) := (Below.refl _ _).alloc (Nat.le_refl _) _
  have HB0 := hid hB0
  clear hB0
  go_enter Tryz.func83, Tryz.ntmps83
  go_wp2_with fail
  refine (HD.out _ HB0.out).mono ?_
  rintro e w1 ⟨rfl, hb1⟩
  go_wp2
  go_ret
  exact ⟨rfl, HB0.out.trans (hb1.mono (by simp))⟩

/-- The text of a number closer to 0 than 100. -/
def tx (z : Int) : ByteArray := if z < 0 then ⟨#[45]⟩ ++ ⟨(Lib.decDigits z.natAbs).toArray⟩ else ⟨(Lib.decDigits z.natAbs).toArray⟩
theorem text_any (z : Int) (K : Nat) (v : Value) (w : World) (h : It w v z K) (h0 : z ≠ 0) (h1 : z.natAbs < 100) :
    Calls Tryz.prog 83 #[v] w fun e w' => e = .returned (.string (tx z)) ∧ Below w.heap.size w w' := by
  unfold tx
  by_cases hz : z < 0
  · rw [if_pos hz]
    exact text_neg z.natAbs K v w (by rw [show -((z.natAbs : Nat) : Int) = z by omega]; exact h) (by omega) h1
  · rw [if_neg hz]
    exact text_pos z.natAbs K v w (by rw [show ((z.natAbs : Nat) : Int) = z by omega]; exact h) (by omega) h1

set_option maxRecDepth 100000 in
set_option maxHeartbeats 1000000 in
theorem Text_any (z : Int) (K : Nat) (v : Value) (w : World) (h : Ai w v z K) (hK : K ≤ 1073741824) (h0 : z ≠ 0) (h1 : z.natAbs < 100) :
    Calls Tryz.prog 23 #[v] w fun e w' => e = .returned (.string (tx z)) ∧ Below w.heap.size w w' := by
  obtain ⟨xb, xo, xm, xc, rfl, Hx⟩ := Ai.opened h
  clear h
  have H0 := hid h0
  clear h0
  go_enter Tryz.func23, Tryz.ntmps23
  go_wp2_with fail
  refine (read_any _ z K _ (Hx.out _ ((Below.refl _ _).alloc (Nat.le_refl _) _)) hK).mono ?_
  rintro e w1 ⟨v1, rfl, hv1, hb1⟩
  go_wp2_with fail
  refine (text_any z _ _ _ hv1 H0.out h1).mono ?_
  rintro e w2 ⟨rfl, hb2⟩
  go_wp2
  go_ret
  exact ⟨rfl, (((Below.refl w.heap.size w).alloc (Nat.le_refl _) _).trans (hb1.mono (by simp))).trans (hb2.mono (by have := hb1.size; simp at this; omega))⟩
end Go.Proofs.YtilpkocmdpofpaaGreatDoor
