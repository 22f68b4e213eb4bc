/- exact.Quotient by values; hodoscoperef01.Wide. exact.groups: the iterator at numbers of one limb below the group's size: one round. strings.Builder: WriteString, String; strconv.FormatUint of a number below 100: by the library's contracts and after them. -/
import Derived.Test.YtilpkocmdpofpaaGreatDoorFa44
import Derived.RangeFuncNested
import Derived.RangeFuncBound
import Derived.RangeFuncCalls
import Derived.RangeFuncLeaves
import Derived.Shelf.Abstract
import Derived.Shelf.RegionOpen
import Derived.WalkKit
import Derived.OwnWalkIn
import Derived.TacticsInMore
import Derived.LoopNIn
import Derived.LoopIn
import Derived.Test.YtilpkocmdpofpaaGreatDoorFa17
import Derived.Test.YtilpkocmdpofpaaGreatDoorFa01
import Derived.Shelf.Strings.Builder1
import Derived.Shelf.Strconv.Itoa1
/- exact.Quotient by values; hodoscoperef01.Wide. -/
namespace Go.Proofs.YtilpkocmdpofpaaGreatDoor
open Go.RowKit

theorem sgn_pos {a b : Int} (hb : 0 < b) : sgn (decide (a < 0) != decide (b < 0)) (a.natAbs : Int) = a := by
  rw [decide_eq_false (show ¬ b < 0 by omega)]
  by_cases ha : a < 0
  · rw [decide_eq_true ha]; show -(a.natAbs : Int) = a; omega
  · rw [decide_eq_false ha]; show (a.natAbs : Int) = a; omega
theorem sgn_neg' {a b : Int} (hb : b < 0) : sgn (decide (a < 0) != decide (b < 0)) (a.natAbs : Int) = -a := by
  rw [decide_eq_true hb]
  by_cases ha : a < 0
  · rw [decide_eq_true ha]; show (a.natAbs : Int) = -a; omega
  · rw [decide_eq_false ha]; show -(a.natAbs : Int) = -a; omega
theorem alg_quot {z1 e1 d1 n1 z2 e2 d2 n2 : Int} (h1 : z1 * d1 = n1 * e1) (h2 : z2 * d2 = n2 * e2) : (z1 * e2) * (d1 * n2) = (n1 * d2) * (z2 * e1) := by grind
theorem sgn_same {r d n e : Int} (hd : 0 < d) (he : 0 < e) (h : r * d = n * e) : (0 < n → 0 < r) ∧ (n < 0 → r < 0) := by
  have hc := cmp_scale hd he h
  constructor
  · intro hn
    rcases Int.lt_trichotomy r 0 with hr | hr | hr
    · rw [cmp_lt'' hr, cmp_gt'' hn] at hc; cases hc
    · rw [hr, cmp_gt'' hn] at hc; cases hc
    · exact hr
  · intro hn
    rcases Int.lt_trichotomy r 0 with hr | hr | hr
    · exact hr
    · rw [hr, cmp_lt'' hn] at hc; cases hc
    · rw [cmp_gt'' hr, cmp_lt'' hn] at hc; cases hc

/-- The call hands back a ratio of the value n over d, open, and an error. -/
def RetVE (w : World) (n d : Int) (R : Nat) (err : Int) (e : Ending) (w' : World) : Prop := ∃ b1 o1 m1 c1 b2 o2 m2 c2, e = .returned (.tuple #[.agg #[.bool b1, .slice o1 m1 c1, .bool b2, .slice o2 m2 c2], .int .i64 err]) ∧ Hid (Rv w' (.agg #[.bool b1, .slice o1 m1 c1, .bool b2, .slice o2 m2 c2]) n d R) ∧ Below w.heap.size w w'
theorem Quotient_rv (u v : Value) (n1 d1 n2 d2 : Int) (K R : Nat) (w : World) (hu : Rv w u n1 d1 K) (hv : Rv w v n2 d2 K) (hn : n2 ≠ 0) (hK : K ≤ 150) (hR : 2 * K + 6 ≤ R) :
    Calls Tryz.prog 39 #[u, v] w (RetVE w (n1 * d2 * cmpI n2 0) (d1 * (n2 * cmpI n2 0)) R 0) := by
  obtain ⟨p1, x1, y1, hu, h1⟩ := hu
  obtain ⟨p2, x2, y2, hv, h2⟩ := hv
  have hs := sgn_same p2 (rd_pos y2) h2
  have hz : rn x2 y2 ≠ 0 := by rcases Int.lt_or_lt_of_ne hn with h | h <;> (first | (have := hs.2 h; omega) | (have := hs.1 h; omega))
  have hq := alg_quot h1 h2
  refine (Quotient_ne u v x1 y1 x2 y2 K w hu hv hz hK).mono ?_
  rintro e w' ⟨f, rfl, hf, hb⟩
  have hr1 := rd_pos y1
  have hr2 := rd_pos y2
  rcases Int.lt_or_lt_of_ne hn with h | h
  · have hz2 := hs.2 h
    have hb2 : rn x2 y2 * rd y1 < 0 := Int.mul_neg_of_neg_of_pos hz2 hr1
    rw [sgn_neg' hb2, show ((rn x2 y2 * rd y1).natAbs : Int) = -(rn x2 y2 * rd y1) by omega] at hf
    obtain ⟨b1, o1, m1, c1, b2, o2, m2, c2, he, hh, hb⟩ := retV (R := R) hf (n := n1 * d2 * cmpI n2 0) (e := d1 * (n2 * cmpI n2 0)) (by omega) (by rw [cmp_lt'' h]; exact Int.mul_pos p1 (by omega)) (by rw [cmp_lt'' h]; grind) (by omega) hb
    injection he with he
    subst he
    exact ⟨b1, o1, m1, c1, b2, o2, m2, c2, rfl, hh, hb⟩
  · have hz2 := hs.1 h
    have hb2 : 0 < rn x2 y2 * rd y1 := Int.mul_pos hz2 hr1
    rw [sgn_pos hb2, show ((rn x2 y2 * rd y1).natAbs : Int) = rn x2 y2 * rd y1 by omega] at hf
    obtain ⟨b1, o1, m1, c1, b2, o2, m2, c2, he, hh, hb⟩ := retV (R := R) hf (n := n1 * d2 * cmpI n2 0) (e := d1 * (n2 * cmpI n2 0)) hb2 (by rw [cmp_gt'' h]; exact Int.mul_pos p1 (by omega)) (by rw [cmp_gt'' h]; grind) (by omega) hb
    injection he with he
    subst he
    exact ⟨b1, o1, m1, c1, b2, o2, m2, c2, rfl, hh, hb⟩
theorem Quotient_rz (u v : Value) (n1 d1 d2 : Int) (K : Nat) (w : World) (hu : Rv w u n1 d1 K) (hv : Rv w v 0 d2 K) (hK : K ≤ 150) :
    Calls Tryz.prog 39 #[u, v] w fun e w' => e = .returned (.tuple #[.agg #[.bool false, .slice none 0 0, .bool false, .slice none 0 0], .int .i64 10]) ∧ Below w.heap.size w w' := by
  obtain ⟨p1, x1, y1, hu, h1⟩ := hu
  obtain ⟨p2, x2, y2, hv, h2⟩ := hv
  rw [Int.zero_mul] at h2
  have hz : rn x2 y2 = 0 := by
    rcases Int.mul_eq_zero.1 h2 with h | h
    · exact h
    · omega
  exact Quotient_zero u v x1 y1 x2 y2 K w hu hv hz hK

set_option maxRecDepth 100000 in
set_option maxHeartbeats 1000000 in
theorem wide_any (b1 b2 : Bool) (o1 o2 : Option Addr) (m1 c1 m2 c2 : Nat) (w : World) :
    Calls Tryz.prog 10 #[.agg #[.bool b1, .slice o1 m1 c1, .bool b2, .slice o2 m2 c2]] w fun e w' => e = .returned (.int .i64 (max (m1 : Int) (m2 : Int))) ∧ Below w.heap.size w w' := by
  have HB0 := hid (show Below w.heap.size w (w.alloc (.cells #[.bool b1, .slice o1 m1 c1, .bool b2, .slice o2 m2 c2] 26)) from (Below.refl _ _).alloc (Nat.le_refl _) _)
  go_enter Tryz.func10, Tryz.ntmps10
  go_wp2
  go_ret
  exact ⟨rfl, HB0.out⟩
end Go.Proofs.YtilpkocmdpofpaaGreatDoor

/- exact.groups: the iterator at numbers of one limb below the group's size: one round. -/
namespace Go.Proofs.YtilpkocmdpofpaaGreatDoor
open Go.RowKit Go.Shelf
attribute [local go_sem] Oper.semAt_some

set_option maxHeartbeats 1000000 in
theorem groups_in (n : Nat) (a : Option Addr) (k c : Nat) (w : World) :
    CallsIn Fence.wide n Tryz.prog 109 #[.slice a k c] w fun e w' => e = .returned (.func (.func 163) #[] #[.pointer (some ⟨w.heap.size, 0, none⟩)]) ∧ w' = w.alloc (.cells #[.slice a k c] 82) := by
  refine callsIn_of_wp Tryz.func109 rfl trivial ?_ rfl
  simp only [Tryz.ntmps109, List.size_toArray, List.length_cons, List.length_nil, Nat.reduceAdd, Nat.reduceSub, Array.replicate_succ, Array.replicate_zero, List.push_toArray, List.append_toArray, List.nil_append, List.cons_append]
  gi_wp2
  go_ret
  exact ⟨rfl, rfl⟩

set_option maxRecDepth 100000 in
set_option maxHeartbeats 1000000 in
theorem groups1_stops (n : Nat) (hn : 1 ≤ n) (Bn n₀ : Nat) (y : Int) (hy0 : 0 < y) (hy : y < 100) (a : Option Addr) (k c : Nat) (w : World) (hBn : Bn < w.heap.size) (hc : w.cell? ⟨Bn, 0, none⟩ = some (.slice a k c)) (hA : Nt w (.slice a k c) y 1) (hk : 0 < k) :
    SeqStopsK Fence.wide n Tryz.prog 163 #[.pointer (some ⟨Bn, 0, none⟩)] (fun x : { x : Int // x = y } => #[Value.int .u64 x.1]) (Below n₀) (fun ys => ys = [⟨y, rfl⟩]) (fun pre => pre = [⟨y, rfl⟩]) 1 w := fun l J Jx W hW hJ _ hY h0 => by
  have hBW : W.cell? ⟨Bn, 0, none⟩ = some (.slice a k c) := (hW.cell (p := ⟨Bn, 0, none⟩) hBn).trans hc
  have hAW : Nt W (.slice a k c) y 1 := hA.below hW (Nat.le_refl _)
  have hkI : ¬ (k : Int) = 0 := by omega
  have hkJ : (0 : Int) < k := by omega
  refine callsIn_of_wp Tryz.func163 rfl trivial ?_ rfl
  simp only [Tryz.ntmps163, List.size_toArray, List.length_cons, List.length_nil, Nat.reduceAdd, Nat.reduceSub, Array.replicate_succ, Array.replicate_zero, List.push_toArray, List.append_toArray, List.nil_append, List.cons_append]
  gi_wp2
  gi_loopw [3] (fun p wr => (p = .slice a k c ∧ wr = W) ∨ (∃ a' c', p = .slice a' 0 c' ∧ J [⟨y, rfl⟩] wr))
    (fun p wr => lenOf p)
  case atStart => exact .inl ⟨rfl, rfl⟩
  case round =>
    rcases hrel with ⟨rfl, rfl⟩ | ⟨a', c', rfl, hJ1⟩
    · gi_wp2_with (refine ⟨trivial, ?_⟩; gi_at_call 164; refine (callsIn_wide.2 (divideLimb_any _ y 10000000000000000000 1 _ hAW (by omega) (by omega) (by unfold B64; omega))).mono ?_)
      rintro e W1 ⟨v1, rfl, hq, hb1⟩
      rw [Int.ediv_eq_zero_of_lt (by omega) (by omega)] at hq
      rw [Int.emod_eq_of_lt (by omega) (by omega)]
      obtain ⟨a', c', L, rfl, hq⟩ := hq
      obtain rfl : L = [] := Nrm.eq_nil B64_pos hq.dig hq.nrm hq.eq
      have hJ0 : J [] W1 := hJ _ _ _ none h0 (below_grown hb1) (fun r h => by cases h)
      obtain ⟨fn, tmps, assign, body, hy, hR⟩ := hY [] ⟨y, rfl⟩ W1 hJ0 (by simp)
      gi_wp2
      refine hR.mono ?_
      rintro e W3 (⟨rfl, hJ3, hk3⟩ | ⟨rfl, hJx3⟩)
      · gi_wp2
        go_roundw
        case rel => exact .inr ⟨a', c', rfl, hJ3⟩
        case measure => exact hk
      · gi_wp2
        refine bodyPost_ret (results_none rfl _ _ _) rfl ?_
        exact ⟨⟨_, rfl⟩, .inr ⟨[⟨y, rfl⟩], rfl, hJx3⟩⟩
    · gi_wp2
      go_end0
      exact ⟨⟨_, rfl⟩, .inl ⟨[⟨y, rfl⟩], rfl, hJ1⟩⟩
end Go.Proofs.YtilpkocmdpofpaaGreatDoor

/- strings.Builder: WriteString, String; strconv.FormatUint of a number below 100: by the library's contracts and after them. -/
namespace Go.Proofs.YtilpkocmdpofpaaGreatDoor
open Go.RowKit Go.Shelf

def sb_ren : Go.Shelf.Ren := ⟨fun | 169 => 112 | n => n, fun | 70 => 144 | 9 => 9 | 0 => 0 | 72 => 147 | 37 => 145 | 127 => 194 | 3 => 3 | 5 => 5 | n => n, fun | n => n⟩
theorem sb_lays : Go.Proofs.Lays.n169 Tryz.prog sb_ren := {
  mixed := by kernel_rfl
  f169 := Tryz.func112.trans (congrArg some (by kernel_rfl))
  t0 := Tryz.underlying0
  a0 := Tryz.isAgg0
  z0 := Tryz.sizeOf0
  v0 := Tryz.zeroValue0
  t3 := Tryz.underlying3
  a3 := Tryz.isAgg3
  z3 := Tryz.sizeOf3
  v3 := Tryz.zeroValue3
  t9 := Tryz.underlying9
  a9 := Tryz.isAgg9
  z9 := Tryz.sizeOf9
  v9 := Tryz.zeroValue9
  t37 := Tryz.underlying145
  a37 := Tryz.isAgg145
  z37 := Tryz.sizeOf145
  v37 := Tryz.zeroValue145
  t70 := Tryz.underlying144
  a70 := Tryz.isAgg144
  z70 := Tryz.sizeOf144
  v70 := Tryz.zeroValue144
  t72 := Tryz.underlying147
  a72 := Tryz.isAgg147
  z72 := Tryz.sizeOf147
  v72 := Tryz.zeroValue147
  t127 := Tryz.underlying194
  a127 := Tryz.isAgg194
  z127 := Tryz.sizeOf194
  v127 := Tryz.zeroValue194 }
theorem sb_extra : Builder.Extra Tryz.prog sb_ren := {
  sizeBuilder := by kernel_rfl
  liesBuilder := by kernel_rfl
  t5 := Tryz.underlying5
  a5 := Tryz.isAgg5
  z5 := Tryz.sizeOf5
  v5 := Tryz.zeroValue5
  infoByte := by kernel_rfl
  cellsByte := by kernel_rfl
  sizeByte := by kernel_rfl
  neB5 := by decide }
/-- A builder in block b holds these bytes; nothing of its own lies below B. -/
def Bu (B b : Nat) (bs : List Value) (w : World) : Prop := Lib.IsBuilder 147 5 B b bs w
theorem bstring_any (B b : Nat) (l : List UInt8) (w : World) (h : Bu B b (Lib.byteCells l) w) (hBw : B ≤ w.heap.size) :
    Calls Tryz.prog 112 #[.pointer (some ⟨b, 0, none⟩)] w fun e w' => e = .returned (.string ⟨l.toArray⟩) ∧ Below B w w' := Any.Builder_String_any sb_lays sb_extra B b l w h hBw
def sm_ren : Go.Shelf.Ren := ⟨fun | 283 => 193 | n => n, fun | 3 => 3 | 9 => 9 | 4 => 4 | n => n, fun | n => n⟩
theorem sm_lays : Go.Proofs.Lays.n283 Tryz.prog sm_ren := {
  mixed := by kernel_rfl
  f283 := Tryz.func193.trans (congrArg some (by kernel_rfl))
  t3 := Tryz.underlying3
  a3 := Tryz.isAgg3
  z3 := Tryz.sizeOf3
  v3 := Tryz.zeroValue3
  t4 := Tryz.underlying4
  a4 := Tryz.isAgg4
  z4 := Tryz.sizeOf4
  v4 := Tryz.zeroValue4
  t9 := Tryz.underlying9
  a9 := Tryz.isAgg9
  z9 := Tryz.sizeOf9
  v9 := Tryz.zeroValue9 }
theorem small_any (i : Nat) (h : i < 100) (w : World) : Calls Tryz.prog 193 #[.int .i64 i] w fun e w' => e = .returned (.string ⟨(Lib.decDigits i).toArray⟩) ∧ w' = w := Any.internal_strconv_small sm_lays i h w

theorem formatInner_small (i : Nat) (h : i < 100) (w : World) : Calls Tryz.prog 165 #[.int .u64 i, .int .i64 10] w fun e w' => e = .returned (.string ⟨(Lib.decDigits i).toArray⟩) ∧ w' = w := by
  have h1 : (i : Int) < 100 := by omega
  have HS := hid (small_any i h w)
  clear h
  go_enter Tryz.func165, Tryz.ntmps165
  go_wp2_with fail
  refine HS.out.mono ?_
  rintro e w' ⟨rfl, rfl⟩
  go_wp2
  go_ret
  exact ⟨rfl, rfl⟩
theorem format_small (i : Nat) (h : i < 100) (w : World) : Calls Tryz.prog 110 #[.int .u64 i, .int .i64 10] w fun e w' => e = .returned (.string ⟨(Lib.decDigits i).toArray⟩) ∧ w' = w := by
  have HS := hid (formatInner_small i h w)
  clear h
  go_enter Tryz.func110, Tryz.ntmps110
  go_wp2_with fail
  refine HS.out.mono ?_
  rintro e w' ⟨rfl, rfl⟩
  go_wp2
  go_ret
  exact ⟨rfl, rfl⟩

set_option maxHeartbeats 1000000 in
set_option maxRecDepth 100000 in
theorem copyCheck_used (b : Nat) (w : World) (h0 : w.cell? ⟨b, 0, none⟩ = some (.pointer (some ⟨b, 0, none⟩))) :
    Calls Tryz.prog 166 #[.pointer (some ⟨b, 0, none⟩)] w fun e w' => e = .returned (.tuple #[]) ∧ w' = w := by
  obtain ⟨j, hj, _⟩ := Option.map_eq_some_iff.1 sb_extra.sizeBuilder
  go_enter Tryz.func166, Tryz.ntmps166
  go_wp2
  rw [Lib.run_neq_ptr_same w _ Tryz.underlying144 hj]
  go_wp2
  go_end0
  exact ⟨rfl, rfl⟩

set_option maxHeartbeats 1000000 in
set_option maxRecDepth 100000 in
theorem copyCheck_fresh (b : Nat) (w : World) (h0 : w.cell? ⟨b, 0, none⟩ = some (.pointer none)) (hsh : w.shape? b = some (147, 2)) (hfz : w.frozen? ⟨b, 0, none⟩ = false) :
    Calls Tryz.prog 166 #[.pointer (some ⟨b, 0, none⟩)] w fun e w' => e = .returned (.tuple #[]) ∧ w' = w.setCell ⟨b, 0, none⟩ (.pointer (some ⟨b, 0, none⟩)) := by
  obtain ⟨j, hj, hjs⟩ := Option.map_eq_some_iff.1 sb_extra.sizeBuilder
  go_enter Tryz.func166, Tryz.ntmps166
  go_wp2
  rw [Lib.run_to_unsafe w ⟨b, 0, none⟩ Tryz.underlying144 Tryz.underlying220 hj (by rw [hjs]; decide) hsh (Nat.zero_lt_succ 1)]
  simp only [Result.andThen]
  rw [Oper.upon_value]
  go_wp2
  rw [run_callFunc_extern Tryz.func197 (by kernel_rfl) (by kernel_rfl) (by kernel_rfl) (e := Extern.AbiNoEscape.same) (by kernel_rfl)]
  rw [Lib.run_noEscape]
  simp only [Result.andThen]
  rw [Oper.upon_value]
  go_wp2
  rw [Lib.run_from_unsafe w ⟨b, 0, none⟩ Tryz.underlying220 Tryz.underlying144 hj hsh sb_extra.liesBuilder]
  simp only [Result.andThen]
  rw [Oper.upon_value]
  go_wp2
  go_end0
  exact ⟨rfl, rfl⟩

theorem copyCheck_any (B b : Nat) (bs : List Value) (w : World) (h : Bu B b bs w) :
    Calls Tryz.prog 166 #[.pointer (some ⟨b, 0, none⟩)] w fun e w' => e = .returned (.tuple #[]) ∧ (Lib.BuilderAt 147 5 B b (.pointer (some ⟨b, 0, none⟩)) bs w' ∧ Below B w w') := by
  rcases h with h | h
  · refine (copyCheck_fresh b w h.cell0 h.shape h.frozen0).mono ?_
    rintro e w' ⟨rfl, rfl⟩
    exact ⟨rfl, h.used _, (Below.refl B w).setCell (p := ⟨b, 0, none⟩) h.1 _⟩
  · refine (copyCheck_used b w h.cell0).mono ?_
    rintro e w' ⟨rfl, rfl⟩
    exact ⟨rfl, h, Below.refl B _⟩

set_option maxHeartbeats 2000000 in
set_option maxRecDepth 100000 in
theorem writeString_any (B b : Nat) (bs : List Value) (s : ByteArray) (w : World) (h : Bu B b bs w) (hlen : bs.length + s.size ≤ 140737488355328) (hBw : B ≤ w.heap.size) :
    Calls Tryz.prog 111 #[.pointer (some ⟨b, 0, none⟩), .string s] w fun e w' => e = .returned (.tuple #[.int .i64 s.size, .nilIface]) ∧ Bu B b (bs ++ Lib.strCells s) w' ∧ Below B w w' := by
  obtain ⟨i0, hi, hz0, hz1, hz2⟩ := info_parts sb_extra.infoByte
  go_enter Tryz.func111, Tryz.ntmps111
  go_wp2_with (go_at_call 166; refine (copyCheck_any B b bs _ h).mono ?_)
  rintro e w1 ⟨rfl, h1, hb1⟩
  obtain ⟨hB, v, hbk, hown, hne⟩ := h1
  have c0 : w1.cell? ⟨b, 0, none⟩ = some (.pointer (some ⟨b, 0, none⟩)) := by rw [Lib.cell_of_heap hbk]; rfl
  have c1 : w1.cell? ⟨b, 1, none⟩ = some v := by rw [Lib.cell_of_heap hbk]; rfl
  go_wp2_with (at_builtin; refine Lib.wpList_append_own_string _ rfl _ _ 145 9 rfl B 5 i0 Tryz.underlying145 Tryz.underlying9 hi hz0 hz1 hz2 _ _ _ rfl hown s rfl ?c3 ?c4 ?c5 ?_)
  case c3 => unfold maxLen; omega
  case c4 => omega
  case c5 => have := hb1.size; omega
  intro v' w2 hown' hgrow _
  have hlt : b < w1.heap.size := by
    rcases Nat.lt_or_ge b w1.heap.size with h' | h'
    · exact h'
    · simp [Array.getElem?_eq_none h'] at hbk
  have hb2 : w2.heap[b]? = some (.cells #[.pointer (some ⟨b, 0, none⟩), v] 147 (0, 0)) := by
    rw [hgrow.block b hlt (fun e => hne e.symm)]
    exact hbk
  have d0 : w2.cell? ⟨b, 0, none⟩ = some (.pointer (some ⟨b, 0, none⟩)) := by rw [Lib.cell_of_heap hb2]; rfl
  have d1 : w2.cell? ⟨b, 1, none⟩ = some v := by rw [Lib.cell_of_heap hb2]; rfl
  have f1 : w2.frozen? ⟨b, 1, none⟩ = false := Lib.frozen_of_heap hb2 1
  obtain ⟨ao, n', cap, rfl⟩ : ∃ ao n' cap, v' = .slice ao n' cap := by
    rcases hown'.2 with ⟨hv, _⟩ | ⟨g, cap, cur, hv, _⟩
    · exact ⟨_, _, _, hv⟩
    · exact ⟨_, _, _, hv⟩
  go_wp2
  go_ret2
  refine ⟨rfl, Or.inr ?_, ?_⟩
  · exact Lib.BuilderAt.put (T := 147) (e := 5) hB hb2 (bs' := bs ++ Lib.strCells s) (by simpa [Lib.strCells_length] using hown') sb_extra.neB5
  · exact (hb1.grown hgrow (by have := hb1.size; omega) (fun k hk => (hown.lt k hk).1)).setCell (p := ⟨b, 1, none⟩) hB _
end Go.Proofs.YtilpkocmdpofpaaGreatDoor
