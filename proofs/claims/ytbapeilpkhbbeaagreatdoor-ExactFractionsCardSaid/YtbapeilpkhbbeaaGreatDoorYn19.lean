/- exact.decimals of any number: the groups' texts are collected, then joined, the highest first. -/
import Derived.Test.YtbapeilpkhbbeaaGreatDoorYn18
import Derived.Test.YtbapeilpkhbbeaaGreatDoorYn12
import Derived.RangeFuncBox
import Derived.Deep.AppendLies
import Derived.OrdersIn
/- exact.decimals of any number: the groups' texts are collected, then joined, the highest first. -/
namespace Go.Proofs.YtbapeilpkhbbeaaGreatDoor
open Go.RowKit Go.Shelf
attribute [local go_sem] Oper.semAt_some

theorem wpAnyIn_inv {F : Fence} {n : Nat} {P : Program} {md : Region.Mode} {ops : Array Oper} {Q : Exit → Act → World → Prop} (I : Array Bool → Act → World → Prop)
    (hstep : ∀ L a w i, L.size = ops.size → I L a w → i ∈ Region.ready md ops L → wpOpIn F n P ops Q i (fun a' w' => I (L.setIfInBounds i true) a' w') a w)
    (hdone : ∀ L a w, L.size = ops.size → I L a w → Region.ready md ops L = [] → Q .normal a w) :
    ∀ fuel L a w, L.size = ops.size → L.toList.count false ≤ fuel → I L a w → wpAnyIn F n P md ops Q fuel L a w := by
  have hr : ∀ L i, L.size = ops.size → i ∈ Region.ready md ops L → L.toList[i]? = some false := by
    intro L i hs hi
    unfold Region.ready at hi
    rw [List.mem_filter] at hi
    obtain ⟨h1, h2⟩ := hi
    rw [List.mem_range] at h1
    simp only [Bool.and_eq_true, Bool.not_eq_true'] at h2
    have h3 := h2.1
    have hlt : i < L.size := by omega
    simp [hlt] at h3
    rw [Array.getElem?_toList]; simp [hlt, h3]
  intro fuel
  induction fuel with
  | zero =>
    intro L a w hs hc hI
    have h0 : Region.ready md ops L = [] := by
      apply List.eq_nil_iff_forall_not_mem.2
      intro i hi
      have := hr L i hs hi
      have hm : false ∈ L.toList := List.mem_of_getElem? this
      have := List.count_pos_iff.2 hm
      omega
    exact ⟨h0, hdone L a w hs hI h0⟩
  | succ fuel ih =>
    intro L a w hs hc hI
    refine ⟨fun h0 => hdone L a w hs hI h0, fun i hi => wpOpIn_mono (fun a' w' h => ih _ a' w' (by simpa using hs) ?_ h) (hstep L a w i hs hI hi)⟩
    have := count_set_true L.toList i (hr L i hs hi)
    rw [Array.toList_setIfInBounds]; omega
theorem regionIn_inv {F : Fence} {n : Nat} {P : Program} {id : Nat} {ops : Array Oper} {Q : Exit → Act → World → Prop} {a : Act} {w : World} (hm : P.follows .mixedOrders = true) (I : Array Bool → Act → World → Prop)
    (hI : I (Array.replicate ops.size false) a w.drew)
    (hstep : ∀ L a w i, L.size = ops.size → I L a w → i ∈ Region.ready .any ops L → wpOpIn F n P ops Q i (fun a' w' => I (L.setIfInBounds i true) a' w') a w)
    (hdone : ∀ L a w, L.size = ops.size → I L a w → Region.ready .any ops L = [] → Q .normal a w) : (Code.region id ops true).wpIn F n P Q a w :=
  wpIn_region_any hm (wpAnyIn_inv I hstep hdone _ _ _ _ (by simp) (by simp) hI)

theorem wpIn_append_lies {F : Fence} {nn : Nat} {P : Program} (w : World) {o : Oper} {a : Act} {K : Act → World → Prop} {Q : Exit → Act → World → Prop} (s x : Operand) (t : TypeId)
    (ho : o.op = .call { callee := .builtin .append, args := #[s, x], argTypes := #[t, t] })
    (base : Nat) (e : TypeId) (i : TypeInfo) (z : Value) (size bytes : Nat) (ht : P.underlying t = some (.slice e)) (hi : P.info? e = some i) (hz : i.zero = some z)
    (hsize : i.size = size) (hby : i.bytes = bytes) (hzs : z.cells.size = size) (hsz : 0 < size)
    (v : Value) (n : Nat) (xs : List Value) (hs : a.eval s = v) (hown : w.ownsRow base e size v n xs)
    (ad : Addr) (m c : Nat) (news : List Value) (hx : a.eval x = .slice (some ad) m c) (hl : news.length = m * size) (hnews : ∀ j u, news[j]? = some u → w.cell? (ad.add j) = some u) (h1 : ∀ u ∈ news, u.oneCell' = true)
    (hm : 0 < m) (h63 : n + m ≤ maxLen) (hbytes : (n + m) * bytes ≤ 140737488355328) (hbase : base ≤ w.heap.size)
    (h : ∀ g cap w', w'.ownsRow base e size (.slice (some ⟨g, 0, none⟩) (n + m) cap) (n + m) (xs ++ news) → w.grownBy w' v.ownBlock → K (a.put o.dst (.slice (some ⟨g, 0, none⟩) (n + m) cap)) w') : o.wpIn F nn P a w K Q := by
  obtain ⟨g, cap, w', hr, h2, h3, h4, h5⟩ := run_append_lies (P := P) w t o.type base e i z size bytes ht hi hz hsize hby hzs hsz v n xs hown ad m c news hl hnews h1 hm h63 hbytes hbase _ rfl
  unfold Oper.wpIn
  refine ⟨?_, ?_⟩
  · simp [Oper.about, ho, resolve, Target.leads, Sem.run_pure]
  · rw [Oper.semAt_plain F _ _ (by rw [ho]; intro c hc'; cases hc')]
    simp [execOp, ho, resolve, invoke, builtin, hs, hx, hr, Result.andThen]
    exact h g cap w' h2 h3

theorem KeepT.grown {W W' : World} {row : Option Nat} (hg : W.grownBy W' row) (h : ∀ r, row = some r → ∃ cs T z, W.heap[r]? = some (Obj.cells cs T z) ∧ T ≠ 63) : KeepT W W' := fun k cs z e => by
  refine (hg.block k (Array.getElem?_eq_some_iff.1 e).1 ?_).trans e
  intro hk
  obtain ⟨cs', T, z', h1, h2⟩ := h k hk.symm
  rw [e] at h1
  cases h1
  exact h2 rfl
theorem row_str {W : World} {B k : Nat} {v : Value} {xs : List Value} (h : W.ownsRow B 9 1 v k xs) : ∀ r, v.ownBlock = some r → ∃ cs T z, W.heap[r]? = some (Obj.cells cs T z) ∧ T ≠ 63 := fun r hr => by
  rcases h.2 with ⟨rfl, _⟩ | ⟨g, cap, cur, rfl, _, hgb, _⟩
  · simp [Value.ownBlock] at hr
  · obtain rfl : g = r := by simpa [Value.ownBlock] using hr
    exact ⟨_, _, _, hgb, by decide⟩
theorem row_low {W : World} {B k : Nat} {v : Value} {xs : List Value} (h : W.ownsRow B 9 1 v k xs) : ∀ r, v.ownBlock = some r → B ≤ r := fun r hr => (h.lt r hr).1
theorem kept_below {W W' : World} {B k : Nat} {v : Value} {xs : List Value} (h : W.ownsRow B 9 1 v k xs) (hb : Below W.heap.size W W') : W'.ownsRow B 9 1 v k xs :=
  h.kept (row := none) (below_grown hb) (by rcases h.2 with ⟨rfl, _⟩ | ⟨g, cap, cur, rfl, _⟩ <;> simp [Value.ownBlock])
theorem boxed_below {W W' : World} {B : Nat} {t : TypeId} {v : Value} (h : Boxed W B t v) (hb : Below W.heap.size W W') : Boxed W' B t v := (hb.block B h.lt).trans h
theorem others_below {W W' : World} (hb : Below W.heap.size W W') : KeepsOthers W W' := ⟨hb.size, fun k _ hk _ => (hb.block k (Array.getElem?_eq_some_iff.1 hk).1).trans hk⟩

/-- What holds within the body's region. -/
structure RJ (Bl n₀ : Nat) (W0 : World) (v : Value) (k x : Nat) (xs : List Value) (s : ByteArray) (f0 f1 f2 f3 f4 f5 : Bool) (s12 s13 s14 s15 s16 : Value) (W : World) : Prop where
  kf : KeepsOthers W0 W
  kt : KeepT W0 W
  bel : Below n₀ W0 W
  siz : n₀ ≤ W.heap.size
  bx : f5 = false → Boxed W Bl 99 v
  own : f4 = false → W.ownsRow n₀ 9 1 v k xs
  l0 : f0 = true → s12 = v
  l1 : f1 = true → s13 = .int .u64 (x : Int)
  c2 : f2 = true → s14 = .string s
  b3 : f3 = true → f4 = false → ∃ p, s15 = .slice (some ⟨p, 0, none⟩) 1 1 ∧ W.heap[p]? = some (.cells #[.string s] 9 (0, 0))
  a4 : f4 = true → W.ownsRow n₀ 9 1 s16 (k + 1) (xs ++ [.string s]) ∧ ∃ g cap, s16 = .slice (some ⟨g, 0, none⟩) (k + 1) cap
  st : f5 = true → Boxed W Bl 99 s16
  d4 : f4 = true → f0 = true ∧ f3 = true
  d5 : f5 = true → f4 = true
  d3 : f3 = true → f2 = true
  d2 : f2 = true → f1 = true

theorem RJ.step {Bl n₀ : Nat} {W0 W W' : World} {v : Value} {k x : Nat} {xs : List Value} {s : ByteArray} {f0 f1 f2 f3 f4 f5 : Bool} {s12 s13 s14 s15 s16 : Value} (h : RJ Bl n₀ W0 v k x xs s f0 f1 f2 f3 f4 f5 s12 s13 s14 s15 s16 W) (hb : Below W.heap.size W W') :
    RJ Bl n₀ W0 v k x xs s f0 f1 f2 f3 f4 f5 s12 s13 s14 s15 s16 W' :=
  ⟨h.kf.trans (others_below hb), h.kt.trans (KeepT.below hb), h.bel.trans (hb.mono h.siz), Nat.le_trans h.siz hb.size, fun e => boxed_below (h.bx e) hb, fun e => kept_below (h.own e) hb, h.l0, h.l1, h.c2, fun e e' => by
    obtain ⟨p, a, b⟩ := h.b3 e e'
    exact ⟨p, a, (hb.block p (Array.getElem?_eq_some_iff.1 b).1).trans b⟩, fun e => ⟨kept_below (h.a4 e).1 hb, (h.a4 e).2⟩, fun e => boxed_below (h.st e) hb, h.d4, h.d5, h.d3, h.d2⟩
theorem others_grown {W W' : World} {B k : Nat} {v : Value} {xs : List Value} (hg : W.grownBy W' v.ownBlock) (h : W.ownsRow B 9 1 v k xs) : KeepsOthers W W' := KeepsOthers.of_grownBy hg (fun j o ej hj => by
  obtain ⟨cs, T, z, e, _⟩ := row_str h j ej
  rw [e] at hj; cases hj; rfl)
theorem bool_not {b : Bool} {p : Prop} (h : b = true → p) (hp : ¬ p) : b = false := by cases b with | false => rfl | true => exact absurd (h rfl) hp

theorem dec19 {x : Nat} (h : x < 10000000000000000000) : (Lib.decDigits x).length ≤ 19 := (pad_dec 19 x (by decide) (by simpa using h)).1

theorem padD_len : ∀ k r, (padD k r).length = k
  | 0, _ => rfl
  | k + 1, r => by rw [padD, List.length_append, padD_len k]; rfl
theorem joinG_len : ∀ (l : List Nat), (∀ x ∈ l, x < 10000000000000000000) → (joinG l).length ≤ 19 * l.length
  | [], _ => by simp [joinG]
  | [x], h => by rw [joinG]; have := dec19 (h x (by simp)); simpa using this
  | x :: y :: l, h => by
    rw [joinG, List.length_append, padD_len]
    have := joinG_len (y :: l) (fun z hz => h z (List.mem_cons_of_mem _ hz))
    simp only [List.length_cons] at this ⊢
    omega
theorem joinG_drop : ∀ (G : List Nat) (j : Nat), j + 1 < G.length → joinG (G.drop j) = joinG (G.drop (j + 1)) ++ padD 19 (G.getD j 0)
  | [], j, h => by simp at h
  | [x], j, h => by simp at h
  | x :: y :: l, 0, _ => by simp [joinG]
  | x :: y :: l, j + 1, h => by
    have := joinG_drop (y :: l) j (by simpa using h)
    simpa using this
theorem joinG_last : ∀ (G : List Nat) (q : Nat), G.length = q + 1 → joinG (G.drop q) = Lib.decDigits (G.getD q 0)
  | [], q, h => by simp at h
  | [x], q, h => by obtain rfl : q = 0 := by simpa using h.symm
                    simp [joinG]
  | x :: y :: l, 0, h => by simp at h
  | x :: y :: l, q + 1, h => by
    have := joinG_last (y :: l) q (by simpa using h)
    simpa using this

theorem bu_below {B b : Nat} {bs : List Value} {W W' : World} (h : Bu B b bs W) (hb : Below W.heap.size W W') : Bu B b bs W' := by
  rcases h with h | h
  · have hlt := h.lt
    obtain ⟨hB, v, hv, hown, hne⟩ := h
    exact .inl ⟨hB, v, (hb.block b hlt).trans hv, hown.kept (row := none) (below_grown hb) (Classical.em _), hne⟩
  · have hlt := h.lt
    obtain ⟨hB, v, hv, hown, hne⟩ := h
    exact .inr ⟨hB, v, (hb.block b hlt).trans hv, hown.kept (row := none) (below_grown hb) (Classical.em _), hne⟩
theorem size_mk (l : List UInt8) : (⟨l.toArray⟩ : ByteArray).size = l.length := rfl
theorem padded19 (x : Nat) (h : x < 10000000000000000000) (t u : ByteArray) (ht : t = ⟨(Lib.decDigits x).toArray⟩) (hu : u = ⟨(padD 19 x).toArray⟩) (w : World) :
    Calls Tryz.prog 24 #[.string t, .int .i64 19] w fun e w' => e = .returned (.string u) ∧ Below w.heap.size w w' := by
  have hpd := pad_dec 19 x (by decide) (by simpa using h)
  rw [ht, hu, hpd.2]
  exact padded_any (Lib.decDigits x) 19 w (Nat.le_trans hpd.1 (by decide)) (by decide)
def txs (pre : List Grp) : List Value := pre.map fun x => Value.string ⟨(Lib.decDigits x.1).toArray⟩

set_option maxRecDepth 100000 in
set_option maxHeartbeats 1000000 in
theorem decimals_any (y K : Nat) (v : Value) (w : World) (hA : Nt w v (y : Int) K) (hK : K ≤ 100000) (hN : (gls y).length ≤ 100000) (hT : Tab w) :
    Calls Tryz.prog 25 #[v] w fun e w' => e = .returned (.string ⟨(Lib.decDigits y).toArray⟩) ∧ Below w.heap.size w w' := by
  obtain ⟨ao, len, ca, rfl, _⟩ := Nt.opened hA
  have HA := hid hA; have HT := hid hT; have HN := hid hN
  clear hA hT hN
  refine (callsIn_wide (n := 5)).1 ?_
  refine callsIn_of_wp_marks Tryz.func25 rfl trivial ?_ rfl
  simp only [Tryz.ntmps25, List.size_toArray, List.length_cons, List.length_nil, Nat.reduceAdd, Nat.reduceSub, Array.replicate_succ, Array.replicate_zero, List.push_toArray, List.append_toArray, List.nil_append, List.cons_append]
  gi_wp2_with (refine ⟨trivial, ?_⟩; gi_at_call 58; refine (groups_in _ _ _ _ _).mono ?_; rintro e w' ⟨rfl, rfl⟩)
  obtain ⟨w0, hw0⟩ : ∃ w0, ((w.alloc (.cells #[] 9)).alloc (.cells #[.slice (some ⟨w.heap.size, 0, none⟩) 0 0] 99)) = w0 := ⟨_, rfl⟩
  have hB0 : Below w.heap.size w w0 := by rw [← hw0]; exact ((Below.refl _ w).alloc (Nat.le_refl _) _).alloc (by simp) _
  have hsz : w0.heap.size = w.heap.size + 2 := by rw [← hw0]; simp
  have hx0 : Boxed w0 (w.heap.size + 1) 99 (.slice (some ⟨w.heap.size, 0, none⟩) 0 0) := by
    rw [← hw0]
    have := Boxed.new (w.alloc (.cells #[] 9)) 99 (.slice (some ⟨w.heap.size, 0, none⟩) 0 0)
    rwa [World.size_alloc] at this
  have hr0 : w0.ownsRow w.heap.size 9 1 (.slice (some ⟨w.heap.size, 0, none⟩) 0 0) 0 [] := by
    rw [← hw0]
    refine ⟨by simp, .inr ⟨w.heap.size, 0, #[], rfl, Nat.le_refl _, ?_, Nat.le_refl _, by unfold maxLen; omega, by simp, by simp⟩⟩
    exact (Below.heap_alloc _ _ _ (by simp)).trans (World.alloc_heap_new w _)
  rw [hw0]
  have bN := Boxed.new w0 54 (.slice ao len ca)
  have hB1 : Below w.heap.size w (w0.alloc (.cells #[.slice ao len ca] 54)) := hB0.alloc hB0.size _
  refine wpIn_rangeFunc_ownG rfl (by omega) (gf := 106) (lb := #[.pointer (some ⟨w.heap.size + 1 + 1, 0, none⟩)]) rfl trivial (enters_of Tryz.func106 (by kernel_rfl) rfl)
    (groups1_any _ (by omega) (w.heap.size + 1 + 1) y K (by omega) ao len ca _ (by simp; omega) (by rw [← hsz]; exact bN.cell) (HA.out.below hB1 (Nat.le_refl _))) (fun h k => h.trans k) (fun W l o o' hl h1 h2 h3 => KeepT.put W l o o' hl h1 h2 h3) (Below.refl _ _) (fun _ => rfl)
    (fun pre W => (∃ v, Boxed W (w.heap.size + 1) 99 v ∧ W.ownsRow w.heap.size 9 1 v pre.length (txs pre) ∧ True) ∧ Below w.heap.size w W)
    (fun _ _ _ => False)
    (OwnFrom.and (Own.from (holdsRow_own w.heap.size (w.heap.size + 1) 99 9 1 (fun pre : List Grp => pre.length) txs (fun _ _ => True)) _) (ownFrom_below (Nat.le_refl _) (by simp; omega)))
    (fun _ _ _ _ _ hq _ _ => hq)
    ⟨⟨_, hx0.alloc _, hr0.alloc _, trivial⟩, hB1⟩
    (fun x => { tmps := #[.slice ao len ca, undef, .string ⟨#[]⟩, .pointer (some ⟨w.heap.size + 1, 0, none⟩), .int .u64 (x.1 : Int), undef, undef, undef, .slice (some ⟨w.heap.size, 0, none⟩) 0 0, .slice ao len ca, .func (.func 106) #[] #[.pointer (some ⟨w.heap.size + 1 + 1, 0, none⟩)], .int .u64 (x.1 : Int), undef, undef, undef, undef, undef, undef, undef, undef, undef, undef, undef, undef, undef, undef, undef, undef, undef, undef, undef, undef, undef, undef, undef, undef, undef, undef, undef, undef, undef], defers := [] }) ?assign ?body ?done ?stop
  case assign =>
    intro l x W K hK
    gi_wp2
    exact hK
  case body =>
    rintro l pre x W ⟨⟨v, hv, hr, _⟩, hB⟩ hlt
    have hk : pre.length ≤ 100000 := by have := HN.out; omega
    obtain ⟨s, hs⟩ : ∃ s : ByteArray, s = ⟨(Lib.decDigits x.1).toArray⟩ := ⟨_, rfl⟩
    have HF : ∀ (W' : World), Below w.heap.size w W' → CallsIn (Fence.wide.inRound l) 2 Tryz.prog 59 #[.int .u64 (x.1 : Int), .int .i64 10] W' fun e w2 => e = .returned (.string s) ∧ Below W'.heap.size W' w2 :=
      fun W' hb => CallsIn.inRound l (callsIn_wide.2 (by rw [hs]; exact format_any x.1 (by have := x.2; omega) W' (HT.out.below hb)))
    have hsz1 := hB.size
    obtain ⟨i0, hi0, hz0, hz1, hz2⟩ := info_parts Tryz.infoS
    have hxs : txs (pre ++ [x]) = txs pre ++ [.string s] := by rw [hs]; simp [txs]
    have hl1 : w.heap.size + 1 < W.heap.size := hv.lt
    have HX := hid hxs; have HV := hid hv; have HR := hid hr; have HB := hid hB; have HFh := hid HF
    clear HF hxs hs hv hr hB hlt hB0 hB1 hx0 hr0 bN HT HN HA hw0
    gi_wp2
    refine regionIn_inv (by kernel_rfl) (fun L act w' => ∃ f0 f1 f2 f3 f4 f5, L = #[f0, f1, f2, f3, f4, f5] ∧ ∃ s12 s13 s14 s15 s16, act = { tmps := #[.slice ao len ca, undef, .string ⟨#[]⟩, .pointer (some ⟨w.heap.size + 1, 0, none⟩), .int .u64 (x.1 : Int), undef, undef, undef, .slice (some ⟨w.heap.size, 0, none⟩) 0 0, .slice ao len ca, .func (.func 106) #[] #[.pointer (some ⟨w.heap.size + 1 + 1, 0, none⟩)], .int .u64 (x.1 : Int), s12, s13, s14, s15, s16, undef, undef, undef, undef, undef, undef, undef, undef, undef, undef, undef, undef, undef, undef, undef, undef, undef, undef, undef, undef, undef, undef, undef, undef], defers := [] } ∧ RJ (w.heap.size + 1) w.heap.size W v pre.length x.1 (txs pre) s f0 f1 f2 f3 f4 f5 s12 s13 s14 s15 s16 w') ?_ ?_ ?_
    · exact ⟨_, _, _, _, _, _, rfl, _, _, _, _, _, rfl, (KeepsOthers.refl _).trans (others_below (Below.refl _ _).drew), KeepT.below (Below.refl _ _).drew, (Below.refl _ _).drew, hsz1, fun _ => boxed_below HV.out (Below.refl _ _).drew, fun _ => kept_below HR.out (Below.refl _ _).drew, nofun, nofun, nofun, nofun, nofun, nofun, nofun, nofun, nofun, nofun⟩
    · rintro L act w' i hs ⟨f0, f1, f2, f3, f4, f5, rfl, s12, s13, s14, s15, s16, rfl, J⟩ hi
      obtain ⟨hi, hn, hd⟩ := waits_spec (dep := [[], [], [1], [2], [0, 3], [4]]) (by kernel_rfl) hi
      have hiN : i < 6 := hi
      have HJ := hid J
      rcases (show i = 0 ∨ i = 1 ∨ i = 2 ∨ i = 3 ∨ i = 4 ∨ i = 5 by omega) with rfl | rfl | rfl | rfl | rfl | rfl
      · obtain rfl : f0 = false := hn
        obtain rfl : f4 = false := bool_not J.d4 (by simp)
        obtain rfl : f5 = false := bool_not J.d5 (by simp)
        have hc := (J.bx rfl).cell
        clear J hd hi hiN
        refine wpOpIn_step rfl (fun kq hKq => ?_)
        go_simp
        exact hKq _ _ ⟨_, _, _, _, _, _, rfl, _, _, _, _, _, rfl, HJ.out.kf, HJ.out.kt, HJ.out.bel, HJ.out.siz, HJ.out.bx, HJ.out.own, fun _ => rfl, HJ.out.l1, HJ.out.c2, HJ.out.b3, nofun, nofun, nofun, nofun, HJ.out.d3, HJ.out.d2⟩
      · obtain rfl : f1 = false := hn
        obtain rfl : f2 = false := bool_not J.d2 (by simp)
        obtain rfl : f3 = false := bool_not J.d3 (by simp)
        obtain rfl : f4 = false := bool_not J.d4 (by simp)
        obtain rfl : f5 = false := bool_not J.d5 (by simp)
        clear J hd hi hiN
        refine wpOpIn_step rfl (fun kq hKq => ?_)
        go_simp
        exact hKq _ _ ⟨_, _, _, _, _, _, rfl, _, _, _, _, _, rfl, HJ.out.kf, HJ.out.kt, HJ.out.bel, HJ.out.siz, HJ.out.bx, HJ.out.own, HJ.out.l0, fun _ => rfl, nofun, nofun, nofun, nofun, nofun, nofun, nofun, nofun⟩
      · obtain rfl : f2 = false := hn
        obtain rfl : f3 = false := bool_not J.d3 (by simp)
        obtain rfl : f4 = false := bool_not J.d4 (by simp)
        obtain rfl : f5 = false := bool_not J.d5 (by simp)
        obtain rfl : f1 = true := hd 1 (by simp)
        have e13 : s13 = .int .u64 (x.1 : Int) := J.l1 rfl
        subst e13
        have hW := HFh.out w' (HB.out.trans J.bel)
        clear J hd hi hiN
        refine wpOpIn_step rfl (fun kq hKq => ?_)
        go_simp
        refine ⟨trivial, hW.mono ?_⟩
        rintro e w2 ⟨rfl, hb⟩
        have J2 := HJ.out.step hb
        exact hKq _ _ ⟨_, _, _, _, _, _, rfl, _, _, _, _, _, rfl, J2.kf, J2.kt, J2.bel, J2.siz, J2.bx, J2.own, J2.l0, fun _ => rfl, fun _ => rfl, nofun, nofun, nofun, nofun, nofun, nofun, fun _ => rfl⟩
      · obtain rfl : f3 = false := hn
        obtain rfl : f4 = false := bool_not J.d4 (by simp)
        obtain rfl : f5 = false := bool_not J.d5 (by simp)
        obtain rfl : f2 = true := hd 2 (by simp)
        obtain rfl : f1 = true := J.d2 rfl
        have e14 : s14 = .string s := J.c2 rfl
        subst e14
        clear J hd hi hiN
        refine wpOpIn_step rfl (fun kq hKq => ?_)
        go_simp
        have J2 := HJ.out.step (bl_new (w := w') (.cells #[.string s] 9))
        exact hKq _ _ ⟨_, _, _, _, _, _, rfl, _, _, _, _, _, rfl, J2.kf, J2.kt, J2.bel, J2.siz, J2.bx, J2.own, J2.l0, J2.l1, fun _ => rfl, fun _ _ => ⟨_, rfl, World.alloc_heap_new w' _⟩, nofun, nofun, nofun, nofun, fun _ => rfl, J2.d2⟩
      · obtain rfl : f4 = false := hn
        obtain rfl : f5 = false := bool_not J.d5 (by simp)
        obtain rfl : f0 = true := hd 0 (by simp)
        obtain rfl : f3 = true := hd 3 (by simp)
        have e12 : s12 = v := J.l0 rfl
        subst e12
        obtain ⟨p, e15, hp⟩ := J.b3 rfl rfl
        subst e15
        have ho := J.own rfl
        have hsz2 := J.siz
        have hbx := J.bx rfl
        clear J hd hi hiN
        refine wpOpIn_step rfl (fun kq hKq => ?_)
        rw [if_pos (by rfl)]
        refine wpIn_append_lies w' _ _ _ (by rfl) w.heap.size 9 i0 _ 1 16 Tryz.underlying99 hi0 hz0 hz1 hz2 rfl (by omega) s12 pre.length (txs pre) (by rfl) ho ⟨p, 0, none⟩ 1 1 [.string s] (by rfl) (by rfl) (World.news_of_block (cs := #[.string s]) (t := 9) (fr := (0, 0)) hp) (by simp [Value.oneCell']) (by omega) (by unfold maxLen; omega) (by omega) hsz2 ?_
        intro g cap w2 hown hgrow
        exact hKq _ _ ⟨_, _, _, _, _, _, rfl, _, _, _, _, _, rfl, HJ.out.kf.trans (others_grown hgrow ho), HJ.out.kt.trans (KeepT.grown hgrow (row_str ho)), HJ.out.bel.grown hgrow hsz2 (row_low ho), Nat.le_trans hsz2 hgrow.size, fun _ => hbx.kept hgrow (hbx.not_row (by decide) ho), nofun, fun _ => rfl, HJ.out.l1, HJ.out.c2, nofun, fun _ => ⟨hown, _, _, rfl⟩, nofun, fun _ => ⟨rfl, rfl⟩, nofun, HJ.out.d3, HJ.out.d2⟩
      · obtain rfl : f5 = false := hn
        obtain rfl : f4 = true := hd 4 (by simp)
        obtain ⟨ho, g, cap, e16⟩ := J.a4 rfl
        subst e16
        have hbx := J.bx rfl
        have hc := hbx.cell
        have hf := hbx.frozen
        clear J hd hi hiN
        refine wpOpIn_step rfl (fun kq hKq => ?_)
        go_simp
        exact hKq _ _ ⟨_, _, _, _, _, _, rfl, _, _, _, _, _, rfl, HJ.out.kf.trans (KeepsOthers.setCell _ _ _), HJ.out.kt.trans (KeepT.grown (grownBy_setCell' w' (w.heap.size + 1) _) (fun r hr => by cases hr; exact ⟨_, _, _, hbx, by decide⟩)), HJ.out.bel.setCell (p := ⟨w.heap.size + 1, 0, none⟩) (by simp) _, by simpa using HJ.out.siz, nofun, nofun, HJ.out.l0, HJ.out.l1, HJ.out.c2, (fun _ e => by cases e), fun _ => ⟨ho.kept (grownBy_setCell' w' (w.heap.size + 1) _) (.inr (hbx.not_row (by decide) ho).symm), _, _, rfl⟩, fun _ => hbx.set _, HJ.out.d4, fun _ => rfl, HJ.out.d3, HJ.out.d2⟩
    · rintro L act w' hs ⟨f0, f1, f2, f3, f4, f5, rfl, s12, s13, s14, s15, s16, rfl, J⟩ hr
      have hd := early_done (by kernel_rfl) hs hr 6
      obtain rfl : f4 = true := hd 4 (by omega) (by simp)
      obtain rfl : f5 = true := hd 5 (by omega) (by simp)
      have h1 := J.st rfl
      obtain ⟨h2, _⟩ := J.a4 rfl
      gi_wp2
      exact ⟨J.kf.from _, J.kt, ⟨_, h1, by rw [HX.out]; simpa using h2, trivial⟩, HB.out.trans J.bel⟩
  case done =>
    rintro D ys W hD hys ⟨⟨v, hv, hr, _⟩, hB⟩ hK
    have hl1 : w.heap.size + 1 < W.heap.size := hv.lt
    have hc := hv.cell
    obtain ⟨a, c, rfl⟩ : ∃ a c, v = .slice a ys.length c := by
      rcases hr.2 with ⟨rfl, h0⟩ | ⟨g, cap, cur, rfl, _⟩
      · exact ⟨none, 0, by rw [h0]⟩
      · exact ⟨_, _, rfl⟩
    obtain ⟨m, hm⟩ : ∃ m, m = ys.length := ⟨_, rfl⟩
    rw [← hm] at hc hr hv
    cases m with
    | zero =>
      have h0 : gls y = [] := by rw [← hys, List.eq_nil_of_length_eq_zero hm.symm]; rfl
      have hy : y = 0 := by
        rcases Nat.eq_zero_or_pos y with h | h
        · exact h
        · exact absurd h0 (gls_ne (by omega))
      subst hy
      have HB := hid hB; have HK := hid hK; have HD := hid hD
      clear hB hB0 hB1 hx0 hr0 bN HT HN HA hw0 hr hv hys h0 hm hK hD
      gi_wp2
      refine ⟨by simp, .inl ⟨_, _, rfl, run_takeDeferred HK.out, ?_⟩⟩
      refine ⟨_, results_tmp rfl _ _ _, ?_, HB.out.trans (belowK_b (w := w) (Nat.le_refl _) W D _ _ (by have := HD.out; simp at this; omega) HK.out rfl rfl)⟩
      refine congrArg (fun t => Ending.returned (Value.string t)) ?_
      rw [dec_small (by decide)]
      rfl
    | succ q =>
      obtain ⟨g, cap, e, hg0, hgl⟩ := hr.form (by omega)
      cases e
      have hG : (gls y).length = q + 1 := by rw [← hys, List.length_map]; exact hm.symm
      have hy : y ≠ 0 := by rintro rfl; rw [gls_zero] at hG; simp at hG
      have hlt : ∀ x ∈ gls y, x < 10000000000000000000 := by
        intro x hx
        rw [← hys, List.mem_map] at hx
        obtain ⟨z, _, rfl⟩ := hx
        exact z.2
      have HC := hid (fun (j : Nat) (hj : j < q + 1) => show W.cell? ⟨g, j, none⟩ = some (.string ⟨(Lib.decDigits ((gls y).getD j 0)).toArray⟩) by
        rw [hr.cellAt j (by omega), ← hys]
        have hj' : j < ys.length := by omega
        simp [txs, hj'])
      have HG := hid (show ∀ j, j < q + 1 → (gls y).getD j 0 < 10000000000000000000 from fun j hj => by
        rw [List.getD_eq_getElem?_getD, List.getElem?_eq_getElem (by omega), Option.getD_some]
        exact hlt _ (List.getElem_mem _))
      have HLast := hid (joinG_last (gls y) q hG)
      have HDrop := hid (fun j (hj : j < q) => joinG_drop (gls y) j (by omega))
      have HAll := hid (show joinG ((gls y).drop 0) = Lib.decDigits y by rw [List.drop_zero]; exact join_gls y y (Nat.le_refl _) hy)
      have HJL := hid (fun j => show (joinG ((gls y).drop j)).length ≤ 1900000 + 19 by
        have := joinG_len ((gls y).drop j) (fun x hx => hlt x (List.mem_of_mem_drop hx))
        have h2 := HN.out
        rw [List.length_drop] at this
        omega)
      have hBu := Lib.fresh_isBuilder 107 5 W
      have hq5 : q < 100000 := by have := HN.out; omega
      have HW := hid (fun (bs : List Value) (s : ByteArray) w' (h : Bu W.heap.size W.heap.size bs w') (hs : bs.length + s.size ≤ 10000000) (h2 : W.heap.size ≤ w'.heap.size) => writeString_any W.heap.size W.heap.size bs s w' h (by omega) h2)
      have HB := hid hB; have HK := hid hK; have HD := hid hD
      obtain ⟨sq, hsq⟩ : ∃ s : ByteArray, s = ⟨(Lib.decDigits ((gls y).getD q 0)).toArray⟩ := ⟨_, rfl⟩
      have hcq := HC.out q (by omega)
      rw [← hsq] at hcq
      have HS := hid hsq
      have hqI : ((q + 1 : Nat) : Int) - 1 = (q : Int) := by omega
      have hqz : ¬ ((q + 1 : Nat) : Int) = 0 := by omega
      have hl2 : g < W.heap.size := hgl
      have hlq : sq.size ≤ 19 := by rw [hsq]; exact dec19 (HG.out q (by omega))
      clear hsq hB hB0 hB1 hx0 hr0 bN HT HA hw0 hr hv hys hm hK hD hlt hG hy hg0 hgl
      gi_wp2_with (refine ⟨trivial, ?_⟩; gi_at_call 60; refine (callsIn_wide.2 (HW.out _ _ _ hBu (by simp; omega) (by simp))).mono ?_; rintro e w2 ⟨rfl, hb2, hbel⟩)
      have hbW : Below W.heap.size W w2 := (bl_new _).trans hbel
      have HB2 : Hid (Bu W.heap.size W.heap.size (Lib.byteCells (joinG ((gls y).drop q))) w2) := hid (by
        have h := hb2
        rw [List.nil_append, HS.out] at h
        rw [HLast.out]
        exact h)
      have HC1 := hid hc
      have HBW := hid hbW
      clear hb2 hbel hc hcq hbW hBu hlq HS HLast
      gi_loopw [7] (fun p wr => ∃ i : Nat, i ≤ q ∧ p = .int .i64 ((i : Int) - 1) ∧ Bu W.heap.size W.heap.size (Lib.byteCells (joinG ((gls y).drop i))) wr ∧ Below W.heap.size W wr) (fun p _ => (intOf p + 1).toNat)
      case atStart => exact ⟨q, Nat.le_refl _, rfl, HB2.out, HBW.out⟩
      case round =>
        obtain ⟨i, hiq, rfl, hbu, hbw⟩ := hrel
        cases i with
        | zero =>
          rw [HAll.out] at hbu
          have HBU := hid hbu; have HBWr := hid hbw
          clear hbu hbw
          gi_wp2_with (refine ⟨trivial, ?_⟩; gi_at_call 61; refine (callsIn_wide.2 (bstring_any W.heap.size W.heap.size (Lib.decDigits y) _ HBU.out HBWr.out.size)).mono ?_; rintro e w3 ⟨rfl, hbel2⟩)
          have hKD := HK.out
          have hDl := (Array.getElem?_eq_some_iff.1 hKD).1
          have hK3 : w3.heap[D]? = some (.deferred (some [])) := by
            rw [hbel2.block D hDl, HBWr.out.block D hDl]; exact hKD
          have hsB := HB.out.size
          have hB3 : Below w.heap.size w w3 := (HB.out.trans (HBWr.out.mono hsB)).trans (hbel2.mono hsB)
          refine ⟨by simp, .inl ⟨_, _, rfl, run_takeDeferred hK3, ?_⟩⟩
          exact ⟨_, results_tmp rfl _ _ _, rfl, hB3.trans (belowK_b (w := w) (Nat.le_refl _) w3 D _ _ (by have := HD.out; simp at this; omega) hK3 rfl rfl)⟩
        | succ j =>
          have hjq : j < q := by omega
          have hc1 : wr.cell? ⟨w.heap.size + 1, 0, none⟩ = some (.slice (some ⟨g, 0, none⟩) (q + 1) c) := (hbw.cell (p := ⟨w.heap.size + 1, 0, none⟩) hl1).trans HC1.out
          obtain ⟨t, ht⟩ : ∃ t : ByteArray, t = ⟨(Lib.decDigits ((gls y).getD j 0)).toArray⟩ := ⟨_, rfl⟩
          have hc2 : wr.cell? ⟨g, j, none⟩ = some (.string t) := by rw [ht]; exact (hbw.cell (p := ⟨g, j, none⟩) hl2).trans (HC.out j (by omega))
          obtain ⟨u, hu⟩ : ∃ u : ByteArray, u = ⟨(padD 19 ((gls y).getD j 0)).toArray⟩ := ⟨_, rfl⟩
          have HP := hid (padded19 ((gls y).getD j 0) (HG.out j (by omega)) t u ht hu wr)
          have hul : u.size = 19 := by rw [hu, size_mk, padD_len]
          have HW2 := hid (fun w' (hb : Below wr.heap.size wr w') => HW.out (Lib.byteCells (joinG ((gls y).drop (j + 1)))) u w' (bu_below hbu hb) (by
            have := HJL.out (j + 1)
            rw [Lib.byteCells_length]
            omega) (Nat.le_trans hbw.size hb.size))
          have HU := hid hu
          have HBWr := hid hbw
          have hj0 : (0 : Int) ≤ (j : Int) := by omega
          have hj1 : (j : Int) < (q : Int) + 1 := by omega
          clear hbu hbw ht hu hul
          gi_wp2_with (refine ⟨trivial, ?_⟩; gi_at_call 24; refine (callsIn_wide.2 HP.out).mono ?_; rintro e w3 ⟨rfl, hb3⟩)
          gi_wp2_with (refine ⟨trivial, ?_⟩; gi_at_call 60; refine (callsIn_wide.2 (HW2.out _ hb3)).mono ?_; rintro e w4 ⟨rfl, hbu4, hb4⟩)
          go_roundw
          case rel =>
            refine ⟨j, by omega, rfl, ?_, (HBWr.out.trans (hb3.mono HBWr.out.size)).trans hb4⟩
            rw [HDrop.out j hjq]
            rw [HU.out] at hbu4
            rw [Lib.byteCells_append]
            exact hbu4
          case measure => simp [intOf]
  case stop =>
    rintro D c pre W _ _ h _
    exact h.elim
end Go.Proofs.YtbapeilpkhbbeaaGreatDoor
