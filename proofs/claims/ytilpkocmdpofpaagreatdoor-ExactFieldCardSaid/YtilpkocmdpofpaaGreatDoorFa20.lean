/- exact.shiftLeft. Naturals that lie in rows of their own. -/
import Derived.Test.YtilpkocmdpofpaaGreatDoorFa16
import Derived.Test.YtilpkocmdpofpaaGreatDoorFa03
/- exact.shiftLeft. -/
namespace Go.Proofs.YtilpkocmdpofpaaGreatDoor
open Go.RowKit

theorem or_low (h l : Int) (s : Nat) (h0 : 0 ≤ h) (h1 : h * 2 ^ s < 18446744073709551616) (l0 : 0 ≤ l) (l1 : l < 2 ^ s) (l2 : l < 18446744073709551616) : bits .or .u64 l (h * 2 ^ s) = l + h * 2 ^ s := by
  have hc := or_disj h l s h0 h1 l0 l1 l2
  obtain ⟨a, rfl⟩ := Int.eq_ofNat_of_zero_le h0
  obtain ⟨b, rfl⟩ := Int.eq_ofNat_of_zero_le l0
  have e : ((a : Int) * 2 ^ s) = ((a * 2 ^ s : Nat) : Int) := by simp
  rw [e] at hc h1 ⊢
  rw [bits_or_u64_nat _ _ (by omega) (by omega)] at hc ⊢
  rw [Nat.or_comm]; omega

theorem pow_split {s : Nat} (hs : s ≤ 63) : (0 : Int) < 2 ^ s ∧ (0 : Int) < 2 ^ (64 - s) ∧ (2 : Int) ^ (64 - s) * 2 ^ s = B64 :=
  ⟨Int.pow_pos (by decide), Int.pow_pos (by decide), by rw [← Int.pow_add, Nat.sub_add_cancel (by omega)]; rfl⟩

/-- A limb, shifted: what stays in the place, and what goes on. -/
theorem shl_step {x h : Int} {s : Nat} (hs : s ≤ 63) (x0 : 0 ≤ x) (x1 : x < B64) (h0 : 0 ≤ h) (h1 : h < 2 ^ s) :
    let lo := bits .or .u64 h (IntKind.u64.wrap (x * 2 ^ s))
    let up := x / 2 ^ (64 - s)
    0 ≤ lo ∧ lo < B64 ∧ 0 ≤ up ∧ up < 2 ^ s ∧ lo + B64 * up = h + x * 2 ^ s := by
  obtain ⟨p1, p2, p3⟩ := pow_split hs
  have hw : IntKind.u64.wrap (x * 2 ^ s) = (x % 2 ^ (64 - s)) * 2 ^ s := by
    rw [IntKind.wrap_u64, show (18446744073709551616 : Int) = 2 ^ (64 - s) * 2 ^ s from p3.symm]
    rw [Int.mul_comm x, Int.mul_comm (2 ^ (64 - s)) (2 ^ s), Int.mul_emod_mul_of_pos _ _ p1, Int.mul_comm]
  have m0 := Int.emod_nonneg x (show (2 : Int) ^ (64 - s) ≠ 0 by omega)
  have m1 := Int.emod_lt_of_pos x p2
  have me := Int.emod_add_mul_ediv x (2 ^ (64 - s))
  have hm : (x % 2 ^ (64 - s) + 1) * 2 ^ s ≤ B64 := by rw [← p3]; exact Int.mul_le_mul_of_nonneg_right (by omega) (Int.le_of_lt p1)
  rw [Int.add_mul] at hm
  have hh : h < 18446744073709551616 := by
    have : (2 : Int) ^ s ≤ B64 := by have := Int.mul_nonneg m0 (Int.le_of_lt p1); omega
    unfold B64 at this; omega
  have ho := or_low (x % 2 ^ (64 - s)) h s m0 (by unfold B64 at hm; omega) h0 h1 hh
  have hx2 : x * 2 ^ s = x % 2 ^ (64 - s) * 2 ^ s + B64 * (x / 2 ^ (64 - s)) := by
    rw [← p3]
    have e : x * 2 ^ s = (x % 2 ^ (64 - s) + 2 ^ (64 - s) * (x / 2 ^ (64 - s))) * 2 ^ s := by rw [me]
    rw [e]; grind
  have mp := Int.mul_nonneg m0 (Int.le_of_lt p1)
  simp only [hw, ho]
  refine ⟨by omega, by omega, Int.ediv_nonneg x0 (Int.le_of_lt p2), Int.ediv_lt_of_lt_mul p2 (by rw [Int.mul_comm, p3]; exact x1), by omega⟩

structure ShlI (w wr : World) (g : Nat) (LA : List Int) (wh pt k : Nat) (Q : List Int) (h : Int) : Prop where
  row : Row .u64 91 wr g (List.replicate wh 0 ++ (Q ++ (h :: List.replicate (LA.length - k) 0)))
  gr : w.grownBy wr (some g)
  len : Q.length = k
  dig : Dig B64 Q
  h0 : 0 ≤ h
  h1 : h < 2 ^ pt
  eq : val B64 Q + B64 ^ k * h = val B64 (LA.take k) * 2 ^ pt

theorem set_mid {wh : Nat} {Q S : List Int} {h y : Int} {i : Nat} (hi : i = wh + Q.length) : (List.replicate wh (0 : Int) ++ (Q ++ (h :: S))).set i y = List.replicate wh 0 ++ (Q ++ (y :: S)) := by
  rw [hi, List.set_append_right _ _ (by simp), List.length_replicate, Nat.add_sub_cancel_left, List.set_append_right _ _ (Nat.le_refl _), Nat.sub_self, List.set_cons_zero]

theorem ShlI.cells {w wr : World} {g : Nat} {LA Q : List Int} {wh pt k : Nat} {h : Int} (H : ShlI w wr g LA wh pt k Q h) (hk : k < LA.length) :
    wr.cell? ⟨g, k + wh, none⟩ = some (.int .u64 h) ∧ wr.cell? ⟨g, k + wh + 1, none⟩ = some (.int .u64 0) := by
  have hl := H.len
  constructor
  · rw [H.row.cell (k + wh) (by simp; omega), List.getElem?_append_right (by simp), List.length_replicate, List.getElem?_append_right (by omega), show k + wh - wh - Q.length = 0 by omega]; rfl
  · rw [H.row.cell (k + wh + 1) (by simp; omega), List.getElem?_append_right (by simp; omega), List.length_replicate, List.getElem?_append_right (by omega), show k + wh + 1 - wh - Q.length = 1 by omega]
    cases LA.length - k <;> simp [List.replicate_succ]

theorem ShlI.step {w wr : World} {g : Nat} {LA Q : List Int} {wh pt k : Nat} {h x : Int} (H : ShlI w wr g LA wh pt k Q h) (hp : pt ≤ 63) (hk : k < LA.length) (hx : x = LA[k]?.getD 0) (x0 : 0 ≤ x) (x1 : x < B64) :
    ShlI w ((wr.drew.setCell ⟨g, k + wh, none⟩ (.int .u64 (bits .or .u64 h (IntKind.u64.wrap (x * 2 ^ pt))))).setCell ⟨g, k + wh + 1, none⟩ (.int .u64 (x / 2 ^ (64 - pt)))) g LA wh pt (k + 1) (Q ++ [bits .or .u64 h (IntKind.u64.wrap (x * 2 ^ pt))]) (x / 2 ^ (64 - pt)) := by
  obtain ⟨a, b, c, d, e⟩ := shl_step hp x0 x1 H.h0 H.h1
  have hl := H.len
  generalize bits .or .u64 h (IntKind.u64.wrap (x * 2 ^ pt)) = lo at *
  generalize x / 2 ^ (64 - pt) = up at *
  have hr : Row .u64 91 wr.drew g (List.replicate wh 0 ++ (Q ++ (h :: List.replicate (LA.length - k) 0))) := H.row
  have h1 := hr.set (k + wh) lo
  rw [set_mid (by omega)] at h1
  have hz : LA.length - k = (LA.length - (k + 1)) + 1 := by omega
  rw [hz, List.replicate_succ] at h1
  have h2 := h1.set (k + wh + 1) up
  have e1 : List.replicate wh (0 : Int) ++ (Q ++ (lo :: 0 :: List.replicate (LA.length - (k + 1)) 0)) = List.replicate wh 0 ++ ((Q ++ [lo]) ++ (0 :: List.replicate (LA.length - (k + 1)) 0)) := by simp
  rw [e1, set_mid (by simp; omega)] at h2
  refine ⟨h2, grown_trans (grown_trans (grown_drew H.gr) (grown_set _ _ _ _)) (grown_set _ _ _ _), by simp [hl], H.dig.append (Dig.cons a b (Dig.nil _)), c, d, ?_⟩
  rw [val_snoc, hl, val_take_succ B64 LA k hk, ← hx, Int.pow_succ]
  have e2 := H.eq
  grind

set_option maxRecDepth 100000 in
set_option maxHeartbeats 2000000 in
theorem shiftLeft_any (va : Value) (a : Int) (s K : Nat) (w : World) (hA : Nt w va a K) (hK : K ≤ 1073741824) (hs : s ≤ 1073741824) :
    Calls Tryz.prog 99 #[va, .int .i64 (s : Int)] w (RetN w (a * 2 ^ s) (K + s / 64 + 1)) := by
  obtain ⟨ao, ca, LA, rfl, hA⟩ := hA
  obtain ⟨n, hn⟩ : ∃ n, n = LA.length := ⟨_, rfl⟩
  have hn30 : n ≤ 1073741824 := by have := hA.le; omega
  obtain ⟨wh, hwh⟩ : ∃ wh, wh = s / 64 := ⟨_, rfl⟩
  obtain ⟨pt, hpt⟩ : ∃ pt, pt = s % 64 := ⟨_, rfl⟩
  have e1 : (s : Int) / 64 = (wh : Int) := by omega
  have e2 : (s : Int) % 64 = (pt : Int) := by omega
  have hp63 : pt ≤ 63 := by omega
  have hw30 : wh ≤ 1073741824 := by omega
  rw [← hn, ← hwh]
  have hpow : (2 : Int) ^ s = B64 ^ wh * 2 ^ pt := by
    have : s = 64 * wh + pt := by omega
    rw [this, Int.pow_add, Int.pow_mul]; rfl
  have HA := hid hA; have Hn := hid hn; have HP := hid hpow
  clear hA hn hwh hpt hpow
  obtain ⟨i0, hi, hz0, hz1, hz2⟩ := info_parts Tryz.info91
  go_enter Tryz.func99, Tryz.ntmps99
  go_wp2_with (at_make; refine wpList_make_row w rfl _ _ 82 rfl 91 i0 .u64 Tryz.underlying82 hi hz0 hz1 .i64 .i64 _ _ (n + wh + 1) rfl rfl (by omega) (by omega) (by rw [hz2]; omega) (by unfold maxLen; omega) ?_)
  intro w1 hrow hg1
  have hb1 := grown_below hg1
  have H0 : ShlI w w1 w.heap.size LA wh pt 0 [] 0 := by
    refine ⟨?_, grown_any hg1, rfl, Dig.nil _, Int.le_refl 0, (pow_split hp63).1, by simp [val]⟩
    have e : List.replicate wh (0 : Int) ++ ([] ++ (0 :: List.replicate (LA.length - 0) 0)) = List.replicate (n + wh + 1) 0 := by
      rw [List.nil_append, ← List.replicate_succ, List.replicate_append_replicate, Nat.sub_zero, ← Hn.out]; congr 1; omega
    rw [e]; exact hrow
  have HG1 := hid (HA.out.rd.ne (Nat.le_refl w.heap.size))
  clear hrow hg1
  go_wp2
  go_loopw [22] (fun iv wr => ∃ k : Nat, ∃ Q h, k ≤ n ∧ iv = .int .i64 k ∧ ShlI w wr w.heap.size LA wh pt k Q h ∧ Below w.heap.size w wr) (fun iv _ => n - (intOf iv).toNat)
  case atStart => exact ⟨0, [], 0, Nat.zero_le _, rfl, H0, hb1⟩
  case round =>
    obtain ⟨k, Q, h, hk, rfl, H, hb⟩ := hrel
    by_cases hlt : k < n
    · obtain ⟨b, o, rfl⟩ := HA.out.rd.adr (by have := Hn.out; omega)
      have hc := (HA.out.rd.keptNew H.gr HG1.out).cell b o rfl k (by have := Hn.out; omega)
      have hd := HA.out.dig.at B64_pos k
      obtain ⟨x, hx⟩ : ∃ x, x = LA[k]?.getD 0 := ⟨_, rfl⟩
      rw [← hx] at hc hd
      have HS := hid (H.step hp63 (by have := Hn.out; omega) hx hd.1 hd.2)
      obtain ⟨c0, c1⟩ := H.cells (by have := Hn.out; omega)
      have f0 := H.row.frozen (k + wh)
      have f1 := H.row.frozen (k + wh + 1)
      have hh0 := H.h0
      have hx0 := hd.1
      clear H H0 hb1 hd hx
      go_wp2
      go_region
      all_goals go_wp2
      go_roundw
      case rel => exact ⟨k + 1, _, _, by omega, by go_num, HS.out, ((hb.drew.setCell (Nat.le_refl _) _).setCell (Nat.le_refl _) _)⟩
      case measure => simp [intOf]; omega
    · obtain rfl : k = n := by omega
      have hr := H.row
      rw [← Hn.out, Nat.sub_self, List.replicate_zero] at hr
      have hv : val B64 (List.replicate wh 0 ++ (Q ++ [h])) = a * 2 ^ s := by
        rw [val_append, val_replicate, List.length_replicate, val_snoc, H.len, H.eq, Hn.out, List.take_length, HA.out.eq, HP.out]; grind
      have hl : (List.replicate wh (0 : Int) ++ (Q ++ [h])).length = k + wh + 1 := by simp [H.len]; omega
      have hh : h < B64 := by
        have := (pow_split hp63)
        have := Int.mul_le_mul_of_nonneg_right (show (1 : Int) ≤ 2 ^ (64 - pt) by omega) (Int.le_of_lt this.1)
        have := H.h1; omega
      have hdg : Dig B64 (List.replicate wh 0 ++ (Q ++ [h])) := (Dig.replicate B64_pos _).append (H.dig.append (Dig.cons H.h0 hh (Dig.nil _)))
      have ht := trim64_any (some ⟨w.heap.size, 0, none⟩) (k + wh + 1) _ wr (row_rd hr (by omega) (by omega))
      rw [hl] at ht
      have hres := nt_row (c := k + wh + 1) (K := K + wh + 1) hr hdg hv (by omega) (by omega) (by have := HA.out.le; have := Hn.out; omega)
      have HT := hid ht; have Hres := hid hres
      clear ht hres hr hv hl hh hdg H H0 hb1
      go_wp2_with (go_at_call 136; refine HT.out.mono ?_; rintro e w2 ⟨rfl, rfl⟩)
      go_ret
      exact ⟨_, rfl, Hres.out, hb⟩

end Go.Proofs.YtilpkocmdpofpaaGreatDoor

/- Naturals that lie in rows of their own. -/
namespace Go.Proofs.YtilpkocmdpofpaaGreatDoor
open Go.RowKit

/-- A number in a row of its own: the limbs L, behind them S. -/
structure OwnL (w : World) (B g c : Nat) (L S : List Int) (n : Int) : Prop where
  row : Row .u64 91 w g (L ++ S)
  dig : Dig B64 L
  nrm : Nrm L
  eq : val B64 L = n
  cap : L.length ≤ c
  most : c ≤ 9223372036854775807
  base : B ≤ g

theorem own_trim {w : World} {B g c : Nat} {L S : List Int} {n : Int} (h : Row .u64 91 w g (L ++ S)) (hd : Dig B64 L) (hv : val B64 L = n) (hc : L.length ≤ c) (hm : c ≤ 9223372036854775807) (hb : B ≤ g) :
    OwnL w B g c (trimL L) (L.drop (trimL L).length ++ S) n := by
  refine ⟨?_, hd.trim, Nrm.trim L, by rw [val_trim]; exact hv, Nat.le_trans (trimL_len L) hc, hm, hb⟩
  have e : trimL L ++ (L.drop (trimL L).length ++ S) = L ++ S := by
    rw [← List.append_assoc]
    have h2 := List.take_append_drop (trimL L).length L
    rw [← trimL_take L] at h2
    rw [h2]
  rw [e]; exact h
theorem OwnL.rd {w : World} {B g c : Nat} {L S : List Int} {n : Int} (h : OwnL w B g c L S n) : Rd w .u64 (some ⟨g, 0, none⟩) c L := by
  have h' : Row .u64 91 w g ([] ++ L ++ S) := by simpa using h.row
  exact h'.rd h.cap h.most
theorem OwnL.ntl {w : World} {B g c : Nat} {L S : List Int} {n : Int} (h : OwnL w B g c L S n) : NtL w (some ⟨g, 0, none⟩) c L n L.length := ⟨h.rd, h.dig, h.nrm, h.eq, Nat.le_refl _⟩
theorem OwnL.nt {w : World} {B g c : Nat} {L S : List Int} {n : Int} (h : OwnL w B g c L S n) {K : Nat} (hK : L.length ≤ K) : Nt w (.slice (some ⟨g, 0, none⟩) L.length c) n K := ⟨_, c, L, rfl, h.rd, h.dig, h.nrm, h.eq, hK⟩
theorem OwnL.below {w w' : World} {B B' g c : Nat} {L S : List Int} {n : Int} (h : OwnL w B g c L S n) (hb : Below B' w w') (hB : w.heap.size ≤ B') : OwnL w' B g c L S n :=
  ⟨h.row.kept (below_grown (hb.mono hB)) (by simp), h.dig, h.nrm, h.eq, h.cap, h.most, h.base⟩

/-- Such a number, or nothing: 0. -/
def OwnV (w : World) (B : Nat) (v : Value) (n : Int) (K : Nat) : Prop := (∃ g c L S, v = .slice (some ⟨g, 0, none⟩) L.length c ∧ OwnL w B g c L S n ∧ L.length ≤ K) ∨ (v = .slice none 0 0 ∧ n = 0)
theorem OwnV.nt {w : World} {B : Nat} {v : Value} {n : Int} {K : Nat} (h : OwnV w B v n K) : Nt w v n K := by
  rcases h with ⟨g, c, L, S, rfl, h, hK⟩ | ⟨rfl, rfl⟩
  · exact h.nt hK
  · exact (Nt.nil w).mono (Nat.zero_le _)
theorem OwnL.base_le {w : World} {B B' g c : Nat} {L S : List Int} {n : Int} (h : OwnL w B g c L S n) (hb : B' ≤ B) : OwnL w B' g c L S n := ⟨h.row, h.dig, h.nrm, h.eq, h.cap, h.most, Nat.le_trans hb h.base⟩
theorem OwnV.base_le {w : World} {B B' : Nat} {v : Value} {n : Int} {K : Nat} (h : OwnV w B v n K) (hb : B' ≤ B) : OwnV w B' v n K := by
  rcases h with ⟨g, c, L, S, e, h, hK⟩ | h
  · exact .inl ⟨g, c, L, S, e, h.base_le hb, hK⟩
  · exact .inr h
theorem OwnV.below {w w' : World} {B B' : Nat} {v : Value} {n : Int} {K : Nat} (h : OwnV w B v n K) (hb : Below B' w w') (hB : w.heap.size ≤ B') : OwnV w' B v n K := by
  rcases h with ⟨g, c, L, S, e, h, hK⟩ | h
  · exact .inl ⟨g, c, L, S, e, h.below hb hB, hK⟩
  · exact .inr h
/-- The call hands back such a number in new memory. -/
def RetOwn (w : World) (n : Int) (K : Nat) (e : Ending) (w' : World) : Prop := ∃ v, e = .returned v ∧ OwnV w' w.heap.size v n K ∧ Below w.heap.size w w'
theorem own_row {w : World} {B g c : Nat} {L : List Int} {n : Int} {K : Nat} (h : Row .u64 91 w g L) (hd : Dig B64 L) (hv : val B64 L = n) (hc : L.length ≤ c) (hm : c ≤ 9223372036854775807) (hK : L.length ≤ K) (hb : B ≤ g) : OwnV w B (.slice (some ⟨g, 0, none⟩) (trimL L).length c) n K :=
  .inl ⟨g, c, _, _, rfl, own_trim (S := []) (by simpa using h) hd hv hc hm hb, Nat.le_trans (trimL_len L) hK⟩

end Go.Proofs.YtilpkocmdpofpaaGreatDoor
