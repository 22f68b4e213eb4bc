/- The document's ratios: Whole; the law's spoilRatio. -/
import Derived.Test.YtbapeilpkhbbeaaGreatDoorYn39
import Derived.Test.YtbapeilpkhbbeaaGreatDoorYn26
/- The document's ratios: Whole; the law's spoilRatio. -/
namespace Go.Proofs.YtbapeilpkhbbeaaGreatDoor
open Go.RowKit

set_option maxRecDepth 100000 in
set_option maxHeartbeats 1000000 in
theorem rwhole_any (u : Value) (x : Int) (K : Nat) (w : World) (hu : Zt w u x K) (hK : 4 ≤ K) :
    Calls Tryz.prog 28 #[u] w fun e w' => ∃ f, e = .returned f ∧ Qt w' f x 1 K ∧ Below w.heap.size w w' := by
  obtain ⟨xb, xo, xm, xc, rfl, Hx, _, _⟩ := Zt.opened hu
  clear hu
  obtain ⟨W0, hW0⟩ : ∃ W0, W0 = ((w.alloc (.cells #[.bool xb, .slice xo xm xc] 31)).alloc (.cells #[.bool false, .slice none 0 0, .bool false, .slice none 0 0] 33)) := ⟨_, rfl⟩
  have hB0 : Below w.heap.size w W0 := by rw [hW0]; exact ((Below.refl _ _).alloc (Nat.le_refl _) _).alloc (by simp) _
  have hz0 : W0.heap.size = w.heap.size + 2 := by rw [hW0]; simp
  have HS : Hid (∀ w', Below (w.heap.size + 1) W0 w' → w'.cell? ⟨w.heap.size, 0, none⟩ = some (.bool xb) ∧ w'.cell? ⟨w.heap.size, 1, none⟩ = some (.slice xo xm xc)) := hid (fun w' hb => by
    refine ⟨?_, ?_⟩ <;> (rw [hb.cell (by simp <;> omega), hW0]; simp [go_sem]))
  have HT : Hid (∀ w', Below (w.heap.size + 2) W0 w' → (w'.cell? ⟨w.heap.size + 1, 0, none⟩ = some (.bool false) ∧ w'.cell? ⟨w.heap.size + 1, 1, none⟩ = some (.slice none 0 0) ∧ w'.cell? ⟨w.heap.size + 1, 2, none⟩ = some (.bool false) ∧ w'.cell? ⟨w.heap.size + 1, 3, none⟩ = some (.slice none 0 0)) ∧ (w'.frozen? ⟨w.heap.size + 1, 0, none⟩ = false ∧ w'.frozen? ⟨w.heap.size + 1, 1, none⟩ = false ∧ w'.frozen? ⟨w.heap.size + 1, 2, none⟩ = false ∧ w'.frozen? ⟨w.heap.size + 1, 3, none⟩ = false)) := hid (fun w' hb => by
    refine ⟨⟨?_, ?_, ?_, ?_⟩, ?_, ?_, ?_, ?_⟩ <;> (first | (rw [hb.cell (by simp), hW0]; simp [go_sem]; done) | (rw [hb.frozen (by simp), hW0]; simp [go_sem]; done)))
  have HB0 := hid hB0; have Hz0 := hid hz0; have HW := hid hW0
  clear hW0 hB0 hz0
  go_enter Tryz.func28, Tryz.ntmps28
  go_upto_region 1 with (fail)
  rw [← HW.out]
  go_region_held3 (fun w' => w'.cell? ⟨w.heap.size, 0, none⟩ = some (.bool xb) ∧ w'.cell? ⟨w.heap.size, 1, none⟩ = some (.slice xo xm xc)) ((refine HS.out _ ?_; repeat (first | assumption | exact Below.refl _ _ | exact (Below.refl _ _).drew | exact Below.drew (by assumption) | (refine Below.setCell ?_ (by simp) _)))) (first
    | (go_at_call 17; refine (rof_any 1 _ (by decide) (by decide)).mono ?_; rintro e w2 ⟨_, rfl, hv2, hb2⟩; obtain ⟨b2, o2, m2, c2, rfl, H2, _, _⟩ := Zt.opened hv2; have hB2 : Below (w.heap.size + 2) W0 w2 := ((Below.refl _ _).drew).trans (hb2.mono (by have := Hz0.out; simp; omega)); have hB2s : Below (w.heap.size + 1) W0 w2 := hB2.mono (by omega); obtain ⟨⟨hr0, hr1, hr2, hr3⟩, hf0, hf1, hf2, hf3⟩ := HT.out _ hB2))
  go_wp2
  have hbel : Below w.heap.size w w2 := HB0.out.trans (hB2.mono (by omega))
  refine bodyPost_ret (v := .agg #[.bool xb, .slice xo xm xc, .bool b2, .slice o2 m2 c2]) (by simp [results, Tryz.results28, go_sem, hr0, hr1, hr2, hr3]) rfl ⟨_, rfl, ?_, (((hbel.setCell (by simp <;> omega) _).setCell (by simp <;> omega) _).setCell (by simp <;> omega) _).setCell (by simp <;> omega) _⟩
  have hx2 := Hx.out _ hbel
  have h12 := H2.out _ (Below.refl _ _)
  refine ⟨xb, xo, xm, xc, b2, o2, m2, c2, rfl, ?_, ?_⟩
  · exact zt_keeps ((((((Keeps.refl _ _).setCell (u := .bool false) hr0 (fun x h => (by cases h)) _).setCell (u := .slice none 0 0) (by simp [go_sem, hr1]) (fun x h => (by cases h)) _).setCell (u := .bool false) (by simp [go_sem, hr2]) (fun x h => (by cases h)) _).setCell (u := .slice none 0 0) (by simp [go_sem, hr3]) (fun x h => (by cases h)) _)) hx2
  · exact Zt.mono (zt_keeps ((((((Keeps.refl _ _).setCell (u := .bool false) hr0 (fun x h => (by cases h)) _).setCell (u := .slice none 0 0) (by simp [go_sem, hr1]) (fun x h => (by cases h)) _).setCell (u := .bool false) (by simp [go_sem, hr2]) (fun x h => (by cases h)) _).setCell (u := .slice none 0 0) (by simp [go_sem, hr3]) (fun x h => (by cases h)) _)) h12) hK

end Go.Proofs.YtbapeilpkhbbeaaGreatDoor
