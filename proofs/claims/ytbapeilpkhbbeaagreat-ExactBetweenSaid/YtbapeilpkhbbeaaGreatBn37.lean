/- The law ExactRounds, its walk. Written by gen_rounds.py. -/
import Derived.Test.YtbapeilpkhbbeaaGreatBn32
import Derived.Test.YtbapeilpkhbbeaaGreatBn31
/- The law ExactRounds, its walk. Written by gen_rounds.py. -/
namespace Go.Proofs.YtbapeilpkhbbeaaGreat
open Go.RowKit

theorem Lk.openedB {w : World} {v : Value} {neg : Bool} {W : List Int} (h : Lk w v neg W) : ∃ b o m c, v = .agg #[.bool b, .slice o m c] ∧ True := by
  obtain ⟨ao, c, rfl, _⟩ := h
  exact ⟨_, _, _, _, rfl, trivial⟩
end Go.Proofs.YtbapeilpkhbbeaaGreat
