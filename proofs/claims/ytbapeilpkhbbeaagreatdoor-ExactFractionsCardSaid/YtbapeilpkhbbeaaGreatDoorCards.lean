/-
  DERIVED. GIVEN WITH THE SEED: THE CARDS: each row of YtbapeilpkhbbeaaGreatDoorRows.lean that lists a variable, with what it lists TIED to the program's text (the seventh form; the later family's looks); each row that meets fmt, with fmt's text TOLD by the authors' own Lean function (tested against real Go, not proved from fmt's source: count such statements apart). THE CARD IS WHAT COUNTS. Prove the row's statement (the work); the ties are given (YtbapeilpkhbbeaaGreatDoorTie.lean); close each card by the builder's one call (the guide's Derived/Test/ToyasCard.lean, 'card_holds'). Laid BY PROGRAM, IN A SANDBOX (cutbox-door.mjs). By AI agents, Wed Nov 11 2026. No macro, syntax, notation, axiom, sorry.
-/
import Derived.Test.YtbapeilpkhbbeaaGreatDoorRows
import GoSem.ClaimSeven
namespace Go.Proofs.YtbapeilpkhbbeaaGreatDoor
namespace Rows

/-- THE TIED CARD OF 'hodoscopelaw01.ExactFractions'. -/
def exactFractionsCard : Claim7 := { stood := { row := exactFractionsRow, standIns := [], harness := (true, "ab4860880870fc7ada78e9885614e390250c77836849f665304fa2471ce7906a"), looks := false }, kinds := [], alts := [], laidByText := true, laidKinds := [.data, .data, .data], laidTests := true, laidLooks := .later }
def ExactFractionsCardSaid : Prop := Claim7.holds Tryz.pinned (.plain (OpenSpec.ofChange exactFractionsSpec)) exactFractionsCard

/-- THE SECOND FORM's CARD OF 'hodoscopelaw01.ExactFractions'. -/
def exactFractionsUptoCard : Claim7 := { stood := { row := exactFractionsUptoRow, standIns := [], harness := (true, "ab4860880870fc7ada78e9885614e390250c77836849f665304fa2471ce7906a"), looks := false }, kinds := [], alts := [], laidByText := true, laidKinds := [.data, .data, .data], laidTests := true, laidLooks := .later }
def ExactFractionsUptoCardSaid : Prop := Claim7.holds Tryz.pinned (.plain (OpenSpec.upto exactFractionsSpec)) exactFractionsUptoCard
end Rows
end Go.Proofs.YtbapeilpkhbbeaaGreatDoor
