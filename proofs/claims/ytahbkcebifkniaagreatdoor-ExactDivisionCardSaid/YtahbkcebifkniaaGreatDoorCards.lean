/-
  DERIVED. GIVEN WITH THE SEED: THE CARDS: each row of YtahbkcebifkniaaGreatDoorRows.lean that lists a variable, with what it lists TIED to the program's text (the seventh form; the later family's looks); each row that meets fmt, with fmt's text TOLD by the authors' own Lean function (tested against real Go, not proved from fmt's source: count such statements apart). THE CARD IS WHAT COUNTS. Prove the row's statement (the work); the ties are given (YtahbkcebifkniaaGreatDoorTie.lean); close each card by the builder's one call (the guide's Derived/Test/ToyasCard.lean, 'card_holds'). Laid BY PROGRAM, IN A SANDBOX (cutbox-door.mjs). By AI agents, Wed Nov 11 2026. No macro, syntax, notation, axiom, sorry.
-/
import Derived.Test.YtahbkcebifkniaaGreatDoorRows
import GoSem.ClaimSeven
namespace Go.Proofs.YtahbkcebifkniaaGreatDoor
namespace Rows

/-- THE TIED CARD OF 'hodoscopelaw01.ExactRing'. -/
def exactRingCard : Claim7 := { stood := { row := exactRingRow, standIns := [], harness := (true, "9c992af66a2833dbaad564f563f60eea06c16a8c10ee1cc2a2abb77628d7d978"), looks := false }, kinds := [], alts := [], laidByText := true, laidKinds := [.data, .data, .data], laidTests := true, laidLooks := .later }
def ExactRingCardSaid : Prop := Claim7.holds Tryz.pinned (.plain (OpenSpec.ofChange exactRingSpec)) exactRingCard

/-- THE TIED CARD OF 'hodoscopelaw01.ExactDivision'. -/
def exactDivisionCard : Claim7 := { stood := { row := exactDivisionRow, standIns := [], harness := (true, "9c992af66a2833dbaad564f563f60eea06c16a8c10ee1cc2a2abb77628d7d978"), looks := false }, kinds := [], alts := [], laidByText := true, laidKinds := [.data, .data, .data], laidTests := true, laidLooks := .later }
def ExactDivisionCardSaid : Prop := Claim7.holds Tryz.pinned (.plain (OpenSpec.ofChange exactDivisionSpec)) exactDivisionCard

/-- THE TIED CARD OF 'hodoscopelaw01.ExactField'. -/
def exactFieldCard : Claim7 := { stood := { row := exactFieldRow, standIns := [], harness := (true, "9c992af66a2833dbaad564f563f60eea06c16a8c10ee1cc2a2abb77628d7d978"), looks := false }, kinds := [], alts := [], laidByText := true, laidKinds := [.data, .data, .data], laidTests := true, laidLooks := .later }
def ExactFieldCardSaid : Prop := Claim7.holds Tryz.pinned (.plain (OpenSpec.ofChange exactFieldSpec)) exactFieldCard

/-- THE SECOND FORM's CARD OF 'hodoscopelaw01.ExactRing'. -/
def exactRingUptoCard : Claim7 := { stood := { row := exactRingUptoRow, standIns := [], harness := (true, "9c992af66a2833dbaad564f563f60eea06c16a8c10ee1cc2a2abb77628d7d978"), looks := false }, kinds := [], alts := [], laidByText := true, laidKinds := [.data, .data, .data], laidTests := true, laidLooks := .later }
def ExactRingUptoCardSaid : Prop := Claim7.holds Tryz.pinned (.plain (OpenSpec.upto exactRingSpec)) exactRingUptoCard

/-- THE SECOND FORM's CARD OF 'hodoscopelaw01.ExactDivision'. -/
def exactDivisionUptoCard : Claim7 := { stood := { row := exactDivisionUptoRow, standIns := [], harness := (true, "9c992af66a2833dbaad564f563f60eea06c16a8c10ee1cc2a2abb77628d7d978"), looks := false }, kinds := [], alts := [], laidByText := true, laidKinds := [.data, .data, .data], laidTests := true, laidLooks := .later }
def ExactDivisionUptoCardSaid : Prop := Claim7.holds Tryz.pinned (.plain (OpenSpec.upto exactDivisionSpec)) exactDivisionUptoCard

/-- THE SECOND FORM's CARD OF 'hodoscopelaw01.ExactField'. -/
def exactFieldUptoCard : Claim7 := { stood := { row := exactFieldUptoRow, standIns := [], harness := (true, "9c992af66a2833dbaad564f563f60eea06c16a8c10ee1cc2a2abb77628d7d978"), looks := false }, kinds := [], alts := [], laidByText := true, laidKinds := [.data, .data, .data], laidTests := true, laidLooks := .later }
def ExactFieldUptoCardSaid : Prop := Claim7.holds Tryz.pinned (.plain (OpenSpec.upto exactFieldSpec)) exactFieldUptoCard
end Rows
end Go.Proofs.YtahbkcebifkniaaGreatDoor
