/-
  DERIVED. GIVEN WITH THE SEED: THE CARDS: each row of YtnipdjkopmjoeaaGreatDoorRows.lean that lists a variable, with what it lists TIED to the program's text (the seventh form; the later family's looks); each row that meets fmt, with fmt's text TOLD by the authors' own Lean function (tested against real Go, not proved from fmt's source: count such statements apart). THE CARD IS WHAT COUNTS. Prove the row's statement (the work); the ties are given (YtnipdjkopmjoeaaGreatDoorTie.lean); close each card by the builder's one call (the guide's Derived/Test/ToyasCard.lean, 'card_holds'). Laid BY PROGRAM, IN A SANDBOX (cutbox-door.mjs). By AI agents, Wed Nov 11 2026. No macro, syntax, notation, axiom, sorry.
-/
import Derived.Test.YtnipdjkopmjoeaaGreatDoorRows
import GoSem.ClaimSeven
namespace Go.Proofs.YtnipdjkopmjoeaaGreatDoor
namespace Rows

/-- THE TIED CARD OF 'consortlaw01.FormShapes'. -/
def formShapesCard : Claim7 := { stood := { row := formShapesRow, standIns := [], harness := (true, "ef5266cc56b4bce36d79ff877abf0e955c88b743b3efeb725b08932b7bc3e960"), looks := true }, kinds := [], alts := [], laidByText := true, laidKinds := [.data, .data], laidTests := true, laidLooks := .later }
def FormShapesCardSaid : Prop := Claim7.holds Tryz.pinned (.plain (OpenSpec.ofChange formShapesSpec)) formShapesCard

/-- THE SECOND FORM's CARD OF 'consortlaw01.FormShapes'. -/
def formShapesUptoCard : Claim7 := { stood := { row := formShapesUptoRow, standIns := [], harness := (true, "ef5266cc56b4bce36d79ff877abf0e955c88b743b3efeb725b08932b7bc3e960"), looks := true }, kinds := [], alts := [], laidByText := true, laidKinds := [.data, .data], laidTests := true, laidLooks := .later }
def FormShapesUptoCardSaid : Prop := Claim7.holds Tryz.pinned (.plain (OpenSpec.upto formShapesSpec)) formShapesUptoCard
end Rows
end Go.Proofs.YtnipdjkopmjoeaaGreatDoor
