/-
  DERIVED. GIVEN WITH THE SEED: THE CARDS: each row of YtnjakebgggcedaaDoorRows.lean that lists a variable, with what it lists TIED to the program's text (the seventh form; the later family's looks); each row that meets fmt, with fmt's text TOLD by the authors' own Lean function (tested against real Go, not proved from fmt's source: count such statements apart). THE CARD IS WHAT COUNTS. Prove the row's statement (the work); the ties are given (YtnjakebgggcedaaDoorTie.lean); close each card by the builder's one call (the guide's Derived/Test/ToyasCard.lean, 'card_holds'). Laid BY PROGRAM, IN A SANDBOX (cutbox-door.mjs). By AI agents, Wed Nov 11 2026. No macro, syntax, notation, axiom, sorry.
-/
import Derived.Test.YtnjakebgggcedaaDoorRows
import GoSem.ClaimSeven
namespace Go.Proofs.YtnjakebgggcedaaDoor
namespace Rows

/-- THE TIED CARD OF 'consortlaw01.FormNames'. -/
def formNamesCard : Claim7 := { stood := { row := formNamesRow, standIns := [], harness := (true, "936734740ca61bc8183bf599944fd3e7874d245416b3d236eb949018f4c6bdd2"), looks := true }, kinds := [], alts := [], laidByText := true, laidKinds := [.data, .data], laidTests := true, laidLooks := .later }
def FormNamesCardSaid : Prop := Claim7.holds Tryd.pinned (.plain (OpenSpec.ofChange formNamesSpec)) formNamesCard

/-- THE SECOND FORM's CARD OF 'consortlaw01.FormNames'. -/
def formNamesUptoCard : Claim7 := { stood := { row := formNamesUptoRow, standIns := [], harness := (true, "936734740ca61bc8183bf599944fd3e7874d245416b3d236eb949018f4c6bdd2"), looks := true }, kinds := [], alts := [], laidByText := true, laidKinds := [.data, .data], laidTests := true, laidLooks := .later }
def FormNamesUptoCardSaid : Prop := Claim7.holds Tryd.pinned (.plain (OpenSpec.upto formNamesSpec)) formNamesUptoCard
end Rows
end Go.Proofs.YtnjakebgggcedaaDoor
