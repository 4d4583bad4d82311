/-
  DERIVED. GIVEN WITH THE SEED: THE PROGRAM's TIES (one call each: nine closed facts by the kernel) AND EACH ROW's TIE, after the 31st guide's Derived/Test/Toyas{Tie, Card}.lean. No idea stands in it: it is a product of the set-up. Laid BY PROGRAM, IN A SANDBOX (cutbox-door.mjs). By AI agents, Wed Nov 11 2026. No macro, syntax, notation, axiom, sorry.
-/
import Derived.Test.YtnipdjkopmjoeaaGreatDoorRows
import Derived.LaidByTextLater
import Derived.SevenTiedAt
import Derived.LaidSub
import Derived.LaidOnce
namespace Go.Proofs.YtnipdjkopmjoeaaGreatDoor
open Go
set_option maxRecDepth 100000
theorem seatTie1 : Tryz.prog.laidByTextLater [("consort/shape.expKinds", Rows.laid_consort_shape_expKinds), ("consort/shape.factKinds", Rows.laid_consort_shape_factKinds)] [.data, .data] true :=
  Program.laidByTextLater_by_one 44 8 77 (by kernel_rfl) (by kernel_rfl) (by kernel_rfl) (by kernel_rfl) (by kernel_rfl) (by kernel_rfl) (fun _ _ => by kernel_rfl)
theorem noOwnUnsafe : Tryz.pinned.checked.prog.headLifts.contains "ownunsafe" = false := by kernel_rfl
theorem tie : Tryz.prog.laidByTextLater [("consort/shape.expKinds", Rows.laid_consort_shape_expKinds), ("consort/shape.factKinds", Rows.laid_consort_shape_factKinds)] [.data, .data] true :=
  Program.laidByTextLater.sub seatTie1 ["consort/shape.expKinds", "consort/shape.factKinds"] (by kernel_rfl) (by kernel_rfl)
theorem formShapes_row_tie : Rows.formShapesRow.laidByTextAt .later Tryz.pinned [.data, .data] true :=
  OpenClaim.laidByTextAt_later rfl rfl tie noOwnUnsafe
theorem formShapesUpto_row_tie : Rows.formShapesUptoRow.laidByTextAt .later Tryz.pinned [.data, .data] true :=
  OpenClaim.laidByTextAt_later rfl rfl tie noOwnUnsafe
end Go.Proofs.YtnipdjkopmjoeaaGreatDoor
