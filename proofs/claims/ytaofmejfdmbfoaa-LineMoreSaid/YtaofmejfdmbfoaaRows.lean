/-
  No cell of these rows narrows 'for every input' (looked for: loops, veiled, ifaces, maps, wideKeys, modest, calm, conditions, laid).
  DERIVED. THE GIVEN ROWS OF THIS SEAT. 4 by the template 'for every input the law returns true; each argument reads behind the call as it read before'; 0 by the template 'total and deterministic' (their statements: YtaofmejfdmbfoaaTotals.lean).
  GIVEN WITH THE SEED: the statements are not yours to turn. If you find one false, say at which input.
  Laid BY PROGRAM, IN A SANDBOX (cutbox-rows.mjs): the forced cells as the released guide's own fill.sh prints them over the translation 5df9d36f6d97c2f0… (all of the seat's roots in one cut). By AI agents, Wed Nov 11 2026. No macro, syntax, notation, axiom, sorry.
-/
import Derived.Test.YtaofmejfdmbfoaaChecked
import GoSem.Claim
import GoSem.ClaimJoined
import GoSem.ClaimMapViews
import Derived.JoinedTies
import Derived.KernelRfl
namespace Go.Proofs.Ytaofmejfdmbfoaa
/- THE CELL 'sum', in the pinned program and in every row, IS THE sha256 OF THE DUMP (.gsa) THAT YtaofmejfdmbfoaaProg.lean LOADS. Nothing in Lean hashes anything: it is a label: what it is worth is what the hold of that sum in a sandbox is worth. -/
noncomputable def Try.pinned : Pinned := { name := "ytaofmejfdmbfoaa", sum := "5df9d36f6d97c2f096525d05fb9c943846e7abbaec552362c679cd7b6b41c114", checked := Try.checked }
namespace Rows
def none {H : Type} : Left H := { results := [], args := [] }

/-- 'consortlaw03.LineLins': WHATEVER THE INPUT: true; the input reads as it did. -/
def lineLinsSpec : ChangeSpec := { name := "lineLins", fn := fun _ => fun
  | [d1, d2] => { results := [.lit (.bool true)], args := [d1, d2] }
  | _ => none }
def lineLinsRow : OpenClaim := { program := "ytaofmejfdmbfoaa", sum := "5df9d36f6d97c2f096525d05fb9c943846e7abbaec552362c679cd7b6b41c114", func := "consort/consortlaw03.LineLins", spec := "lineLins", unfollowed := true, recurses := true, apart := false }
def LineLinsSaid : Prop := lineLinsRow.holds Try.pinned (OpenSpec.ofChange lineLinsSpec)

/-- ITS FALSE NEIGHBOUR: 'it returns false'. Refute it at one input. -/
def lineLinsWrong : ChangeSpec := { name := "lineLins", fn := fun _ => fun
  | [d1, d2] => { results := [.lit (.bool false)], args := [d1, d2] }
  | _ => none }
def LineLinsWrongFalsely : Prop := lineLinsRow.holds Try.pinned (OpenSpec.ofChange lineLinsWrong)

/-- 'consortlaw03.LineConflicts': WHATEVER THE INPUT: true; the input reads as it did. -/
def lineConflictsSpec : ChangeSpec := { name := "lineConflicts", fn := fun _ => fun
  | [d1, d2, d3] => { results := [.lit (.bool true)], args := [d1, d2, d3] }
  | _ => none }
def lineConflictsRow : OpenClaim := { program := "ytaofmejfdmbfoaa", sum := "5df9d36f6d97c2f096525d05fb9c943846e7abbaec552362c679cd7b6b41c114", func := "consort/consortlaw03.LineConflicts", spec := "lineConflicts", unfollowed := true, recurses := true, apart := false }
def LineConflictsSaid : Prop := lineConflictsRow.holds Try.pinned (OpenSpec.ofChange lineConflictsSpec)

/-- ITS FALSE NEIGHBOUR: 'it returns false'. Refute it at one input. -/
def lineConflictsWrong : ChangeSpec := { name := "lineConflicts", fn := fun _ => fun
  | [d1, d2, d3] => { results := [.lit (.bool false)], args := [d1, d2, d3] }
  | _ => none }
def LineConflictsWrongFalsely : Prop := lineConflictsRow.holds Try.pinned (OpenSpec.ofChange lineConflictsWrong)

/-- 'consortlaw03.LineAgrees': WHATEVER THE INPUT: true; the input reads as it did. -/
def lineAgreesSpec : ChangeSpec := { name := "lineAgrees", fn := fun _ => fun
  | [d1, d2, d3] => { results := [.lit (.bool true)], args := [d1, d2, d3] }
  | _ => none }
def lineAgreesRow : OpenClaim := { program := "ytaofmejfdmbfoaa", sum := "5df9d36f6d97c2f096525d05fb9c943846e7abbaec552362c679cd7b6b41c114", func := "consort/consortlaw03.LineAgrees", spec := "lineAgrees", unfollowed := true, recurses := true, apart := false }
def LineAgreesSaid : Prop := lineAgreesRow.holds Try.pinned (OpenSpec.ofChange lineAgreesSpec)

/-- ITS FALSE NEIGHBOUR: 'it returns false'. Refute it at one input. -/
def lineAgreesWrong : ChangeSpec := { name := "lineAgrees", fn := fun _ => fun
  | [d1, d2, d3] => { results := [.lit (.bool false)], args := [d1, d2, d3] }
  | _ => none }
def LineAgreesWrongFalsely : Prop := lineAgreesRow.holds Try.pinned (OpenSpec.ofChange lineAgreesWrong)

/-- 'consortlaw03.LineMore': WHATEVER THE INPUT: true; the input reads as it did. -/
def lineMoreSpec : ChangeSpec := { name := "lineMore", fn := fun _ => fun
  | [d1, d2, d3] => { results := [.lit (.bool true)], args := [d1, d2, d3] }
  | _ => none }
def lineMoreRow : OpenClaim := { program := "ytaofmejfdmbfoaa", sum := "5df9d36f6d97c2f096525d05fb9c943846e7abbaec552362c679cd7b6b41c114", func := "consort/consortlaw03.LineMore", spec := "lineMore", unfollowed := true, recurses := true, apart := false }
def LineMoreSaid : Prop := lineMoreRow.holds Try.pinned (OpenSpec.ofChange lineMoreSpec)

/-- ITS FALSE NEIGHBOUR: 'it returns false'. Refute it at one input. -/
def lineMoreWrong : ChangeSpec := { name := "lineMore", fn := fun _ => fun
  | [d1, d2, d3] => { results := [.lit (.bool false)], args := [d1, d2, d3] }
  | _ => none }
def LineMoreWrongFalsely : Prop := lineMoreRow.holds Try.pinned (OpenSpec.ofChange lineMoreWrong)

/- THE SECOND FORM. 'bulk': how many values and letters a reading holds, each counted each time it is reached (what is shared counts as often as it is met; a slice's spare places count too). A statement '..UptoSaid' is the law's where the arguments, and the package variables that the reading takes, are together of bulk at most 1048576: NARROWER than '..Said'. Prove '..Said' where nothing that the law and all that it calls make is longer than what came in: it says more and counts as full. Else prove '..UptoSaid'. A law counts once. -/
mutual
def uptoBulk {H : Type} : DataW H → Nat
  | .lit (.string bytes) => bytes.length + 1
  | .lit _ => 1
  | .nil => 1
  | .ptr d => uptoBulk d + 1
  | .slice elems spare => uptoBulkAll elems + uptoBulkAll spare + 1
  | .agg parts => uptoBulkAll parts + 1
  | .iface _ d => uptoBulk d + 1
  | .map entries => uptoBulkEntries entries + 1
  | .held _ => 1
def uptoBulkAll {H : Type} : List (DataW H) → Nat
  | [] => 0
  | d :: r => uptoBulk d + uptoBulkAll r
def uptoBulkEntries {H : Type} : List (Lit × DataW H) → Nat
  | [] => 0
  | x :: r => uptoBulkEntry x + uptoBulkEntries r
def uptoBulkEntry {H : Type} : Lit × DataW H → Nat
  | (.string bytes, d) => bytes.length + uptoBulk d + 1
  | (_, d) => uptoBulk d + 1
 end
def uptoSmall : (H : Type) → List (DataW H) → Bool := fun _ ds => decide (uptoBulkAll ds ≤ 1048576)
def OpenSpec.upto (s : _root_.Go.ChangeSpec) : _root_.Go.OpenSpec := { _root_.Go.OpenSpec.ofChange s with cond := some uptoSmall }

/-- 'consortlaw03.LineLins', WHERE WHAT IT READS IS OF BULK AT MOST 1048576: true; the input reads as it did. -/
def lineLinsUptoRow : OpenClaim := { program := "ytaofmejfdmbfoaa", sum := "5df9d36f6d97c2f096525d05fb9c943846e7abbaec552362c679cd7b6b41c114", func := "consort/consortlaw03.LineLins", spec := "lineLins", unfollowed := true, recurses := true, apart := false, narrowed := true }
def LineLinsUptoSaid : Prop := lineLinsUptoRow.holds Try.pinned (OpenSpec.upto lineLinsSpec)

/-- 'consortlaw03.LineConflicts', WHERE WHAT IT READS IS OF BULK AT MOST 1048576: true; the input reads as it did. -/
def lineConflictsUptoRow : OpenClaim := { program := "ytaofmejfdmbfoaa", sum := "5df9d36f6d97c2f096525d05fb9c943846e7abbaec552362c679cd7b6b41c114", func := "consort/consortlaw03.LineConflicts", spec := "lineConflicts", unfollowed := true, recurses := true, apart := false, narrowed := true }
def LineConflictsUptoSaid : Prop := lineConflictsUptoRow.holds Try.pinned (OpenSpec.upto lineConflictsSpec)

/-- 'consortlaw03.LineAgrees', WHERE WHAT IT READS IS OF BULK AT MOST 1048576: true; the input reads as it did. -/
def lineAgreesUptoRow : OpenClaim := { program := "ytaofmejfdmbfoaa", sum := "5df9d36f6d97c2f096525d05fb9c943846e7abbaec552362c679cd7b6b41c114", func := "consort/consortlaw03.LineAgrees", spec := "lineAgrees", unfollowed := true, recurses := true, apart := false, narrowed := true }
def LineAgreesUptoSaid : Prop := lineAgreesUptoRow.holds Try.pinned (OpenSpec.upto lineAgreesSpec)

/-- 'consortlaw03.LineMore', WHERE WHAT IT READS IS OF BULK AT MOST 1048576: true; the input reads as it did. -/
def lineMoreUptoRow : OpenClaim := { program := "ytaofmejfdmbfoaa", sum := "5df9d36f6d97c2f096525d05fb9c943846e7abbaec552362c679cd7b6b41c114", func := "consort/consortlaw03.LineMore", spec := "lineMore", unfollowed := true, recurses := true, apart := false, narrowed := true }
def LineMoreUptoSaid : Prop := lineMoreUptoRow.holds Try.pinned (OpenSpec.upto lineMoreSpec)

end Rows
end Go.Proofs.Ytaofmejfdmbfoaa
