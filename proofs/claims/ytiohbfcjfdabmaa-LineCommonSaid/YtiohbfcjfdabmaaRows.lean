/-
  No cell of these rows narrows 'for every input' (looked for: loops, veiled, ifaces, maps, wideKeys, modest, calm, conditions, laid).
  DERIVED. THE GIVEN ROWS OF THIS SEAT. 4 by the template 'for every input the law returns true; each argument reads behind the call as it read before'; 0 by the template 'total and deterministic' (their statements: YtiohbfcjfdabmaaTotals.lean).
  GIVEN WITH THE SEED: the statements are not yours to turn. If you find one false, say at which input.
  Laid BY PROGRAM, IN A SANDBOX (cutbox-rows.mjs): the forced cells as the released guide's own fill.sh prints them over the translation d43864d9cc2ec4e1… (all of the seat's roots in one cut). By AI agents, Wed Nov 11 2026. No macro, syntax, notation, axiom, sorry.
-/
import Derived.Test.YtiohbfcjfdabmaaChecked
import GoSem.Claim
import GoSem.ClaimJoined
import GoSem.ClaimMapViews
import Derived.JoinedTies
import Derived.KernelRfl
namespace Go.Proofs.Ytiohbfcjfdabmaa
/- THE CELL 'sum', in the pinned program and in every row, IS THE sha256 OF THE DUMP (.gsa) THAT YtiohbfcjfdabmaaProg.lean LOADS. Nothing in Lean hashes anything: it is a label: what it is worth is what the hold of that sum in a sandbox is worth. -/
noncomputable def Try.pinned : Pinned := { name := "ytiohbfcjfdabmaa", sum := "d43864d9cc2ec4e1a25f5c1ce410df338164f5c7481747ec5c58ebb99dd247ab", checked := Try.checked }
namespace Rows
def none {H : Type} : Left H := { results := [], args := [] }

/-- 'consortlaw03.LineLins': WHATEVER THE INPUT: true; the input reads as it did. -/
def lineLinsSpec : ChangeSpec := { name := "lineLins", fn := fun _ => fun
  | [d1, d2] => { results := [.lit (.bool true)], args := [d1, d2] }
  | _ => none }
def lineLinsRow : OpenClaim := { program := "ytiohbfcjfdabmaa", sum := "d43864d9cc2ec4e1a25f5c1ce410df338164f5c7481747ec5c58ebb99dd247ab", func := "consort/consortlaw03.LineLins", spec := "lineLins", unfollowed := true, recurses := true, apart := false }
def LineLinsSaid : Prop := lineLinsRow.holds Try.pinned (OpenSpec.ofChange lineLinsSpec)

/-- ITS FALSE NEIGHBOUR: 'it returns false'. Refute it at one input. -/
def lineLinsWrong : ChangeSpec := { name := "lineLins", fn := fun _ => fun
  | [d1, d2] => { results := [.lit (.bool false)], args := [d1, d2] }
  | _ => none }
def LineLinsWrongFalsely : Prop := lineLinsRow.holds Try.pinned (OpenSpec.ofChange lineLinsWrong)

/-- 'consortlaw03.LineAgrees': WHATEVER THE INPUT: true; the input reads as it did. -/
def lineAgreesSpec : ChangeSpec := { name := "lineAgrees", fn := fun _ => fun
  | [d1, d2, d3] => { results := [.lit (.bool true)], args := [d1, d2, d3] }
  | _ => none }
def lineAgreesRow : OpenClaim := { program := "ytiohbfcjfdabmaa", sum := "d43864d9cc2ec4e1a25f5c1ce410df338164f5c7481747ec5c58ebb99dd247ab", func := "consort/consortlaw03.LineAgrees", spec := "lineAgrees", unfollowed := true, recurses := true, apart := false }
def LineAgreesSaid : Prop := lineAgreesRow.holds Try.pinned (OpenSpec.ofChange lineAgreesSpec)

/-- ITS FALSE NEIGHBOUR: 'it returns false'. Refute it at one input. -/
def lineAgreesWrong : ChangeSpec := { name := "lineAgrees", fn := fun _ => fun
  | [d1, d2, d3] => { results := [.lit (.bool false)], args := [d1, d2, d3] }
  | _ => none }
def LineAgreesWrongFalsely : Prop := lineAgreesRow.holds Try.pinned (OpenSpec.ofChange lineAgreesWrong)

/-- 'consortlaw03.LineHeirs': WHATEVER THE INPUT: true; the input reads as it did. -/
def lineHeirsSpec : ChangeSpec := { name := "lineHeirs", fn := fun _ => fun
  | [d1, d2] => { results := [.lit (.bool true)], args := [d1, d2] }
  | _ => none }
def lineHeirsRow : OpenClaim := { program := "ytiohbfcjfdabmaa", sum := "d43864d9cc2ec4e1a25f5c1ce410df338164f5c7481747ec5c58ebb99dd247ab", func := "consort/consortlaw03.LineHeirs", spec := "lineHeirs", unfollowed := true, recurses := true, apart := false }
def LineHeirsSaid : Prop := lineHeirsRow.holds Try.pinned (OpenSpec.ofChange lineHeirsSpec)

/-- ITS FALSE NEIGHBOUR: 'it returns false'. Refute it at one input. -/
def lineHeirsWrong : ChangeSpec := { name := "lineHeirs", fn := fun _ => fun
  | [d1, d2] => { results := [.lit (.bool false)], args := [d1, d2] }
  | _ => none }
def LineHeirsWrongFalsely : Prop := lineHeirsRow.holds Try.pinned (OpenSpec.ofChange lineHeirsWrong)

/-- 'consortlaw03.LineCommon': WHATEVER THE INPUT: true; the input reads as it did. -/
def lineCommonSpec : ChangeSpec := { name := "lineCommon", fn := fun _ => fun
  | [d1, d2] => { results := [.lit (.bool true)], args := [d1, d2] }
  | _ => none }
def lineCommonRow : OpenClaim := { program := "ytiohbfcjfdabmaa", sum := "d43864d9cc2ec4e1a25f5c1ce410df338164f5c7481747ec5c58ebb99dd247ab", func := "consort/consortlaw03.LineCommon", spec := "lineCommon", unfollowed := true, recurses := true, apart := false }
def LineCommonSaid : Prop := lineCommonRow.holds Try.pinned (OpenSpec.ofChange lineCommonSpec)

/-- ITS FALSE NEIGHBOUR: 'it returns false'. Refute it at one input. -/
def lineCommonWrong : ChangeSpec := { name := "lineCommon", fn := fun _ => fun
  | [d1, d2] => { results := [.lit (.bool false)], args := [d1, d2] }
  | _ => none }
def LineCommonWrongFalsely : Prop := lineCommonRow.holds Try.pinned (OpenSpec.ofChange lineCommonWrong)

/- THE SECOND FORM. 'bulk': how many values and letters a reading holds, each counted each time it is reached (what is shared counts as often as it is met; a slice's spare places count too). A statement '..UptoSaid' is the law's where the arguments, and the package variables that the reading takes, are together of bulk at most 1048576: NARROWER than '..Said'. Prove '..Said' where nothing that the law and all that it calls make is longer than what came in: it says more and counts as full. Else prove '..UptoSaid'. A law counts once. -/
mutual
def uptoBulk {H : Type} : DataW H → Nat
  | .lit (.string bytes) => bytes.length + 1
  | .lit _ => 1
  | .nil => 1
  | .ptr d => uptoBulk d + 1
  | .slice elems spare => uptoBulkAll elems + uptoBulkAll spare + 1
  | .agg parts => uptoBulkAll parts + 1
  | .iface _ d => uptoBulk d + 1
  | .map entries => uptoBulkEntries entries + 1
  | .held _ => 1
def uptoBulkAll {H : Type} : List (DataW H) → Nat
  | [] => 0
  | d :: r => uptoBulk d + uptoBulkAll r
def uptoBulkEntries {H : Type} : List (Lit × DataW H) → Nat
  | [] => 0
  | x :: r => uptoBulkEntry x + uptoBulkEntries r
def uptoBulkEntry {H : Type} : Lit × DataW H → Nat
  | (.string bytes, d) => bytes.length + uptoBulk d + 1
  | (_, d) => uptoBulk d + 1
 end
def uptoSmall : (H : Type) → List (DataW H) → Bool := fun _ ds => decide (uptoBulkAll ds ≤ 1048576)
def OpenSpec.upto (s : _root_.Go.ChangeSpec) : _root_.Go.OpenSpec := { _root_.Go.OpenSpec.ofChange s with cond := some uptoSmall }

/-- 'consortlaw03.LineLins', WHERE WHAT IT READS IS OF BULK AT MOST 1048576: true; the input reads as it did. -/
def lineLinsUptoRow : OpenClaim := { program := "ytiohbfcjfdabmaa", sum := "d43864d9cc2ec4e1a25f5c1ce410df338164f5c7481747ec5c58ebb99dd247ab", func := "consort/consortlaw03.LineLins", spec := "lineLins", unfollowed := true, recurses := true, apart := false, narrowed := true }
def LineLinsUptoSaid : Prop := lineLinsUptoRow.holds Try.pinned (OpenSpec.upto lineLinsSpec)

/-- 'consortlaw03.LineAgrees', WHERE WHAT IT READS IS OF BULK AT MOST 1048576: true; the input reads as it did. -/
def lineAgreesUptoRow : OpenClaim := { program := "ytiohbfcjfdabmaa", sum := "d43864d9cc2ec4e1a25f5c1ce410df338164f5c7481747ec5c58ebb99dd247ab", func := "consort/consortlaw03.LineAgrees", spec := "lineAgrees", unfollowed := true, recurses := true, apart := false, narrowed := true }
def LineAgreesUptoSaid : Prop := lineAgreesUptoRow.holds Try.pinned (OpenSpec.upto lineAgreesSpec)

/-- 'consortlaw03.LineHeirs', WHERE WHAT IT READS IS OF BULK AT MOST 1048576: true; the input reads as it did. -/
def lineHeirsUptoRow : OpenClaim := { program := "ytiohbfcjfdabmaa", sum := "d43864d9cc2ec4e1a25f5c1ce410df338164f5c7481747ec5c58ebb99dd247ab", func := "consort/consortlaw03.LineHeirs", spec := "lineHeirs", unfollowed := true, recurses := true, apart := false, narrowed := true }
def LineHeirsUptoSaid : Prop := lineHeirsUptoRow.holds Try.pinned (OpenSpec.upto lineHeirsSpec)

/-- 'consortlaw03.LineCommon', WHERE WHAT IT READS IS OF BULK AT MOST 1048576: true; the input reads as it did. -/
def lineCommonUptoRow : OpenClaim := { program := "ytiohbfcjfdabmaa", sum := "d43864d9cc2ec4e1a25f5c1ce410df338164f5c7481747ec5c58ebb99dd247ab", func := "consort/consortlaw03.LineCommon", spec := "lineCommon", unfollowed := true, recurses := true, apart := false, narrowed := true }
def LineCommonUptoSaid : Prop := lineCommonUptoRow.holds Try.pinned (OpenSpec.upto lineCommonSpec)

end Rows
end Go.Proofs.Ytiohbfcjfdabmaa
