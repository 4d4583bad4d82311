/-
  NARROWER THAN 'FOR EVERY INPUT', by the rows' own cells (each row's printed sentence says how): FactFormed: loops.
  DERIVED. THE GIVEN ROWS OF THIS SEAT. 2 by the template 'for every input the law returns true; each argument reads behind the call as it read before'; 0 by the template 'total and deterministic' (their statements: YtnmochlobfkbmaaTotals.lean).
  GIVEN WITH THE SEED: the statements are not yours to turn. If you find one false, say at which input.
  Laid BY PROGRAM, IN A SANDBOX (cutbox-rows.mjs): the forced cells as the released guide's own fill.sh prints them over the translation 0520bb871e46e447… (all of the seat's roots in one cut). By AI agents, Wed Nov 11 2026. No macro, syntax, notation, axiom, sorry.
-/
import Derived.Test.YtnmochlobfkbmaaChecked
import GoSem.Claim
import GoSem.ClaimJoined
import GoSem.ClaimMapViews
import Derived.JoinedTies
import Derived.KernelRfl
namespace Go.Proofs.Ytnmochlobfkbmaa
/- THE CELL 'sum', in the pinned program and in every row, IS THE sha256 OF THE DUMP (.gsa) THAT YtnmochlobfkbmaaProg.lean LOADS. Nothing in Lean hashes anything: it is a label: what it is worth is what the hold of that sum in a sandbox is worth. -/
noncomputable def Try.pinned : Pinned := { name := "ytnmochlobfkbmaa", sum := "0520bb871e46e447898e0648d33e57880bc1634cf86fddc46fbe503a239e1725", checked := Try.checked }
namespace Rows
def none {H : Type} : Left H := { results := [], args := [] }

/-- 'consortlaw04.FactFormed': WHATEVER THE INPUT: true; the input reads as it did. -/
def factFormedSpec : ChangeSpec := { name := "factFormed", fn := fun _ => fun
  | [d1, d2, d3] => { results := [.lit (.bool true)], args := [d1, d2, d3] }
  | _ => none }
def factFormedRow : OpenClaim := { program := "ytnmochlobfkbmaa", sum := "0520bb871e46e447898e0648d33e57880bc1634cf86fddc46fbe503a239e1725", func := "consort/consortlaw04.FactFormed", spec := "factFormed", unfollowed := true, recurses := true, loops := true, plainKeys := false, apart := false }
def FactFormedSaid : Prop := factFormedRow.holds Try.pinned (OpenSpec.ofChange factFormedSpec)

/-- ITS FALSE NEIGHBOUR: 'it returns false'. Refute it at one input. -/
def factFormedWrong : ChangeSpec := { name := "factFormed", fn := fun _ => fun
  | [d1, d2, d3] => { results := [.lit (.bool false)], args := [d1, d2, d3] }
  | _ => none }
def FactFormedWrongFalsely : Prop := factFormedRow.holds Try.pinned (OpenSpec.ofChange factFormedWrong)

/-- 'consortlaw04.FactKnown': WHATEVER THE INPUT: true; the input reads as it did. -/
def factKnownSpec : ChangeSpec := { name := "factKnown", fn := fun _ => fun
  | [] => { results := [.lit (.bool true)], args := [] }
  | _ => none }
def factKnownRow : OpenClaim := { program := "ytnmochlobfkbmaa", sum := "0520bb871e46e447898e0648d33e57880bc1634cf86fddc46fbe503a239e1725", func := "consort/consortlaw04.FactKnown", spec := "factKnown", unfollowed := true, recurses := true, plainKeys := false, apart := false }
def FactKnownSaid : Prop := factKnownRow.holds Try.pinned (OpenSpec.ofChange factKnownSpec)

/-- ITS FALSE NEIGHBOUR: 'it returns false'. Refute it at one input. -/
def factKnownWrong : ChangeSpec := { name := "factKnown", fn := fun _ => fun
  | [] => { results := [.lit (.bool false)], args := [] }
  | _ => none }
def FactKnownWrongFalsely : Prop := factKnownRow.holds Try.pinned (OpenSpec.ofChange factKnownWrong)

/- THE SECOND FORM. 'bulk': how many values and letters a reading holds, each counted each time it is reached (what is shared counts as often as it is met; a slice's spare places count too). A statement '..UptoSaid' is the law's where the arguments, and the package variables that the reading takes, are together of bulk at most 1048576: NARROWER than '..Said'. Prove '..Said' where nothing that the law and all that it calls make is longer than what came in: it says more and counts as full. Else prove '..UptoSaid'. A law counts once. -/
mutual
def uptoBulk {H : Type} : DataW H → Nat
  | .lit (.string bytes) => bytes.length + 1
  | .lit _ => 1
  | .nil => 1
  | .ptr d => uptoBulk d + 1
  | .slice elems spare => uptoBulkAll elems + uptoBulkAll spare + 1
  | .agg parts => uptoBulkAll parts + 1
  | .iface _ d => uptoBulk d + 1
  | .map entries => uptoBulkEntries entries + 1
  | .held _ => 1
def uptoBulkAll {H : Type} : List (DataW H) → Nat
  | [] => 0
  | d :: r => uptoBulk d + uptoBulkAll r
def uptoBulkEntries {H : Type} : List (Lit × DataW H) → Nat
  | [] => 0
  | x :: r => uptoBulkEntry x + uptoBulkEntries r
def uptoBulkEntry {H : Type} : Lit × DataW H → Nat
  | (.string bytes, d) => bytes.length + uptoBulk d + 1
  | (_, d) => uptoBulk d + 1
 end
def uptoSmall : (H : Type) → List (DataW H) → Bool := fun _ ds => decide (uptoBulkAll ds ≤ 1048576)
def OpenSpec.upto (s : _root_.Go.ChangeSpec) : _root_.Go.OpenSpec := { _root_.Go.OpenSpec.ofChange s with cond := some uptoSmall }

/-- 'consortlaw04.FactFormed', WHERE WHAT IT READS IS OF BULK AT MOST 1048576: true; the input reads as it did. -/
def factFormedUptoRow : OpenClaim := { program := "ytnmochlobfkbmaa", sum := "0520bb871e46e447898e0648d33e57880bc1634cf86fddc46fbe503a239e1725", func := "consort/consortlaw04.FactFormed", spec := "factFormed", unfollowed := true, recurses := true, loops := true, plainKeys := false, apart := false, narrowed := true }
def FactFormedUptoSaid : Prop := factFormedUptoRow.holds Try.pinned (OpenSpec.upto factFormedSpec)

/-- 'consortlaw04.FactKnown', WHERE WHAT IT READS IS OF BULK AT MOST 1048576: true; the input reads as it did. -/
def factKnownUptoRow : OpenClaim := { program := "ytnmochlobfkbmaa", sum := "0520bb871e46e447898e0648d33e57880bc1634cf86fddc46fbe503a239e1725", func := "consort/consortlaw04.FactKnown", spec := "factKnown", unfollowed := true, recurses := true, plainKeys := false, apart := false, narrowed := true }
def FactKnownUptoSaid : Prop := factKnownUptoRow.holds Try.pinned (OpenSpec.upto factKnownSpec)

end Rows
end Go.Proofs.Ytnmochlobfkbmaa
