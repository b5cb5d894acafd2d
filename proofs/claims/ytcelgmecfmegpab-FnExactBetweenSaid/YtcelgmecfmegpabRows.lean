/-
  No cell of these rows narrows 'for every input' (looked for: loops, veiled, ifaces, maps, wideKeys, modest, calm, conditions, laid).
  DERIVED. THE GIVEN ROWS OF THIS SEAT. 3 by the template 'for every input the law returns true; each argument reads behind the call as it read before'; 0 by the template 'total and deterministic' (their statements: YtcelgmecfmegpabTotals.lean).
  GIVEN WITH THE SEED: the statements are not yours to turn. If you find one false, say at which input.
  Laid BY PROGRAM, IN A SANDBOX (cutbox-rows.mjs): the forced cells as the released guide's own fill.sh prints them over the translation 9492574fd9034a54… (all of the seat's roots in one cut). By AI agents, Wed Nov 11 2026. No macro, syntax, notation, axiom, sorry.
-/
import Derived.Test.YtcelgmecfmegpabChecked
import GoSem.Claim
import GoSem.ClaimJoined
import GoSem.ClaimMapViews
import Derived.JoinedTies
import Derived.KernelRfl
namespace Go.Proofs.Ytcelgmecfmegpab
/- THE CELL 'sum', in the pinned program and in every row, IS THE sha256 OF THE DUMP (.gsa) THAT YtcelgmecfmegpabProg.lean LOADS. Nothing in Lean hashes anything: it is a label: what it is worth is what the hold of that sum in a sandbox is worth. -/
noncomputable def Try.pinned : Pinned := { name := "ytcelgmecfmegpab", sum := "9492574fd9034a540e0edf746e367d9a3ca4ed6325c3c53473b7431d3ff4558c", checked := Try.checked }
namespace Rows
def none {H : Type} : Left H := { results := [], args := [] }

/-- 'laws.FnExactValidDiagram': WHATEVER THE INPUT: true; the input reads as it did. -/
def fnExactValidDiagramSpec : ChangeSpec := { name := "fnExactValidDiagram", fn := fun _ => fun
  | [d] => { results := [.lit (.bool true)], args := [d] }
  | _ => none }
def fnExactValidDiagramRow : OpenClaim := { program := "ytcelgmecfmegpab", sum := "9492574fd9034a540e0edf746e367d9a3ca4ed6325c3c53473b7431d3ff4558c", func := "loop.example/g01153/laws.FnExactValidDiagram", spec := "fnExactValidDiagram", plainKeys := false, apart := false }
def FnExactValidDiagramSaid : Prop := fnExactValidDiagramRow.holds Try.pinned (OpenSpec.ofChange fnExactValidDiagramSpec)

/-- ITS FALSE NEIGHBOUR: 'it returns false'. Refute it at one input. -/
def fnExactValidDiagramWrong : ChangeSpec := { name := "fnExactValidDiagram", fn := fun _ => fun
  | [d] => { results := [.lit (.bool false)], args := [d] }
  | _ => none }
def FnExactValidDiagramWrongFalsely : Prop := fnExactValidDiagramRow.holds Try.pinned (OpenSpec.ofChange fnExactValidDiagramWrong)

/-- 'laws.FnExactBetween': WHATEVER THE INPUT: true; the input reads as it did. -/
def fnExactBetweenSpec : ChangeSpec := { name := "fnExactBetween", fn := fun _ => fun
  | [d1, d2, d3, d4] => { results := [.lit (.bool true)], args := [d1, d2, d3, d4] }
  | _ => none }
def fnExactBetweenRow : OpenClaim := { program := "ytcelgmecfmegpab", sum := "9492574fd9034a540e0edf746e367d9a3ca4ed6325c3c53473b7431d3ff4558c", func := "loop.example/g01153/laws.FnExactBetween", spec := "fnExactBetween", plainKeys := false, apart := false }
def FnExactBetweenSaid : Prop := fnExactBetweenRow.holds Try.pinned (OpenSpec.ofChange fnExactBetweenSpec)

/-- ITS FALSE NEIGHBOUR: 'it returns false'. Refute it at one input. -/
def fnExactBetweenWrong : ChangeSpec := { name := "fnExactBetween", fn := fun _ => fun
  | [d1, d2, d3, d4] => { results := [.lit (.bool false)], args := [d1, d2, d3, d4] }
  | _ => none }
def FnExactBetweenWrongFalsely : Prop := fnExactBetweenRow.holds Try.pinned (OpenSpec.ofChange fnExactBetweenWrong)

/-- 'laws.FnExactIsTiming': WHATEVER THE INPUT: true; the input reads as it did. -/
def fnExactIsTimingSpec : ChangeSpec := { name := "fnExactIsTiming", fn := fun _ => fun
  | [d1, d2] => { results := [.lit (.bool true)], args := [d1, d2] }
  | _ => none }
def fnExactIsTimingRow : OpenClaim := { program := "ytcelgmecfmegpab", sum := "9492574fd9034a540e0edf746e367d9a3ca4ed6325c3c53473b7431d3ff4558c", func := "loop.example/g01153/laws.FnExactIsTiming", spec := "fnExactIsTiming", plainKeys := false, apart := false }
def FnExactIsTimingSaid : Prop := fnExactIsTimingRow.holds Try.pinned (OpenSpec.ofChange fnExactIsTimingSpec)

/-- ITS FALSE NEIGHBOUR: 'it returns false'. Refute it at one input. -/
def fnExactIsTimingWrong : ChangeSpec := { name := "fnExactIsTiming", fn := fun _ => fun
  | [d1, d2] => { results := [.lit (.bool false)], args := [d1, d2] }
  | _ => none }
def FnExactIsTimingWrongFalsely : Prop := fnExactIsTimingRow.holds Try.pinned (OpenSpec.ofChange fnExactIsTimingWrong)

/- THE SECOND FORM. 'bulk': how many values and letters a reading holds, each counted each time it is reached (what is shared counts as often as it is met; a slice's spare places count too). A statement '..UptoSaid' is the law's where the arguments, and the package variables that the reading takes, are together of bulk at most 1048576: NARROWER than '..Said'. Prove '..Said' where nothing that the law and all that it calls make is longer than what came in: it says more and counts as full. Else prove '..UptoSaid'. A law counts once. -/
mutual
def uptoBulk {H : Type} : DataW H → Nat
  | .lit (.string bytes) => bytes.length + 1
  | .lit _ => 1
  | .nil => 1
  | .ptr d => uptoBulk d + 1
  | .slice elems spare => uptoBulkAll elems + uptoBulkAll spare + 1
  | .agg parts => uptoBulkAll parts + 1
  | .iface _ d => uptoBulk d + 1
  | .map entries => uptoBulkEntries entries + 1
  | .held _ => 1
def uptoBulkAll {H : Type} : List (DataW H) → Nat
  | [] => 0
  | d :: r => uptoBulk d + uptoBulkAll r
def uptoBulkEntries {H : Type} : List (Lit × DataW H) → Nat
  | [] => 0
  | x :: r => uptoBulkEntry x + uptoBulkEntries r
def uptoBulkEntry {H : Type} : Lit × DataW H → Nat
  | (.string bytes, d) => bytes.length + uptoBulk d + 1
  | (_, d) => uptoBulk d + 1
 end
def uptoSmall : (H : Type) → List (DataW H) → Bool := fun _ ds => decide (uptoBulkAll ds ≤ 1048576)
def OpenSpec.upto (s : _root_.Go.ChangeSpec) : _root_.Go.OpenSpec := { _root_.Go.OpenSpec.ofChange s with cond := some uptoSmall }

/-- 'laws.FnExactValidDiagram', WHERE WHAT IT READS IS OF BULK AT MOST 1048576: true; the input reads as it did. -/
def fnExactValidDiagramUptoRow : OpenClaim := { program := "ytcelgmecfmegpab", sum := "9492574fd9034a540e0edf746e367d9a3ca4ed6325c3c53473b7431d3ff4558c", func := "loop.example/g01153/laws.FnExactValidDiagram", spec := "fnExactValidDiagram", plainKeys := false, apart := false, narrowed := true }
def FnExactValidDiagramUptoSaid : Prop := fnExactValidDiagramUptoRow.holds Try.pinned (OpenSpec.upto fnExactValidDiagramSpec)

/-- 'laws.FnExactBetween', WHERE WHAT IT READS IS OF BULK AT MOST 1048576: true; the input reads as it did. -/
def fnExactBetweenUptoRow : OpenClaim := { program := "ytcelgmecfmegpab", sum := "9492574fd9034a540e0edf746e367d9a3ca4ed6325c3c53473b7431d3ff4558c", func := "loop.example/g01153/laws.FnExactBetween", spec := "fnExactBetween", plainKeys := false, apart := false, narrowed := true }
def FnExactBetweenUptoSaid : Prop := fnExactBetweenUptoRow.holds Try.pinned (OpenSpec.upto fnExactBetweenSpec)

/-- 'laws.FnExactIsTiming', WHERE WHAT IT READS IS OF BULK AT MOST 1048576: true; the input reads as it did. -/
def fnExactIsTimingUptoRow : OpenClaim := { program := "ytcelgmecfmegpab", sum := "9492574fd9034a540e0edf746e367d9a3ca4ed6325c3c53473b7431d3ff4558c", func := "loop.example/g01153/laws.FnExactIsTiming", spec := "fnExactIsTiming", plainKeys := false, apart := false, narrowed := true }
def FnExactIsTimingUptoSaid : Prop := fnExactIsTimingUptoRow.holds Try.pinned (OpenSpec.upto fnExactIsTimingSpec)

end Rows
end Go.Proofs.Ytcelgmecfmegpab
