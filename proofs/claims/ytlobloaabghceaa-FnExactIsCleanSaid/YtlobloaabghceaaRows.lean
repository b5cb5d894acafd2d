/-
  No cell of these rows narrows 'for every input' (looked for: loops, veiled, ifaces, maps, wideKeys, modest, calm, conditions, laid).
  DERIVED. THE GIVEN ROWS OF THIS SEAT. 4 by the template 'for every input the law returns true; each argument reads behind the call as it read before'; 0 by the template 'total and deterministic' (their statements: YtlobloaabghceaaTotals.lean).
  GIVEN WITH THE SEED: the statements are not yours to turn. If you find one false, say at which input.
  Laid BY PROGRAM, IN A SANDBOX (cutbox-rows.mjs): the forced cells as the released guide's own fill.sh prints them over the translation 05e712aae17ab0c7… (all of the seat's roots in one cut). By AI agents, Wed Nov 11 2026. No macro, syntax, notation, axiom, sorry.
-/
import Derived.Test.YtlobloaabghceaaChecked
import GoSem.Claim
import GoSem.ClaimJoined
import GoSem.ClaimMapViews
import Derived.JoinedTies
import Derived.KernelRfl
namespace Go.Proofs.Ytlobloaabghceaa
/- THE CELL 'sum', in the pinned program and in every row, IS THE sha256 OF THE DUMP (.gsa) THAT YtlobloaabghceaaProg.lean LOADS. Nothing in Lean hashes anything: it is a label: what it is worth is what the hold of that sum in a sandbox is worth. -/
noncomputable def Try.pinned : Pinned := { name := "ytlobloaabghceaa", sum := "05e712aae17ab0c7ca5326cbd5e38bdb94c76ea41ad14a7153ceda9ee183c43b", checked := Try.checked }
namespace Rows
def none {H : Type} : Left H := { results := [], args := [] }

/-- 'laws.FnExactIsClean': WHATEVER THE INPUT: true; the input reads as it did. -/
def fnExactIsCleanSpec : ChangeSpec := { name := "fnExactIsClean", fn := fun _ => fun
  | [d1, d2, d3] => { results := [.lit (.bool true)], args := [d1, d2, d3] }
  | _ => none }
def fnExactIsCleanRow : OpenClaim := { program := "ytlobloaabghceaa", sum := "05e712aae17ab0c7ca5326cbd5e38bdb94c76ea41ad14a7153ceda9ee183c43b", func := "loop.example/g01153/laws.FnExactIsClean", spec := "fnExactIsClean", unfollowed := true, recurses := true, apart := false }
def FnExactIsCleanSaid : Prop := fnExactIsCleanRow.holds Try.pinned (OpenSpec.ofChange fnExactIsCleanSpec)

/-- ITS FALSE NEIGHBOUR: 'it returns false'. Refute it at one input. -/
def fnExactIsCleanWrong : ChangeSpec := { name := "fnExactIsClean", fn := fun _ => fun
  | [d1, d2, d3] => { results := [.lit (.bool false)], args := [d1, d2, d3] }
  | _ => none }
def FnExactIsCleanWrongFalsely : Prop := fnExactIsCleanRow.holds Try.pinned (OpenSpec.ofChange fnExactIsCleanWrong)

/-- 'laws.FnExactIsMove': WHATEVER THE INPUT: true; the input reads as it did. -/
def fnExactIsMoveSpec : ChangeSpec := { name := "fnExactIsMove", fn := fun _ => fun
  | [d1, d2] => { results := [.lit (.bool true)], args := [d1, d2] }
  | _ => none }
def fnExactIsMoveRow : OpenClaim := { program := "ytlobloaabghceaa", sum := "05e712aae17ab0c7ca5326cbd5e38bdb94c76ea41ad14a7153ceda9ee183c43b", func := "loop.example/g01153/laws.FnExactIsMove", spec := "fnExactIsMove", unfollowed := true, recurses := true, apart := false }
def FnExactIsMoveSaid : Prop := fnExactIsMoveRow.holds Try.pinned (OpenSpec.ofChange fnExactIsMoveSpec)

/-- ITS FALSE NEIGHBOUR: 'it returns false'. Refute it at one input. -/
def fnExactIsMoveWrong : ChangeSpec := { name := "fnExactIsMove", fn := fun _ => fun
  | [d1, d2] => { results := [.lit (.bool false)], args := [d1, d2] }
  | _ => none }
def FnExactIsMoveWrongFalsely : Prop := fnExactIsMoveRow.holds Try.pinned (OpenSpec.ofChange fnExactIsMoveWrong)

/-- 'laws.FnExactMoveFlow': WHATEVER THE INPUT: true; the input reads as it did. -/
def fnExactMoveFlowSpec : ChangeSpec := { name := "fnExactMoveFlow", fn := fun _ => fun
  | [d1, d2] => { results := [.lit (.bool true)], args := [d1, d2] }
  | _ => none }
def fnExactMoveFlowRow : OpenClaim := { program := "ytlobloaabghceaa", sum := "05e712aae17ab0c7ca5326cbd5e38bdb94c76ea41ad14a7153ceda9ee183c43b", func := "loop.example/g01153/laws.FnExactMoveFlow", spec := "fnExactMoveFlow", unfollowed := true, recurses := true, apart := false }
def FnExactMoveFlowSaid : Prop := fnExactMoveFlowRow.holds Try.pinned (OpenSpec.ofChange fnExactMoveFlowSpec)

/-- ITS FALSE NEIGHBOUR: 'it returns false'. Refute it at one input. -/
def fnExactMoveFlowWrong : ChangeSpec := { name := "fnExactMoveFlow", fn := fun _ => fun
  | [d1, d2] => { results := [.lit (.bool false)], args := [d1, d2] }
  | _ => none }
def FnExactMoveFlowWrongFalsely : Prop := fnExactMoveFlowRow.holds Try.pinned (OpenSpec.ofChange fnExactMoveFlowWrong)

/-- 'laws.FnExactDropPulses': WHATEVER THE INPUT: true; the input reads as it did. -/
def fnExactDropPulsesSpec : ChangeSpec := { name := "fnExactDropPulses", fn := fun _ => fun
  | [d1, d2] => { results := [.lit (.bool true)], args := [d1, d2] }
  | _ => none }
def fnExactDropPulsesRow : OpenClaim := { program := "ytlobloaabghceaa", sum := "05e712aae17ab0c7ca5326cbd5e38bdb94c76ea41ad14a7153ceda9ee183c43b", func := "loop.example/g01153/laws.FnExactDropPulses", spec := "fnExactDropPulses", inPlace := ["internal/abi.NoEscape", "internal/bytealg.MakeNoZero"], unfollowed := true, recurses := true, apart := false }
def FnExactDropPulsesSaid : Prop := fnExactDropPulsesRow.holds Try.pinned (OpenSpec.ofChange fnExactDropPulsesSpec)

/-- ITS FALSE NEIGHBOUR: 'it returns false'. Refute it at one input. -/
def fnExactDropPulsesWrong : ChangeSpec := { name := "fnExactDropPulses", fn := fun _ => fun
  | [d1, d2] => { results := [.lit (.bool false)], args := [d1, d2] }
  | _ => none }
def FnExactDropPulsesWrongFalsely : Prop := fnExactDropPulsesRow.holds Try.pinned (OpenSpec.ofChange fnExactDropPulsesWrong)

/- THE SECOND FORM. 'bulk': how many values and letters a reading holds, each counted each time it is reached (what is shared counts as often as it is met; a slice's spare places count too). A statement '..UptoSaid' is the law's where the arguments, and the package variables that the reading takes, are together of bulk at most 1048576: NARROWER than '..Said'. Prove '..Said' where nothing that the law and all that it calls make is longer than what came in: it says more and counts as full. Else prove '..UptoSaid'. A law counts once. -/
mutual
def uptoBulk {H : Type} : DataW H → Nat
  | .lit (.string bytes) => bytes.length + 1
  | .lit _ => 1
  | .nil => 1
  | .ptr d => uptoBulk d + 1
  | .slice elems spare => uptoBulkAll elems + uptoBulkAll spare + 1
  | .agg parts => uptoBulkAll parts + 1
  | .iface _ d => uptoBulk d + 1
  | .map entries => uptoBulkEntries entries + 1
  | .held _ => 1
def uptoBulkAll {H : Type} : List (DataW H) → Nat
  | [] => 0
  | d :: r => uptoBulk d + uptoBulkAll r
def uptoBulkEntries {H : Type} : List (Lit × DataW H) → Nat
  | [] => 0
  | x :: r => uptoBulkEntry x + uptoBulkEntries r
def uptoBulkEntry {H : Type} : Lit × DataW H → Nat
  | (.string bytes, d) => bytes.length + uptoBulk d + 1
  | (_, d) => uptoBulk d + 1
 end
def uptoSmall : (H : Type) → List (DataW H) → Bool := fun _ ds => decide (uptoBulkAll ds ≤ 1048576)
def OpenSpec.upto (s : _root_.Go.ChangeSpec) : _root_.Go.OpenSpec := { _root_.Go.OpenSpec.ofChange s with cond := some uptoSmall }

/-- 'laws.FnExactIsClean', WHERE WHAT IT READS IS OF BULK AT MOST 1048576: true; the input reads as it did. -/
def fnExactIsCleanUptoRow : OpenClaim := { program := "ytlobloaabghceaa", sum := "05e712aae17ab0c7ca5326cbd5e38bdb94c76ea41ad14a7153ceda9ee183c43b", func := "loop.example/g01153/laws.FnExactIsClean", spec := "fnExactIsClean", unfollowed := true, recurses := true, apart := false, narrowed := true }
def FnExactIsCleanUptoSaid : Prop := fnExactIsCleanUptoRow.holds Try.pinned (OpenSpec.upto fnExactIsCleanSpec)

/-- 'laws.FnExactIsMove', WHERE WHAT IT READS IS OF BULK AT MOST 1048576: true; the input reads as it did. -/
def fnExactIsMoveUptoRow : OpenClaim := { program := "ytlobloaabghceaa", sum := "05e712aae17ab0c7ca5326cbd5e38bdb94c76ea41ad14a7153ceda9ee183c43b", func := "loop.example/g01153/laws.FnExactIsMove", spec := "fnExactIsMove", unfollowed := true, recurses := true, apart := false, narrowed := true }
def FnExactIsMoveUptoSaid : Prop := fnExactIsMoveUptoRow.holds Try.pinned (OpenSpec.upto fnExactIsMoveSpec)

/-- 'laws.FnExactMoveFlow', WHERE WHAT IT READS IS OF BULK AT MOST 1048576: true; the input reads as it did. -/
def fnExactMoveFlowUptoRow : OpenClaim := { program := "ytlobloaabghceaa", sum := "05e712aae17ab0c7ca5326cbd5e38bdb94c76ea41ad14a7153ceda9ee183c43b", func := "loop.example/g01153/laws.FnExactMoveFlow", spec := "fnExactMoveFlow", unfollowed := true, recurses := true, apart := false, narrowed := true }
def FnExactMoveFlowUptoSaid : Prop := fnExactMoveFlowUptoRow.holds Try.pinned (OpenSpec.upto fnExactMoveFlowSpec)

/-- 'laws.FnExactDropPulses', WHERE WHAT IT READS IS OF BULK AT MOST 1048576: true; the input reads as it did. -/
def fnExactDropPulsesUptoRow : OpenClaim := { program := "ytlobloaabghceaa", sum := "05e712aae17ab0c7ca5326cbd5e38bdb94c76ea41ad14a7153ceda9ee183c43b", func := "loop.example/g01153/laws.FnExactDropPulses", spec := "fnExactDropPulses", inPlace := ["internal/abi.NoEscape", "internal/bytealg.MakeNoZero"], unfollowed := true, recurses := true, apart := false, narrowed := true }
def FnExactDropPulsesUptoSaid : Prop := fnExactDropPulsesUptoRow.holds Try.pinned (OpenSpec.upto fnExactDropPulsesSpec)

end Rows
end Go.Proofs.Ytlobloaabghceaa
