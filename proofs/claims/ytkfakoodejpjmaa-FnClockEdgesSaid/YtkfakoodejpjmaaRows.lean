/-
  No cell of these rows narrows 'for every input' (looked for: loops, veiled, ifaces, maps, wideKeys, modest, calm, conditions, laid).
  DERIVED. THE GIVEN ROWS OF THIS SEAT. 5 by the template 'for every input the law returns true; each argument reads behind the call as it read before'; 0 by the template 'total and deterministic' (their statements: YtkfakoodejpjmaaTotals.lean).
  GIVEN WITH THE SEED: the statements are not yours to turn. If you find one false, say at which input.
  Laid BY PROGRAM, IN A SANDBOX (cutbox-rows.mjs): the forced cells as the released guide's own fill.sh prints them over the translation af8f6f2c825d0d41… (all of the seat's roots in one cut). By AI agents, Wed Nov 11 2026. No macro, syntax, notation, axiom, sorry.
-/
import Derived.Test.YtkfakoodejpjmaaChecked
import GoSem.Claim
import GoSem.ClaimJoined
import GoSem.ClaimMapViews
import Derived.JoinedTies
import Derived.KernelRfl
namespace Go.Proofs.Ytkfakoodejpjmaa
/- THE CELL 'sum', in the pinned program and in every row, IS THE sha256 OF THE DUMP (.gsa) THAT YtkfakoodejpjmaaProg.lean LOADS. Nothing in Lean hashes anything: it is a label: what it is worth is what the hold of that sum in a sandbox is worth. -/
noncomputable def Try.pinned : Pinned := { name := "ytkfakoodejpjmaa", sum := "af8f6f2c825d0d412c9e604558b5d48aae30cb47901dddc8292f446e7196b41c", checked := Try.checked }
namespace Rows
def none {H : Type} : Left H := { results := [], args := [] }

/-- 'laws.FnExactWaveOf': WHATEVER THE INPUT: true; the input reads as it did. -/
def fnExactWaveOfSpec : ChangeSpec := { name := "fnExactWaveOf", fn := fun _ => fun
  | [d1, d2, d3] => { results := [.lit (.bool true)], args := [d1, d2, d3] }
  | _ => none }
def fnExactWaveOfRow : OpenClaim := { program := "ytkfakoodejpjmaa", sum := "af8f6f2c825d0d412c9e604558b5d48aae30cb47901dddc8292f446e7196b41c", func := "loop.example/g01153/laws.FnExactWaveOf", spec := "fnExactWaveOf", inPlace := ["internal/abi.NoEscape"], plainKeys := false, apart := false }
def FnExactWaveOfSaid : Prop := fnExactWaveOfRow.holds Try.pinned (OpenSpec.ofChange fnExactWaveOfSpec)

/-- ITS FALSE NEIGHBOUR: 'it returns false'. Refute it at one input. -/
def fnExactWaveOfWrong : ChangeSpec := { name := "fnExactWaveOf", fn := fun _ => fun
  | [d1, d2, d3] => { results := [.lit (.bool false)], args := [d1, d2, d3] }
  | _ => none }
def FnExactWaveOfWrongFalsely : Prop := fnExactWaveOfRow.holds Try.pinned (OpenSpec.ofChange fnExactWaveOfWrong)

/-- 'laws.FnClockEdges': WHATEVER THE INPUT: true; the input reads as it did. -/
def fnClockEdgesSpec : ChangeSpec := { name := "fnClockEdges", fn := fun _ => fun
  | [d1, d2] => { results := [.lit (.bool true)], args := [d1, d2] }
  | _ => none }
def fnClockEdgesRow : OpenClaim := { program := "ytkfakoodejpjmaa", sum := "af8f6f2c825d0d412c9e604558b5d48aae30cb47901dddc8292f446e7196b41c", func := "loop.example/g01153/laws.FnClockEdges", spec := "fnClockEdges", inPlace := ["internal/abi.NoEscape"], plainKeys := false, apart := false }
def FnClockEdgesSaid : Prop := fnClockEdgesRow.holds Try.pinned (OpenSpec.ofChange fnClockEdgesSpec)

/-- ITS FALSE NEIGHBOUR: 'it returns false'. Refute it at one input. -/
def fnClockEdgesWrong : ChangeSpec := { name := "fnClockEdges", fn := fun _ => fun
  | [d1, d2] => { results := [.lit (.bool false)], args := [d1, d2] }
  | _ => none }
def FnClockEdgesWrongFalsely : Prop := fnClockEdgesRow.holds Try.pinned (OpenSpec.ofChange fnClockEdgesWrong)

/-- 'laws.FnTimings': WHATEVER THE INPUT: true; the input reads as it did. -/
def fnTimingsSpec : ChangeSpec := { name := "fnTimings", fn := fun _ => fun
  | [d1, d2] => { results := [.lit (.bool true)], args := [d1, d2] }
  | _ => none }
def fnTimingsRow : OpenClaim := { program := "ytkfakoodejpjmaa", sum := "af8f6f2c825d0d412c9e604558b5d48aae30cb47901dddc8292f446e7196b41c", func := "loop.example/g01153/laws.FnTimings", spec := "fnTimings", unfollowed := true, recurses := true, plainKeys := false, apart := false }
def FnTimingsSaid : Prop := fnTimingsRow.holds Try.pinned (OpenSpec.ofChange fnTimingsSpec)

/-- ITS FALSE NEIGHBOUR: 'it returns false'. Refute it at one input. -/
def fnTimingsWrong : ChangeSpec := { name := "fnTimings", fn := fun _ => fun
  | [d1, d2] => { results := [.lit (.bool false)], args := [d1, d2] }
  | _ => none }
def FnTimingsWrongFalsely : Prop := fnTimingsRow.holds Try.pinned (OpenSpec.ofChange fnTimingsWrong)

/-- 'laws.FnGated': WHATEVER THE INPUT: true; the input reads as it did. -/
def fnGatedSpec : ChangeSpec := { name := "fnGated", fn := fun _ => fun
  | [d1, d2] => { results := [.lit (.bool true)], args := [d1, d2] }
  | _ => none }
def fnGatedRow : OpenClaim := { program := "ytkfakoodejpjmaa", sum := "af8f6f2c825d0d412c9e604558b5d48aae30cb47901dddc8292f446e7196b41c", func := "loop.example/g01153/laws.FnGated", spec := "fnGated", inPlace := ["internal/abi.NoEscape"], unfollowed := true, recurses := true, plainKeys := false, apart := false }
def FnGatedSaid : Prop := fnGatedRow.holds Try.pinned (OpenSpec.ofChange fnGatedSpec)

/-- ITS FALSE NEIGHBOUR: 'it returns false'. Refute it at one input. -/
def fnGatedWrong : ChangeSpec := { name := "fnGated", fn := fun _ => fun
  | [d1, d2] => { results := [.lit (.bool false)], args := [d1, d2] }
  | _ => none }
def FnGatedWrongFalsely : Prop := fnGatedRow.holds Try.pinned (OpenSpec.ofChange fnGatedWrong)

/-- 'laws.FnSwitched': WHATEVER THE INPUT: true; the input reads as it did. -/
def fnSwitchedSpec : ChangeSpec := { name := "fnSwitched", fn := fun _ => fun
  | [d1, d2] => { results := [.lit (.bool true)], args := [d1, d2] }
  | _ => none }
def fnSwitchedRow : OpenClaim := { program := "ytkfakoodejpjmaa", sum := "af8f6f2c825d0d412c9e604558b5d48aae30cb47901dddc8292f446e7196b41c", func := "loop.example/g01153/laws.FnSwitched", spec := "fnSwitched", inPlace := ["internal/abi.NoEscape"], unfollowed := true, recurses := true, plainKeys := false, apart := false }
def FnSwitchedSaid : Prop := fnSwitchedRow.holds Try.pinned (OpenSpec.ofChange fnSwitchedSpec)

/-- ITS FALSE NEIGHBOUR: 'it returns false'. Refute it at one input. -/
def fnSwitchedWrong : ChangeSpec := { name := "fnSwitched", fn := fun _ => fun
  | [d1, d2] => { results := [.lit (.bool false)], args := [d1, d2] }
  | _ => none }
def FnSwitchedWrongFalsely : Prop := fnSwitchedRow.holds Try.pinned (OpenSpec.ofChange fnSwitchedWrong)

/- THE SECOND FORM. 'bulk': how many values and letters a reading holds, each counted each time it is reached (what is shared counts as often as it is met; a slice's spare places count too). A statement '..UptoSaid' is the law's where the arguments, and the package variables that the reading takes, are together of bulk at most 1048576: NARROWER than '..Said'. Prove '..Said' where nothing that the law and all that it calls make is longer than what came in: it says more and counts as full. Else prove '..UptoSaid'. A law counts once. -/
mutual
def uptoBulk {H : Type} : DataW H → Nat
  | .lit (.string bytes) => bytes.length + 1
  | .lit _ => 1
  | .nil => 1
  | .ptr d => uptoBulk d + 1
  | .slice elems spare => uptoBulkAll elems + uptoBulkAll spare + 1
  | .agg parts => uptoBulkAll parts + 1
  | .iface _ d => uptoBulk d + 1
  | .map entries => uptoBulkEntries entries + 1
  | .held _ => 1
def uptoBulkAll {H : Type} : List (DataW H) → Nat
  | [] => 0
  | d :: r => uptoBulk d + uptoBulkAll r
def uptoBulkEntries {H : Type} : List (Lit × DataW H) → Nat
  | [] => 0
  | x :: r => uptoBulkEntry x + uptoBulkEntries r
def uptoBulkEntry {H : Type} : Lit × DataW H → Nat
  | (.string bytes, d) => bytes.length + uptoBulk d + 1
  | (_, d) => uptoBulk d + 1
 end
def uptoSmall : (H : Type) → List (DataW H) → Bool := fun _ ds => decide (uptoBulkAll ds ≤ 1048576)
def OpenSpec.upto (s : _root_.Go.ChangeSpec) : _root_.Go.OpenSpec := { _root_.Go.OpenSpec.ofChange s with cond := some uptoSmall }

/-- 'laws.FnExactWaveOf', WHERE WHAT IT READS IS OF BULK AT MOST 1048576: true; the input reads as it did. -/
def fnExactWaveOfUptoRow : OpenClaim := { program := "ytkfakoodejpjmaa", sum := "af8f6f2c825d0d412c9e604558b5d48aae30cb47901dddc8292f446e7196b41c", func := "loop.example/g01153/laws.FnExactWaveOf", spec := "fnExactWaveOf", inPlace := ["internal/abi.NoEscape"], plainKeys := false, apart := false, narrowed := true }
def FnExactWaveOfUptoSaid : Prop := fnExactWaveOfUptoRow.holds Try.pinned (OpenSpec.upto fnExactWaveOfSpec)

/-- 'laws.FnClockEdges', WHERE WHAT IT READS IS OF BULK AT MOST 1048576: true; the input reads as it did. -/
def fnClockEdgesUptoRow : OpenClaim := { program := "ytkfakoodejpjmaa", sum := "af8f6f2c825d0d412c9e604558b5d48aae30cb47901dddc8292f446e7196b41c", func := "loop.example/g01153/laws.FnClockEdges", spec := "fnClockEdges", inPlace := ["internal/abi.NoEscape"], plainKeys := false, apart := false, narrowed := true }
def FnClockEdgesUptoSaid : Prop := fnClockEdgesUptoRow.holds Try.pinned (OpenSpec.upto fnClockEdgesSpec)

/-- 'laws.FnTimings', WHERE WHAT IT READS IS OF BULK AT MOST 1048576: true; the input reads as it did. -/
def fnTimingsUptoRow : OpenClaim := { program := "ytkfakoodejpjmaa", sum := "af8f6f2c825d0d412c9e604558b5d48aae30cb47901dddc8292f446e7196b41c", func := "loop.example/g01153/laws.FnTimings", spec := "fnTimings", unfollowed := true, recurses := true, plainKeys := false, apart := false, narrowed := true }
def FnTimingsUptoSaid : Prop := fnTimingsUptoRow.holds Try.pinned (OpenSpec.upto fnTimingsSpec)

/-- 'laws.FnGated', WHERE WHAT IT READS IS OF BULK AT MOST 1048576: true; the input reads as it did. -/
def fnGatedUptoRow : OpenClaim := { program := "ytkfakoodejpjmaa", sum := "af8f6f2c825d0d412c9e604558b5d48aae30cb47901dddc8292f446e7196b41c", func := "loop.example/g01153/laws.FnGated", spec := "fnGated", inPlace := ["internal/abi.NoEscape"], unfollowed := true, recurses := true, plainKeys := false, apart := false, narrowed := true }
def FnGatedUptoSaid : Prop := fnGatedUptoRow.holds Try.pinned (OpenSpec.upto fnGatedSpec)

/-- 'laws.FnSwitched', WHERE WHAT IT READS IS OF BULK AT MOST 1048576: true; the input reads as it did. -/
def fnSwitchedUptoRow : OpenClaim := { program := "ytkfakoodejpjmaa", sum := "af8f6f2c825d0d412c9e604558b5d48aae30cb47901dddc8292f446e7196b41c", func := "loop.example/g01153/laws.FnSwitched", spec := "fnSwitched", inPlace := ["internal/abi.NoEscape"], unfollowed := true, recurses := true, plainKeys := false, apart := false, narrowed := true }
def FnSwitchedUptoSaid : Prop := fnSwitchedUptoRow.holds Try.pinned (OpenSpec.upto fnSwitchedSpec)

end Rows
end Go.Proofs.Ytkfakoodejpjmaa
