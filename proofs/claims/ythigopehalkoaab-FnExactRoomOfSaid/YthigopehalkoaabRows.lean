/-
  No cell of these rows narrows 'for every input' (looked for: loops, veiled, ifaces, maps, wideKeys, modest, calm, conditions, laid).
  DERIVED. THE GIVEN ROWS OF THIS SEAT. 9 by the template 'for every input the law returns true; each argument reads behind the call as it read before'; 0 by the template 'total and deterministic' (their statements: YthigopehalkoaabTotals.lean).
  GIVEN WITH THE SEED: the statements are not yours to turn. If you find one false, say at which input.
  Laid BY PROGRAM, IN A SANDBOX (cutbox-rows.mjs): the forced cells as the released guide's own fill.sh prints them over the translation 62dd41cbbc3d660f… (all of the seat's roots in one cut). By AI agents, Wed Nov 11 2026. No macro, syntax, notation, axiom, sorry.
-/
import Derived.Test.YthigopehalkoaabChecked
import GoSem.Claim
import GoSem.ClaimJoined
import GoSem.ClaimMapViews
import Derived.JoinedTies
import Derived.KernelRfl
namespace Go.Proofs.Ythigopehalkoaab
/- THE CELL 'sum', in the pinned program and in every row, IS THE sha256 OF THE DUMP (.gsa) THAT YthigopehalkoaabProg.lean LOADS. Nothing in Lean hashes anything: it is a label: what it is worth is what the hold of that sum in a sandbox is worth. -/
noncomputable def Try.pinned : Pinned := { name := "ythigopehalkoaab", sum := "62dd41cbbc3d660fab07d45761c77555f1024c1194cfd2172086ba3882d69701", checked := Try.checked }
namespace Rows
def none {H : Type} : Left H := { results := [], args := [] }

/-- 'laws.FnExactTightestBounds': WHATEVER THE INPUT: true; the input reads as it did. -/
def fnExactTightestBoundsSpec : ChangeSpec := { name := "fnExactTightestBounds", fn := fun _ => fun
  | [d] => { results := [.lit (.bool true)], args := [d] }
  | _ => none }
def fnExactTightestBoundsRow : OpenClaim := { program := "ythigopehalkoaab", sum := "62dd41cbbc3d660fab07d45761c77555f1024c1194cfd2172086ba3882d69701", func := "loop.example/g01153/laws.FnExactTightestBounds", spec := "fnExactTightestBounds", plainKeys := false, apart := false }
def FnExactTightestBoundsSaid : Prop := fnExactTightestBoundsRow.holds Try.pinned (OpenSpec.ofChange fnExactTightestBoundsSpec)

/-- ITS FALSE NEIGHBOUR: 'it returns false'. Refute it at one input. -/
def fnExactTightestBoundsWrong : ChangeSpec := { name := "fnExactTightestBounds", fn := fun _ => fun
  | [d] => { results := [.lit (.bool false)], args := [d] }
  | _ => none }
def FnExactTightestBoundsWrongFalsely : Prop := fnExactTightestBoundsRow.holds Try.pinned (OpenSpec.ofChange fnExactTightestBoundsWrong)

/-- 'laws.FnExactGapOf': WHATEVER THE INPUT: true; the input reads as it did. -/
def fnExactGapOfSpec : ChangeSpec := { name := "fnExactGapOf", fn := fun _ => fun
  | [d1, d2, d3] => { results := [.lit (.bool true)], args := [d1, d2, d3] }
  | _ => none }
def fnExactGapOfRow : OpenClaim := { program := "ythigopehalkoaab", sum := "62dd41cbbc3d660fab07d45761c77555f1024c1194cfd2172086ba3882d69701", func := "loop.example/g01153/laws.FnExactGapOf", spec := "fnExactGapOf", plainKeys := false, apart := false }
def FnExactGapOfSaid : Prop := fnExactGapOfRow.holds Try.pinned (OpenSpec.ofChange fnExactGapOfSpec)

/-- ITS FALSE NEIGHBOUR: 'it returns false'. Refute it at one input. -/
def fnExactGapOfWrong : ChangeSpec := { name := "fnExactGapOf", fn := fun _ => fun
  | [d1, d2, d3] => { results := [.lit (.bool false)], args := [d1, d2, d3] }
  | _ => none }
def FnExactGapOfWrongFalsely : Prop := fnExactGapOfRow.holds Try.pinned (OpenSpec.ofChange fnExactGapOfWrong)

/-- 'laws.FnExactEarliestTimes': WHATEVER THE INPUT: true; the input reads as it did. -/
def fnExactEarliestTimesSpec : ChangeSpec := { name := "fnExactEarliestTimes", fn := fun _ => fun
  | [d1, d2] => { results := [.lit (.bool true)], args := [d1, d2] }
  | _ => none }
def fnExactEarliestTimesRow : OpenClaim := { program := "ythigopehalkoaab", sum := "62dd41cbbc3d660fab07d45761c77555f1024c1194cfd2172086ba3882d69701", func := "loop.example/g01153/laws.FnExactEarliestTimes", spec := "fnExactEarliestTimes", unfollowed := true, recurses := true, plainKeys := false, apart := false }
def FnExactEarliestTimesSaid : Prop := fnExactEarliestTimesRow.holds Try.pinned (OpenSpec.ofChange fnExactEarliestTimesSpec)

/-- ITS FALSE NEIGHBOUR: 'it returns false'. Refute it at one input. -/
def fnExactEarliestTimesWrong : ChangeSpec := { name := "fnExactEarliestTimes", fn := fun _ => fun
  | [d1, d2] => { results := [.lit (.bool false)], args := [d1, d2] }
  | _ => none }
def FnExactEarliestTimesWrongFalsely : Prop := fnExactEarliestTimesRow.holds Try.pinned (OpenSpec.ofChange fnExactEarliestTimesWrong)

/-- 'laws.FnExactLatestTimes': WHATEVER THE INPUT: true; the input reads as it did. -/
def fnExactLatestTimesSpec : ChangeSpec := { name := "fnExactLatestTimes", fn := fun _ => fun
  | [d1, d2] => { results := [.lit (.bool true)], args := [d1, d2] }
  | _ => none }
def fnExactLatestTimesRow : OpenClaim := { program := "ythigopehalkoaab", sum := "62dd41cbbc3d660fab07d45761c77555f1024c1194cfd2172086ba3882d69701", func := "loop.example/g01153/laws.FnExactLatestTimes", spec := "fnExactLatestTimes", unfollowed := true, recurses := true, plainKeys := false, apart := false }
def FnExactLatestTimesSaid : Prop := fnExactLatestTimesRow.holds Try.pinned (OpenSpec.ofChange fnExactLatestTimesSpec)

/-- ITS FALSE NEIGHBOUR: 'it returns false'. Refute it at one input. -/
def fnExactLatestTimesWrong : ChangeSpec := { name := "fnExactLatestTimes", fn := fun _ => fun
  | [d1, d2] => { results := [.lit (.bool false)], args := [d1, d2] }
  | _ => none }
def FnExactLatestTimesWrongFalsely : Prop := fnExactLatestTimesRow.holds Try.pinned (OpenSpec.ofChange fnExactLatestTimesWrong)

/-- 'laws.FnExactFollowsFrom': WHATEVER THE INPUT: true; the input reads as it did. -/
def fnExactFollowsFromSpec : ChangeSpec := { name := "fnExactFollowsFrom", fn := fun _ => fun
  | [d1, d2] => { results := [.lit (.bool true)], args := [d1, d2] }
  | _ => none }
def fnExactFollowsFromRow : OpenClaim := { program := "ythigopehalkoaab", sum := "62dd41cbbc3d660fab07d45761c77555f1024c1194cfd2172086ba3882d69701", func := "loop.example/g01153/laws.FnExactFollowsFrom", spec := "fnExactFollowsFrom", plainKeys := false, apart := false }
def FnExactFollowsFromSaid : Prop := fnExactFollowsFromRow.holds Try.pinned (OpenSpec.ofChange fnExactFollowsFromSpec)

/-- ITS FALSE NEIGHBOUR: 'it returns false'. Refute it at one input. -/
def fnExactFollowsFromWrong : ChangeSpec := { name := "fnExactFollowsFrom", fn := fun _ => fun
  | [d1, d2] => { results := [.lit (.bool false)], args := [d1, d2] }
  | _ => none }
def FnExactFollowsFromWrongFalsely : Prop := fnExactFollowsFromRow.holds Try.pinned (OpenSpec.ofChange fnExactFollowsFromWrong)

/-- 'laws.FnExactRoomOf': WHATEVER THE INPUT: true; the input reads as it did. -/
def fnExactRoomOfSpec : ChangeSpec := { name := "fnExactRoomOf", fn := fun _ => fun
  | [d1, d2] => { results := [.lit (.bool true)], args := [d1, d2] }
  | _ => none }
def fnExactRoomOfRow : OpenClaim := { program := "ythigopehalkoaab", sum := "62dd41cbbc3d660fab07d45761c77555f1024c1194cfd2172086ba3882d69701", func := "loop.example/g01153/laws.FnExactRoomOf", spec := "fnExactRoomOf", plainKeys := false, apart := false }
def FnExactRoomOfSaid : Prop := fnExactRoomOfRow.holds Try.pinned (OpenSpec.ofChange fnExactRoomOfSpec)

/-- ITS FALSE NEIGHBOUR: 'it returns false'. Refute it at one input. -/
def fnExactRoomOfWrong : ChangeSpec := { name := "fnExactRoomOf", fn := fun _ => fun
  | [d1, d2] => { results := [.lit (.bool false)], args := [d1, d2] }
  | _ => none }
def FnExactRoomOfWrongFalsely : Prop := fnExactRoomOfRow.holds Try.pinned (OpenSpec.ofChange fnExactRoomOfWrong)

/-- 'laws.FnExactNeededBounds': WHATEVER THE INPUT: true; the input reads as it did. -/
def fnExactNeededBoundsSpec : ChangeSpec := { name := "fnExactNeededBounds", fn := fun _ => fun
  | [d] => { results := [.lit (.bool true)], args := [d] }
  | _ => none }
def fnExactNeededBoundsRow : OpenClaim := { program := "ythigopehalkoaab", sum := "62dd41cbbc3d660fab07d45761c77555f1024c1194cfd2172086ba3882d69701", func := "loop.example/g01153/laws.FnExactNeededBounds", spec := "fnExactNeededBounds", plainKeys := false, apart := false }
def FnExactNeededBoundsSaid : Prop := fnExactNeededBoundsRow.holds Try.pinned (OpenSpec.ofChange fnExactNeededBoundsSpec)

/-- ITS FALSE NEIGHBOUR: 'it returns false'. Refute it at one input. -/
def fnExactNeededBoundsWrong : ChangeSpec := { name := "fnExactNeededBounds", fn := fun _ => fun
  | [d] => { results := [.lit (.bool false)], args := [d] }
  | _ => none }
def FnExactNeededBoundsWrongFalsely : Prop := fnExactNeededBoundsRow.holds Try.pinned (OpenSpec.ofChange fnExactNeededBoundsWrong)

/-- 'laws.FnExactValidCircuit': WHATEVER THE INPUT: true; the input reads as it did. -/
def fnExactValidCircuitSpec : ChangeSpec := { name := "fnExactValidCircuit", fn := fun _ => fun
  | [d] => { results := [.lit (.bool true)], args := [d] }
  | _ => none }
def fnExactValidCircuitRow : OpenClaim := { program := "ythigopehalkoaab", sum := "62dd41cbbc3d660fab07d45761c77555f1024c1194cfd2172086ba3882d69701", func := "loop.example/g01153/laws.FnExactValidCircuit", spec := "fnExactValidCircuit", unfollowed := true, recurses := true, plainKeys := false, apart := false }
def FnExactValidCircuitSaid : Prop := fnExactValidCircuitRow.holds Try.pinned (OpenSpec.ofChange fnExactValidCircuitSpec)

/-- ITS FALSE NEIGHBOUR: 'it returns false'. Refute it at one input. -/
def fnExactValidCircuitWrong : ChangeSpec := { name := "fnExactValidCircuit", fn := fun _ => fun
  | [d] => { results := [.lit (.bool false)], args := [d] }
  | _ => none }
def FnExactValidCircuitWrongFalsely : Prop := fnExactValidCircuitRow.holds Try.pinned (OpenSpec.ofChange fnExactValidCircuitWrong)

/-- 'laws.FnExactPulsesOf': WHATEVER THE INPUT: true; the input reads as it did. -/
def fnExactPulsesOfSpec : ChangeSpec := { name := "fnExactPulsesOf", fn := fun _ => fun
  | [d] => { results := [.lit (.bool true)], args := [d] }
  | _ => none }
def fnExactPulsesOfRow : OpenClaim := { program := "ythigopehalkoaab", sum := "62dd41cbbc3d660fab07d45761c77555f1024c1194cfd2172086ba3882d69701", func := "loop.example/g01153/laws.FnExactPulsesOf", spec := "fnExactPulsesOf", unfollowed := true, recurses := true, plainKeys := false, apart := false }
def FnExactPulsesOfSaid : Prop := fnExactPulsesOfRow.holds Try.pinned (OpenSpec.ofChange fnExactPulsesOfSpec)

/-- ITS FALSE NEIGHBOUR: 'it returns false'. Refute it at one input. -/
def fnExactPulsesOfWrong : ChangeSpec := { name := "fnExactPulsesOf", fn := fun _ => fun
  | [d] => { results := [.lit (.bool false)], args := [d] }
  | _ => none }
def FnExactPulsesOfWrongFalsely : Prop := fnExactPulsesOfRow.holds Try.pinned (OpenSpec.ofChange fnExactPulsesOfWrong)

/- THE SECOND FORM. 'bulk': how many values and letters a reading holds, each counted each time it is reached (what is shared counts as often as it is met; a slice's spare places count too). A statement '..UptoSaid' is the law's where the arguments, and the package variables that the reading takes, are together of bulk at most 1048576: NARROWER than '..Said'. Prove '..Said' where nothing that the law and all that it calls make is longer than what came in: it says more and counts as full. Else prove '..UptoSaid'. A law counts once. -/
mutual
def uptoBulk {H : Type} : DataW H → Nat
  | .lit (.string bytes) => bytes.length + 1
  | .lit _ => 1
  | .nil => 1
  | .ptr d => uptoBulk d + 1
  | .slice elems spare => uptoBulkAll elems + uptoBulkAll spare + 1
  | .agg parts => uptoBulkAll parts + 1
  | .iface _ d => uptoBulk d + 1
  | .map entries => uptoBulkEntries entries + 1
  | .held _ => 1
def uptoBulkAll {H : Type} : List (DataW H) → Nat
  | [] => 0
  | d :: r => uptoBulk d + uptoBulkAll r
def uptoBulkEntries {H : Type} : List (Lit × DataW H) → Nat
  | [] => 0
  | x :: r => uptoBulkEntry x + uptoBulkEntries r
def uptoBulkEntry {H : Type} : Lit × DataW H → Nat
  | (.string bytes, d) => bytes.length + uptoBulk d + 1
  | (_, d) => uptoBulk d + 1
 end
def uptoSmall : (H : Type) → List (DataW H) → Bool := fun _ ds => decide (uptoBulkAll ds ≤ 1048576)
def OpenSpec.upto (s : _root_.Go.ChangeSpec) : _root_.Go.OpenSpec := { _root_.Go.OpenSpec.ofChange s with cond := some uptoSmall }

/-- 'laws.FnExactTightestBounds', WHERE WHAT IT READS IS OF BULK AT MOST 1048576: true; the input reads as it did. -/
def fnExactTightestBoundsUptoRow : OpenClaim := { program := "ythigopehalkoaab", sum := "62dd41cbbc3d660fab07d45761c77555f1024c1194cfd2172086ba3882d69701", func := "loop.example/g01153/laws.FnExactTightestBounds", spec := "fnExactTightestBounds", plainKeys := false, apart := false, narrowed := true }
def FnExactTightestBoundsUptoSaid : Prop := fnExactTightestBoundsUptoRow.holds Try.pinned (OpenSpec.upto fnExactTightestBoundsSpec)

/-- 'laws.FnExactGapOf', WHERE WHAT IT READS IS OF BULK AT MOST 1048576: true; the input reads as it did. -/
def fnExactGapOfUptoRow : OpenClaim := { program := "ythigopehalkoaab", sum := "62dd41cbbc3d660fab07d45761c77555f1024c1194cfd2172086ba3882d69701", func := "loop.example/g01153/laws.FnExactGapOf", spec := "fnExactGapOf", plainKeys := false, apart := false, narrowed := true }
def FnExactGapOfUptoSaid : Prop := fnExactGapOfUptoRow.holds Try.pinned (OpenSpec.upto fnExactGapOfSpec)

/-- 'laws.FnExactEarliestTimes', WHERE WHAT IT READS IS OF BULK AT MOST 1048576: true; the input reads as it did. -/
def fnExactEarliestTimesUptoRow : OpenClaim := { program := "ythigopehalkoaab", sum := "62dd41cbbc3d660fab07d45761c77555f1024c1194cfd2172086ba3882d69701", func := "loop.example/g01153/laws.FnExactEarliestTimes", spec := "fnExactEarliestTimes", unfollowed := true, recurses := true, plainKeys := false, apart := false, narrowed := true }
def FnExactEarliestTimesUptoSaid : Prop := fnExactEarliestTimesUptoRow.holds Try.pinned (OpenSpec.upto fnExactEarliestTimesSpec)

/-- 'laws.FnExactLatestTimes', WHERE WHAT IT READS IS OF BULK AT MOST 1048576: true; the input reads as it did. -/
def fnExactLatestTimesUptoRow : OpenClaim := { program := "ythigopehalkoaab", sum := "62dd41cbbc3d660fab07d45761c77555f1024c1194cfd2172086ba3882d69701", func := "loop.example/g01153/laws.FnExactLatestTimes", spec := "fnExactLatestTimes", unfollowed := true, recurses := true, plainKeys := false, apart := false, narrowed := true }
def FnExactLatestTimesUptoSaid : Prop := fnExactLatestTimesUptoRow.holds Try.pinned (OpenSpec.upto fnExactLatestTimesSpec)

/-- 'laws.FnExactFollowsFrom', WHERE WHAT IT READS IS OF BULK AT MOST 1048576: true; the input reads as it did. -/
def fnExactFollowsFromUptoRow : OpenClaim := { program := "ythigopehalkoaab", sum := "62dd41cbbc3d660fab07d45761c77555f1024c1194cfd2172086ba3882d69701", func := "loop.example/g01153/laws.FnExactFollowsFrom", spec := "fnExactFollowsFrom", plainKeys := false, apart := false, narrowed := true }
def FnExactFollowsFromUptoSaid : Prop := fnExactFollowsFromUptoRow.holds Try.pinned (OpenSpec.upto fnExactFollowsFromSpec)

/-- 'laws.FnExactRoomOf', WHERE WHAT IT READS IS OF BULK AT MOST 1048576: true; the input reads as it did. -/
def fnExactRoomOfUptoRow : OpenClaim := { program := "ythigopehalkoaab", sum := "62dd41cbbc3d660fab07d45761c77555f1024c1194cfd2172086ba3882d69701", func := "loop.example/g01153/laws.FnExactRoomOf", spec := "fnExactRoomOf", plainKeys := false, apart := false, narrowed := true }
def FnExactRoomOfUptoSaid : Prop := fnExactRoomOfUptoRow.holds Try.pinned (OpenSpec.upto fnExactRoomOfSpec)

/-- 'laws.FnExactNeededBounds', WHERE WHAT IT READS IS OF BULK AT MOST 1048576: true; the input reads as it did. -/
def fnExactNeededBoundsUptoRow : OpenClaim := { program := "ythigopehalkoaab", sum := "62dd41cbbc3d660fab07d45761c77555f1024c1194cfd2172086ba3882d69701", func := "loop.example/g01153/laws.FnExactNeededBounds", spec := "fnExactNeededBounds", plainKeys := false, apart := false, narrowed := true }
def FnExactNeededBoundsUptoSaid : Prop := fnExactNeededBoundsUptoRow.holds Try.pinned (OpenSpec.upto fnExactNeededBoundsSpec)

/-- 'laws.FnExactValidCircuit', WHERE WHAT IT READS IS OF BULK AT MOST 1048576: true; the input reads as it did. -/
def fnExactValidCircuitUptoRow : OpenClaim := { program := "ythigopehalkoaab", sum := "62dd41cbbc3d660fab07d45761c77555f1024c1194cfd2172086ba3882d69701", func := "loop.example/g01153/laws.FnExactValidCircuit", spec := "fnExactValidCircuit", unfollowed := true, recurses := true, plainKeys := false, apart := false, narrowed := true }
def FnExactValidCircuitUptoSaid : Prop := fnExactValidCircuitUptoRow.holds Try.pinned (OpenSpec.upto fnExactValidCircuitSpec)

/-- 'laws.FnExactPulsesOf', WHERE WHAT IT READS IS OF BULK AT MOST 1048576: true; the input reads as it did. -/
def fnExactPulsesOfUptoRow : OpenClaim := { program := "ythigopehalkoaab", sum := "62dd41cbbc3d660fab07d45761c77555f1024c1194cfd2172086ba3882d69701", func := "loop.example/g01153/laws.FnExactPulsesOf", spec := "fnExactPulsesOf", unfollowed := true, recurses := true, plainKeys := false, apart := false, narrowed := true }
def FnExactPulsesOfUptoSaid : Prop := fnExactPulsesOfUptoRow.holds Try.pinned (OpenSpec.upto fnExactPulsesOfSpec)

end Rows
end Go.Proofs.Ythigopehalkoaab
