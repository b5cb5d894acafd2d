/-
  No cell of these rows narrows 'for every input' (looked for: loops, veiled, ifaces, maps, wideKeys, modest, calm, conditions, laid).
  DERIVED. THE GIVEN ROWS OF THIS SEAT. 4 by the template 'for every input the law returns true; each argument reads behind the call as it read before'; 0 by the template 'total and deterministic' (their statements: YtljbblfdaphjpacTotals.lean).
  GIVEN WITH THE SEED: the statements are not yours to turn. If you find one false, say at which input.
  Laid BY PROGRAM, IN A SANDBOX (cutbox-rows.mjs): the forced cells as the released guide's own fill.sh prints them over the translation 06550b615a1a63d4… (all of the seat's roots in one cut). By AI agents, Wed Nov 11 2026. No macro, syntax, notation, axiom, sorry.
-/
import Derived.Test.YtljbblfdaphjpacChecked
import GoSem.Claim
import GoSem.ClaimJoined
import GoSem.ClaimMapViews
import Derived.JoinedTies
import Derived.KernelRfl
namespace Go.Proofs.Ytljbblfdaphjpac
/- THE CELL 'sum', in the pinned program and in every row, IS THE sha256 OF THE DUMP (.gsa) THAT YtljbblfdaphjpacProg.lean LOADS. Nothing in Lean hashes anything: it is a label: what it is worth is what the hold of that sum in a sandbox is worth. -/
noncomputable def Try.pinned : Pinned := { name := "ytljbblfdaphjpac", sum := "06550b615a1a63d40df251721b8278a5c5d4a3206145f10e1a69bbc38f350378", checked := Try.checked }
namespace Rows
def none {H : Type} : Left H := { results := [], args := [] }

/-- 'laws.FnExactSpikesOf': WHATEVER THE INPUT: true; the input reads as it did. -/
def fnExactSpikesOfSpec : ChangeSpec := { name := "fnExactSpikesOf", fn := fun _ => fun
  | [d1, d2] => { results := [.lit (.bool true)], args := [d1, d2] }
  | _ => none }
def fnExactSpikesOfRow : OpenClaim := { program := "ytljbblfdaphjpac", sum := "06550b615a1a63d40df251721b8278a5c5d4a3206145f10e1a69bbc38f350378", func := "loop.example/g01153/laws.FnExactSpikesOf", spec := "fnExactSpikesOf", apart := false }
def FnExactSpikesOfSaid : Prop := fnExactSpikesOfRow.holds Try.pinned (OpenSpec.ofChange fnExactSpikesOfSpec)

/-- ITS FALSE NEIGHBOUR: 'it returns false'. Refute it at one input. -/
def fnExactSpikesOfWrong : ChangeSpec := { name := "fnExactSpikesOf", fn := fun _ => fun
  | [d1, d2] => { results := [.lit (.bool false)], args := [d1, d2] }
  | _ => none }
def FnExactSpikesOfWrongFalsely : Prop := fnExactSpikesOfRow.holds Try.pinned (OpenSpec.ofChange fnExactSpikesOfWrong)

/-- 'laws.FnExactMendCounter': WHATEVER THE INPUT: true; the input reads as it did. -/
def fnExactMendCounterSpec : ChangeSpec := { name := "fnExactMendCounter", fn := fun _ => fun
  | [d1, d2] => { results := [.lit (.bool true)], args := [d1, d2] }
  | _ => none }
def fnExactMendCounterRow : OpenClaim := { program := "ytljbblfdaphjpac", sum := "06550b615a1a63d40df251721b8278a5c5d4a3206145f10e1a69bbc38f350378", func := "loop.example/g01153/laws.FnExactMendCounter", spec := "fnExactMendCounter", unfollowed := true, recurses := true, apart := false }
def FnExactMendCounterSaid : Prop := fnExactMendCounterRow.holds Try.pinned (OpenSpec.ofChange fnExactMendCounterSpec)

/-- ITS FALSE NEIGHBOUR: 'it returns false'. Refute it at one input. -/
def fnExactMendCounterWrong : ChangeSpec := { name := "fnExactMendCounter", fn := fun _ => fun
  | [d1, d2] => { results := [.lit (.bool false)], args := [d1, d2] }
  | _ => none }
def FnExactMendCounterWrongFalsely : Prop := fnExactMendCounterRow.holds Try.pinned (OpenSpec.ofChange fnExactMendCounterWrong)

/-- 'laws.FnExactOutputOf': WHATEVER THE INPUT: true; the input reads as it did. -/
def fnExactOutputOfSpec : ChangeSpec := { name := "fnExactOutputOf", fn := fun _ => fun
  | [d1, d2, d3, d4] => { results := [.lit (.bool true)], args := [d1, d2, d3, d4] }
  | _ => none }
def fnExactOutputOfRow : OpenClaim := { program := "ytljbblfdaphjpac", sum := "06550b615a1a63d40df251721b8278a5c5d4a3206145f10e1a69bbc38f350378", func := "loop.example/g01153/laws.FnExactOutputOf", spec := "fnExactOutputOf", inPlace := ["internal/abi.NoEscape"], apart := false }
def FnExactOutputOfSaid : Prop := fnExactOutputOfRow.holds Try.pinned (OpenSpec.ofChange fnExactOutputOfSpec)

/-- ITS FALSE NEIGHBOUR: 'it returns false'. Refute it at one input. -/
def fnExactOutputOfWrong : ChangeSpec := { name := "fnExactOutputOf", fn := fun _ => fun
  | [d1, d2, d3, d4] => { results := [.lit (.bool false)], args := [d1, d2, d3, d4] }
  | _ => none }
def FnExactOutputOfWrongFalsely : Prop := fnExactOutputOfRow.holds Try.pinned (OpenSpec.ofChange fnExactOutputOfWrong)

/-- 'laws.FnKnownCounters': WHATEVER THE INPUT: true; the input reads as it did. -/
def fnKnownCountersSpec : ChangeSpec := { name := "fnKnownCounters", fn := fun _ => fun
  | [d1, d2] => { results := [.lit (.bool true)], args := [d1, d2] }
  | _ => none }
def fnKnownCountersRow : OpenClaim := { program := "ytljbblfdaphjpac", sum := "06550b615a1a63d40df251721b8278a5c5d4a3206145f10e1a69bbc38f350378", func := "loop.example/g01153/laws.FnKnownCounters", spec := "fnKnownCounters", unfollowed := true, recurses := true, apart := false }
def FnKnownCountersSaid : Prop := fnKnownCountersRow.holds Try.pinned (OpenSpec.ofChange fnKnownCountersSpec)

/-- ITS FALSE NEIGHBOUR: 'it returns false'. Refute it at one input. -/
def fnKnownCountersWrong : ChangeSpec := { name := "fnKnownCounters", fn := fun _ => fun
  | [d1, d2] => { results := [.lit (.bool false)], args := [d1, d2] }
  | _ => none }
def FnKnownCountersWrongFalsely : Prop := fnKnownCountersRow.holds Try.pinned (OpenSpec.ofChange fnKnownCountersWrong)

/- THE SECOND FORM. 'bulk': how many values and letters a reading holds, each counted each time it is reached (what is shared counts as often as it is met; a slice's spare places count too). A statement '..UptoSaid' is the law's where the arguments, and the package variables that the reading takes, are together of bulk at most 1048576: NARROWER than '..Said'. Prove '..Said' where nothing that the law and all that it calls make is longer than what came in: it says more and counts as full. Else prove '..UptoSaid'. A law counts once. -/
mutual
def uptoBulk {H : Type} : DataW H → Nat
  | .lit (.string bytes) => bytes.length + 1
  | .lit _ => 1
  | .nil => 1
  | .ptr d => uptoBulk d + 1
  | .slice elems spare => uptoBulkAll elems + uptoBulkAll spare + 1
  | .agg parts => uptoBulkAll parts + 1
  | .iface _ d => uptoBulk d + 1
  | .map entries => uptoBulkEntries entries + 1
  | .held _ => 1
def uptoBulkAll {H : Type} : List (DataW H) → Nat
  | [] => 0
  | d :: r => uptoBulk d + uptoBulkAll r
def uptoBulkEntries {H : Type} : List (Lit × DataW H) → Nat
  | [] => 0
  | x :: r => uptoBulkEntry x + uptoBulkEntries r
def uptoBulkEntry {H : Type} : Lit × DataW H → Nat
  | (.string bytes, d) => bytes.length + uptoBulk d + 1
  | (_, d) => uptoBulk d + 1
 end
def uptoSmall : (H : Type) → List (DataW H) → Bool := fun _ ds => decide (uptoBulkAll ds ≤ 1048576)
def OpenSpec.upto (s : _root_.Go.ChangeSpec) : _root_.Go.OpenSpec := { _root_.Go.OpenSpec.ofChange s with cond := some uptoSmall }

/-- 'laws.FnExactSpikesOf', WHERE WHAT IT READS IS OF BULK AT MOST 1048576: true; the input reads as it did. -/
def fnExactSpikesOfUptoRow : OpenClaim := { program := "ytljbblfdaphjpac", sum := "06550b615a1a63d40df251721b8278a5c5d4a3206145f10e1a69bbc38f350378", func := "loop.example/g01153/laws.FnExactSpikesOf", spec := "fnExactSpikesOf", apart := false, narrowed := true }
def FnExactSpikesOfUptoSaid : Prop := fnExactSpikesOfUptoRow.holds Try.pinned (OpenSpec.upto fnExactSpikesOfSpec)

/-- 'laws.FnExactMendCounter', WHERE WHAT IT READS IS OF BULK AT MOST 1048576: true; the input reads as it did. -/
def fnExactMendCounterUptoRow : OpenClaim := { program := "ytljbblfdaphjpac", sum := "06550b615a1a63d40df251721b8278a5c5d4a3206145f10e1a69bbc38f350378", func := "loop.example/g01153/laws.FnExactMendCounter", spec := "fnExactMendCounter", unfollowed := true, recurses := true, apart := false, narrowed := true }
def FnExactMendCounterUptoSaid : Prop := fnExactMendCounterUptoRow.holds Try.pinned (OpenSpec.upto fnExactMendCounterSpec)

/-- 'laws.FnExactOutputOf', WHERE WHAT IT READS IS OF BULK AT MOST 1048576: true; the input reads as it did. -/
def fnExactOutputOfUptoRow : OpenClaim := { program := "ytljbblfdaphjpac", sum := "06550b615a1a63d40df251721b8278a5c5d4a3206145f10e1a69bbc38f350378", func := "loop.example/g01153/laws.FnExactOutputOf", spec := "fnExactOutputOf", inPlace := ["internal/abi.NoEscape"], apart := false, narrowed := true }
def FnExactOutputOfUptoSaid : Prop := fnExactOutputOfUptoRow.holds Try.pinned (OpenSpec.upto fnExactOutputOfSpec)

/-- 'laws.FnKnownCounters', WHERE WHAT IT READS IS OF BULK AT MOST 1048576: true; the input reads as it did. -/
def fnKnownCountersUptoRow : OpenClaim := { program := "ytljbblfdaphjpac", sum := "06550b615a1a63d40df251721b8278a5c5d4a3206145f10e1a69bbc38f350378", func := "loop.example/g01153/laws.FnKnownCounters", spec := "fnKnownCounters", unfollowed := true, recurses := true, apart := false, narrowed := true }
def FnKnownCountersUptoSaid : Prop := fnKnownCountersUptoRow.holds Try.pinned (OpenSpec.upto fnKnownCountersSpec)

end Rows
end Go.Proofs.Ytljbblfdaphjpac
