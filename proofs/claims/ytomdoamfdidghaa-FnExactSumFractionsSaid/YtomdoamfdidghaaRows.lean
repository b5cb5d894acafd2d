/-
  No cell of these rows narrows 'for every input' (looked for: loops, veiled, ifaces, maps, wideKeys, modest, calm, conditions, laid).
  DERIVED. THE GIVEN ROWS OF THIS SEAT. 6 by the template 'for every input the law returns true; each argument reads behind the call as it read before'; 0 by the template 'total and deterministic' (their statements: YtomdoamfdidghaaTotals.lean).
  GIVEN WITH THE SEED: the statements are not yours to turn. If you find one false, say at which input.
  Laid BY PROGRAM, IN A SANDBOX (cutbox-rows.mjs): the forced cells as the released guide's own fill.sh prints them over the translation b03e9f15bec6eec2… (all of the seat's roots in one cut). By AI agents, Wed Nov 11 2026. No macro, syntax, notation, axiom, sorry.
-/
import Derived.Test.YtomdoamfdidghaaChecked
import GoSem.Claim
import GoSem.ClaimJoined
import GoSem.ClaimMapViews
import Derived.JoinedTies
import Derived.KernelRfl
namespace Go.Proofs.Ytomdoamfdidghaa
/- THE CELL 'sum', in the pinned program and in every row, IS THE sha256 OF THE DUMP (.gsa) THAT YtomdoamfdidghaaProg.lean LOADS. Nothing in Lean hashes anything: it is a label: what it is worth is what the hold of that sum in a sandbox is worth. -/
noncomputable def Try.pinned : Pinned := { name := "ytomdoamfdidghaa", sum := "b03e9f15bec6eec281637ec9f1b8e23f079ca77526f30a3724661c937fb3788b", checked := Try.checked }
namespace Rows
def none {H : Type} : Left H := { results := [], args := [] }

/-- 'laws.FnExactFailChance': WHATEVER THE INPUT: true; the input reads as it did. -/
def fnExactFailChanceSpec : ChangeSpec := { name := "fnExactFailChance", fn := fun _ => fun
  | [d1, d2] => { results := [.lit (.bool true)], args := [d1, d2] }
  | _ => none }
def fnExactFailChanceRow : OpenClaim := { program := "ytomdoamfdidghaa", sum := "b03e9f15bec6eec281637ec9f1b8e23f079ca77526f30a3724661c937fb3788b", func := "loop.example/g01153/laws.FnExactFailChance", spec := "fnExactFailChance", named := ["math/bits.divideError", "math/bits.overflowError"], apart := false }
def FnExactFailChanceSaid : Prop := fnExactFailChanceRow.holds Try.pinned (OpenSpec.ofChange fnExactFailChanceSpec)

/-- ITS FALSE NEIGHBOUR: 'it returns false'. Refute it at one input. -/
def fnExactFailChanceWrong : ChangeSpec := { name := "fnExactFailChance", fn := fun _ => fun
  | [d1, d2] => { results := [.lit (.bool false)], args := [d1, d2] }
  | _ => none }
def FnExactFailChanceWrongFalsely : Prop := fnExactFailChanceRow.holds Try.pinned (OpenSpec.ofChange fnExactFailChanceWrong)

/-- 'laws.FnExactAddFractions': WHATEVER THE INPUT: true; the input reads as it did. -/
def fnExactAddFractionsSpec : ChangeSpec := { name := "fnExactAddFractions", fn := fun _ => fun
  | [d1, d2] => { results := [.lit (.bool true)], args := [d1, d2] }
  | _ => none }
def fnExactAddFractionsRow : OpenClaim := { program := "ytomdoamfdidghaa", sum := "b03e9f15bec6eec281637ec9f1b8e23f079ca77526f30a3724661c937fb3788b", func := "loop.example/g01153/laws.FnExactAddFractions", spec := "fnExactAddFractions", inPlace := ["math/bits.Add64", "math/bits.Sub64"], named := ["math/bits.divideError", "math/bits.overflowError"], apart := false }
def FnExactAddFractionsSaid : Prop := fnExactAddFractionsRow.holds Try.pinned (OpenSpec.ofChange fnExactAddFractionsSpec)

/-- ITS FALSE NEIGHBOUR: 'it returns false'. Refute it at one input. -/
def fnExactAddFractionsWrong : ChangeSpec := { name := "fnExactAddFractions", fn := fun _ => fun
  | [d1, d2] => { results := [.lit (.bool false)], args := [d1, d2] }
  | _ => none }
def FnExactAddFractionsWrongFalsely : Prop := fnExactAddFractionsRow.holds Try.pinned (OpenSpec.ofChange fnExactAddFractionsWrong)

/-- 'laws.FnExactSubFractions': WHATEVER THE INPUT: true; the input reads as it did. -/
def fnExactSubFractionsSpec : ChangeSpec := { name := "fnExactSubFractions", fn := fun _ => fun
  | [d1, d2] => { results := [.lit (.bool true)], args := [d1, d2] }
  | _ => none }
def fnExactSubFractionsRow : OpenClaim := { program := "ytomdoamfdidghaa", sum := "b03e9f15bec6eec281637ec9f1b8e23f079ca77526f30a3724661c937fb3788b", func := "loop.example/g01153/laws.FnExactSubFractions", spec := "fnExactSubFractions", inPlace := ["math/bits.Add64", "math/bits.Sub64"], named := ["math/bits.divideError", "math/bits.overflowError"], apart := false }
def FnExactSubFractionsSaid : Prop := fnExactSubFractionsRow.holds Try.pinned (OpenSpec.ofChange fnExactSubFractionsSpec)

/-- ITS FALSE NEIGHBOUR: 'it returns false'. Refute it at one input. -/
def fnExactSubFractionsWrong : ChangeSpec := { name := "fnExactSubFractions", fn := fun _ => fun
  | [d1, d2] => { results := [.lit (.bool false)], args := [d1, d2] }
  | _ => none }
def FnExactSubFractionsWrongFalsely : Prop := fnExactSubFractionsRow.holds Try.pinned (OpenSpec.ofChange fnExactSubFractionsWrong)

/-- 'laws.FnExactSumFractions': WHATEVER THE INPUT: true; the input reads as it did. -/
def fnExactSumFractionsSpec : ChangeSpec := { name := "fnExactSumFractions", fn := fun _ => fun
  | [d] => { results := [.lit (.bool true)], args := [d] }
  | _ => none }
def fnExactSumFractionsRow : OpenClaim := { program := "ytomdoamfdidghaa", sum := "b03e9f15bec6eec281637ec9f1b8e23f079ca77526f30a3724661c937fb3788b", func := "loop.example/g01153/laws.FnExactSumFractions", spec := "fnExactSumFractions", inPlace := ["math/bits.Add64", "math/bits.Sub64"], named := ["math/bits.divideError", "math/bits.overflowError"], apart := false }
def FnExactSumFractionsSaid : Prop := fnExactSumFractionsRow.holds Try.pinned (OpenSpec.ofChange fnExactSumFractionsSpec)

/-- ITS FALSE NEIGHBOUR: 'it returns false'. Refute it at one input. -/
def fnExactSumFractionsWrong : ChangeSpec := { name := "fnExactSumFractions", fn := fun _ => fun
  | [d] => { results := [.lit (.bool false)], args := [d] }
  | _ => none }
def FnExactSumFractionsWrongFalsely : Prop := fnExactSumFractionsRow.holds Try.pinned (OpenSpec.ofChange fnExactSumFractionsWrong)

/-- 'laws.FnExactValidLink': WHATEVER THE INPUT: true; the input reads as it did. -/
def fnExactValidLinkSpec : ChangeSpec := { name := "fnExactValidLink", fn := fun _ => fun
  | [d] => { results := [.lit (.bool true)], args := [d] }
  | _ => none }
def fnExactValidLinkRow : OpenClaim := { program := "ytomdoamfdidghaa", sum := "b03e9f15bec6eec281637ec9f1b8e23f079ca77526f30a3724661c937fb3788b", func := "loop.example/g01153/laws.FnExactValidLink", spec := "fnExactValidLink", apart := false }
def FnExactValidLinkSaid : Prop := fnExactValidLinkRow.holds Try.pinned (OpenSpec.ofChange fnExactValidLinkSpec)

/-- ITS FALSE NEIGHBOUR: 'it returns false'. Refute it at one input. -/
def fnExactValidLinkWrong : ChangeSpec := { name := "fnExactValidLink", fn := fun _ => fun
  | [d] => { results := [.lit (.bool false)], args := [d] }
  | _ => none }
def FnExactValidLinkWrongFalsely : Prop := fnExactValidLinkRow.holds Try.pinned (OpenSpec.ofChange fnExactValidLinkWrong)

/-- 'laws.FnExactValidQueue': WHATEVER THE INPUT: true; the input reads as it did. -/
def fnExactValidQueueSpec : ChangeSpec := { name := "fnExactValidQueue", fn := fun _ => fun
  | [d] => { results := [.lit (.bool true)], args := [d] }
  | _ => none }
def fnExactValidQueueRow : OpenClaim := { program := "ytomdoamfdidghaa", sum := "b03e9f15bec6eec281637ec9f1b8e23f079ca77526f30a3724661c937fb3788b", func := "loop.example/g01153/laws.FnExactValidQueue", spec := "fnExactValidQueue", apart := false }
def FnExactValidQueueSaid : Prop := fnExactValidQueueRow.holds Try.pinned (OpenSpec.ofChange fnExactValidQueueSpec)

/-- ITS FALSE NEIGHBOUR: 'it returns false'. Refute it at one input. -/
def fnExactValidQueueWrong : ChangeSpec := { name := "fnExactValidQueue", fn := fun _ => fun
  | [d] => { results := [.lit (.bool false)], args := [d] }
  | _ => none }
def FnExactValidQueueWrongFalsely : Prop := fnExactValidQueueRow.holds Try.pinned (OpenSpec.ofChange fnExactValidQueueWrong)

/- THE SECOND FORM. 'bulk': how many values and letters a reading holds, each counted each time it is reached (what is shared counts as often as it is met; a slice's spare places count too). A statement '..UptoSaid' is the law's where the arguments, and the package variables that the reading takes, are together of bulk at most 1048576: NARROWER than '..Said'. Prove '..Said' where nothing that the law and all that it calls make is longer than what came in: it says more and counts as full. Else prove '..UptoSaid'. A law counts once. -/
mutual
def uptoBulk {H : Type} : DataW H → Nat
  | .lit (.string bytes) => bytes.length + 1
  | .lit _ => 1
  | .nil => 1
  | .ptr d => uptoBulk d + 1
  | .slice elems spare => uptoBulkAll elems + uptoBulkAll spare + 1
  | .agg parts => uptoBulkAll parts + 1
  | .iface _ d => uptoBulk d + 1
  | .map entries => uptoBulkEntries entries + 1
  | .held _ => 1
def uptoBulkAll {H : Type} : List (DataW H) → Nat
  | [] => 0
  | d :: r => uptoBulk d + uptoBulkAll r
def uptoBulkEntries {H : Type} : List (Lit × DataW H) → Nat
  | [] => 0
  | x :: r => uptoBulkEntry x + uptoBulkEntries r
def uptoBulkEntry {H : Type} : Lit × DataW H → Nat
  | (.string bytes, d) => bytes.length + uptoBulk d + 1
  | (_, d) => uptoBulk d + 1
 end
def uptoSmall : (H : Type) → List (DataW H) → Bool := fun _ ds => decide (uptoBulkAll ds ≤ 1048576)
def OpenSpec.upto (s : _root_.Go.ChangeSpec) : _root_.Go.OpenSpec := { _root_.Go.OpenSpec.ofChange s with cond := some uptoSmall }

/-- 'laws.FnExactFailChance', WHERE WHAT IT READS IS OF BULK AT MOST 1048576: true; the input reads as it did. -/
def fnExactFailChanceUptoRow : OpenClaim := { program := "ytomdoamfdidghaa", sum := "b03e9f15bec6eec281637ec9f1b8e23f079ca77526f30a3724661c937fb3788b", func := "loop.example/g01153/laws.FnExactFailChance", spec := "fnExactFailChance", named := ["math/bits.divideError", "math/bits.overflowError"], apart := false, narrowed := true }
def FnExactFailChanceUptoSaid : Prop := fnExactFailChanceUptoRow.holds Try.pinned (OpenSpec.upto fnExactFailChanceSpec)

/-- 'laws.FnExactAddFractions', WHERE WHAT IT READS IS OF BULK AT MOST 1048576: true; the input reads as it did. -/
def fnExactAddFractionsUptoRow : OpenClaim := { program := "ytomdoamfdidghaa", sum := "b03e9f15bec6eec281637ec9f1b8e23f079ca77526f30a3724661c937fb3788b", func := "loop.example/g01153/laws.FnExactAddFractions", spec := "fnExactAddFractions", inPlace := ["math/bits.Add64", "math/bits.Sub64"], named := ["math/bits.divideError", "math/bits.overflowError"], apart := false, narrowed := true }
def FnExactAddFractionsUptoSaid : Prop := fnExactAddFractionsUptoRow.holds Try.pinned (OpenSpec.upto fnExactAddFractionsSpec)

/-- 'laws.FnExactSubFractions', WHERE WHAT IT READS IS OF BULK AT MOST 1048576: true; the input reads as it did. -/
def fnExactSubFractionsUptoRow : OpenClaim := { program := "ytomdoamfdidghaa", sum := "b03e9f15bec6eec281637ec9f1b8e23f079ca77526f30a3724661c937fb3788b", func := "loop.example/g01153/laws.FnExactSubFractions", spec := "fnExactSubFractions", inPlace := ["math/bits.Add64", "math/bits.Sub64"], named := ["math/bits.divideError", "math/bits.overflowError"], apart := false, narrowed := true }
def FnExactSubFractionsUptoSaid : Prop := fnExactSubFractionsUptoRow.holds Try.pinned (OpenSpec.upto fnExactSubFractionsSpec)

/-- 'laws.FnExactSumFractions', WHERE WHAT IT READS IS OF BULK AT MOST 1048576: true; the input reads as it did. -/
def fnExactSumFractionsUptoRow : OpenClaim := { program := "ytomdoamfdidghaa", sum := "b03e9f15bec6eec281637ec9f1b8e23f079ca77526f30a3724661c937fb3788b", func := "loop.example/g01153/laws.FnExactSumFractions", spec := "fnExactSumFractions", inPlace := ["math/bits.Add64", "math/bits.Sub64"], named := ["math/bits.divideError", "math/bits.overflowError"], apart := false, narrowed := true }
def FnExactSumFractionsUptoSaid : Prop := fnExactSumFractionsUptoRow.holds Try.pinned (OpenSpec.upto fnExactSumFractionsSpec)

/-- 'laws.FnExactValidLink', WHERE WHAT IT READS IS OF BULK AT MOST 1048576: true; the input reads as it did. -/
def fnExactValidLinkUptoRow : OpenClaim := { program := "ytomdoamfdidghaa", sum := "b03e9f15bec6eec281637ec9f1b8e23f079ca77526f30a3724661c937fb3788b", func := "loop.example/g01153/laws.FnExactValidLink", spec := "fnExactValidLink", apart := false, narrowed := true }
def FnExactValidLinkUptoSaid : Prop := fnExactValidLinkUptoRow.holds Try.pinned (OpenSpec.upto fnExactValidLinkSpec)

/-- 'laws.FnExactValidQueue', WHERE WHAT IT READS IS OF BULK AT MOST 1048576: true; the input reads as it did. -/
def fnExactValidQueueUptoRow : OpenClaim := { program := "ytomdoamfdidghaa", sum := "b03e9f15bec6eec281637ec9f1b8e23f079ca77526f30a3724661c937fb3788b", func := "loop.example/g01153/laws.FnExactValidQueue", spec := "fnExactValidQueue", apart := false, narrowed := true }
def FnExactValidQueueUptoSaid : Prop := fnExactValidQueueUptoRow.holds Try.pinned (OpenSpec.upto fnExactValidQueueSpec)

end Rows
end Go.Proofs.Ytomdoamfdidghaa
