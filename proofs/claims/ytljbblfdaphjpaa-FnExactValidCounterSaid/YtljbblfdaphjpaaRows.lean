/-
  No cell of these rows narrows 'for every input' (looked for: loops, veiled, ifaces, maps, wideKeys, modest, calm, conditions, laid).
  DERIVED. THE GIVEN ROWS OF THIS SEAT. 12 by the template 'for every input the law returns true; each argument reads behind the call as it read before'; 0 by the template 'total and deterministic' (their statements: YtljbblfdaphjpaaTotals.lean).
  GIVEN WITH THE SEED: the statements are not yours to turn. If you find one false, say at which input.
  Laid BY PROGRAM, IN A SANDBOX (cutbox-rows.mjs): the forced cells as the released guide's own fill.sh prints them over the translation 3c01fe343399ab57… (all of the seat's roots in one cut). By AI agents, Wed Nov 11 2026. No macro, syntax, notation, axiom, sorry.
-/
import Derived.Test.YtljbblfdaphjpaaChecked
import GoSem.Claim
import GoSem.ClaimJoined
import GoSem.ClaimMapViews
import Derived.JoinedTies
import Derived.KernelRfl
namespace Go.Proofs.Ytljbblfdaphjpaa
/- THE CELL 'sum', in the pinned program and in every row, IS THE sha256 OF THE DUMP (.gsa) THAT YtljbblfdaphjpaaProg.lean LOADS. Nothing in Lean hashes anything: it is a label: what it is worth is what the hold of that sum in a sandbox is worth. -/
noncomputable def Try.pinned : Pinned := { name := "ytljbblfdaphjpaa", sum := "3c01fe343399ab57ffb9d8f2d0d41fa9d3a20b5f301db83552123253e6066846", checked := Try.checked }
namespace Rows
def none {H : Type} : Left H := { results := [], args := [] }

/-- 'laws.FnExactLcmOf': WHATEVER THE INPUT: true; the input reads as it did. -/
def fnExactLcmOfSpec : ChangeSpec := { name := "fnExactLcmOf", fn := fun _ => fun
  | [d1, d2] => { results := [.lit (.bool true)], args := [d1, d2] }
  | _ => none }
def fnExactLcmOfRow : OpenClaim := { program := "ytljbblfdaphjpaa", sum := "3c01fe343399ab57ffb9d8f2d0d41fa9d3a20b5f301db83552123253e6066846", func := "loop.example/g01153/laws.FnExactLcmOf", spec := "fnExactLcmOf", named := ["math/bits.divideError", "math/bits.overflowError"], apart := false }
def FnExactLcmOfSaid : Prop := fnExactLcmOfRow.holds Try.pinned (OpenSpec.ofChange fnExactLcmOfSpec)

/-- ITS FALSE NEIGHBOUR: 'it returns false'. Refute it at one input. -/
def fnExactLcmOfWrong : ChangeSpec := { name := "fnExactLcmOf", fn := fun _ => fun
  | [d1, d2] => { results := [.lit (.bool false)], args := [d1, d2] }
  | _ => none }
def FnExactLcmOfWrongFalsely : Prop := fnExactLcmOfRow.holds Try.pinned (OpenSpec.ofChange fnExactLcmOfWrong)

/-- 'laws.FnExactAddFractions': WHATEVER THE INPUT: true; the input reads as it did. -/
def fnExactAddFractionsSpec : ChangeSpec := { name := "fnExactAddFractions", fn := fun _ => fun
  | [d1, d2] => { results := [.lit (.bool true)], args := [d1, d2] }
  | _ => none }
def fnExactAddFractionsRow : OpenClaim := { program := "ytljbblfdaphjpaa", sum := "3c01fe343399ab57ffb9d8f2d0d41fa9d3a20b5f301db83552123253e6066846", func := "loop.example/g01153/laws.FnExactAddFractions", spec := "fnExactAddFractions", inPlace := ["math/bits.Add64", "math/bits.Sub64"], named := ["math/bits.divideError", "math/bits.overflowError"], apart := false }
def FnExactAddFractionsSaid : Prop := fnExactAddFractionsRow.holds Try.pinned (OpenSpec.ofChange fnExactAddFractionsSpec)

/-- ITS FALSE NEIGHBOUR: 'it returns false'. Refute it at one input. -/
def fnExactAddFractionsWrong : ChangeSpec := { name := "fnExactAddFractions", fn := fun _ => fun
  | [d1, d2] => { results := [.lit (.bool false)], args := [d1, d2] }
  | _ => none }
def FnExactAddFractionsWrongFalsely : Prop := fnExactAddFractionsRow.holds Try.pinned (OpenSpec.ofChange fnExactAddFractionsWrong)

/-- 'laws.FnExactSubFractions': WHATEVER THE INPUT: true; the input reads as it did. -/
def fnExactSubFractionsSpec : ChangeSpec := { name := "fnExactSubFractions", fn := fun _ => fun
  | [d1, d2] => { results := [.lit (.bool true)], args := [d1, d2] }
  | _ => none }
def fnExactSubFractionsRow : OpenClaim := { program := "ytljbblfdaphjpaa", sum := "3c01fe343399ab57ffb9d8f2d0d41fa9d3a20b5f301db83552123253e6066846", func := "loop.example/g01153/laws.FnExactSubFractions", spec := "fnExactSubFractions", inPlace := ["math/bits.Add64", "math/bits.Sub64"], named := ["math/bits.divideError", "math/bits.overflowError"], apart := false }
def FnExactSubFractionsSaid : Prop := fnExactSubFractionsRow.holds Try.pinned (OpenSpec.ofChange fnExactSubFractionsSpec)

/-- ITS FALSE NEIGHBOUR: 'it returns false'. Refute it at one input. -/
def fnExactSubFractionsWrong : ChangeSpec := { name := "fnExactSubFractions", fn := fun _ => fun
  | [d1, d2] => { results := [.lit (.bool false)], args := [d1, d2] }
  | _ => none }
def FnExactSubFractionsWrongFalsely : Prop := fnExactSubFractionsRow.holds Try.pinned (OpenSpec.ofChange fnExactSubFractionsWrong)

/-- 'laws.FnExactMulFractions': WHATEVER THE INPUT: true; the input reads as it did. -/
def fnExactMulFractionsSpec : ChangeSpec := { name := "fnExactMulFractions", fn := fun _ => fun
  | [d1, d2] => { results := [.lit (.bool true)], args := [d1, d2] }
  | _ => none }
def fnExactMulFractionsRow : OpenClaim := { program := "ytljbblfdaphjpaa", sum := "3c01fe343399ab57ffb9d8f2d0d41fa9d3a20b5f301db83552123253e6066846", func := "loop.example/g01153/laws.FnExactMulFractions", spec := "fnExactMulFractions", named := ["math/bits.divideError", "math/bits.overflowError"], apart := false }
def FnExactMulFractionsSaid : Prop := fnExactMulFractionsRow.holds Try.pinned (OpenSpec.ofChange fnExactMulFractionsSpec)

/-- ITS FALSE NEIGHBOUR: 'it returns false'. Refute it at one input. -/
def fnExactMulFractionsWrong : ChangeSpec := { name := "fnExactMulFractions", fn := fun _ => fun
  | [d1, d2] => { results := [.lit (.bool false)], args := [d1, d2] }
  | _ => none }
def FnExactMulFractionsWrongFalsely : Prop := fnExactMulFractionsRow.holds Try.pinned (OpenSpec.ofChange fnExactMulFractionsWrong)

/-- 'laws.FnExactDivFractions': WHATEVER THE INPUT: true; the input reads as it did. -/
def fnExactDivFractionsSpec : ChangeSpec := { name := "fnExactDivFractions", fn := fun _ => fun
  | [d1, d2] => { results := [.lit (.bool true)], args := [d1, d2] }
  | _ => none }
def fnExactDivFractionsRow : OpenClaim := { program := "ytljbblfdaphjpaa", sum := "3c01fe343399ab57ffb9d8f2d0d41fa9d3a20b5f301db83552123253e6066846", func := "loop.example/g01153/laws.FnExactDivFractions", spec := "fnExactDivFractions", named := ["math/bits.divideError", "math/bits.overflowError"], apart := false }
def FnExactDivFractionsSaid : Prop := fnExactDivFractionsRow.holds Try.pinned (OpenSpec.ofChange fnExactDivFractionsSpec)

/-- ITS FALSE NEIGHBOUR: 'it returns false'. Refute it at one input. -/
def fnExactDivFractionsWrong : ChangeSpec := { name := "fnExactDivFractions", fn := fun _ => fun
  | [d1, d2] => { results := [.lit (.bool false)], args := [d1, d2] }
  | _ => none }
def FnExactDivFractionsWrongFalsely : Prop := fnExactDivFractionsRow.holds Try.pinned (OpenSpec.ofChange fnExactDivFractionsWrong)

/-- 'laws.FnExactCompareFractions': WHATEVER THE INPUT: true; the input reads as it did. -/
def fnExactCompareFractionsSpec : ChangeSpec := { name := "fnExactCompareFractions", fn := fun _ => fun
  | [d1, d2] => { results := [.lit (.bool true)], args := [d1, d2] }
  | _ => none }
def fnExactCompareFractionsRow : OpenClaim := { program := "ytljbblfdaphjpaa", sum := "3c01fe343399ab57ffb9d8f2d0d41fa9d3a20b5f301db83552123253e6066846", func := "loop.example/g01153/laws.FnExactCompareFractions", spec := "fnExactCompareFractions", inPlace := ["math/bits.Add64", "math/bits.Sub64"], apart := false }
def FnExactCompareFractionsSaid : Prop := fnExactCompareFractionsRow.holds Try.pinned (OpenSpec.ofChange fnExactCompareFractionsSpec)

/-- ITS FALSE NEIGHBOUR: 'it returns false'. Refute it at one input. -/
def fnExactCompareFractionsWrong : ChangeSpec := { name := "fnExactCompareFractions", fn := fun _ => fun
  | [d1, d2] => { results := [.lit (.bool false)], args := [d1, d2] }
  | _ => none }
def FnExactCompareFractionsWrongFalsely : Prop := fnExactCompareFractionsRow.holds Try.pinned (OpenSpec.ofChange fnExactCompareFractionsWrong)

/-- 'laws.FnExactSumFractions': WHATEVER THE INPUT: true; the input reads as it did. -/
def fnExactSumFractionsSpec : ChangeSpec := { name := "fnExactSumFractions", fn := fun _ => fun
  | [d] => { results := [.lit (.bool true)], args := [d] }
  | _ => none }
def fnExactSumFractionsRow : OpenClaim := { program := "ytljbblfdaphjpaa", sum := "3c01fe343399ab57ffb9d8f2d0d41fa9d3a20b5f301db83552123253e6066846", func := "loop.example/g01153/laws.FnExactSumFractions", spec := "fnExactSumFractions", inPlace := ["math/bits.Add64", "math/bits.Sub64"], named := ["math/bits.divideError", "math/bits.overflowError"], apart := false }
def FnExactSumFractionsSaid : Prop := fnExactSumFractionsRow.holds Try.pinned (OpenSpec.ofChange fnExactSumFractionsSpec)

/-- ITS FALSE NEIGHBOUR: 'it returns false'. Refute it at one input. -/
def fnExactSumFractionsWrong : ChangeSpec := { name := "fnExactSumFractions", fn := fun _ => fun
  | [d] => { results := [.lit (.bool false)], args := [d] }
  | _ => none }
def FnExactSumFractionsWrongFalsely : Prop := fnExactSumFractionsRow.holds Try.pinned (OpenSpec.ofChange fnExactSumFractionsWrong)

/-- 'laws.FnExactPulsesOf': WHATEVER THE INPUT: true; the input reads as it did. -/
def fnExactPulsesOfSpec : ChangeSpec := { name := "fnExactPulsesOf", fn := fun _ => fun
  | [d] => { results := [.lit (.bool true)], args := [d] }
  | _ => none }
def fnExactPulsesOfRow : OpenClaim := { program := "ytljbblfdaphjpaa", sum := "3c01fe343399ab57ffb9d8f2d0d41fa9d3a20b5f301db83552123253e6066846", func := "loop.example/g01153/laws.FnExactPulsesOf", spec := "fnExactPulsesOf", unfollowed := true, recurses := true, apart := false }
def FnExactPulsesOfSaid : Prop := fnExactPulsesOfRow.holds Try.pinned (OpenSpec.ofChange fnExactPulsesOfSpec)

/-- ITS FALSE NEIGHBOUR: 'it returns false'. Refute it at one input. -/
def fnExactPulsesOfWrong : ChangeSpec := { name := "fnExactPulsesOf", fn := fun _ => fun
  | [d] => { results := [.lit (.bool false)], args := [d] }
  | _ => none }
def FnExactPulsesOfWrongFalsely : Prop := fnExactPulsesOfRow.holds Try.pinned (OpenSpec.ofChange fnExactPulsesOfWrong)

/-- 'laws.FnExactWaveFrom': WHATEVER THE INPUT: true; the input reads as it did. -/
def fnExactWaveFromSpec : ChangeSpec := { name := "fnExactWaveFrom", fn := fun _ => fun
  | [d1, d2, d3] => { results := [.lit (.bool true)], args := [d1, d2, d3] }
  | _ => none }
def fnExactWaveFromRow : OpenClaim := { program := "ytljbblfdaphjpaa", sum := "3c01fe343399ab57ffb9d8f2d0d41fa9d3a20b5f301db83552123253e6066846", func := "loop.example/g01153/laws.FnExactWaveFrom", spec := "fnExactWaveFrom", inPlace := ["internal/abi.NoEscape"], apart := false }
def FnExactWaveFromSaid : Prop := fnExactWaveFromRow.holds Try.pinned (OpenSpec.ofChange fnExactWaveFromSpec)

/-- ITS FALSE NEIGHBOUR: 'it returns false'. Refute it at one input. -/
def fnExactWaveFromWrong : ChangeSpec := { name := "fnExactWaveFrom", fn := fun _ => fun
  | [d1, d2, d3] => { results := [.lit (.bool false)], args := [d1, d2, d3] }
  | _ => none }
def FnExactWaveFromWrongFalsely : Prop := fnExactWaveFromRow.holds Try.pinned (OpenSpec.ofChange fnExactWaveFromWrong)

/-- 'laws.FnJoined': WHATEVER THE INPUT: true; the input reads as it did. -/
def fnJoinedSpec : ChangeSpec := { name := "fnJoined", fn := fun _ => fun
  | [d1, d2] => { results := [.lit (.bool true)], args := [d1, d2] }
  | _ => none }
def fnJoinedRow : OpenClaim := { program := "ytljbblfdaphjpaa", sum := "3c01fe343399ab57ffb9d8f2d0d41fa9d3a20b5f301db83552123253e6066846", func := "loop.example/g01153/laws.FnJoined", spec := "fnJoined", inPlace := ["internal/abi.NoEscape", "internal/bytealg.MakeNoZero"], apart := false }
def FnJoinedSaid : Prop := fnJoinedRow.holds Try.pinned (OpenSpec.ofChange fnJoinedSpec)

/-- ITS FALSE NEIGHBOUR: 'it returns false'. Refute it at one input. -/
def fnJoinedWrong : ChangeSpec := { name := "fnJoined", fn := fun _ => fun
  | [d1, d2] => { results := [.lit (.bool false)], args := [d1, d2] }
  | _ => none }
def FnJoinedWrongFalsely : Prop := fnJoinedRow.holds Try.pinned (OpenSpec.ofChange fnJoinedWrong)

/-- 'laws.FnExactValidCounter': WHATEVER THE INPUT: true; the input reads as it did. -/
def fnExactValidCounterSpec : ChangeSpec := { name := "fnExactValidCounter", fn := fun _ => fun
  | [d] => { results := [.lit (.bool true)], args := [d] }
  | _ => none }
def fnExactValidCounterRow : OpenClaim := { program := "ytljbblfdaphjpaa", sum := "3c01fe343399ab57ffb9d8f2d0d41fa9d3a20b5f301db83552123253e6066846", func := "loop.example/g01153/laws.FnExactValidCounter", spec := "fnExactValidCounter", apart := false }
def FnExactValidCounterSaid : Prop := fnExactValidCounterRow.holds Try.pinned (OpenSpec.ofChange fnExactValidCounterSpec)

/-- ITS FALSE NEIGHBOUR: 'it returns false'. Refute it at one input. -/
def fnExactValidCounterWrong : ChangeSpec := { name := "fnExactValidCounter", fn := fun _ => fun
  | [d] => { results := [.lit (.bool false)], args := [d] }
  | _ => none }
def FnExactValidCounterWrongFalsely : Prop := fnExactValidCounterRow.holds Try.pinned (OpenSpec.ofChange fnExactValidCounterWrong)

/-- 'laws.FnExactBinaryCounter': WHATEVER THE INPUT: true; the input reads as it did. -/
def fnExactBinaryCounterSpec : ChangeSpec := { name := "fnExactBinaryCounter", fn := fun _ => fun
  | [d1, d2] => { results := [.lit (.bool true)], args := [d1, d2] }
  | _ => none }
def fnExactBinaryCounterRow : OpenClaim := { program := "ytljbblfdaphjpaa", sum := "3c01fe343399ab57ffb9d8f2d0d41fa9d3a20b5f301db83552123253e6066846", func := "loop.example/g01153/laws.FnExactBinaryCounter", spec := "fnExactBinaryCounter", unfollowed := true, recurses := true, apart := false }
def FnExactBinaryCounterSaid : Prop := fnExactBinaryCounterRow.holds Try.pinned (OpenSpec.ofChange fnExactBinaryCounterSpec)

/-- ITS FALSE NEIGHBOUR: 'it returns false'. Refute it at one input. -/
def fnExactBinaryCounterWrong : ChangeSpec := { name := "fnExactBinaryCounter", fn := fun _ => fun
  | [d1, d2] => { results := [.lit (.bool false)], args := [d1, d2] }
  | _ => none }
def FnExactBinaryCounterWrongFalsely : Prop := fnExactBinaryCounterRow.holds Try.pinned (OpenSpec.ofChange fnExactBinaryCounterWrong)

/- THE SECOND FORM. 'bulk': how many values and letters a reading holds, each counted each time it is reached (what is shared counts as often as it is met; a slice's spare places count too). A statement '..UptoSaid' is the law's where the arguments, and the package variables that the reading takes, are together of bulk at most 1048576: NARROWER than '..Said'. Prove '..Said' where nothing that the law and all that it calls make is longer than what came in: it says more and counts as full. Else prove '..UptoSaid'. A law counts once. -/
mutual
def uptoBulk {H : Type} : DataW H → Nat
  | .lit (.string bytes) => bytes.length + 1
  | .lit _ => 1
  | .nil => 1
  | .ptr d => uptoBulk d + 1
  | .slice elems spare => uptoBulkAll elems + uptoBulkAll spare + 1
  | .agg parts => uptoBulkAll parts + 1
  | .iface _ d => uptoBulk d + 1
  | .map entries => uptoBulkEntries entries + 1
  | .held _ => 1
def uptoBulkAll {H : Type} : List (DataW H) → Nat
  | [] => 0
  | d :: r => uptoBulk d + uptoBulkAll r
def uptoBulkEntries {H : Type} : List (Lit × DataW H) → Nat
  | [] => 0
  | x :: r => uptoBulkEntry x + uptoBulkEntries r
def uptoBulkEntry {H : Type} : Lit × DataW H → Nat
  | (.string bytes, d) => bytes.length + uptoBulk d + 1
  | (_, d) => uptoBulk d + 1
 end
def uptoSmall : (H : Type) → List (DataW H) → Bool := fun _ ds => decide (uptoBulkAll ds ≤ 1048576)
def OpenSpec.upto (s : _root_.Go.ChangeSpec) : _root_.Go.OpenSpec := { _root_.Go.OpenSpec.ofChange s with cond := some uptoSmall }

/-- 'laws.FnExactLcmOf', WHERE WHAT IT READS IS OF BULK AT MOST 1048576: true; the input reads as it did. -/
def fnExactLcmOfUptoRow : OpenClaim := { program := "ytljbblfdaphjpaa", sum := "3c01fe343399ab57ffb9d8f2d0d41fa9d3a20b5f301db83552123253e6066846", func := "loop.example/g01153/laws.FnExactLcmOf", spec := "fnExactLcmOf", named := ["math/bits.divideError", "math/bits.overflowError"], apart := false, narrowed := true }
def FnExactLcmOfUptoSaid : Prop := fnExactLcmOfUptoRow.holds Try.pinned (OpenSpec.upto fnExactLcmOfSpec)

/-- 'laws.FnExactAddFractions', WHERE WHAT IT READS IS OF BULK AT MOST 1048576: true; the input reads as it did. -/
def fnExactAddFractionsUptoRow : OpenClaim := { program := "ytljbblfdaphjpaa", sum := "3c01fe343399ab57ffb9d8f2d0d41fa9d3a20b5f301db83552123253e6066846", func := "loop.example/g01153/laws.FnExactAddFractions", spec := "fnExactAddFractions", inPlace := ["math/bits.Add64", "math/bits.Sub64"], named := ["math/bits.divideError", "math/bits.overflowError"], apart := false, narrowed := true }
def FnExactAddFractionsUptoSaid : Prop := fnExactAddFractionsUptoRow.holds Try.pinned (OpenSpec.upto fnExactAddFractionsSpec)

/-- 'laws.FnExactSubFractions', WHERE WHAT IT READS IS OF BULK AT MOST 1048576: true; the input reads as it did. -/
def fnExactSubFractionsUptoRow : OpenClaim := { program := "ytljbblfdaphjpaa", sum := "3c01fe343399ab57ffb9d8f2d0d41fa9d3a20b5f301db83552123253e6066846", func := "loop.example/g01153/laws.FnExactSubFractions", spec := "fnExactSubFractions", inPlace := ["math/bits.Add64", "math/bits.Sub64"], named := ["math/bits.divideError", "math/bits.overflowError"], apart := false, narrowed := true }
def FnExactSubFractionsUptoSaid : Prop := fnExactSubFractionsUptoRow.holds Try.pinned (OpenSpec.upto fnExactSubFractionsSpec)

/-- 'laws.FnExactMulFractions', WHERE WHAT IT READS IS OF BULK AT MOST 1048576: true; the input reads as it did. -/
def fnExactMulFractionsUptoRow : OpenClaim := { program := "ytljbblfdaphjpaa", sum := "3c01fe343399ab57ffb9d8f2d0d41fa9d3a20b5f301db83552123253e6066846", func := "loop.example/g01153/laws.FnExactMulFractions", spec := "fnExactMulFractions", named := ["math/bits.divideError", "math/bits.overflowError"], apart := false, narrowed := true }
def FnExactMulFractionsUptoSaid : Prop := fnExactMulFractionsUptoRow.holds Try.pinned (OpenSpec.upto fnExactMulFractionsSpec)

/-- 'laws.FnExactDivFractions', WHERE WHAT IT READS IS OF BULK AT MOST 1048576: true; the input reads as it did. -/
def fnExactDivFractionsUptoRow : OpenClaim := { program := "ytljbblfdaphjpaa", sum := "3c01fe343399ab57ffb9d8f2d0d41fa9d3a20b5f301db83552123253e6066846", func := "loop.example/g01153/laws.FnExactDivFractions", spec := "fnExactDivFractions", named := ["math/bits.divideError", "math/bits.overflowError"], apart := false, narrowed := true }
def FnExactDivFractionsUptoSaid : Prop := fnExactDivFractionsUptoRow.holds Try.pinned (OpenSpec.upto fnExactDivFractionsSpec)

/-- 'laws.FnExactCompareFractions', WHERE WHAT IT READS IS OF BULK AT MOST 1048576: true; the input reads as it did. -/
def fnExactCompareFractionsUptoRow : OpenClaim := { program := "ytljbblfdaphjpaa", sum := "3c01fe343399ab57ffb9d8f2d0d41fa9d3a20b5f301db83552123253e6066846", func := "loop.example/g01153/laws.FnExactCompareFractions", spec := "fnExactCompareFractions", inPlace := ["math/bits.Add64", "math/bits.Sub64"], apart := false, narrowed := true }
def FnExactCompareFractionsUptoSaid : Prop := fnExactCompareFractionsUptoRow.holds Try.pinned (OpenSpec.upto fnExactCompareFractionsSpec)

/-- 'laws.FnExactSumFractions', WHERE WHAT IT READS IS OF BULK AT MOST 1048576: true; the input reads as it did. -/
def fnExactSumFractionsUptoRow : OpenClaim := { program := "ytljbblfdaphjpaa", sum := "3c01fe343399ab57ffb9d8f2d0d41fa9d3a20b5f301db83552123253e6066846", func := "loop.example/g01153/laws.FnExactSumFractions", spec := "fnExactSumFractions", inPlace := ["math/bits.Add64", "math/bits.Sub64"], named := ["math/bits.divideError", "math/bits.overflowError"], apart := false, narrowed := true }
def FnExactSumFractionsUptoSaid : Prop := fnExactSumFractionsUptoRow.holds Try.pinned (OpenSpec.upto fnExactSumFractionsSpec)

/-- 'laws.FnExactPulsesOf', WHERE WHAT IT READS IS OF BULK AT MOST 1048576: true; the input reads as it did. -/
def fnExactPulsesOfUptoRow : OpenClaim := { program := "ytljbblfdaphjpaa", sum := "3c01fe343399ab57ffb9d8f2d0d41fa9d3a20b5f301db83552123253e6066846", func := "loop.example/g01153/laws.FnExactPulsesOf", spec := "fnExactPulsesOf", unfollowed := true, recurses := true, apart := false, narrowed := true }
def FnExactPulsesOfUptoSaid : Prop := fnExactPulsesOfUptoRow.holds Try.pinned (OpenSpec.upto fnExactPulsesOfSpec)

/-- 'laws.FnExactWaveFrom', WHERE WHAT IT READS IS OF BULK AT MOST 1048576: true; the input reads as it did. -/
def fnExactWaveFromUptoRow : OpenClaim := { program := "ytljbblfdaphjpaa", sum := "3c01fe343399ab57ffb9d8f2d0d41fa9d3a20b5f301db83552123253e6066846", func := "loop.example/g01153/laws.FnExactWaveFrom", spec := "fnExactWaveFrom", inPlace := ["internal/abi.NoEscape"], apart := false, narrowed := true }
def FnExactWaveFromUptoSaid : Prop := fnExactWaveFromUptoRow.holds Try.pinned (OpenSpec.upto fnExactWaveFromSpec)

/-- 'laws.FnJoined', WHERE WHAT IT READS IS OF BULK AT MOST 1048576: true; the input reads as it did. -/
def fnJoinedUptoRow : OpenClaim := { program := "ytljbblfdaphjpaa", sum := "3c01fe343399ab57ffb9d8f2d0d41fa9d3a20b5f301db83552123253e6066846", func := "loop.example/g01153/laws.FnJoined", spec := "fnJoined", inPlace := ["internal/abi.NoEscape", "internal/bytealg.MakeNoZero"], apart := false, narrowed := true }
def FnJoinedUptoSaid : Prop := fnJoinedUptoRow.holds Try.pinned (OpenSpec.upto fnJoinedSpec)

/-- 'laws.FnExactValidCounter', WHERE WHAT IT READS IS OF BULK AT MOST 1048576: true; the input reads as it did. -/
def fnExactValidCounterUptoRow : OpenClaim := { program := "ytljbblfdaphjpaa", sum := "3c01fe343399ab57ffb9d8f2d0d41fa9d3a20b5f301db83552123253e6066846", func := "loop.example/g01153/laws.FnExactValidCounter", spec := "fnExactValidCounter", apart := false, narrowed := true }
def FnExactValidCounterUptoSaid : Prop := fnExactValidCounterUptoRow.holds Try.pinned (OpenSpec.upto fnExactValidCounterSpec)

/-- 'laws.FnExactBinaryCounter', WHERE WHAT IT READS IS OF BULK AT MOST 1048576: true; the input reads as it did. -/
def fnExactBinaryCounterUptoRow : OpenClaim := { program := "ytljbblfdaphjpaa", sum := "3c01fe343399ab57ffb9d8f2d0d41fa9d3a20b5f301db83552123253e6066846", func := "loop.example/g01153/laws.FnExactBinaryCounter", spec := "fnExactBinaryCounter", unfollowed := true, recurses := true, apart := false, narrowed := true }
def FnExactBinaryCounterUptoSaid : Prop := fnExactBinaryCounterUptoRow.holds Try.pinned (OpenSpec.upto fnExactBinaryCounterSpec)

end Rows
end Go.Proofs.Ytljbblfdaphjpaa
