/-
  No cell of these rows narrows 'for every input' (looked for: loops, veiled, ifaces, maps, wideKeys, modest, calm, conditions, laid).
  DERIVED. THE GIVEN ROWS OF THIS SEAT. 10 by the template 'for every input the law returns true; each argument reads behind the call as it read before'; 0 by the template 'total and deterministic' (their statements: YtejjoejapnnlkaaTotals.lean).
  GIVEN WITH THE SEED: the statements are not yours to turn. If you find one false, say at which input.
  Laid BY PROGRAM, IN A SANDBOX (cutbox-rows.mjs): the forced cells as the released guide's own fill.sh prints them over the translation bd9ade7d933c3a41… (all of the seat's roots in one cut). By AI agents, Wed Nov 11 2026. No macro, syntax, notation, axiom, sorry.
-/
import Derived.Test.YtejjoejapnnlkaaChecked
import GoSem.Claim
import GoSem.ClaimJoined
import GoSem.ClaimMapViews
import Derived.JoinedTies
import Derived.KernelRfl
namespace Go.Proofs.Ytejjoejapnnlkaa
/- THE CELL 'sum', in the pinned program and in every row, IS THE sha256 OF THE DUMP (.gsa) THAT YtejjoejapnnlkaaProg.lean LOADS. Nothing in Lean hashes anything: it is a label: what it is worth is what the hold of that sum in a sandbox is worth. -/
noncomputable def Try.pinned : Pinned := { name := "ytejjoejapnnlkaa", sum := "bd9ade7d933c3a410a363892ea3665bda6f939031e249b870d4a469574b6d690", checked := Try.checked }
namespace Rows
def none {H : Type} : Left H := { results := [], args := [] }

/-- 'laws.FnExactValidDivider': WHATEVER THE INPUT: true; the input reads as it did. -/
def fnExactValidDividerSpec : ChangeSpec := { name := "fnExactValidDivider", fn := fun _ => fun
  | [d] => { results := [.lit (.bool true)], args := [d] }
  | _ => none }
def fnExactValidDividerRow : OpenClaim := { program := "ytejjoejapnnlkaa", sum := "bd9ade7d933c3a410a363892ea3665bda6f939031e249b870d4a469574b6d690", func := "loop.example/g01153/laws.FnExactValidDivider", spec := "fnExactValidDivider", apart := false }
def FnExactValidDividerSaid : Prop := fnExactValidDividerRow.holds Try.pinned (OpenSpec.ofChange fnExactValidDividerSpec)

/-- ITS FALSE NEIGHBOUR: 'it returns false'. Refute it at one input. -/
def fnExactValidDividerWrong : ChangeSpec := { name := "fnExactValidDivider", fn := fun _ => fun
  | [d] => { results := [.lit (.bool false)], args := [d] }
  | _ => none }
def FnExactValidDividerWrongFalsely : Prop := fnExactValidDividerRow.holds Try.pinned (OpenSpec.ofChange fnExactValidDividerWrong)

/-- 'laws.FnExactGapRange': WHATEVER THE INPUT: true; the input reads as it did. -/
def fnExactGapRangeSpec : ChangeSpec := { name := "fnExactGapRange", fn := fun _ => fun
  | [d1, d2] => { results := [.lit (.bool true)], args := [d1, d2] }
  | _ => none }
def fnExactGapRangeRow : OpenClaim := { program := "ytejjoejapnnlkaa", sum := "bd9ade7d933c3a410a363892ea3665bda6f939031e249b870d4a469574b6d690", func := "loop.example/g01153/laws.FnExactGapRange", spec := "fnExactGapRange", apart := false }
def FnExactGapRangeSaid : Prop := fnExactGapRangeRow.holds Try.pinned (OpenSpec.ofChange fnExactGapRangeSpec)

/-- ITS FALSE NEIGHBOUR: 'it returns false'. Refute it at one input. -/
def fnExactGapRangeWrong : ChangeSpec := { name := "fnExactGapRange", fn := fun _ => fun
  | [d1, d2] => { results := [.lit (.bool false)], args := [d1, d2] }
  | _ => none }
def FnExactGapRangeWrongFalsely : Prop := fnExactGapRangeRow.holds Try.pinned (OpenSpec.ofChange fnExactGapRangeWrong)

/-- 'laws.FnExactPulseTick': WHATEVER THE INPUT: true; the input reads as it did. -/
def fnExactPulseTickSpec : ChangeSpec := { name := "fnExactPulseTick", fn := fun _ => fun
  | [d1, d2, d3, d4] => { results := [.lit (.bool true)], args := [d1, d2, d3, d4] }
  | _ => none }
def fnExactPulseTickRow : OpenClaim := { program := "ytejjoejapnnlkaa", sum := "bd9ade7d933c3a410a363892ea3665bda6f939031e249b870d4a469574b6d690", func := "loop.example/g01153/laws.FnExactPulseTick", spec := "fnExactPulseTick", apart := false }
def FnExactPulseTickSaid : Prop := fnExactPulseTickRow.holds Try.pinned (OpenSpec.ofChange fnExactPulseTickSpec)

/-- ITS FALSE NEIGHBOUR: 'it returns false'. Refute it at one input. -/
def fnExactPulseTickWrong : ChangeSpec := { name := "fnExactPulseTick", fn := fun _ => fun
  | [d1, d2, d3, d4] => { results := [.lit (.bool false)], args := [d1, d2, d3, d4] }
  | _ => none }
def FnExactPulseTickWrongFalsely : Prop := fnExactPulseTickRow.holds Try.pinned (OpenSpec.ofChange fnExactPulseTickWrong)

/-- 'laws.FnExactPulseError': WHATEVER THE INPUT: true; the input reads as it did. -/
def fnExactPulseErrorSpec : ChangeSpec := { name := "fnExactPulseError", fn := fun _ => fun
  | [d1, d2, d3] => { results := [.lit (.bool true)], args := [d1, d2, d3] }
  | _ => none }
def fnExactPulseErrorRow : OpenClaim := { program := "ytejjoejapnnlkaa", sum := "bd9ade7d933c3a410a363892ea3665bda6f939031e249b870d4a469574b6d690", func := "loop.example/g01153/laws.FnExactPulseError", spec := "fnExactPulseError", apart := false }
def FnExactPulseErrorSaid : Prop := fnExactPulseErrorRow.holds Try.pinned (OpenSpec.ofChange fnExactPulseErrorSpec)

/-- ITS FALSE NEIGHBOUR: 'it returns false'. Refute it at one input. -/
def fnExactPulseErrorWrong : ChangeSpec := { name := "fnExactPulseError", fn := fun _ => fun
  | [d1, d2, d3] => { results := [.lit (.bool false)], args := [d1, d2, d3] }
  | _ => none }
def FnExactPulseErrorWrongFalsely : Prop := fnExactPulseErrorRow.holds Try.pinned (OpenSpec.ofChange fnExactPulseErrorWrong)

/-- 'laws.FnExactMulFractions': WHATEVER THE INPUT: true; the input reads as it did. -/
def fnExactMulFractionsSpec : ChangeSpec := { name := "fnExactMulFractions", fn := fun _ => fun
  | [d1, d2] => { results := [.lit (.bool true)], args := [d1, d2] }
  | _ => none }
def fnExactMulFractionsRow : OpenClaim := { program := "ytejjoejapnnlkaa", sum := "bd9ade7d933c3a410a363892ea3665bda6f939031e249b870d4a469574b6d690", func := "loop.example/g01153/laws.FnExactMulFractions", spec := "fnExactMulFractions", named := ["math/bits.divideError", "math/bits.overflowError"], apart := false }
def FnExactMulFractionsSaid : Prop := fnExactMulFractionsRow.holds Try.pinned (OpenSpec.ofChange fnExactMulFractionsSpec)

/-- ITS FALSE NEIGHBOUR: 'it returns false'. Refute it at one input. -/
def fnExactMulFractionsWrong : ChangeSpec := { name := "fnExactMulFractions", fn := fun _ => fun
  | [d1, d2] => { results := [.lit (.bool false)], args := [d1, d2] }
  | _ => none }
def FnExactMulFractionsWrongFalsely : Prop := fnExactMulFractionsRow.holds Try.pinned (OpenSpec.ofChange fnExactMulFractionsWrong)

/-- 'laws.FnExactDivFractions': WHATEVER THE INPUT: true; the input reads as it did. -/
def fnExactDivFractionsSpec : ChangeSpec := { name := "fnExactDivFractions", fn := fun _ => fun
  | [d1, d2] => { results := [.lit (.bool true)], args := [d1, d2] }
  | _ => none }
def fnExactDivFractionsRow : OpenClaim := { program := "ytejjoejapnnlkaa", sum := "bd9ade7d933c3a410a363892ea3665bda6f939031e249b870d4a469574b6d690", func := "loop.example/g01153/laws.FnExactDivFractions", spec := "fnExactDivFractions", named := ["math/bits.divideError", "math/bits.overflowError"], apart := false }
def FnExactDivFractionsSaid : Prop := fnExactDivFractionsRow.holds Try.pinned (OpenSpec.ofChange fnExactDivFractionsSpec)

/-- ITS FALSE NEIGHBOUR: 'it returns false'. Refute it at one input. -/
def fnExactDivFractionsWrong : ChangeSpec := { name := "fnExactDivFractions", fn := fun _ => fun
  | [d1, d2] => { results := [.lit (.bool false)], args := [d1, d2] }
  | _ => none }
def FnExactDivFractionsWrongFalsely : Prop := fnExactDivFractionsRow.holds Try.pinned (OpenSpec.ofChange fnExactDivFractionsWrong)

/-- 'laws.FnExactCompareFractions': WHATEVER THE INPUT: true; the input reads as it did. -/
def fnExactCompareFractionsSpec : ChangeSpec := { name := "fnExactCompareFractions", fn := fun _ => fun
  | [d1, d2] => { results := [.lit (.bool true)], args := [d1, d2] }
  | _ => none }
def fnExactCompareFractionsRow : OpenClaim := { program := "ytejjoejapnnlkaa", sum := "bd9ade7d933c3a410a363892ea3665bda6f939031e249b870d4a469574b6d690", func := "loop.example/g01153/laws.FnExactCompareFractions", spec := "fnExactCompareFractions", inPlace := ["math/bits.Add64", "math/bits.Sub64"], apart := false }
def FnExactCompareFractionsSaid : Prop := fnExactCompareFractionsRow.holds Try.pinned (OpenSpec.ofChange fnExactCompareFractionsSpec)

/-- ITS FALSE NEIGHBOUR: 'it returns false'. Refute it at one input. -/
def fnExactCompareFractionsWrong : ChangeSpec := { name := "fnExactCompareFractions", fn := fun _ => fun
  | [d1, d2] => { results := [.lit (.bool false)], args := [d1, d2] }
  | _ => none }
def FnExactCompareFractionsWrongFalsely : Prop := fnExactCompareFractionsRow.holds Try.pinned (OpenSpec.ofChange fnExactCompareFractionsWrong)

/-- 'laws.FnExactRatioSteps': WHATEVER THE INPUT: true; the input reads as it did. -/
def fnExactRatioStepsSpec : ChangeSpec := { name := "fnExactRatioSteps", fn := fun _ => fun
  | [d] => { results := [.lit (.bool true)], args := [d] }
  | _ => none }
def fnExactRatioStepsRow : OpenClaim := { program := "ytejjoejapnnlkaa", sum := "bd9ade7d933c3a410a363892ea3665bda6f939031e249b870d4a469574b6d690", func := "loop.example/g01153/laws.FnExactRatioSteps", spec := "fnExactRatioSteps", apart := false }
def FnExactRatioStepsSaid : Prop := fnExactRatioStepsRow.holds Try.pinned (OpenSpec.ofChange fnExactRatioStepsSpec)

/-- ITS FALSE NEIGHBOUR: 'it returns false'. Refute it at one input. -/
def fnExactRatioStepsWrong : ChangeSpec := { name := "fnExactRatioSteps", fn := fun _ => fun
  | [d] => { results := [.lit (.bool false)], args := [d] }
  | _ => none }
def FnExactRatioStepsWrongFalsely : Prop := fnExactRatioStepsRow.holds Try.pinned (OpenSpec.ofChange fnExactRatioStepsWrong)

/-- 'laws.FnExactBestRatio': WHATEVER THE INPUT: true; the input reads as it did. -/
def fnExactBestRatioSpec : ChangeSpec := { name := "fnExactBestRatio", fn := fun _ => fun
  | [d1, d2] => { results := [.lit (.bool true)], args := [d1, d2] }
  | _ => none }
def fnExactBestRatioRow : OpenClaim := { program := "ytejjoejapnnlkaa", sum := "bd9ade7d933c3a410a363892ea3665bda6f939031e249b870d4a469574b6d690", func := "loop.example/g01153/laws.FnExactBestRatio", spec := "fnExactBestRatio", apart := false }
def FnExactBestRatioSaid : Prop := fnExactBestRatioRow.holds Try.pinned (OpenSpec.ofChange fnExactBestRatioSpec)

/-- ITS FALSE NEIGHBOUR: 'it returns false'. Refute it at one input. -/
def fnExactBestRatioWrong : ChangeSpec := { name := "fnExactBestRatio", fn := fun _ => fun
  | [d1, d2] => { results := [.lit (.bool false)], args := [d1, d2] }
  | _ => none }
def FnExactBestRatioWrongFalsely : Prop := fnExactBestRatioRow.holds Try.pinned (OpenSpec.ofChange fnExactBestRatioWrong)

/-- 'laws.FnExactOutputOf': WHATEVER THE INPUT: true; the input reads as it did. -/
def fnExactOutputOfSpec : ChangeSpec := { name := "fnExactOutputOf", fn := fun _ => fun
  | [d1, d2, d3, d4] => { results := [.lit (.bool true)], args := [d1, d2, d3, d4] }
  | _ => none }
def fnExactOutputOfRow : OpenClaim := { program := "ytejjoejapnnlkaa", sum := "bd9ade7d933c3a410a363892ea3665bda6f939031e249b870d4a469574b6d690", func := "loop.example/g01153/laws.FnExactOutputOf", spec := "fnExactOutputOf", inPlace := ["internal/abi.NoEscape"], apart := false }
def FnExactOutputOfSaid : Prop := fnExactOutputOfRow.holds Try.pinned (OpenSpec.ofChange fnExactOutputOfSpec)

/-- ITS FALSE NEIGHBOUR: 'it returns false'. Refute it at one input. -/
def fnExactOutputOfWrong : ChangeSpec := { name := "fnExactOutputOf", fn := fun _ => fun
  | [d1, d2, d3, d4] => { results := [.lit (.bool false)], args := [d1, d2, d3, d4] }
  | _ => none }
def FnExactOutputOfWrongFalsely : Prop := fnExactOutputOfRow.holds Try.pinned (OpenSpec.ofChange fnExactOutputOfWrong)

/- THE SECOND FORM. 'bulk': how many values and letters a reading holds, each counted each time it is reached (what is shared counts as often as it is met; a slice's spare places count too). A statement '..UptoSaid' is the law's where the arguments, and the package variables that the reading takes, are together of bulk at most 1048576: NARROWER than '..Said'. Prove '..Said' where nothing that the law and all that it calls make is longer than what came in: it says more and counts as full. Else prove '..UptoSaid'. A law counts once. -/
mutual
def uptoBulk {H : Type} : DataW H → Nat
  | .lit (.string bytes) => bytes.length + 1
  | .lit _ => 1
  | .nil => 1
  | .ptr d => uptoBulk d + 1
  | .slice elems spare => uptoBulkAll elems + uptoBulkAll spare + 1
  | .agg parts => uptoBulkAll parts + 1
  | .iface _ d => uptoBulk d + 1
  | .map entries => uptoBulkEntries entries + 1
  | .held _ => 1
def uptoBulkAll {H : Type} : List (DataW H) → Nat
  | [] => 0
  | d :: r => uptoBulk d + uptoBulkAll r
def uptoBulkEntries {H : Type} : List (Lit × DataW H) → Nat
  | [] => 0
  | x :: r => uptoBulkEntry x + uptoBulkEntries r
def uptoBulkEntry {H : Type} : Lit × DataW H → Nat
  | (.string bytes, d) => bytes.length + uptoBulk d + 1
  | (_, d) => uptoBulk d + 1
 end
def uptoSmall : (H : Type) → List (DataW H) → Bool := fun _ ds => decide (uptoBulkAll ds ≤ 1048576)
def OpenSpec.upto (s : _root_.Go.ChangeSpec) : _root_.Go.OpenSpec := { _root_.Go.OpenSpec.ofChange s with cond := some uptoSmall }

/-- 'laws.FnExactValidDivider', WHERE WHAT IT READS IS OF BULK AT MOST 1048576: true; the input reads as it did. -/
def fnExactValidDividerUptoRow : OpenClaim := { program := "ytejjoejapnnlkaa", sum := "bd9ade7d933c3a410a363892ea3665bda6f939031e249b870d4a469574b6d690", func := "loop.example/g01153/laws.FnExactValidDivider", spec := "fnExactValidDivider", apart := false, narrowed := true }
def FnExactValidDividerUptoSaid : Prop := fnExactValidDividerUptoRow.holds Try.pinned (OpenSpec.upto fnExactValidDividerSpec)

/-- 'laws.FnExactGapRange', WHERE WHAT IT READS IS OF BULK AT MOST 1048576: true; the input reads as it did. -/
def fnExactGapRangeUptoRow : OpenClaim := { program := "ytejjoejapnnlkaa", sum := "bd9ade7d933c3a410a363892ea3665bda6f939031e249b870d4a469574b6d690", func := "loop.example/g01153/laws.FnExactGapRange", spec := "fnExactGapRange", apart := false, narrowed := true }
def FnExactGapRangeUptoSaid : Prop := fnExactGapRangeUptoRow.holds Try.pinned (OpenSpec.upto fnExactGapRangeSpec)

/-- 'laws.FnExactPulseTick', WHERE WHAT IT READS IS OF BULK AT MOST 1048576: true; the input reads as it did. -/
def fnExactPulseTickUptoRow : OpenClaim := { program := "ytejjoejapnnlkaa", sum := "bd9ade7d933c3a410a363892ea3665bda6f939031e249b870d4a469574b6d690", func := "loop.example/g01153/laws.FnExactPulseTick", spec := "fnExactPulseTick", apart := false, narrowed := true }
def FnExactPulseTickUptoSaid : Prop := fnExactPulseTickUptoRow.holds Try.pinned (OpenSpec.upto fnExactPulseTickSpec)

/-- 'laws.FnExactPulseError', WHERE WHAT IT READS IS OF BULK AT MOST 1048576: true; the input reads as it did. -/
def fnExactPulseErrorUptoRow : OpenClaim := { program := "ytejjoejapnnlkaa", sum := "bd9ade7d933c3a410a363892ea3665bda6f939031e249b870d4a469574b6d690", func := "loop.example/g01153/laws.FnExactPulseError", spec := "fnExactPulseError", apart := false, narrowed := true }
def FnExactPulseErrorUptoSaid : Prop := fnExactPulseErrorUptoRow.holds Try.pinned (OpenSpec.upto fnExactPulseErrorSpec)

/-- 'laws.FnExactMulFractions', WHERE WHAT IT READS IS OF BULK AT MOST 1048576: true; the input reads as it did. -/
def fnExactMulFractionsUptoRow : OpenClaim := { program := "ytejjoejapnnlkaa", sum := "bd9ade7d933c3a410a363892ea3665bda6f939031e249b870d4a469574b6d690", func := "loop.example/g01153/laws.FnExactMulFractions", spec := "fnExactMulFractions", named := ["math/bits.divideError", "math/bits.overflowError"], apart := false, narrowed := true }
def FnExactMulFractionsUptoSaid : Prop := fnExactMulFractionsUptoRow.holds Try.pinned (OpenSpec.upto fnExactMulFractionsSpec)

/-- 'laws.FnExactDivFractions', WHERE WHAT IT READS IS OF BULK AT MOST 1048576: true; the input reads as it did. -/
def fnExactDivFractionsUptoRow : OpenClaim := { program := "ytejjoejapnnlkaa", sum := "bd9ade7d933c3a410a363892ea3665bda6f939031e249b870d4a469574b6d690", func := "loop.example/g01153/laws.FnExactDivFractions", spec := "fnExactDivFractions", named := ["math/bits.divideError", "math/bits.overflowError"], apart := false, narrowed := true }
def FnExactDivFractionsUptoSaid : Prop := fnExactDivFractionsUptoRow.holds Try.pinned (OpenSpec.upto fnExactDivFractionsSpec)

/-- 'laws.FnExactCompareFractions', WHERE WHAT IT READS IS OF BULK AT MOST 1048576: true; the input reads as it did. -/
def fnExactCompareFractionsUptoRow : OpenClaim := { program := "ytejjoejapnnlkaa", sum := "bd9ade7d933c3a410a363892ea3665bda6f939031e249b870d4a469574b6d690", func := "loop.example/g01153/laws.FnExactCompareFractions", spec := "fnExactCompareFractions", inPlace := ["math/bits.Add64", "math/bits.Sub64"], apart := false, narrowed := true }
def FnExactCompareFractionsUptoSaid : Prop := fnExactCompareFractionsUptoRow.holds Try.pinned (OpenSpec.upto fnExactCompareFractionsSpec)

/-- 'laws.FnExactRatioSteps', WHERE WHAT IT READS IS OF BULK AT MOST 1048576: true; the input reads as it did. -/
def fnExactRatioStepsUptoRow : OpenClaim := { program := "ytejjoejapnnlkaa", sum := "bd9ade7d933c3a410a363892ea3665bda6f939031e249b870d4a469574b6d690", func := "loop.example/g01153/laws.FnExactRatioSteps", spec := "fnExactRatioSteps", apart := false, narrowed := true }
def FnExactRatioStepsUptoSaid : Prop := fnExactRatioStepsUptoRow.holds Try.pinned (OpenSpec.upto fnExactRatioStepsSpec)

/-- 'laws.FnExactBestRatio', WHERE WHAT IT READS IS OF BULK AT MOST 1048576: true; the input reads as it did. -/
def fnExactBestRatioUptoRow : OpenClaim := { program := "ytejjoejapnnlkaa", sum := "bd9ade7d933c3a410a363892ea3665bda6f939031e249b870d4a469574b6d690", func := "loop.example/g01153/laws.FnExactBestRatio", spec := "fnExactBestRatio", apart := false, narrowed := true }
def FnExactBestRatioUptoSaid : Prop := fnExactBestRatioUptoRow.holds Try.pinned (OpenSpec.upto fnExactBestRatioSpec)

/-- 'laws.FnExactOutputOf', WHERE WHAT IT READS IS OF BULK AT MOST 1048576: true; the input reads as it did. -/
def fnExactOutputOfUptoRow : OpenClaim := { program := "ytejjoejapnnlkaa", sum := "bd9ade7d933c3a410a363892ea3665bda6f939031e249b870d4a469574b6d690", func := "loop.example/g01153/laws.FnExactOutputOf", spec := "fnExactOutputOf", inPlace := ["internal/abi.NoEscape"], apart := false, narrowed := true }
def FnExactOutputOfUptoSaid : Prop := fnExactOutputOfUptoRow.holds Try.pinned (OpenSpec.upto fnExactOutputOfSpec)

end Rows
end Go.Proofs.Ytejjoejapnnlkaa
