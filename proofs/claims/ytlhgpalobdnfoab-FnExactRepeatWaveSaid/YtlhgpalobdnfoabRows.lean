/-
  No cell of these rows narrows 'for every input' (looked for: loops, veiled, ifaces, maps, wideKeys, modest, calm, conditions, laid).
  DERIVED. THE GIVEN ROWS OF THIS SEAT. 10 by the template 'for every input the law returns true; each argument reads behind the call as it read before'; 0 by the template 'total and deterministic' (their statements: YtlhgpalobdnfoabTotals.lean).
  GIVEN WITH THE SEED: the statements are not yours to turn. If you find one false, say at which input.
  Laid BY PROGRAM, IN A SANDBOX (cutbox-rows.mjs): the forced cells as the released guide's own fill.sh prints them over the translation 451c789377f0c423… (all of the seat's roots in one cut). By AI agents, Wed Nov 11 2026. No macro, syntax, notation, axiom, sorry.
-/
import Derived.Test.YtlhgpalobdnfoabChecked
import GoSem.Claim
import GoSem.ClaimJoined
import GoSem.ClaimMapViews
import Derived.JoinedTies
import Derived.KernelRfl
namespace Go.Proofs.Ytlhgpalobdnfoab
/- THE CELL 'sum', in the pinned program and in every row, IS THE sha256 OF THE DUMP (.gsa) THAT YtlhgpalobdnfoabProg.lean LOADS. Nothing in Lean hashes anything: it is a label: what it is worth is what the hold of that sum in a sandbox is worth. -/
noncomputable def Try.pinned : Pinned := { name := "ytlhgpalobdnfoab", sum := "451c789377f0c42382e95c052405d3f194f1adc087a36e7859f32bb3772d32a7", checked := Try.checked }
namespace Rows
def none {H : Type} : Left H := { results := [], args := [] }

/-- 'laws.FnExactDelayWave': WHATEVER THE INPUT: true; the input reads as it did. -/
def fnExactDelayWaveSpec : ChangeSpec := { name := "fnExactDelayWave", fn := fun _ => fun
  | [d1, d2] => { results := [.lit (.bool true)], args := [d1, d2] }
  | _ => none }
def fnExactDelayWaveRow : OpenClaim := { program := "ytlhgpalobdnfoab", sum := "451c789377f0c42382e95c052405d3f194f1adc087a36e7859f32bb3772d32a7", func := "loop.example/g01153/laws.FnExactDelayWave", spec := "fnExactDelayWave", inPlace := ["internal/abi.NoEscape", "internal/bytealg.MakeNoZero"], apart := false }
def FnExactDelayWaveSaid : Prop := fnExactDelayWaveRow.holds Try.pinned (OpenSpec.ofChange fnExactDelayWaveSpec)

/-- ITS FALSE NEIGHBOUR: 'it returns false'. Refute it at one input. -/
def fnExactDelayWaveWrong : ChangeSpec := { name := "fnExactDelayWave", fn := fun _ => fun
  | [d1, d2] => { results := [.lit (.bool false)], args := [d1, d2] }
  | _ => none }
def FnExactDelayWaveWrongFalsely : Prop := fnExactDelayWaveRow.holds Try.pinned (OpenSpec.ofChange fnExactDelayWaveWrong)

/-- 'laws.FnExactRepeatWave': WHATEVER THE INPUT: true; the input reads as it did. -/
def fnExactRepeatWaveSpec : ChangeSpec := { name := "fnExactRepeatWave", fn := fun _ => fun
  | [d1, d2] => { results := [.lit (.bool true)], args := [d1, d2] }
  | _ => none }
def fnExactRepeatWaveRow : OpenClaim := { program := "ytlhgpalobdnfoab", sum := "451c789377f0c42382e95c052405d3f194f1adc087a36e7859f32bb3772d32a7", func := "loop.example/g01153/laws.FnExactRepeatWave", spec := "fnExactRepeatWave", inPlace := ["internal/abi.NoEscape", "internal/bytealg.MakeNoZero"], apart := false }
def FnExactRepeatWaveSaid : Prop := fnExactRepeatWaveRow.holds Try.pinned (OpenSpec.ofChange fnExactRepeatWaveSpec)

/-- ITS FALSE NEIGHBOUR: 'it returns false'. Refute it at one input. -/
def fnExactRepeatWaveWrong : ChangeSpec := { name := "fnExactRepeatWave", fn := fun _ => fun
  | [d1, d2] => { results := [.lit (.bool false)], args := [d1, d2] }
  | _ => none }
def FnExactRepeatWaveWrongFalsely : Prop := fnExactRepeatWaveRow.holds Try.pinned (OpenSpec.ofChange fnExactRepeatWaveWrong)

/-- 'laws.FnExactJoinWaves': WHATEVER THE INPUT: true; the input reads as it did. -/
def fnExactJoinWavesSpec : ChangeSpec := { name := "fnExactJoinWaves", fn := fun _ => fun
  | [d1, d2, d3] => { results := [.lit (.bool true)], args := [d1, d2, d3] }
  | _ => none }
def fnExactJoinWavesRow : OpenClaim := { program := "ytlhgpalobdnfoab", sum := "451c789377f0c42382e95c052405d3f194f1adc087a36e7859f32bb3772d32a7", func := "loop.example/g01153/laws.FnExactJoinWaves", spec := "fnExactJoinWaves", inPlace := ["internal/abi.NoEscape"], apart := false }
def FnExactJoinWavesSaid : Prop := fnExactJoinWavesRow.holds Try.pinned (OpenSpec.ofChange fnExactJoinWavesSpec)

/-- ITS FALSE NEIGHBOUR: 'it returns false'. Refute it at one input. -/
def fnExactJoinWavesWrong : ChangeSpec := { name := "fnExactJoinWaves", fn := fun _ => fun
  | [d1, d2, d3] => { results := [.lit (.bool false)], args := [d1, d2, d3] }
  | _ => none }
def FnExactJoinWavesWrongFalsely : Prop := fnExactJoinWavesRow.holds Try.pinned (OpenSpec.ofChange fnExactJoinWavesWrong)

/-- 'laws.FnExactNotWave': WHATEVER THE INPUT: true; the input reads as it did. -/
def fnExactNotWaveSpec : ChangeSpec := { name := "fnExactNotWave", fn := fun _ => fun
  | [d] => { results := [.lit (.bool true)], args := [d] }
  | _ => none }
def fnExactNotWaveRow : OpenClaim := { program := "ytlhgpalobdnfoab", sum := "451c789377f0c42382e95c052405d3f194f1adc087a36e7859f32bb3772d32a7", func := "loop.example/g01153/laws.FnExactNotWave", spec := "fnExactNotWave", inPlace := ["internal/abi.NoEscape"], apart := false }
def FnExactNotWaveSaid : Prop := fnExactNotWaveRow.holds Try.pinned (OpenSpec.ofChange fnExactNotWaveSpec)

/-- ITS FALSE NEIGHBOUR: 'it returns false'. Refute it at one input. -/
def fnExactNotWaveWrong : ChangeSpec := { name := "fnExactNotWave", fn := fun _ => fun
  | [d] => { results := [.lit (.bool false)], args := [d] }
  | _ => none }
def FnExactNotWaveWrongFalsely : Prop := fnExactNotWaveRow.holds Try.pinned (OpenSpec.ofChange fnExactNotWaveWrong)

/-- 'laws.FnExactWaveFrom': WHATEVER THE INPUT: true; the input reads as it did. -/
def fnExactWaveFromSpec : ChangeSpec := { name := "fnExactWaveFrom", fn := fun _ => fun
  | [d1, d2, d3] => { results := [.lit (.bool true)], args := [d1, d2, d3] }
  | _ => none }
def fnExactWaveFromRow : OpenClaim := { program := "ytlhgpalobdnfoab", sum := "451c789377f0c42382e95c052405d3f194f1adc087a36e7859f32bb3772d32a7", func := "loop.example/g01153/laws.FnExactWaveFrom", spec := "fnExactWaveFrom", inPlace := ["internal/abi.NoEscape"], apart := false }
def FnExactWaveFromSaid : Prop := fnExactWaveFromRow.holds Try.pinned (OpenSpec.ofChange fnExactWaveFromSpec)

/-- ITS FALSE NEIGHBOUR: 'it returns false'. Refute it at one input. -/
def fnExactWaveFromWrong : ChangeSpec := { name := "fnExactWaveFrom", fn := fun _ => fun
  | [d1, d2, d3] => { results := [.lit (.bool false)], args := [d1, d2, d3] }
  | _ => none }
def FnExactWaveFromWrongFalsely : Prop := fnExactWaveFromRow.holds Try.pinned (OpenSpec.ofChange fnExactWaveFromWrong)

/-- 'laws.FnExactGcdOf': WHATEVER THE INPUT: true; the input reads as it did. -/
def fnExactGcdOfSpec : ChangeSpec := { name := "fnExactGcdOf", fn := fun _ => fun
  | [d1, d2] => { results := [.lit (.bool true)], args := [d1, d2] }
  | _ => none }
def fnExactGcdOfRow : OpenClaim := { program := "ytlhgpalobdnfoab", sum := "451c789377f0c42382e95c052405d3f194f1adc087a36e7859f32bb3772d32a7", func := "loop.example/g01153/laws.FnExactGcdOf", spec := "fnExactGcdOf", apart := false }
def FnExactGcdOfSaid : Prop := fnExactGcdOfRow.holds Try.pinned (OpenSpec.ofChange fnExactGcdOfSpec)

/-- ITS FALSE NEIGHBOUR: 'it returns false'. Refute it at one input. -/
def fnExactGcdOfWrong : ChangeSpec := { name := "fnExactGcdOf", fn := fun _ => fun
  | [d1, d2] => { results := [.lit (.bool false)], args := [d1, d2] }
  | _ => none }
def FnExactGcdOfWrongFalsely : Prop := fnExactGcdOfRow.holds Try.pinned (OpenSpec.ofChange fnExactGcdOfWrong)

/-- 'laws.FnExactLcmOf': WHATEVER THE INPUT: true; the input reads as it did. -/
def fnExactLcmOfSpec : ChangeSpec := { name := "fnExactLcmOf", fn := fun _ => fun
  | [d1, d2] => { results := [.lit (.bool true)], args := [d1, d2] }
  | _ => none }
def fnExactLcmOfRow : OpenClaim := { program := "ytlhgpalobdnfoab", sum := "451c789377f0c42382e95c052405d3f194f1adc087a36e7859f32bb3772d32a7", func := "loop.example/g01153/laws.FnExactLcmOf", spec := "fnExactLcmOf", named := ["math/bits.divideError", "math/bits.overflowError"], apart := false }
def FnExactLcmOfSaid : Prop := fnExactLcmOfRow.holds Try.pinned (OpenSpec.ofChange fnExactLcmOfSpec)

/-- ITS FALSE NEIGHBOUR: 'it returns false'. Refute it at one input. -/
def fnExactLcmOfWrong : ChangeSpec := { name := "fnExactLcmOf", fn := fun _ => fun
  | [d1, d2] => { results := [.lit (.bool false)], args := [d1, d2] }
  | _ => none }
def FnExactLcmOfWrongFalsely : Prop := fnExactLcmOfRow.holds Try.pinned (OpenSpec.ofChange fnExactLcmOfWrong)

/-- 'laws.FnExactValidFraction': WHATEVER THE INPUT: true; the input reads as it did. -/
def fnExactValidFractionSpec : ChangeSpec := { name := "fnExactValidFraction", fn := fun _ => fun
  | [d] => { results := [.lit (.bool true)], args := [d] }
  | _ => none }
def fnExactValidFractionRow : OpenClaim := { program := "ytlhgpalobdnfoab", sum := "451c789377f0c42382e95c052405d3f194f1adc087a36e7859f32bb3772d32a7", func := "loop.example/g01153/laws.FnExactValidFraction", spec := "fnExactValidFraction", apart := false }
def FnExactValidFractionSaid : Prop := fnExactValidFractionRow.holds Try.pinned (OpenSpec.ofChange fnExactValidFractionSpec)

/-- ITS FALSE NEIGHBOUR: 'it returns false'. Refute it at one input. -/
def fnExactValidFractionWrong : ChangeSpec := { name := "fnExactValidFraction", fn := fun _ => fun
  | [d] => { results := [.lit (.bool false)], args := [d] }
  | _ => none }
def FnExactValidFractionWrongFalsely : Prop := fnExactValidFractionRow.holds Try.pinned (OpenSpec.ofChange fnExactValidFractionWrong)

/-- 'laws.FnExactMakeFraction': WHATEVER THE INPUT: true; the input reads as it did. -/
def fnExactMakeFractionSpec : ChangeSpec := { name := "fnExactMakeFraction", fn := fun _ => fun
  | [d1, d2] => { results := [.lit (.bool true)], args := [d1, d2] }
  | _ => none }
def fnExactMakeFractionRow : OpenClaim := { program := "ytlhgpalobdnfoab", sum := "451c789377f0c42382e95c052405d3f194f1adc087a36e7859f32bb3772d32a7", func := "loop.example/g01153/laws.FnExactMakeFraction", spec := "fnExactMakeFraction", apart := false }
def FnExactMakeFractionSaid : Prop := fnExactMakeFractionRow.holds Try.pinned (OpenSpec.ofChange fnExactMakeFractionSpec)

/-- ITS FALSE NEIGHBOUR: 'it returns false'. Refute it at one input. -/
def fnExactMakeFractionWrong : ChangeSpec := { name := "fnExactMakeFraction", fn := fun _ => fun
  | [d1, d2] => { results := [.lit (.bool false)], args := [d1, d2] }
  | _ => none }
def FnExactMakeFractionWrongFalsely : Prop := fnExactMakeFractionRow.holds Try.pinned (OpenSpec.ofChange fnExactMakeFractionWrong)

/-- 'laws.FnExactAddFractions': WHATEVER THE INPUT: true; the input reads as it did. -/
def fnExactAddFractionsSpec : ChangeSpec := { name := "fnExactAddFractions", fn := fun _ => fun
  | [d1, d2] => { results := [.lit (.bool true)], args := [d1, d2] }
  | _ => none }
def fnExactAddFractionsRow : OpenClaim := { program := "ytlhgpalobdnfoab", sum := "451c789377f0c42382e95c052405d3f194f1adc087a36e7859f32bb3772d32a7", func := "loop.example/g01153/laws.FnExactAddFractions", spec := "fnExactAddFractions", inPlace := ["math/bits.Add64", "math/bits.Sub64"], named := ["math/bits.divideError", "math/bits.overflowError"], apart := false }
def FnExactAddFractionsSaid : Prop := fnExactAddFractionsRow.holds Try.pinned (OpenSpec.ofChange fnExactAddFractionsSpec)

/-- ITS FALSE NEIGHBOUR: 'it returns false'. Refute it at one input. -/
def fnExactAddFractionsWrong : ChangeSpec := { name := "fnExactAddFractions", fn := fun _ => fun
  | [d1, d2] => { results := [.lit (.bool false)], args := [d1, d2] }
  | _ => none }
def FnExactAddFractionsWrongFalsely : Prop := fnExactAddFractionsRow.holds Try.pinned (OpenSpec.ofChange fnExactAddFractionsWrong)

/- THE SECOND FORM. 'bulk': how many values and letters a reading holds, each counted each time it is reached (what is shared counts as often as it is met; a slice's spare places count too). A statement '..UptoSaid' is the law's where the arguments, and the package variables that the reading takes, are together of bulk at most 1048576: NARROWER than '..Said'. Prove '..Said' where nothing that the law and all that it calls make is longer than what came in: it says more and counts as full. Else prove '..UptoSaid'. A law counts once. -/
mutual
def uptoBulk {H : Type} : DataW H → Nat
  | .lit (.string bytes) => bytes.length + 1
  | .lit _ => 1
  | .nil => 1
  | .ptr d => uptoBulk d + 1
  | .slice elems spare => uptoBulkAll elems + uptoBulkAll spare + 1
  | .agg parts => uptoBulkAll parts + 1
  | .iface _ d => uptoBulk d + 1
  | .map entries => uptoBulkEntries entries + 1
  | .held _ => 1
def uptoBulkAll {H : Type} : List (DataW H) → Nat
  | [] => 0
  | d :: r => uptoBulk d + uptoBulkAll r
def uptoBulkEntries {H : Type} : List (Lit × DataW H) → Nat
  | [] => 0
  | x :: r => uptoBulkEntry x + uptoBulkEntries r
def uptoBulkEntry {H : Type} : Lit × DataW H → Nat
  | (.string bytes, d) => bytes.length + uptoBulk d + 1
  | (_, d) => uptoBulk d + 1
 end
def uptoSmall : (H : Type) → List (DataW H) → Bool := fun _ ds => decide (uptoBulkAll ds ≤ 1048576)
def OpenSpec.upto (s : _root_.Go.ChangeSpec) : _root_.Go.OpenSpec := { _root_.Go.OpenSpec.ofChange s with cond := some uptoSmall }

/-- 'laws.FnExactDelayWave', WHERE WHAT IT READS IS OF BULK AT MOST 1048576: true; the input reads as it did. -/
def fnExactDelayWaveUptoRow : OpenClaim := { program := "ytlhgpalobdnfoab", sum := "451c789377f0c42382e95c052405d3f194f1adc087a36e7859f32bb3772d32a7", func := "loop.example/g01153/laws.FnExactDelayWave", spec := "fnExactDelayWave", inPlace := ["internal/abi.NoEscape", "internal/bytealg.MakeNoZero"], apart := false, narrowed := true }
def FnExactDelayWaveUptoSaid : Prop := fnExactDelayWaveUptoRow.holds Try.pinned (OpenSpec.upto fnExactDelayWaveSpec)

/-- 'laws.FnExactRepeatWave', WHERE WHAT IT READS IS OF BULK AT MOST 1048576: true; the input reads as it did. -/
def fnExactRepeatWaveUptoRow : OpenClaim := { program := "ytlhgpalobdnfoab", sum := "451c789377f0c42382e95c052405d3f194f1adc087a36e7859f32bb3772d32a7", func := "loop.example/g01153/laws.FnExactRepeatWave", spec := "fnExactRepeatWave", inPlace := ["internal/abi.NoEscape", "internal/bytealg.MakeNoZero"], apart := false, narrowed := true }
def FnExactRepeatWaveUptoSaid : Prop := fnExactRepeatWaveUptoRow.holds Try.pinned (OpenSpec.upto fnExactRepeatWaveSpec)

/-- 'laws.FnExactJoinWaves', WHERE WHAT IT READS IS OF BULK AT MOST 1048576: true; the input reads as it did. -/
def fnExactJoinWavesUptoRow : OpenClaim := { program := "ytlhgpalobdnfoab", sum := "451c789377f0c42382e95c052405d3f194f1adc087a36e7859f32bb3772d32a7", func := "loop.example/g01153/laws.FnExactJoinWaves", spec := "fnExactJoinWaves", inPlace := ["internal/abi.NoEscape"], apart := false, narrowed := true }
def FnExactJoinWavesUptoSaid : Prop := fnExactJoinWavesUptoRow.holds Try.pinned (OpenSpec.upto fnExactJoinWavesSpec)

/-- 'laws.FnExactNotWave', WHERE WHAT IT READS IS OF BULK AT MOST 1048576: true; the input reads as it did. -/
def fnExactNotWaveUptoRow : OpenClaim := { program := "ytlhgpalobdnfoab", sum := "451c789377f0c42382e95c052405d3f194f1adc087a36e7859f32bb3772d32a7", func := "loop.example/g01153/laws.FnExactNotWave", spec := "fnExactNotWave", inPlace := ["internal/abi.NoEscape"], apart := false, narrowed := true }
def FnExactNotWaveUptoSaid : Prop := fnExactNotWaveUptoRow.holds Try.pinned (OpenSpec.upto fnExactNotWaveSpec)

/-- 'laws.FnExactWaveFrom', WHERE WHAT IT READS IS OF BULK AT MOST 1048576: true; the input reads as it did. -/
def fnExactWaveFromUptoRow : OpenClaim := { program := "ytlhgpalobdnfoab", sum := "451c789377f0c42382e95c052405d3f194f1adc087a36e7859f32bb3772d32a7", func := "loop.example/g01153/laws.FnExactWaveFrom", spec := "fnExactWaveFrom", inPlace := ["internal/abi.NoEscape"], apart := false, narrowed := true }
def FnExactWaveFromUptoSaid : Prop := fnExactWaveFromUptoRow.holds Try.pinned (OpenSpec.upto fnExactWaveFromSpec)

/-- 'laws.FnExactGcdOf', WHERE WHAT IT READS IS OF BULK AT MOST 1048576: true; the input reads as it did. -/
def fnExactGcdOfUptoRow : OpenClaim := { program := "ytlhgpalobdnfoab", sum := "451c789377f0c42382e95c052405d3f194f1adc087a36e7859f32bb3772d32a7", func := "loop.example/g01153/laws.FnExactGcdOf", spec := "fnExactGcdOf", apart := false, narrowed := true }
def FnExactGcdOfUptoSaid : Prop := fnExactGcdOfUptoRow.holds Try.pinned (OpenSpec.upto fnExactGcdOfSpec)

/-- 'laws.FnExactLcmOf', WHERE WHAT IT READS IS OF BULK AT MOST 1048576: true; the input reads as it did. -/
def fnExactLcmOfUptoRow : OpenClaim := { program := "ytlhgpalobdnfoab", sum := "451c789377f0c42382e95c052405d3f194f1adc087a36e7859f32bb3772d32a7", func := "loop.example/g01153/laws.FnExactLcmOf", spec := "fnExactLcmOf", named := ["math/bits.divideError", "math/bits.overflowError"], apart := false, narrowed := true }
def FnExactLcmOfUptoSaid : Prop := fnExactLcmOfUptoRow.holds Try.pinned (OpenSpec.upto fnExactLcmOfSpec)

/-- 'laws.FnExactValidFraction', WHERE WHAT IT READS IS OF BULK AT MOST 1048576: true; the input reads as it did. -/
def fnExactValidFractionUptoRow : OpenClaim := { program := "ytlhgpalobdnfoab", sum := "451c789377f0c42382e95c052405d3f194f1adc087a36e7859f32bb3772d32a7", func := "loop.example/g01153/laws.FnExactValidFraction", spec := "fnExactValidFraction", apart := false, narrowed := true }
def FnExactValidFractionUptoSaid : Prop := fnExactValidFractionUptoRow.holds Try.pinned (OpenSpec.upto fnExactValidFractionSpec)

/-- 'laws.FnExactMakeFraction', WHERE WHAT IT READS IS OF BULK AT MOST 1048576: true; the input reads as it did. -/
def fnExactMakeFractionUptoRow : OpenClaim := { program := "ytlhgpalobdnfoab", sum := "451c789377f0c42382e95c052405d3f194f1adc087a36e7859f32bb3772d32a7", func := "loop.example/g01153/laws.FnExactMakeFraction", spec := "fnExactMakeFraction", apart := false, narrowed := true }
def FnExactMakeFractionUptoSaid : Prop := fnExactMakeFractionUptoRow.holds Try.pinned (OpenSpec.upto fnExactMakeFractionSpec)

/-- 'laws.FnExactAddFractions', WHERE WHAT IT READS IS OF BULK AT MOST 1048576: true; the input reads as it did. -/
def fnExactAddFractionsUptoRow : OpenClaim := { program := "ytlhgpalobdnfoab", sum := "451c789377f0c42382e95c052405d3f194f1adc087a36e7859f32bb3772d32a7", func := "loop.example/g01153/laws.FnExactAddFractions", spec := "fnExactAddFractions", inPlace := ["math/bits.Add64", "math/bits.Sub64"], named := ["math/bits.divideError", "math/bits.overflowError"], apart := false, narrowed := true }
def FnExactAddFractionsUptoSaid : Prop := fnExactAddFractionsUptoRow.holds Try.pinned (OpenSpec.upto fnExactAddFractionsSpec)

end Rows
end Go.Proofs.Ytlhgpalobdnfoab
