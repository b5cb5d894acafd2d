/-
  No cell of these rows narrows 'for every input' (looked for: loops, veiled, ifaces, maps, wideKeys, modest, calm, conditions, laid).
  DERIVED. THE GIVEN ROWS OF THIS SEAT. 12 by the template 'for every input the law returns true; each argument reads behind the call as it read before'; 0 by the template 'total and deterministic' (their statements: YtmhbgpappjfolaaTotals.lean).
  GIVEN WITH THE SEED: the statements are not yours to turn. If you find one false, say at which input.
  Laid BY PROGRAM, IN A SANDBOX (cutbox-rows.mjs): the forced cells as the released guide's own fill.sh prints them over the translation 332458bc6920350d… (all of the seat's roots in one cut). By AI agents, Wed Nov 11 2026. No macro, syntax, notation, axiom, sorry.
-/
import Derived.Test.YtmhbgpappjfolaaChecked
import GoSem.Claim
import GoSem.ClaimJoined
import GoSem.ClaimMapViews
import Derived.JoinedTies
import Derived.KernelRfl
namespace Go.Proofs.Ytmhbgpappjfolaa
/- THE CELL 'sum', in the pinned program and in every row, IS THE sha256 OF THE DUMP (.gsa) THAT YtmhbgpappjfolaaProg.lean LOADS. Nothing in Lean hashes anything: it is a label: what it is worth is what the hold of that sum in a sandbox is worth. -/
noncomputable def Try.pinned : Pinned := { name := "ytmhbgpappjfolaa", sum := "332458bc6920350d662bd99c7e748750c6a2d9c153d2426e0fc4438fd13ba166", checked := Try.checked }
namespace Rows
def none {H : Type} : Left H := { results := [], args := [] }

/-- 'laws.FnExactJoinWaves': WHATEVER THE INPUT: true; the input reads as it did. -/
def fnExactJoinWavesSpec : ChangeSpec := { name := "fnExactJoinWaves", fn := fun _ => fun
  | [d1, d2, d3] => { results := [.lit (.bool true)], args := [d1, d2, d3] }
  | _ => none }
def fnExactJoinWavesRow : OpenClaim := { program := "ytmhbgpappjfolaa", sum := "332458bc6920350d662bd99c7e748750c6a2d9c153d2426e0fc4438fd13ba166", func := "loop.example/g01153/laws.FnExactJoinWaves", spec := "fnExactJoinWaves", inPlace := ["internal/abi.NoEscape"], unfollowed := true, recurses := true, apart := false }
def FnExactJoinWavesSaid : Prop := fnExactJoinWavesRow.holds Try.pinned (OpenSpec.ofChange fnExactJoinWavesSpec)

/-- ITS FALSE NEIGHBOUR: 'it returns false'. Refute it at one input. -/
def fnExactJoinWavesWrong : ChangeSpec := { name := "fnExactJoinWaves", fn := fun _ => fun
  | [d1, d2, d3] => { results := [.lit (.bool false)], args := [d1, d2, d3] }
  | _ => none }
def FnExactJoinWavesWrongFalsely : Prop := fnExactJoinWavesRow.holds Try.pinned (OpenSpec.ofChange fnExactJoinWavesWrong)

/-- 'laws.FnJoined': WHATEVER THE INPUT: true; the input reads as it did. -/
def fnJoinedSpec : ChangeSpec := { name := "fnJoined", fn := fun _ => fun
  | [d1, d2] => { results := [.lit (.bool true)], args := [d1, d2] }
  | _ => none }
def fnJoinedRow : OpenClaim := { program := "ytmhbgpappjfolaa", sum := "332458bc6920350d662bd99c7e748750c6a2d9c153d2426e0fc4438fd13ba166", func := "loop.example/g01153/laws.FnJoined", spec := "fnJoined", inPlace := ["internal/abi.NoEscape", "internal/bytealg.MakeNoZero"], unfollowed := true, recurses := true, apart := false }
def FnJoinedSaid : Prop := fnJoinedRow.holds Try.pinned (OpenSpec.ofChange fnJoinedSpec)

/-- ITS FALSE NEIGHBOUR: 'it returns false'. Refute it at one input. -/
def fnJoinedWrong : ChangeSpec := { name := "fnJoined", fn := fun _ => fun
  | [d1, d2] => { results := [.lit (.bool false)], args := [d1, d2] }
  | _ => none }
def FnJoinedWrongFalsely : Prop := fnJoinedRow.holds Try.pinned (OpenSpec.ofChange fnJoinedWrong)

/-- 'laws.FnExactValidSwitch': WHATEVER THE INPUT: true; the input reads as it did. -/
def fnExactValidSwitchSpec : ChangeSpec := { name := "fnExactValidSwitch", fn := fun _ => fun
  | [d] => { results := [.lit (.bool true)], args := [d] }
  | _ => none }
def fnExactValidSwitchRow : OpenClaim := { program := "ytmhbgpappjfolaa", sum := "332458bc6920350d662bd99c7e748750c6a2d9c153d2426e0fc4438fd13ba166", func := "loop.example/g01153/laws.FnExactValidSwitch", spec := "fnExactValidSwitch", apart := false }
def FnExactValidSwitchSaid : Prop := fnExactValidSwitchRow.holds Try.pinned (OpenSpec.ofChange fnExactValidSwitchSpec)

/-- ITS FALSE NEIGHBOUR: 'it returns false'. Refute it at one input. -/
def fnExactValidSwitchWrong : ChangeSpec := { name := "fnExactValidSwitch", fn := fun _ => fun
  | [d] => { results := [.lit (.bool false)], args := [d] }
  | _ => none }
def FnExactValidSwitchWrongFalsely : Prop := fnExactValidSwitchRow.holds Try.pinned (OpenSpec.ofChange fnExactValidSwitchWrong)

/-- 'laws.FnExactPlainSwitch': WHATEVER THE INPUT: true; the input reads as it did. -/
def fnExactPlainSwitchSpec : ChangeSpec := { name := "fnExactPlainSwitch", fn := fun _ => fun
  | [d1, d2, d3] => { results := [.lit (.bool true)], args := [d1, d2, d3] }
  | _ => none }
def fnExactPlainSwitchRow : OpenClaim := { program := "ytmhbgpappjfolaa", sum := "332458bc6920350d662bd99c7e748750c6a2d9c153d2426e0fc4438fd13ba166", func := "loop.example/g01153/laws.FnExactPlainSwitch", spec := "fnExactPlainSwitch", inPlace := ["internal/abi.NoEscape"], unfollowed := true, recurses := true, apart := false }
def FnExactPlainSwitchSaid : Prop := fnExactPlainSwitchRow.holds Try.pinned (OpenSpec.ofChange fnExactPlainSwitchSpec)

/-- ITS FALSE NEIGHBOUR: 'it returns false'. Refute it at one input. -/
def fnExactPlainSwitchWrong : ChangeSpec := { name := "fnExactPlainSwitch", fn := fun _ => fun
  | [d1, d2, d3] => { results := [.lit (.bool false)], args := [d1, d2, d3] }
  | _ => none }
def FnExactPlainSwitchWrongFalsely : Prop := fnExactPlainSwitchRow.holds Try.pinned (OpenSpec.ofChange fnExactPlainSwitchWrong)

/-- 'laws.FnExactSafeSwitch': WHATEVER THE INPUT: true; the input reads as it did. -/
def fnExactSafeSwitchSpec : ChangeSpec := { name := "fnExactSafeSwitch", fn := fun _ => fun
  | [d1, d2, d3, d4] => { results := [.lit (.bool true)], args := [d1, d2, d3, d4] }
  | _ => none }
def fnExactSafeSwitchRow : OpenClaim := { program := "ytmhbgpappjfolaa", sum := "332458bc6920350d662bd99c7e748750c6a2d9c153d2426e0fc4438fd13ba166", func := "loop.example/g01153/laws.FnExactSafeSwitch", spec := "fnExactSafeSwitch", inPlace := ["internal/abi.NoEscape"], unfollowed := true, recurses := true, apart := false }
def FnExactSafeSwitchSaid : Prop := fnExactSafeSwitchRow.holds Try.pinned (OpenSpec.ofChange fnExactSafeSwitchSpec)

/-- ITS FALSE NEIGHBOUR: 'it returns false'. Refute it at one input. -/
def fnExactSafeSwitchWrong : ChangeSpec := { name := "fnExactSafeSwitch", fn := fun _ => fun
  | [d1, d2, d3, d4] => { results := [.lit (.bool false)], args := [d1, d2, d3, d4] }
  | _ => none }
def FnExactSafeSwitchWrongFalsely : Prop := fnExactSafeSwitchRow.holds Try.pinned (OpenSpec.ofChange fnExactSafeSwitchWrong)

/-- 'laws.FnExactEnablesOf': WHATEVER THE INPUT: true; the input reads as it did. -/
def fnExactEnablesOfSpec : ChangeSpec := { name := "fnExactEnablesOf", fn := fun _ => fun
  | [d1, d2, d3, d4] => { results := [.lit (.bool true)], args := [d1, d2, d3, d4] }
  | _ => none }
def fnExactEnablesOfRow : OpenClaim := { program := "ytmhbgpappjfolaa", sum := "332458bc6920350d662bd99c7e748750c6a2d9c153d2426e0fc4438fd13ba166", func := "loop.example/g01153/laws.FnExactEnablesOf", spec := "fnExactEnablesOf", inPlace := ["internal/abi.NoEscape"], unfollowed := true, recurses := true, apart := false }
def FnExactEnablesOfSaid : Prop := fnExactEnablesOfRow.holds Try.pinned (OpenSpec.ofChange fnExactEnablesOfSpec)

/-- ITS FALSE NEIGHBOUR: 'it returns false'. Refute it at one input. -/
def fnExactEnablesOfWrong : ChangeSpec := { name := "fnExactEnablesOf", fn := fun _ => fun
  | [d1, d2, d3, d4] => { results := [.lit (.bool false)], args := [d1, d2, d3, d4] }
  | _ => none }
def FnExactEnablesOfWrongFalsely : Prop := fnExactEnablesOfRow.holds Try.pinned (OpenSpec.ofChange fnExactEnablesOfWrong)

/-- 'laws.FnExactShortPulses': WHATEVER THE INPUT: true; the input reads as it did. -/
def fnExactShortPulsesSpec : ChangeSpec := { name := "fnExactShortPulses", fn := fun _ => fun
  | [d1, d2] => { results := [.lit (.bool true)], args := [d1, d2] }
  | _ => none }
def fnExactShortPulsesRow : OpenClaim := { program := "ytmhbgpappjfolaa", sum := "332458bc6920350d662bd99c7e748750c6a2d9c153d2426e0fc4438fd13ba166", func := "loop.example/g01153/laws.FnExactShortPulses", spec := "fnExactShortPulses", unfollowed := true, recurses := true, apart := false }
def FnExactShortPulsesSaid : Prop := fnExactShortPulsesRow.holds Try.pinned (OpenSpec.ofChange fnExactShortPulsesSpec)

/-- ITS FALSE NEIGHBOUR: 'it returns false'. Refute it at one input. -/
def fnExactShortPulsesWrong : ChangeSpec := { name := "fnExactShortPulses", fn := fun _ => fun
  | [d1, d2] => { results := [.lit (.bool false)], args := [d1, d2] }
  | _ => none }
def FnExactShortPulsesWrongFalsely : Prop := fnExactShortPulsesRow.holds Try.pinned (OpenSpec.ofChange fnExactShortPulsesWrong)

/-- 'laws.FnExactIsClean': WHATEVER THE INPUT: true; the input reads as it did. -/
def fnExactIsCleanSpec : ChangeSpec := { name := "fnExactIsClean", fn := fun _ => fun
  | [d1, d2, d3] => { results := [.lit (.bool true)], args := [d1, d2, d3] }
  | _ => none }
def fnExactIsCleanRow : OpenClaim := { program := "ytmhbgpappjfolaa", sum := "332458bc6920350d662bd99c7e748750c6a2d9c153d2426e0fc4438fd13ba166", func := "loop.example/g01153/laws.FnExactIsClean", spec := "fnExactIsClean", unfollowed := true, recurses := true, apart := false }
def FnExactIsCleanSaid : Prop := fnExactIsCleanRow.holds Try.pinned (OpenSpec.ofChange fnExactIsCleanSpec)

/-- ITS FALSE NEIGHBOUR: 'it returns false'. Refute it at one input. -/
def fnExactIsCleanWrong : ChangeSpec := { name := "fnExactIsClean", fn := fun _ => fun
  | [d1, d2, d3] => { results := [.lit (.bool false)], args := [d1, d2, d3] }
  | _ => none }
def FnExactIsCleanWrongFalsely : Prop := fnExactIsCleanRow.holds Try.pinned (OpenSpec.ofChange fnExactIsCleanWrong)

/-- 'laws.FnExactSwitchTimes': WHATEVER THE INPUT: true; the input reads as it did. -/
def fnExactSwitchTimesSpec : ChangeSpec := { name := "fnExactSwitchTimes", fn := fun _ => fun
  | [d1, d2, d3, d4] => { results := [.lit (.bool true)], args := [d1, d2, d3, d4] }
  | _ => none }
def fnExactSwitchTimesRow : OpenClaim := { program := "ytmhbgpappjfolaa", sum := "332458bc6920350d662bd99c7e748750c6a2d9c153d2426e0fc4438fd13ba166", func := "loop.example/g01153/laws.FnExactSwitchTimes", spec := "fnExactSwitchTimes", inPlace := ["internal/abi.NoEscape"], unfollowed := true, recurses := true, apart := false }
def FnExactSwitchTimesSaid : Prop := fnExactSwitchTimesRow.holds Try.pinned (OpenSpec.ofChange fnExactSwitchTimesSpec)

/-- ITS FALSE NEIGHBOUR: 'it returns false'. Refute it at one input. -/
def fnExactSwitchTimesWrong : ChangeSpec := { name := "fnExactSwitchTimes", fn := fun _ => fun
  | [d1, d2, d3, d4] => { results := [.lit (.bool false)], args := [d1, d2, d3, d4] }
  | _ => none }
def FnExactSwitchTimesWrongFalsely : Prop := fnExactSwitchTimesRow.holds Try.pinned (OpenSpec.ofChange fnExactSwitchTimesWrong)

/-- 'laws.FnExactGateWave': WHATEVER THE INPUT: true; the input reads as it did. -/
def fnExactGateWaveSpec : ChangeSpec := { name := "fnExactGateWave", fn := fun _ => fun
  | [d1, d2] => { results := [.lit (.bool true)], args := [d1, d2] }
  | _ => none }
def fnExactGateWaveRow : OpenClaim := { program := "ytmhbgpappjfolaa", sum := "332458bc6920350d662bd99c7e748750c6a2d9c153d2426e0fc4438fd13ba166", func := "loop.example/g01153/laws.FnExactGateWave", spec := "fnExactGateWave", inPlace := ["internal/abi.NoEscape"], unfollowed := true, recurses := true, apart := false }
def FnExactGateWaveSaid : Prop := fnExactGateWaveRow.holds Try.pinned (OpenSpec.ofChange fnExactGateWaveSpec)

/-- ITS FALSE NEIGHBOUR: 'it returns false'. Refute it at one input. -/
def fnExactGateWaveWrong : ChangeSpec := { name := "fnExactGateWave", fn := fun _ => fun
  | [d1, d2] => { results := [.lit (.bool false)], args := [d1, d2] }
  | _ => none }
def FnExactGateWaveWrongFalsely : Prop := fnExactGateWaveRow.holds Try.pinned (OpenSpec.ofChange fnExactGateWaveWrong)

/-- 'laws.FnExactPlainGate': WHATEVER THE INPUT: true; the input reads as it did. -/
def fnExactPlainGateSpec : ChangeSpec := { name := "fnExactPlainGate", fn := fun _ => fun
  | [d1, d2] => { results := [.lit (.bool true)], args := [d1, d2] }
  | _ => none }
def fnExactPlainGateRow : OpenClaim := { program := "ytmhbgpappjfolaa", sum := "332458bc6920350d662bd99c7e748750c6a2d9c153d2426e0fc4438fd13ba166", func := "loop.example/g01153/laws.FnExactPlainGate", spec := "fnExactPlainGate", inPlace := ["internal/abi.NoEscape"], unfollowed := true, recurses := true, apart := false }
def FnExactPlainGateSaid : Prop := fnExactPlainGateRow.holds Try.pinned (OpenSpec.ofChange fnExactPlainGateSpec)

/-- ITS FALSE NEIGHBOUR: 'it returns false'. Refute it at one input. -/
def fnExactPlainGateWrong : ChangeSpec := { name := "fnExactPlainGate", fn := fun _ => fun
  | [d1, d2] => { results := [.lit (.bool false)], args := [d1, d2] }
  | _ => none }
def FnExactPlainGateWrongFalsely : Prop := fnExactPlainGateRow.holds Try.pinned (OpenSpec.ofChange fnExactPlainGateWrong)

/-- 'laws.FnExactResetWave': WHATEVER THE INPUT: true; the input reads as it did. -/
def fnExactResetWaveSpec : ChangeSpec := { name := "fnExactResetWave", fn := fun _ => fun
  | [d1, d2, d3] => { results := [.lit (.bool true)], args := [d1, d2, d3] }
  | _ => none }
def fnExactResetWaveRow : OpenClaim := { program := "ytmhbgpappjfolaa", sum := "332458bc6920350d662bd99c7e748750c6a2d9c153d2426e0fc4438fd13ba166", func := "loop.example/g01153/laws.FnExactResetWave", spec := "fnExactResetWave", inPlace := ["internal/abi.NoEscape"], unfollowed := true, recurses := true, apart := false }
def FnExactResetWaveSaid : Prop := fnExactResetWaveRow.holds Try.pinned (OpenSpec.ofChange fnExactResetWaveSpec)

/-- ITS FALSE NEIGHBOUR: 'it returns false'. Refute it at one input. -/
def fnExactResetWaveWrong : ChangeSpec := { name := "fnExactResetWave", fn := fun _ => fun
  | [d1, d2, d3] => { results := [.lit (.bool false)], args := [d1, d2, d3] }
  | _ => none }
def FnExactResetWaveWrongFalsely : Prop := fnExactResetWaveRow.holds Try.pinned (OpenSpec.ofChange fnExactResetWaveWrong)

/- THE SECOND FORM. 'bulk': how many values and letters a reading holds, each counted each time it is reached (what is shared counts as often as it is met; a slice's spare places count too). A statement '..UptoSaid' is the law's where the arguments, and the package variables that the reading takes, are together of bulk at most 1048576: NARROWER than '..Said'. Prove '..Said' where nothing that the law and all that it calls make is longer than what came in: it says more and counts as full. Else prove '..UptoSaid'. A law counts once. -/
mutual
def uptoBulk {H : Type} : DataW H → Nat
  | .lit (.string bytes) => bytes.length + 1
  | .lit _ => 1
  | .nil => 1
  | .ptr d => uptoBulk d + 1
  | .slice elems spare => uptoBulkAll elems + uptoBulkAll spare + 1
  | .agg parts => uptoBulkAll parts + 1
  | .iface _ d => uptoBulk d + 1
  | .map entries => uptoBulkEntries entries + 1
  | .held _ => 1
def uptoBulkAll {H : Type} : List (DataW H) → Nat
  | [] => 0
  | d :: r => uptoBulk d + uptoBulkAll r
def uptoBulkEntries {H : Type} : List (Lit × DataW H) → Nat
  | [] => 0
  | x :: r => uptoBulkEntry x + uptoBulkEntries r
def uptoBulkEntry {H : Type} : Lit × DataW H → Nat
  | (.string bytes, d) => bytes.length + uptoBulk d + 1
  | (_, d) => uptoBulk d + 1
 end
def uptoSmall : (H : Type) → List (DataW H) → Bool := fun _ ds => decide (uptoBulkAll ds ≤ 1048576)
def OpenSpec.upto (s : _root_.Go.ChangeSpec) : _root_.Go.OpenSpec := { _root_.Go.OpenSpec.ofChange s with cond := some uptoSmall }

/-- 'laws.FnExactJoinWaves', WHERE WHAT IT READS IS OF BULK AT MOST 1048576: true; the input reads as it did. -/
def fnExactJoinWavesUptoRow : OpenClaim := { program := "ytmhbgpappjfolaa", sum := "332458bc6920350d662bd99c7e748750c6a2d9c153d2426e0fc4438fd13ba166", func := "loop.example/g01153/laws.FnExactJoinWaves", spec := "fnExactJoinWaves", inPlace := ["internal/abi.NoEscape"], unfollowed := true, recurses := true, apart := false, narrowed := true }
def FnExactJoinWavesUptoSaid : Prop := fnExactJoinWavesUptoRow.holds Try.pinned (OpenSpec.upto fnExactJoinWavesSpec)

/-- 'laws.FnJoined', WHERE WHAT IT READS IS OF BULK AT MOST 1048576: true; the input reads as it did. -/
def fnJoinedUptoRow : OpenClaim := { program := "ytmhbgpappjfolaa", sum := "332458bc6920350d662bd99c7e748750c6a2d9c153d2426e0fc4438fd13ba166", func := "loop.example/g01153/laws.FnJoined", spec := "fnJoined", inPlace := ["internal/abi.NoEscape", "internal/bytealg.MakeNoZero"], unfollowed := true, recurses := true, apart := false, narrowed := true }
def FnJoinedUptoSaid : Prop := fnJoinedUptoRow.holds Try.pinned (OpenSpec.upto fnJoinedSpec)

/-- 'laws.FnExactValidSwitch', WHERE WHAT IT READS IS OF BULK AT MOST 1048576: true; the input reads as it did. -/
def fnExactValidSwitchUptoRow : OpenClaim := { program := "ytmhbgpappjfolaa", sum := "332458bc6920350d662bd99c7e748750c6a2d9c153d2426e0fc4438fd13ba166", func := "loop.example/g01153/laws.FnExactValidSwitch", spec := "fnExactValidSwitch", apart := false, narrowed := true }
def FnExactValidSwitchUptoSaid : Prop := fnExactValidSwitchUptoRow.holds Try.pinned (OpenSpec.upto fnExactValidSwitchSpec)

/-- 'laws.FnExactPlainSwitch', WHERE WHAT IT READS IS OF BULK AT MOST 1048576: true; the input reads as it did. -/
def fnExactPlainSwitchUptoRow : OpenClaim := { program := "ytmhbgpappjfolaa", sum := "332458bc6920350d662bd99c7e748750c6a2d9c153d2426e0fc4438fd13ba166", func := "loop.example/g01153/laws.FnExactPlainSwitch", spec := "fnExactPlainSwitch", inPlace := ["internal/abi.NoEscape"], unfollowed := true, recurses := true, apart := false, narrowed := true }
def FnExactPlainSwitchUptoSaid : Prop := fnExactPlainSwitchUptoRow.holds Try.pinned (OpenSpec.upto fnExactPlainSwitchSpec)

/-- 'laws.FnExactSafeSwitch', WHERE WHAT IT READS IS OF BULK AT MOST 1048576: true; the input reads as it did. -/
def fnExactSafeSwitchUptoRow : OpenClaim := { program := "ytmhbgpappjfolaa", sum := "332458bc6920350d662bd99c7e748750c6a2d9c153d2426e0fc4438fd13ba166", func := "loop.example/g01153/laws.FnExactSafeSwitch", spec := "fnExactSafeSwitch", inPlace := ["internal/abi.NoEscape"], unfollowed := true, recurses := true, apart := false, narrowed := true }
def FnExactSafeSwitchUptoSaid : Prop := fnExactSafeSwitchUptoRow.holds Try.pinned (OpenSpec.upto fnExactSafeSwitchSpec)

/-- 'laws.FnExactEnablesOf', WHERE WHAT IT READS IS OF BULK AT MOST 1048576: true; the input reads as it did. -/
def fnExactEnablesOfUptoRow : OpenClaim := { program := "ytmhbgpappjfolaa", sum := "332458bc6920350d662bd99c7e748750c6a2d9c153d2426e0fc4438fd13ba166", func := "loop.example/g01153/laws.FnExactEnablesOf", spec := "fnExactEnablesOf", inPlace := ["internal/abi.NoEscape"], unfollowed := true, recurses := true, apart := false, narrowed := true }
def FnExactEnablesOfUptoSaid : Prop := fnExactEnablesOfUptoRow.holds Try.pinned (OpenSpec.upto fnExactEnablesOfSpec)

/-- 'laws.FnExactShortPulses', WHERE WHAT IT READS IS OF BULK AT MOST 1048576: true; the input reads as it did. -/
def fnExactShortPulsesUptoRow : OpenClaim := { program := "ytmhbgpappjfolaa", sum := "332458bc6920350d662bd99c7e748750c6a2d9c153d2426e0fc4438fd13ba166", func := "loop.example/g01153/laws.FnExactShortPulses", spec := "fnExactShortPulses", unfollowed := true, recurses := true, apart := false, narrowed := true }
def FnExactShortPulsesUptoSaid : Prop := fnExactShortPulsesUptoRow.holds Try.pinned (OpenSpec.upto fnExactShortPulsesSpec)

/-- 'laws.FnExactIsClean', WHERE WHAT IT READS IS OF BULK AT MOST 1048576: true; the input reads as it did. -/
def fnExactIsCleanUptoRow : OpenClaim := { program := "ytmhbgpappjfolaa", sum := "332458bc6920350d662bd99c7e748750c6a2d9c153d2426e0fc4438fd13ba166", func := "loop.example/g01153/laws.FnExactIsClean", spec := "fnExactIsClean", unfollowed := true, recurses := true, apart := false, narrowed := true }
def FnExactIsCleanUptoSaid : Prop := fnExactIsCleanUptoRow.holds Try.pinned (OpenSpec.upto fnExactIsCleanSpec)

/-- 'laws.FnExactSwitchTimes', WHERE WHAT IT READS IS OF BULK AT MOST 1048576: true; the input reads as it did. -/
def fnExactSwitchTimesUptoRow : OpenClaim := { program := "ytmhbgpappjfolaa", sum := "332458bc6920350d662bd99c7e748750c6a2d9c153d2426e0fc4438fd13ba166", func := "loop.example/g01153/laws.FnExactSwitchTimes", spec := "fnExactSwitchTimes", inPlace := ["internal/abi.NoEscape"], unfollowed := true, recurses := true, apart := false, narrowed := true }
def FnExactSwitchTimesUptoSaid : Prop := fnExactSwitchTimesUptoRow.holds Try.pinned (OpenSpec.upto fnExactSwitchTimesSpec)

/-- 'laws.FnExactGateWave', WHERE WHAT IT READS IS OF BULK AT MOST 1048576: true; the input reads as it did. -/
def fnExactGateWaveUptoRow : OpenClaim := { program := "ytmhbgpappjfolaa", sum := "332458bc6920350d662bd99c7e748750c6a2d9c153d2426e0fc4438fd13ba166", func := "loop.example/g01153/laws.FnExactGateWave", spec := "fnExactGateWave", inPlace := ["internal/abi.NoEscape"], unfollowed := true, recurses := true, apart := false, narrowed := true }
def FnExactGateWaveUptoSaid : Prop := fnExactGateWaveUptoRow.holds Try.pinned (OpenSpec.upto fnExactGateWaveSpec)

/-- 'laws.FnExactPlainGate', WHERE WHAT IT READS IS OF BULK AT MOST 1048576: true; the input reads as it did. -/
def fnExactPlainGateUptoRow : OpenClaim := { program := "ytmhbgpappjfolaa", sum := "332458bc6920350d662bd99c7e748750c6a2d9c153d2426e0fc4438fd13ba166", func := "loop.example/g01153/laws.FnExactPlainGate", spec := "fnExactPlainGate", inPlace := ["internal/abi.NoEscape"], unfollowed := true, recurses := true, apart := false, narrowed := true }
def FnExactPlainGateUptoSaid : Prop := fnExactPlainGateUptoRow.holds Try.pinned (OpenSpec.upto fnExactPlainGateSpec)

/-- 'laws.FnExactResetWave', WHERE WHAT IT READS IS OF BULK AT MOST 1048576: true; the input reads as it did. -/
def fnExactResetWaveUptoRow : OpenClaim := { program := "ytmhbgpappjfolaa", sum := "332458bc6920350d662bd99c7e748750c6a2d9c153d2426e0fc4438fd13ba166", func := "loop.example/g01153/laws.FnExactResetWave", spec := "fnExactResetWave", inPlace := ["internal/abi.NoEscape"], unfollowed := true, recurses := true, apart := false, narrowed := true }
def FnExactResetWaveUptoSaid : Prop := fnExactResetWaveUptoRow.holds Try.pinned (OpenSpec.upto fnExactResetWaveSpec)

end Rows
end Go.Proofs.Ytmhbgpappjfolaa
