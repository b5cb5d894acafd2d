/-
  No cell of these rows narrows 'for every input' (looked for: loops, veiled, ifaces, maps, wideKeys, modest, calm, conditions, laid).
  DERIVED. THE GIVEN ROWS OF THIS SEAT. 10 by the template 'for every input the law returns true; each argument reads behind the call as it read before'; 0 by the template 'total and deterministic' (their statements: YtfekdmnhlbjmaaaTotals.lean).
  GIVEN WITH THE SEED: the statements are not yours to turn. If you find one false, say at which input.
  Laid BY PROGRAM, IN A SANDBOX (cutbox-rows.mjs): the forced cells as the released guide's own fill.sh prints them over the translation a23e47b89a4fb46e… (all of the seat's roots in one cut). By AI agents, Wed Nov 11 2026. No macro, syntax, notation, axiom, sorry.
-/
import Derived.Test.YtfekdmnhlbjmaaaChecked
import GoSem.Claim
import GoSem.ClaimJoined
import GoSem.ClaimMapViews
import Derived.JoinedTies
import Derived.KernelRfl
namespace Go.Proofs.Ytfekdmnhlbjmaaa
/- THE CELL 'sum', in the pinned program and in every row, IS THE sha256 OF THE DUMP (.gsa) THAT YtfekdmnhlbjmaaaProg.lean LOADS. Nothing in Lean hashes anything: it is a label: what it is worth is what the hold of that sum in a sandbox is worth. -/
noncomputable def Try.pinned : Pinned := { name := "ytfekdmnhlbjmaaa", sum := "a23e47b89a4fb46e3e171ff89691bc32f5e2e9d3867efac2dc6f526c70c62963", checked := Try.checked }
namespace Rows
def none {H : Type} : Left H := { results := [], args := [] }

/-- 'laws.FnExactCountBounds': WHATEVER THE INPUT: true; the input reads as it did. -/
def fnExactCountBoundsSpec : ChangeSpec := { name := "fnExactCountBounds", fn := fun _ => fun
  | [d1, d2] => { results := [.lit (.bool true)], args := [d1, d2] }
  | _ => none }
def fnExactCountBoundsRow : OpenClaim := { program := "ytfekdmnhlbjmaaa", sum := "a23e47b89a4fb46e3e171ff89691bc32f5e2e9d3867efac2dc6f526c70c62963", func := "loop.example/g01153/laws.FnExactCountBounds", spec := "fnExactCountBounds", apart := false }
def FnExactCountBoundsSaid : Prop := fnExactCountBoundsRow.holds Try.pinned (OpenSpec.ofChange fnExactCountBoundsSpec)

/-- ITS FALSE NEIGHBOUR: 'it returns false'. Refute it at one input. -/
def fnExactCountBoundsWrong : ChangeSpec := { name := "fnExactCountBounds", fn := fun _ => fun
  | [d1, d2] => { results := [.lit (.bool false)], args := [d1, d2] }
  | _ => none }
def FnExactCountBoundsWrongFalsely : Prop := fnExactCountBoundsRow.holds Try.pinned (OpenSpec.ofChange fnExactCountBoundsWrong)

/-- 'laws.FnExactSpanBounds': WHATEVER THE INPUT: true; the input reads as it did. -/
def fnExactSpanBoundsSpec : ChangeSpec := { name := "fnExactSpanBounds", fn := fun _ => fun
  | [d1, d2, d3] => { results := [.lit (.bool true)], args := [d1, d2, d3] }
  | _ => none }
def fnExactSpanBoundsRow : OpenClaim := { program := "ytfekdmnhlbjmaaa", sum := "a23e47b89a4fb46e3e171ff89691bc32f5e2e9d3867efac2dc6f526c70c62963", func := "loop.example/g01153/laws.FnExactSpanBounds", spec := "fnExactSpanBounds", apart := false }
def FnExactSpanBoundsSaid : Prop := fnExactSpanBoundsRow.holds Try.pinned (OpenSpec.ofChange fnExactSpanBoundsSpec)

/-- ITS FALSE NEIGHBOUR: 'it returns false'. Refute it at one input. -/
def fnExactSpanBoundsWrong : ChangeSpec := { name := "fnExactSpanBounds", fn := fun _ => fun
  | [d1, d2, d3] => { results := [.lit (.bool false)], args := [d1, d2, d3] }
  | _ => none }
def FnExactSpanBoundsWrongFalsely : Prop := fnExactSpanBoundsRow.holds Try.pinned (OpenSpec.ofChange fnExactSpanBoundsWrong)

/-- 'laws.FnExactSampleUps': WHATEVER THE INPUT: true; the input reads as it did. -/
def fnExactSampleUpsSpec : ChangeSpec := { name := "fnExactSampleUps", fn := fun _ => fun
  | [d1, d2, d3] => { results := [.lit (.bool true)], args := [d1, d2, d3] }
  | _ => none }
def fnExactSampleUpsRow : OpenClaim := { program := "ytfekdmnhlbjmaaa", sum := "a23e47b89a4fb46e3e171ff89691bc32f5e2e9d3867efac2dc6f526c70c62963", func := "loop.example/g01153/laws.FnExactSampleUps", spec := "fnExactSampleUps", inPlace := ["internal/abi.NoEscape"], apart := false }
def FnExactSampleUpsSaid : Prop := fnExactSampleUpsRow.holds Try.pinned (OpenSpec.ofChange fnExactSampleUpsSpec)

/-- ITS FALSE NEIGHBOUR: 'it returns false'. Refute it at one input. -/
def fnExactSampleUpsWrong : ChangeSpec := { name := "fnExactSampleUps", fn := fun _ => fun
  | [d1, d2, d3] => { results := [.lit (.bool false)], args := [d1, d2, d3] }
  | _ => none }
def FnExactSampleUpsWrongFalsely : Prop := fnExactSampleUpsRow.holds Try.pinned (OpenSpec.ofChange fnExactSampleUpsWrong)

/-- 'laws.FnExactDebounce': WHATEVER THE INPUT: true; the input reads as it did. -/
def fnExactDebounceSpec : ChangeSpec := { name := "fnExactDebounce", fn := fun _ => fun
  | [d1, d2] => { results := [.lit (.bool true)], args := [d1, d2] }
  | _ => none }
def fnExactDebounceRow : OpenClaim := { program := "ytfekdmnhlbjmaaa", sum := "a23e47b89a4fb46e3e171ff89691bc32f5e2e9d3867efac2dc6f526c70c62963", func := "loop.example/g01153/laws.FnExactDebounce", spec := "fnExactDebounce", inPlace := ["internal/abi.NoEscape"], unfollowed := true, recurses := true, apart := false }
def FnExactDebounceSaid : Prop := fnExactDebounceRow.holds Try.pinned (OpenSpec.ofChange fnExactDebounceSpec)

/-- ITS FALSE NEIGHBOUR: 'it returns false'. Refute it at one input. -/
def fnExactDebounceWrong : ChangeSpec := { name := "fnExactDebounce", fn := fun _ => fun
  | [d1, d2] => { results := [.lit (.bool false)], args := [d1, d2] }
  | _ => none }
def FnExactDebounceWrongFalsely : Prop := fnExactDebounceRow.holds Try.pinned (OpenSpec.ofChange fnExactDebounceWrong)

/-- 'laws.FnExactStretchPulses': WHATEVER THE INPUT: true; the input reads as it did. -/
def fnExactStretchPulsesSpec : ChangeSpec := { name := "fnExactStretchPulses", fn := fun _ => fun
  | [d1, d2] => { results := [.lit (.bool true)], args := [d1, d2] }
  | _ => none }
def fnExactStretchPulsesRow : OpenClaim := { program := "ytfekdmnhlbjmaaa", sum := "a23e47b89a4fb46e3e171ff89691bc32f5e2e9d3867efac2dc6f526c70c62963", func := "loop.example/g01153/laws.FnExactStretchPulses", spec := "fnExactStretchPulses", inPlace := ["internal/abi.NoEscape"], unfollowed := true, recurses := true, apart := false }
def FnExactStretchPulsesSaid : Prop := fnExactStretchPulsesRow.holds Try.pinned (OpenSpec.ofChange fnExactStretchPulsesSpec)

/-- ITS FALSE NEIGHBOUR: 'it returns false'. Refute it at one input. -/
def fnExactStretchPulsesWrong : ChangeSpec := { name := "fnExactStretchPulses", fn := fun _ => fun
  | [d1, d2] => { results := [.lit (.bool false)], args := [d1, d2] }
  | _ => none }
def FnExactStretchPulsesWrongFalsely : Prop := fnExactStretchPulsesRow.holds Try.pinned (OpenSpec.ofChange fnExactStretchPulsesWrong)

/-- 'laws.FnExactMajorityWave': WHATEVER THE INPUT: true; the input reads as it did. -/
def fnExactMajorityWaveSpec : ChangeSpec := { name := "fnExactMajorityWave", fn := fun _ => fun
  | [d1, d2] => { results := [.lit (.bool true)], args := [d1, d2] }
  | _ => none }
def fnExactMajorityWaveRow : OpenClaim := { program := "ytfekdmnhlbjmaaa", sum := "a23e47b89a4fb46e3e171ff89691bc32f5e2e9d3867efac2dc6f526c70c62963", func := "loop.example/g01153/laws.FnExactMajorityWave", spec := "fnExactMajorityWave", inPlace := ["internal/abi.NoEscape"], unfollowed := true, recurses := true, apart := false }
def FnExactMajorityWaveSaid : Prop := fnExactMajorityWaveRow.holds Try.pinned (OpenSpec.ofChange fnExactMajorityWaveSpec)

/-- ITS FALSE NEIGHBOUR: 'it returns false'. Refute it at one input. -/
def fnExactMajorityWaveWrong : ChangeSpec := { name := "fnExactMajorityWave", fn := fun _ => fun
  | [d1, d2] => { results := [.lit (.bool false)], args := [d1, d2] }
  | _ => none }
def FnExactMajorityWaveWrongFalsely : Prop := fnExactMajorityWaveRow.holds Try.pinned (OpenSpec.ofChange fnExactMajorityWaveWrong)

/-- 'laws.FnExactOneShot': WHATEVER THE INPUT: true; the input reads as it did. -/
def fnExactOneShotSpec : ChangeSpec := { name := "fnExactOneShot", fn := fun _ => fun
  | [d1, d2, d3] => { results := [.lit (.bool true)], args := [d1, d2, d3] }
  | _ => none }
def fnExactOneShotRow : OpenClaim := { program := "ytfekdmnhlbjmaaa", sum := "a23e47b89a4fb46e3e171ff89691bc32f5e2e9d3867efac2dc6f526c70c62963", func := "loop.example/g01153/laws.FnExactOneShot", spec := "fnExactOneShot", inPlace := ["internal/abi.NoEscape"], unfollowed := true, recurses := true, apart := false }
def FnExactOneShotSaid : Prop := fnExactOneShotRow.holds Try.pinned (OpenSpec.ofChange fnExactOneShotSpec)

/-- ITS FALSE NEIGHBOUR: 'it returns false'. Refute it at one input. -/
def fnExactOneShotWrong : ChangeSpec := { name := "fnExactOneShot", fn := fun _ => fun
  | [d1, d2, d3] => { results := [.lit (.bool false)], args := [d1, d2, d3] }
  | _ => none }
def FnExactOneShotWrongFalsely : Prop := fnExactOneShotRow.holds Try.pinned (OpenSpec.ofChange fnExactOneShotWrong)

/-- 'laws.FnExactWindowRange': WHATEVER THE INPUT: true; the input reads as it did. -/
def fnExactWindowRangeSpec : ChangeSpec := { name := "fnExactWindowRange", fn := fun _ => fun
  | [d1, d2] => { results := [.lit (.bool true)], args := [d1, d2] }
  | _ => none }
def fnExactWindowRangeRow : OpenClaim := { program := "ytfekdmnhlbjmaaa", sum := "a23e47b89a4fb46e3e171ff89691bc32f5e2e9d3867efac2dc6f526c70c62963", func := "loop.example/g01153/laws.FnExactWindowRange", spec := "fnExactWindowRange", unfollowed := true, recurses := true, apart := false }
def FnExactWindowRangeSaid : Prop := fnExactWindowRangeRow.holds Try.pinned (OpenSpec.ofChange fnExactWindowRangeSpec)

/-- ITS FALSE NEIGHBOUR: 'it returns false'. Refute it at one input. -/
def fnExactWindowRangeWrong : ChangeSpec := { name := "fnExactWindowRange", fn := fun _ => fun
  | [d1, d2] => { results := [.lit (.bool false)], args := [d1, d2] }
  | _ => none }
def FnExactWindowRangeWrongFalsely : Prop := fnExactWindowRangeRow.holds Try.pinned (OpenSpec.ofChange fnExactWindowRangeWrong)

/-- 'laws.FnExactCountWindows': WHATEVER THE INPUT: true; the input reads as it did. -/
def fnExactCountWindowsSpec : ChangeSpec := { name := "fnExactCountWindows", fn := fun _ => fun
  | [d1, d2] => { results := [.lit (.bool true)], args := [d1, d2] }
  | _ => none }
def fnExactCountWindowsRow : OpenClaim := { program := "ytfekdmnhlbjmaaa", sum := "a23e47b89a4fb46e3e171ff89691bc32f5e2e9d3867efac2dc6f526c70c62963", func := "loop.example/g01153/laws.FnExactCountWindows", spec := "fnExactCountWindows", unfollowed := true, recurses := true, apart := false }
def FnExactCountWindowsSaid : Prop := fnExactCountWindowsRow.holds Try.pinned (OpenSpec.ofChange fnExactCountWindowsSpec)

/-- ITS FALSE NEIGHBOUR: 'it returns false'. Refute it at one input. -/
def fnExactCountWindowsWrong : ChangeSpec := { name := "fnExactCountWindows", fn := fun _ => fun
  | [d1, d2] => { results := [.lit (.bool false)], args := [d1, d2] }
  | _ => none }
def FnExactCountWindowsWrongFalsely : Prop := fnExactCountWindowsRow.holds Try.pinned (OpenSpec.ofChange fnExactCountWindowsWrong)

/-- 'laws.FnExactTimeouts': WHATEVER THE INPUT: true; the input reads as it did. -/
def fnExactTimeoutsSpec : ChangeSpec := { name := "fnExactTimeouts", fn := fun _ => fun
  | [d1, d2] => { results := [.lit (.bool true)], args := [d1, d2] }
  | _ => none }
def fnExactTimeoutsRow : OpenClaim := { program := "ytfekdmnhlbjmaaa", sum := "a23e47b89a4fb46e3e171ff89691bc32f5e2e9d3867efac2dc6f526c70c62963", func := "loop.example/g01153/laws.FnExactTimeouts", spec := "fnExactTimeouts", unfollowed := true, recurses := true, apart := false }
def FnExactTimeoutsSaid : Prop := fnExactTimeoutsRow.holds Try.pinned (OpenSpec.ofChange fnExactTimeoutsSpec)

/-- ITS FALSE NEIGHBOUR: 'it returns false'. Refute it at one input. -/
def fnExactTimeoutsWrong : ChangeSpec := { name := "fnExactTimeouts", fn := fun _ => fun
  | [d1, d2] => { results := [.lit (.bool false)], args := [d1, d2] }
  | _ => none }
def FnExactTimeoutsWrongFalsely : Prop := fnExactTimeoutsRow.holds Try.pinned (OpenSpec.ofChange fnExactTimeoutsWrong)

/- THE SECOND FORM. 'bulk': how many values and letters a reading holds, each counted each time it is reached (what is shared counts as often as it is met; a slice's spare places count too). A statement '..UptoSaid' is the law's where the arguments, and the package variables that the reading takes, are together of bulk at most 1048576: NARROWER than '..Said'. Prove '..Said' where nothing that the law and all that it calls make is longer than what came in: it says more and counts as full. Else prove '..UptoSaid'. A law counts once. -/
mutual
def uptoBulk {H : Type} : DataW H → Nat
  | .lit (.string bytes) => bytes.length + 1
  | .lit _ => 1
  | .nil => 1
  | .ptr d => uptoBulk d + 1
  | .slice elems spare => uptoBulkAll elems + uptoBulkAll spare + 1
  | .agg parts => uptoBulkAll parts + 1
  | .iface _ d => uptoBulk d + 1
  | .map entries => uptoBulkEntries entries + 1
  | .held _ => 1
def uptoBulkAll {H : Type} : List (DataW H) → Nat
  | [] => 0
  | d :: r => uptoBulk d + uptoBulkAll r
def uptoBulkEntries {H : Type} : List (Lit × DataW H) → Nat
  | [] => 0
  | x :: r => uptoBulkEntry x + uptoBulkEntries r
def uptoBulkEntry {H : Type} : Lit × DataW H → Nat
  | (.string bytes, d) => bytes.length + uptoBulk d + 1
  | (_, d) => uptoBulk d + 1
 end
def uptoSmall : (H : Type) → List (DataW H) → Bool := fun _ ds => decide (uptoBulkAll ds ≤ 1048576)
def OpenSpec.upto (s : _root_.Go.ChangeSpec) : _root_.Go.OpenSpec := { _root_.Go.OpenSpec.ofChange s with cond := some uptoSmall }

/-- 'laws.FnExactCountBounds', WHERE WHAT IT READS IS OF BULK AT MOST 1048576: true; the input reads as it did. -/
def fnExactCountBoundsUptoRow : OpenClaim := { program := "ytfekdmnhlbjmaaa", sum := "a23e47b89a4fb46e3e171ff89691bc32f5e2e9d3867efac2dc6f526c70c62963", func := "loop.example/g01153/laws.FnExactCountBounds", spec := "fnExactCountBounds", apart := false, narrowed := true }
def FnExactCountBoundsUptoSaid : Prop := fnExactCountBoundsUptoRow.holds Try.pinned (OpenSpec.upto fnExactCountBoundsSpec)

/-- 'laws.FnExactSpanBounds', WHERE WHAT IT READS IS OF BULK AT MOST 1048576: true; the input reads as it did. -/
def fnExactSpanBoundsUptoRow : OpenClaim := { program := "ytfekdmnhlbjmaaa", sum := "a23e47b89a4fb46e3e171ff89691bc32f5e2e9d3867efac2dc6f526c70c62963", func := "loop.example/g01153/laws.FnExactSpanBounds", spec := "fnExactSpanBounds", apart := false, narrowed := true }
def FnExactSpanBoundsUptoSaid : Prop := fnExactSpanBoundsUptoRow.holds Try.pinned (OpenSpec.upto fnExactSpanBoundsSpec)

/-- 'laws.FnExactSampleUps', WHERE WHAT IT READS IS OF BULK AT MOST 1048576: true; the input reads as it did. -/
def fnExactSampleUpsUptoRow : OpenClaim := { program := "ytfekdmnhlbjmaaa", sum := "a23e47b89a4fb46e3e171ff89691bc32f5e2e9d3867efac2dc6f526c70c62963", func := "loop.example/g01153/laws.FnExactSampleUps", spec := "fnExactSampleUps", inPlace := ["internal/abi.NoEscape"], apart := false, narrowed := true }
def FnExactSampleUpsUptoSaid : Prop := fnExactSampleUpsUptoRow.holds Try.pinned (OpenSpec.upto fnExactSampleUpsSpec)

/-- 'laws.FnExactDebounce', WHERE WHAT IT READS IS OF BULK AT MOST 1048576: true; the input reads as it did. -/
def fnExactDebounceUptoRow : OpenClaim := { program := "ytfekdmnhlbjmaaa", sum := "a23e47b89a4fb46e3e171ff89691bc32f5e2e9d3867efac2dc6f526c70c62963", func := "loop.example/g01153/laws.FnExactDebounce", spec := "fnExactDebounce", inPlace := ["internal/abi.NoEscape"], unfollowed := true, recurses := true, apart := false, narrowed := true }
def FnExactDebounceUptoSaid : Prop := fnExactDebounceUptoRow.holds Try.pinned (OpenSpec.upto fnExactDebounceSpec)

/-- 'laws.FnExactStretchPulses', WHERE WHAT IT READS IS OF BULK AT MOST 1048576: true; the input reads as it did. -/
def fnExactStretchPulsesUptoRow : OpenClaim := { program := "ytfekdmnhlbjmaaa", sum := "a23e47b89a4fb46e3e171ff89691bc32f5e2e9d3867efac2dc6f526c70c62963", func := "loop.example/g01153/laws.FnExactStretchPulses", spec := "fnExactStretchPulses", inPlace := ["internal/abi.NoEscape"], unfollowed := true, recurses := true, apart := false, narrowed := true }
def FnExactStretchPulsesUptoSaid : Prop := fnExactStretchPulsesUptoRow.holds Try.pinned (OpenSpec.upto fnExactStretchPulsesSpec)

/-- 'laws.FnExactMajorityWave', WHERE WHAT IT READS IS OF BULK AT MOST 1048576: true; the input reads as it did. -/
def fnExactMajorityWaveUptoRow : OpenClaim := { program := "ytfekdmnhlbjmaaa", sum := "a23e47b89a4fb46e3e171ff89691bc32f5e2e9d3867efac2dc6f526c70c62963", func := "loop.example/g01153/laws.FnExactMajorityWave", spec := "fnExactMajorityWave", inPlace := ["internal/abi.NoEscape"], unfollowed := true, recurses := true, apart := false, narrowed := true }
def FnExactMajorityWaveUptoSaid : Prop := fnExactMajorityWaveUptoRow.holds Try.pinned (OpenSpec.upto fnExactMajorityWaveSpec)

/-- 'laws.FnExactOneShot', WHERE WHAT IT READS IS OF BULK AT MOST 1048576: true; the input reads as it did. -/
def fnExactOneShotUptoRow : OpenClaim := { program := "ytfekdmnhlbjmaaa", sum := "a23e47b89a4fb46e3e171ff89691bc32f5e2e9d3867efac2dc6f526c70c62963", func := "loop.example/g01153/laws.FnExactOneShot", spec := "fnExactOneShot", inPlace := ["internal/abi.NoEscape"], unfollowed := true, recurses := true, apart := false, narrowed := true }
def FnExactOneShotUptoSaid : Prop := fnExactOneShotUptoRow.holds Try.pinned (OpenSpec.upto fnExactOneShotSpec)

/-- 'laws.FnExactWindowRange', WHERE WHAT IT READS IS OF BULK AT MOST 1048576: true; the input reads as it did. -/
def fnExactWindowRangeUptoRow : OpenClaim := { program := "ytfekdmnhlbjmaaa", sum := "a23e47b89a4fb46e3e171ff89691bc32f5e2e9d3867efac2dc6f526c70c62963", func := "loop.example/g01153/laws.FnExactWindowRange", spec := "fnExactWindowRange", unfollowed := true, recurses := true, apart := false, narrowed := true }
def FnExactWindowRangeUptoSaid : Prop := fnExactWindowRangeUptoRow.holds Try.pinned (OpenSpec.upto fnExactWindowRangeSpec)

/-- 'laws.FnExactCountWindows', WHERE WHAT IT READS IS OF BULK AT MOST 1048576: true; the input reads as it did. -/
def fnExactCountWindowsUptoRow : OpenClaim := { program := "ytfekdmnhlbjmaaa", sum := "a23e47b89a4fb46e3e171ff89691bc32f5e2e9d3867efac2dc6f526c70c62963", func := "loop.example/g01153/laws.FnExactCountWindows", spec := "fnExactCountWindows", unfollowed := true, recurses := true, apart := false, narrowed := true }
def FnExactCountWindowsUptoSaid : Prop := fnExactCountWindowsUptoRow.holds Try.pinned (OpenSpec.upto fnExactCountWindowsSpec)

/-- 'laws.FnExactTimeouts', WHERE WHAT IT READS IS OF BULK AT MOST 1048576: true; the input reads as it did. -/
def fnExactTimeoutsUptoRow : OpenClaim := { program := "ytfekdmnhlbjmaaa", sum := "a23e47b89a4fb46e3e171ff89691bc32f5e2e9d3867efac2dc6f526c70c62963", func := "loop.example/g01153/laws.FnExactTimeouts", spec := "fnExactTimeouts", unfollowed := true, recurses := true, apart := false, narrowed := true }
def FnExactTimeoutsUptoSaid : Prop := fnExactTimeoutsUptoRow.holds Try.pinned (OpenSpec.upto fnExactTimeoutsSpec)

end Rows
end Go.Proofs.Ytfekdmnhlbjmaaa
