/-
  No cell of these rows narrows 'for every input' (looked for: loops, veiled, ifaces, maps, wideKeys, modest, calm, conditions, laid).
  DERIVED. THE GIVEN ROWS OF THIS SEAT. 8 by the template 'for every input the law returns true; each argument reads behind the call as it read before'; 0 by the template 'total and deterministic' (their statements: YtejjoejapnnlkabTotals.lean).
  GIVEN WITH THE SEED: the statements are not yours to turn. If you find one false, say at which input.
  Laid BY PROGRAM, IN A SANDBOX (cutbox-rows.mjs): the forced cells as the released guide's own fill.sh prints them over the translation f516e89e18496511… (all of the seat's roots in one cut). By AI agents, Wed Nov 11 2026. No macro, syntax, notation, axiom, sorry.
-/
import Derived.Test.YtejjoejapnnlkabChecked
import GoSem.Claim
import GoSem.ClaimJoined
import GoSem.ClaimMapViews
import Derived.JoinedTies
import Derived.KernelRfl
namespace Go.Proofs.Ytejjoejapnnlkab
/- THE CELL 'sum', in the pinned program and in every row, IS THE sha256 OF THE DUMP (.gsa) THAT YtejjoejapnnlkabProg.lean LOADS. Nothing in Lean hashes anything: it is a label: what it is worth is what the hold of that sum in a sandbox is worth. -/
noncomputable def Try.pinned : Pinned := { name := "ytejjoejapnnlkab", sum := "f516e89e184965114e520efb189cb5e477d21da792307a65543bcc7c65526c09", checked := Try.checked }
namespace Rows
def none {H : Type} : Left H := { results := [], args := [] }

/-- 'laws.FnExactAccumulateWave': WHATEVER THE INPUT: true; the input reads as it did. -/
def fnExactAccumulateWaveSpec : ChangeSpec := { name := "fnExactAccumulateWave", fn := fun _ => fun
  | [d1, d2, d3, d4] => { results := [.lit (.bool true)], args := [d1, d2, d3, d4] }
  | _ => none }
def fnExactAccumulateWaveRow : OpenClaim := { program := "ytejjoejapnnlkab", sum := "f516e89e184965114e520efb189cb5e477d21da792307a65543bcc7c65526c09", func := "loop.example/g01153/laws.FnExactAccumulateWave", spec := "fnExactAccumulateWave", inPlace := ["internal/abi.NoEscape"], apart := false }
def FnExactAccumulateWaveSaid : Prop := fnExactAccumulateWaveRow.holds Try.pinned (OpenSpec.ofChange fnExactAccumulateWaveSpec)

/-- ITS FALSE NEIGHBOUR: 'it returns false'. Refute it at one input. -/
def fnExactAccumulateWaveWrong : ChangeSpec := { name := "fnExactAccumulateWave", fn := fun _ => fun
  | [d1, d2, d3, d4] => { results := [.lit (.bool false)], args := [d1, d2, d3, d4] }
  | _ => none }
def FnExactAccumulateWaveWrongFalsely : Prop := fnExactAccumulateWaveRow.holds Try.pinned (OpenSpec.ofChange fnExactAccumulateWaveWrong)

/-- 'laws.FnExactEvenPattern': WHATEVER THE INPUT: true; the input reads as it did. -/
def fnExactEvenPatternSpec : ChangeSpec := { name := "fnExactEvenPattern", fn := fun _ => fun
  | [d1, d2] => { results := [.lit (.bool true)], args := [d1, d2] }
  | _ => none }
def fnExactEvenPatternRow : OpenClaim := { program := "ytejjoejapnnlkab", sum := "f516e89e184965114e520efb189cb5e477d21da792307a65543bcc7c65526c09", func := "loop.example/g01153/laws.FnExactEvenPattern", spec := "fnExactEvenPattern", inPlace := ["internal/abi.NoEscape"], apart := false }
def FnExactEvenPatternSaid : Prop := fnExactEvenPatternRow.holds Try.pinned (OpenSpec.ofChange fnExactEvenPatternSpec)

/-- ITS FALSE NEIGHBOUR: 'it returns false'. Refute it at one input. -/
def fnExactEvenPatternWrong : ChangeSpec := { name := "fnExactEvenPattern", fn := fun _ => fun
  | [d1, d2] => { results := [.lit (.bool false)], args := [d1, d2] }
  | _ => none }
def FnExactEvenPatternWrongFalsely : Prop := fnExactEvenPatternRow.holds Try.pinned (OpenSpec.ofChange fnExactEvenPatternWrong)

/-- 'laws.FnExactDivideWave': WHATEVER THE INPUT: true; the input reads as it did. -/
def fnExactDivideWaveSpec : ChangeSpec := { name := "fnExactDivideWave", fn := fun _ => fun
  | [d1, d2] => { results := [.lit (.bool true)], args := [d1, d2] }
  | _ => none }
def fnExactDivideWaveRow : OpenClaim := { program := "ytejjoejapnnlkab", sum := "f516e89e184965114e520efb189cb5e477d21da792307a65543bcc7c65526c09", func := "loop.example/g01153/laws.FnExactDivideWave", spec := "fnExactDivideWave", inPlace := ["internal/abi.NoEscape", "internal/bytealg.MakeNoZero"], unfollowed := true, recurses := true, apart := false }
def FnExactDivideWaveSaid : Prop := fnExactDivideWaveRow.holds Try.pinned (OpenSpec.ofChange fnExactDivideWaveSpec)

/-- ITS FALSE NEIGHBOUR: 'it returns false'. Refute it at one input. -/
def fnExactDivideWaveWrong : ChangeSpec := { name := "fnExactDivideWave", fn := fun _ => fun
  | [d1, d2] => { results := [.lit (.bool false)], args := [d1, d2] }
  | _ => none }
def FnExactDivideWaveWrongFalsely : Prop := fnExactDivideWaveRow.holds Try.pinned (OpenSpec.ofChange fnExactDivideWaveWrong)

/-- 'laws.FnExactToggleWave': WHATEVER THE INPUT: true; the input reads as it did. -/
def fnExactToggleWaveSpec : ChangeSpec := { name := "fnExactToggleWave", fn := fun _ => fun
  | [d1, d2] => { results := [.lit (.bool true)], args := [d1, d2] }
  | _ => none }
def fnExactToggleWaveRow : OpenClaim := { program := "ytejjoejapnnlkab", sum := "f516e89e184965114e520efb189cb5e477d21da792307a65543bcc7c65526c09", func := "loop.example/g01153/laws.FnExactToggleWave", spec := "fnExactToggleWave", inPlace := ["internal/abi.NoEscape", "internal/bytealg.MakeNoZero"], unfollowed := true, recurses := true, apart := false }
def FnExactToggleWaveSaid : Prop := fnExactToggleWaveRow.holds Try.pinned (OpenSpec.ofChange fnExactToggleWaveSpec)

/-- ITS FALSE NEIGHBOUR: 'it returns false'. Refute it at one input. -/
def fnExactToggleWaveWrong : ChangeSpec := { name := "fnExactToggleWave", fn := fun _ => fun
  | [d1, d2] => { results := [.lit (.bool false)], args := [d1, d2] }
  | _ => none }
def FnExactToggleWaveWrongFalsely : Prop := fnExactToggleWaveRow.holds Try.pinned (OpenSpec.ofChange fnExactToggleWaveWrong)

/-- 'laws.FnExactDivideChain': WHATEVER THE INPUT: true; the input reads as it did. -/
def fnExactDivideChainSpec : ChangeSpec := { name := "fnExactDivideChain", fn := fun _ => fun
  | [d1, d2] => { results := [.lit (.bool true)], args := [d1, d2] }
  | _ => none }
def fnExactDivideChainRow : OpenClaim := { program := "ytejjoejapnnlkab", sum := "f516e89e184965114e520efb189cb5e477d21da792307a65543bcc7c65526c09", func := "loop.example/g01153/laws.FnExactDivideChain", spec := "fnExactDivideChain", inPlace := ["internal/abi.NoEscape", "internal/bytealg.MakeNoZero"], unfollowed := true, recurses := true, apart := false }
def FnExactDivideChainSaid : Prop := fnExactDivideChainRow.holds Try.pinned (OpenSpec.ofChange fnExactDivideChainSpec)

/-- ITS FALSE NEIGHBOUR: 'it returns false'. Refute it at one input. -/
def fnExactDivideChainWrong : ChangeSpec := { name := "fnExactDivideChain", fn := fun _ => fun
  | [d1, d2] => { results := [.lit (.bool false)], args := [d1, d2] }
  | _ => none }
def FnExactDivideChainWrongFalsely : Prop := fnExactDivideChainRow.holds Try.pinned (OpenSpec.ofChange fnExactDivideChainWrong)

/-- 'laws.FnExactChainFor': WHATEVER THE INPUT: true; the input reads as it did. -/
def fnExactChainForSpec : ChangeSpec := { name := "fnExactChainFor", fn := fun _ => fun
  | [d1, d2] => { results := [.lit (.bool true)], args := [d1, d2] }
  | _ => none }
def fnExactChainForRow : OpenClaim := { program := "ytejjoejapnnlkab", sum := "f516e89e184965114e520efb189cb5e477d21da792307a65543bcc7c65526c09", func := "loop.example/g01153/laws.FnExactChainFor", spec := "fnExactChainFor", unfollowed := true, recurses := true, apart := false }
def FnExactChainForSaid : Prop := fnExactChainForRow.holds Try.pinned (OpenSpec.ofChange fnExactChainForSpec)

/-- ITS FALSE NEIGHBOUR: 'it returns false'. Refute it at one input. -/
def fnExactChainForWrong : ChangeSpec := { name := "fnExactChainFor", fn := fun _ => fun
  | [d1, d2] => { results := [.lit (.bool false)], args := [d1, d2] }
  | _ => none }
def FnExactChainForWrongFalsely : Prop := fnExactChainForRow.holds Try.pinned (OpenSpec.ofChange fnExactChainForWrong)

/-- 'laws.FnExactMostUneven': WHATEVER THE INPUT: true; the input reads as it did. -/
def fnExactMostUnevenSpec : ChangeSpec := { name := "fnExactMostUneven", fn := fun _ => fun
  | [d] => { results := [.lit (.bool true)], args := [d] }
  | _ => none }
def fnExactMostUnevenRow : OpenClaim := { program := "ytejjoejapnnlkab", sum := "f516e89e184965114e520efb189cb5e477d21da792307a65543bcc7c65526c09", func := "loop.example/g01153/laws.FnExactMostUneven", spec := "fnExactMostUneven", inPlace := ["internal/bytealg.CountString", "internal/bytealg.IndexByteString", "internal/bytealg.IndexString"], named := ["internal/bytealg.MaxLen"], apart := false }
def FnExactMostUnevenSaid : Prop := fnExactMostUnevenRow.holds Try.pinned (OpenSpec.ofChange fnExactMostUnevenSpec)

/-- ITS FALSE NEIGHBOUR: 'it returns false'. Refute it at one input. -/
def fnExactMostUnevenWrong : ChangeSpec := { name := "fnExactMostUneven", fn := fun _ => fun
  | [d] => { results := [.lit (.bool false)], args := [d] }
  | _ => none }
def FnExactMostUnevenWrongFalsely : Prop := fnExactMostUnevenRow.holds Try.pinned (OpenSpec.ofChange fnExactMostUnevenWrong)

/-- 'laws.FnExactIsEvenPattern': WHATEVER THE INPUT: true; the input reads as it did. -/
def fnExactIsEvenPatternSpec : ChangeSpec := { name := "fnExactIsEvenPattern", fn := fun _ => fun
  | [d] => { results := [.lit (.bool true)], args := [d] }
  | _ => none }
def fnExactIsEvenPatternRow : OpenClaim := { program := "ytejjoejapnnlkab", sum := "f516e89e184965114e520efb189cb5e477d21da792307a65543bcc7c65526c09", func := "loop.example/g01153/laws.FnExactIsEvenPattern", spec := "fnExactIsEvenPattern", inPlace := ["internal/bytealg.CountString", "internal/bytealg.IndexByteString", "internal/bytealg.IndexString"], named := ["internal/bytealg.MaxLen"], apart := false }
def FnExactIsEvenPatternSaid : Prop := fnExactIsEvenPatternRow.holds Try.pinned (OpenSpec.ofChange fnExactIsEvenPatternSpec)

/-- ITS FALSE NEIGHBOUR: 'it returns false'. Refute it at one input. -/
def fnExactIsEvenPatternWrong : ChangeSpec := { name := "fnExactIsEvenPattern", fn := fun _ => fun
  | [d] => { results := [.lit (.bool false)], args := [d] }
  | _ => none }
def FnExactIsEvenPatternWrongFalsely : Prop := fnExactIsEvenPatternRow.holds Try.pinned (OpenSpec.ofChange fnExactIsEvenPatternWrong)

/- THE SECOND FORM. 'bulk': how many values and letters a reading holds, each counted each time it is reached (what is shared counts as often as it is met; a slice's spare places count too). A statement '..UptoSaid' is the law's where the arguments, and the package variables that the reading takes, are together of bulk at most 1048576: NARROWER than '..Said'. Prove '..Said' where nothing that the law and all that it calls make is longer than what came in: it says more and counts as full. Else prove '..UptoSaid'. A law counts once. -/
mutual
def uptoBulk {H : Type} : DataW H → Nat
  | .lit (.string bytes) => bytes.length + 1
  | .lit _ => 1
  | .nil => 1
  | .ptr d => uptoBulk d + 1
  | .slice elems spare => uptoBulkAll elems + uptoBulkAll spare + 1
  | .agg parts => uptoBulkAll parts + 1
  | .iface _ d => uptoBulk d + 1
  | .map entries => uptoBulkEntries entries + 1
  | .held _ => 1
def uptoBulkAll {H : Type} : List (DataW H) → Nat
  | [] => 0
  | d :: r => uptoBulk d + uptoBulkAll r
def uptoBulkEntries {H : Type} : List (Lit × DataW H) → Nat
  | [] => 0
  | x :: r => uptoBulkEntry x + uptoBulkEntries r
def uptoBulkEntry {H : Type} : Lit × DataW H → Nat
  | (.string bytes, d) => bytes.length + uptoBulk d + 1
  | (_, d) => uptoBulk d + 1
 end
def uptoSmall : (H : Type) → List (DataW H) → Bool := fun _ ds => decide (uptoBulkAll ds ≤ 1048576)
def OpenSpec.upto (s : _root_.Go.ChangeSpec) : _root_.Go.OpenSpec := { _root_.Go.OpenSpec.ofChange s with cond := some uptoSmall }

/-- 'laws.FnExactAccumulateWave', WHERE WHAT IT READS IS OF BULK AT MOST 1048576: true; the input reads as it did. -/
def fnExactAccumulateWaveUptoRow : OpenClaim := { program := "ytejjoejapnnlkab", sum := "f516e89e184965114e520efb189cb5e477d21da792307a65543bcc7c65526c09", func := "loop.example/g01153/laws.FnExactAccumulateWave", spec := "fnExactAccumulateWave", inPlace := ["internal/abi.NoEscape"], apart := false, narrowed := true }
def FnExactAccumulateWaveUptoSaid : Prop := fnExactAccumulateWaveUptoRow.holds Try.pinned (OpenSpec.upto fnExactAccumulateWaveSpec)

/-- 'laws.FnExactEvenPattern', WHERE WHAT IT READS IS OF BULK AT MOST 1048576: true; the input reads as it did. -/
def fnExactEvenPatternUptoRow : OpenClaim := { program := "ytejjoejapnnlkab", sum := "f516e89e184965114e520efb189cb5e477d21da792307a65543bcc7c65526c09", func := "loop.example/g01153/laws.FnExactEvenPattern", spec := "fnExactEvenPattern", inPlace := ["internal/abi.NoEscape"], apart := false, narrowed := true }
def FnExactEvenPatternUptoSaid : Prop := fnExactEvenPatternUptoRow.holds Try.pinned (OpenSpec.upto fnExactEvenPatternSpec)

/-- 'laws.FnExactDivideWave', WHERE WHAT IT READS IS OF BULK AT MOST 1048576: true; the input reads as it did. -/
def fnExactDivideWaveUptoRow : OpenClaim := { program := "ytejjoejapnnlkab", sum := "f516e89e184965114e520efb189cb5e477d21da792307a65543bcc7c65526c09", func := "loop.example/g01153/laws.FnExactDivideWave", spec := "fnExactDivideWave", inPlace := ["internal/abi.NoEscape", "internal/bytealg.MakeNoZero"], unfollowed := true, recurses := true, apart := false, narrowed := true }
def FnExactDivideWaveUptoSaid : Prop := fnExactDivideWaveUptoRow.holds Try.pinned (OpenSpec.upto fnExactDivideWaveSpec)

/-- 'laws.FnExactToggleWave', WHERE WHAT IT READS IS OF BULK AT MOST 1048576: true; the input reads as it did. -/
def fnExactToggleWaveUptoRow : OpenClaim := { program := "ytejjoejapnnlkab", sum := "f516e89e184965114e520efb189cb5e477d21da792307a65543bcc7c65526c09", func := "loop.example/g01153/laws.FnExactToggleWave", spec := "fnExactToggleWave", inPlace := ["internal/abi.NoEscape", "internal/bytealg.MakeNoZero"], unfollowed := true, recurses := true, apart := false, narrowed := true }
def FnExactToggleWaveUptoSaid : Prop := fnExactToggleWaveUptoRow.holds Try.pinned (OpenSpec.upto fnExactToggleWaveSpec)

/-- 'laws.FnExactDivideChain', WHERE WHAT IT READS IS OF BULK AT MOST 1048576: true; the input reads as it did. -/
def fnExactDivideChainUptoRow : OpenClaim := { program := "ytejjoejapnnlkab", sum := "f516e89e184965114e520efb189cb5e477d21da792307a65543bcc7c65526c09", func := "loop.example/g01153/laws.FnExactDivideChain", spec := "fnExactDivideChain", inPlace := ["internal/abi.NoEscape", "internal/bytealg.MakeNoZero"], unfollowed := true, recurses := true, apart := false, narrowed := true }
def FnExactDivideChainUptoSaid : Prop := fnExactDivideChainUptoRow.holds Try.pinned (OpenSpec.upto fnExactDivideChainSpec)

/-- 'laws.FnExactChainFor', WHERE WHAT IT READS IS OF BULK AT MOST 1048576: true; the input reads as it did. -/
def fnExactChainForUptoRow : OpenClaim := { program := "ytejjoejapnnlkab", sum := "f516e89e184965114e520efb189cb5e477d21da792307a65543bcc7c65526c09", func := "loop.example/g01153/laws.FnExactChainFor", spec := "fnExactChainFor", unfollowed := true, recurses := true, apart := false, narrowed := true }
def FnExactChainForUptoSaid : Prop := fnExactChainForUptoRow.holds Try.pinned (OpenSpec.upto fnExactChainForSpec)

/-- 'laws.FnExactMostUneven', WHERE WHAT IT READS IS OF BULK AT MOST 1048576: true; the input reads as it did. -/
def fnExactMostUnevenUptoRow : OpenClaim := { program := "ytejjoejapnnlkab", sum := "f516e89e184965114e520efb189cb5e477d21da792307a65543bcc7c65526c09", func := "loop.example/g01153/laws.FnExactMostUneven", spec := "fnExactMostUneven", inPlace := ["internal/bytealg.CountString", "internal/bytealg.IndexByteString", "internal/bytealg.IndexString"], named := ["internal/bytealg.MaxLen"], apart := false, narrowed := true }
def FnExactMostUnevenUptoSaid : Prop := fnExactMostUnevenUptoRow.holds Try.pinned (OpenSpec.upto fnExactMostUnevenSpec)

/-- 'laws.FnExactIsEvenPattern', WHERE WHAT IT READS IS OF BULK AT MOST 1048576: true; the input reads as it did. -/
def fnExactIsEvenPatternUptoRow : OpenClaim := { program := "ytejjoejapnnlkab", sum := "f516e89e184965114e520efb189cb5e477d21da792307a65543bcc7c65526c09", func := "loop.example/g01153/laws.FnExactIsEvenPattern", spec := "fnExactIsEvenPattern", inPlace := ["internal/bytealg.CountString", "internal/bytealg.IndexByteString", "internal/bytealg.IndexString"], named := ["internal/bytealg.MaxLen"], apart := false, narrowed := true }
def FnExactIsEvenPatternUptoSaid : Prop := fnExactIsEvenPatternUptoRow.holds Try.pinned (OpenSpec.upto fnExactIsEvenPatternSpec)

end Rows
end Go.Proofs.Ytejjoejapnnlkab
