/-
  No cell of these rows narrows 'for every input' (looked for: loops, veiled, ifaces, maps, wideKeys, modest, calm, conditions, laid).
  DERIVED. THE GIVEN ROWS OF THIS SEAT. 9 by the template 'for every input the law returns true; each argument reads behind the call as it read before'; 0 by the template 'total and deterministic' (their statements: YtlhgpalobdnfoaaTotals.lean).
  GIVEN WITH THE SEED: the statements are not yours to turn. If you find one false, say at which input.
  Laid BY PROGRAM, IN A SANDBOX (cutbox-rows.mjs): the forced cells as the released guide's own fill.sh prints them over the translation 19e9bb7a293c2e5b… (all of the seat's roots in one cut). By AI agents, Wed Nov 11 2026. No macro, syntax, notation, axiom, sorry.
-/
import Derived.Test.YtlhgpalobdnfoaaChecked
import GoSem.Claim
import GoSem.ClaimJoined
import GoSem.ClaimMapViews
import Derived.JoinedTies
import Derived.KernelRfl
namespace Go.Proofs.Ytlhgpalobdnfoaa
/- THE CELL 'sum', in the pinned program and in every row, IS THE sha256 OF THE DUMP (.gsa) THAT YtlhgpalobdnfoaaProg.lean LOADS. Nothing in Lean hashes anything: it is a label: what it is worth is what the hold of that sum in a sandbox is worth. -/
noncomputable def Try.pinned : Pinned := { name := "ytlhgpalobdnfoaa", sum := "19e9bb7a293c2e5b6d1a9761fd9ce3b3f5d43503294c00b7e282506a9b382f86", checked := Try.checked }
namespace Rows
def none {H : Type} : Left H := { results := [], args := [] }

/-- 'laws.FnJoined': WHATEVER THE INPUT: true; the input reads as it did. -/
def fnJoinedSpec : ChangeSpec := { name := "fnJoined", fn := fun _ => fun
  | [d1, d2] => { results := [.lit (.bool true)], args := [d1, d2] }
  | _ => none }
def fnJoinedRow : OpenClaim := { program := "ytlhgpalobdnfoaa", sum := "19e9bb7a293c2e5b6d1a9761fd9ce3b3f5d43503294c00b7e282506a9b382f86", func := "loop.example/g01153/laws.FnJoined", spec := "fnJoined", inPlace := ["internal/abi.NoEscape", "internal/bytealg.MakeNoZero"], apart := false }
def FnJoinedSaid : Prop := fnJoinedRow.holds Try.pinned (OpenSpec.ofChange fnJoinedSpec)

/-- ITS FALSE NEIGHBOUR: 'it returns false'. Refute it at one input. -/
def fnJoinedWrong : ChangeSpec := { name := "fnJoined", fn := fun _ => fun
  | [d1, d2] => { results := [.lit (.bool false)], args := [d1, d2] }
  | _ => none }
def FnJoinedWrongFalsely : Prop := fnJoinedRow.holds Try.pinned (OpenSpec.ofChange fnJoinedWrong)

/-- 'laws.FnExactIsName': WHATEVER THE INPUT: true; the input reads as it did. -/
def fnExactIsNameSpec : ChangeSpec := { name := "fnExactIsName", fn := fun _ => fun
  | [d] => { results := [.lit (.bool true)], args := [d] }
  | _ => none }
def fnExactIsNameRow : OpenClaim := { program := "ytlhgpalobdnfoaa", sum := "19e9bb7a293c2e5b6d1a9761fd9ce3b3f5d43503294c00b7e282506a9b382f86", func := "loop.example/g01153/laws.FnExactIsName", spec := "fnExactIsName", apart := false }
def FnExactIsNameSaid : Prop := fnExactIsNameRow.holds Try.pinned (OpenSpec.ofChange fnExactIsNameSpec)

/-- ITS FALSE NEIGHBOUR: 'it returns false'. Refute it at one input. -/
def fnExactIsNameWrong : ChangeSpec := { name := "fnExactIsName", fn := fun _ => fun
  | [d] => { results := [.lit (.bool false)], args := [d] }
  | _ => none }
def FnExactIsNameWrongFalsely : Prop := fnExactIsNameRow.holds Try.pinned (OpenSpec.ofChange fnExactIsNameWrong)

/-- 'laws.FnExactIsWave': WHATEVER THE INPUT: true; the input reads as it did. -/
def fnExactIsWaveSpec : ChangeSpec := { name := "fnExactIsWave", fn := fun _ => fun
  | [d] => { results := [.lit (.bool true)], args := [d] }
  | _ => none }
def fnExactIsWaveRow : OpenClaim := { program := "ytlhgpalobdnfoaa", sum := "19e9bb7a293c2e5b6d1a9761fd9ce3b3f5d43503294c00b7e282506a9b382f86", func := "loop.example/g01153/laws.FnExactIsWave", spec := "fnExactIsWave", apart := false }
def FnExactIsWaveSaid : Prop := fnExactIsWaveRow.holds Try.pinned (OpenSpec.ofChange fnExactIsWaveSpec)

/-- ITS FALSE NEIGHBOUR: 'it returns false'. Refute it at one input. -/
def fnExactIsWaveWrong : ChangeSpec := { name := "fnExactIsWave", fn := fun _ => fun
  | [d] => { results := [.lit (.bool false)], args := [d] }
  | _ => none }
def FnExactIsWaveWrongFalsely : Prop := fnExactIsWaveRow.holds Try.pinned (OpenSpec.ofChange fnExactIsWaveWrong)

/-- 'laws.FnExactUpsOf': WHATEVER THE INPUT: true; the input reads as it did. -/
def fnExactUpsOfSpec : ChangeSpec := { name := "fnExactUpsOf", fn := fun _ => fun
  | [d] => { results := [.lit (.bool true)], args := [d] }
  | _ => none }
def fnExactUpsOfRow : OpenClaim := { program := "ytlhgpalobdnfoaa", sum := "19e9bb7a293c2e5b6d1a9761fd9ce3b3f5d43503294c00b7e282506a9b382f86", func := "loop.example/g01153/laws.FnExactUpsOf", spec := "fnExactUpsOf", unfollowed := true, recurses := true, apart := false }
def FnExactUpsOfSaid : Prop := fnExactUpsOfRow.holds Try.pinned (OpenSpec.ofChange fnExactUpsOfSpec)

/-- ITS FALSE NEIGHBOUR: 'it returns false'. Refute it at one input. -/
def fnExactUpsOfWrong : ChangeSpec := { name := "fnExactUpsOf", fn := fun _ => fun
  | [d] => { results := [.lit (.bool false)], args := [d] }
  | _ => none }
def FnExactUpsOfWrongFalsely : Prop := fnExactUpsOfRow.holds Try.pinned (OpenSpec.ofChange fnExactUpsOfWrong)

/-- 'laws.FnExactDownsOf': WHATEVER THE INPUT: true; the input reads as it did. -/
def fnExactDownsOfSpec : ChangeSpec := { name := "fnExactDownsOf", fn := fun _ => fun
  | [d] => { results := [.lit (.bool true)], args := [d] }
  | _ => none }
def fnExactDownsOfRow : OpenClaim := { program := "ytlhgpalobdnfoaa", sum := "19e9bb7a293c2e5b6d1a9761fd9ce3b3f5d43503294c00b7e282506a9b382f86", func := "loop.example/g01153/laws.FnExactDownsOf", spec := "fnExactDownsOf", unfollowed := true, recurses := true, apart := false }
def FnExactDownsOfSaid : Prop := fnExactDownsOfRow.holds Try.pinned (OpenSpec.ofChange fnExactDownsOfSpec)

/-- ITS FALSE NEIGHBOUR: 'it returns false'. Refute it at one input. -/
def fnExactDownsOfWrong : ChangeSpec := { name := "fnExactDownsOf", fn := fun _ => fun
  | [d] => { results := [.lit (.bool false)], args := [d] }
  | _ => none }
def FnExactDownsOfWrongFalsely : Prop := fnExactDownsOfRow.holds Try.pinned (OpenSpec.ofChange fnExactDownsOfWrong)

/-- 'laws.FnExactPulsesOf': WHATEVER THE INPUT: true; the input reads as it did. -/
def fnExactPulsesOfSpec : ChangeSpec := { name := "fnExactPulsesOf", fn := fun _ => fun
  | [d] => { results := [.lit (.bool true)], args := [d] }
  | _ => none }
def fnExactPulsesOfRow : OpenClaim := { program := "ytlhgpalobdnfoaa", sum := "19e9bb7a293c2e5b6d1a9761fd9ce3b3f5d43503294c00b7e282506a9b382f86", func := "loop.example/g01153/laws.FnExactPulsesOf", spec := "fnExactPulsesOf", unfollowed := true, recurses := true, apart := false }
def FnExactPulsesOfSaid : Prop := fnExactPulsesOfRow.holds Try.pinned (OpenSpec.ofChange fnExactPulsesOfSpec)

/-- ITS FALSE NEIGHBOUR: 'it returns false'. Refute it at one input. -/
def fnExactPulsesOfWrong : ChangeSpec := { name := "fnExactPulsesOf", fn := fun _ => fun
  | [d] => { results := [.lit (.bool false)], args := [d] }
  | _ => none }
def FnExactPulsesOfWrongFalsely : Prop := fnExactPulsesOfRow.holds Try.pinned (OpenSpec.ofChange fnExactPulsesOfWrong)

/-- 'laws.FnExactGapsOf': WHATEVER THE INPUT: true; the input reads as it did. -/
def fnExactGapsOfSpec : ChangeSpec := { name := "fnExactGapsOf", fn := fun _ => fun
  | [d] => { results := [.lit (.bool true)], args := [d] }
  | _ => none }
def fnExactGapsOfRow : OpenClaim := { program := "ytlhgpalobdnfoaa", sum := "19e9bb7a293c2e5b6d1a9761fd9ce3b3f5d43503294c00b7e282506a9b382f86", func := "loop.example/g01153/laws.FnExactGapsOf", spec := "fnExactGapsOf", unfollowed := true, recurses := true, apart := false }
def FnExactGapsOfSaid : Prop := fnExactGapsOfRow.holds Try.pinned (OpenSpec.ofChange fnExactGapsOfSpec)

/-- ITS FALSE NEIGHBOUR: 'it returns false'. Refute it at one input. -/
def fnExactGapsOfWrong : ChangeSpec := { name := "fnExactGapsOf", fn := fun _ => fun
  | [d] => { results := [.lit (.bool false)], args := [d] }
  | _ => none }
def FnExactGapsOfWrongFalsely : Prop := fnExactGapsOfRow.holds Try.pinned (OpenSpec.ofChange fnExactGapsOfWrong)

/-- 'laws.FnExactDutyOf': WHATEVER THE INPUT: true; the input reads as it did. -/
def fnExactDutyOfSpec : ChangeSpec := { name := "fnExactDutyOf", fn := fun _ => fun
  | [d] => { results := [.lit (.bool true)], args := [d] }
  | _ => none }
def fnExactDutyOfRow : OpenClaim := { program := "ytlhgpalobdnfoaa", sum := "19e9bb7a293c2e5b6d1a9761fd9ce3b3f5d43503294c00b7e282506a9b382f86", func := "loop.example/g01153/laws.FnExactDutyOf", spec := "fnExactDutyOf", inPlace := ["internal/bytealg.CountString", "internal/bytealg.IndexByteString", "internal/bytealg.IndexString"], named := ["internal/bytealg.MaxLen"], apart := false }
def FnExactDutyOfSaid : Prop := fnExactDutyOfRow.holds Try.pinned (OpenSpec.ofChange fnExactDutyOfSpec)

/-- ITS FALSE NEIGHBOUR: 'it returns false'. Refute it at one input. -/
def fnExactDutyOfWrong : ChangeSpec := { name := "fnExactDutyOf", fn := fun _ => fun
  | [d] => { results := [.lit (.bool false)], args := [d] }
  | _ => none }
def FnExactDutyOfWrongFalsely : Prop := fnExactDutyOfRow.holds Try.pinned (OpenSpec.ofChange fnExactDutyOfWrong)

/-- 'laws.FnExactWavePeriod': WHATEVER THE INPUT: true; the input reads as it did. -/
def fnExactWavePeriodSpec : ChangeSpec := { name := "fnExactWavePeriod", fn := fun _ => fun
  | [d] => { results := [.lit (.bool true)], args := [d] }
  | _ => none }
def fnExactWavePeriodRow : OpenClaim := { program := "ytlhgpalobdnfoaa", sum := "19e9bb7a293c2e5b6d1a9761fd9ce3b3f5d43503294c00b7e282506a9b382f86", func := "loop.example/g01153/laws.FnExactWavePeriod", spec := "fnExactWavePeriod", apart := false }
def FnExactWavePeriodSaid : Prop := fnExactWavePeriodRow.holds Try.pinned (OpenSpec.ofChange fnExactWavePeriodSpec)

/-- ITS FALSE NEIGHBOUR: 'it returns false'. Refute it at one input. -/
def fnExactWavePeriodWrong : ChangeSpec := { name := "fnExactWavePeriod", fn := fun _ => fun
  | [d] => { results := [.lit (.bool false)], args := [d] }
  | _ => none }
def FnExactWavePeriodWrongFalsely : Prop := fnExactWavePeriodRow.holds Try.pinned (OpenSpec.ofChange fnExactWavePeriodWrong)

/- THE SECOND FORM. 'bulk': how many values and letters a reading holds, each counted each time it is reached (what is shared counts as often as it is met; a slice's spare places count too). A statement '..UptoSaid' is the law's where the arguments, and the package variables that the reading takes, are together of bulk at most 1048576: NARROWER than '..Said'. Prove '..Said' where nothing that the law and all that it calls make is longer than what came in: it says more and counts as full. Else prove '..UptoSaid'. A law counts once. -/
mutual
def uptoBulk {H : Type} : DataW H → Nat
  | .lit (.string bytes) => bytes.length + 1
  | .lit _ => 1
  | .nil => 1
  | .ptr d => uptoBulk d + 1
  | .slice elems spare => uptoBulkAll elems + uptoBulkAll spare + 1
  | .agg parts => uptoBulkAll parts + 1
  | .iface _ d => uptoBulk d + 1
  | .map entries => uptoBulkEntries entries + 1
  | .held _ => 1
def uptoBulkAll {H : Type} : List (DataW H) → Nat
  | [] => 0
  | d :: r => uptoBulk d + uptoBulkAll r
def uptoBulkEntries {H : Type} : List (Lit × DataW H) → Nat
  | [] => 0
  | x :: r => uptoBulkEntry x + uptoBulkEntries r
def uptoBulkEntry {H : Type} : Lit × DataW H → Nat
  | (.string bytes, d) => bytes.length + uptoBulk d + 1
  | (_, d) => uptoBulk d + 1
 end
def uptoSmall : (H : Type) → List (DataW H) → Bool := fun _ ds => decide (uptoBulkAll ds ≤ 1048576)
def OpenSpec.upto (s : _root_.Go.ChangeSpec) : _root_.Go.OpenSpec := { _root_.Go.OpenSpec.ofChange s with cond := some uptoSmall }

/-- 'laws.FnJoined', WHERE WHAT IT READS IS OF BULK AT MOST 1048576: true; the input reads as it did. -/
def fnJoinedUptoRow : OpenClaim := { program := "ytlhgpalobdnfoaa", sum := "19e9bb7a293c2e5b6d1a9761fd9ce3b3f5d43503294c00b7e282506a9b382f86", func := "loop.example/g01153/laws.FnJoined", spec := "fnJoined", inPlace := ["internal/abi.NoEscape", "internal/bytealg.MakeNoZero"], apart := false, narrowed := true }
def FnJoinedUptoSaid : Prop := fnJoinedUptoRow.holds Try.pinned (OpenSpec.upto fnJoinedSpec)

/-- 'laws.FnExactIsName', WHERE WHAT IT READS IS OF BULK AT MOST 1048576: true; the input reads as it did. -/
def fnExactIsNameUptoRow : OpenClaim := { program := "ytlhgpalobdnfoaa", sum := "19e9bb7a293c2e5b6d1a9761fd9ce3b3f5d43503294c00b7e282506a9b382f86", func := "loop.example/g01153/laws.FnExactIsName", spec := "fnExactIsName", apart := false, narrowed := true }
def FnExactIsNameUptoSaid : Prop := fnExactIsNameUptoRow.holds Try.pinned (OpenSpec.upto fnExactIsNameSpec)

/-- 'laws.FnExactIsWave', WHERE WHAT IT READS IS OF BULK AT MOST 1048576: true; the input reads as it did. -/
def fnExactIsWaveUptoRow : OpenClaim := { program := "ytlhgpalobdnfoaa", sum := "19e9bb7a293c2e5b6d1a9761fd9ce3b3f5d43503294c00b7e282506a9b382f86", func := "loop.example/g01153/laws.FnExactIsWave", spec := "fnExactIsWave", apart := false, narrowed := true }
def FnExactIsWaveUptoSaid : Prop := fnExactIsWaveUptoRow.holds Try.pinned (OpenSpec.upto fnExactIsWaveSpec)

/-- 'laws.FnExactUpsOf', WHERE WHAT IT READS IS OF BULK AT MOST 1048576: true; the input reads as it did. -/
def fnExactUpsOfUptoRow : OpenClaim := { program := "ytlhgpalobdnfoaa", sum := "19e9bb7a293c2e5b6d1a9761fd9ce3b3f5d43503294c00b7e282506a9b382f86", func := "loop.example/g01153/laws.FnExactUpsOf", spec := "fnExactUpsOf", unfollowed := true, recurses := true, apart := false, narrowed := true }
def FnExactUpsOfUptoSaid : Prop := fnExactUpsOfUptoRow.holds Try.pinned (OpenSpec.upto fnExactUpsOfSpec)

/-- 'laws.FnExactDownsOf', WHERE WHAT IT READS IS OF BULK AT MOST 1048576: true; the input reads as it did. -/
def fnExactDownsOfUptoRow : OpenClaim := { program := "ytlhgpalobdnfoaa", sum := "19e9bb7a293c2e5b6d1a9761fd9ce3b3f5d43503294c00b7e282506a9b382f86", func := "loop.example/g01153/laws.FnExactDownsOf", spec := "fnExactDownsOf", unfollowed := true, recurses := true, apart := false, narrowed := true }
def FnExactDownsOfUptoSaid : Prop := fnExactDownsOfUptoRow.holds Try.pinned (OpenSpec.upto fnExactDownsOfSpec)

/-- 'laws.FnExactPulsesOf', WHERE WHAT IT READS IS OF BULK AT MOST 1048576: true; the input reads as it did. -/
def fnExactPulsesOfUptoRow : OpenClaim := { program := "ytlhgpalobdnfoaa", sum := "19e9bb7a293c2e5b6d1a9761fd9ce3b3f5d43503294c00b7e282506a9b382f86", func := "loop.example/g01153/laws.FnExactPulsesOf", spec := "fnExactPulsesOf", unfollowed := true, recurses := true, apart := false, narrowed := true }
def FnExactPulsesOfUptoSaid : Prop := fnExactPulsesOfUptoRow.holds Try.pinned (OpenSpec.upto fnExactPulsesOfSpec)

/-- 'laws.FnExactGapsOf', WHERE WHAT IT READS IS OF BULK AT MOST 1048576: true; the input reads as it did. -/
def fnExactGapsOfUptoRow : OpenClaim := { program := "ytlhgpalobdnfoaa", sum := "19e9bb7a293c2e5b6d1a9761fd9ce3b3f5d43503294c00b7e282506a9b382f86", func := "loop.example/g01153/laws.FnExactGapsOf", spec := "fnExactGapsOf", unfollowed := true, recurses := true, apart := false, narrowed := true }
def FnExactGapsOfUptoSaid : Prop := fnExactGapsOfUptoRow.holds Try.pinned (OpenSpec.upto fnExactGapsOfSpec)

/-- 'laws.FnExactDutyOf', WHERE WHAT IT READS IS OF BULK AT MOST 1048576: true; the input reads as it did. -/
def fnExactDutyOfUptoRow : OpenClaim := { program := "ytlhgpalobdnfoaa", sum := "19e9bb7a293c2e5b6d1a9761fd9ce3b3f5d43503294c00b7e282506a9b382f86", func := "loop.example/g01153/laws.FnExactDutyOf", spec := "fnExactDutyOf", inPlace := ["internal/bytealg.CountString", "internal/bytealg.IndexByteString", "internal/bytealg.IndexString"], named := ["internal/bytealg.MaxLen"], apart := false, narrowed := true }
def FnExactDutyOfUptoSaid : Prop := fnExactDutyOfUptoRow.holds Try.pinned (OpenSpec.upto fnExactDutyOfSpec)

/-- 'laws.FnExactWavePeriod', WHERE WHAT IT READS IS OF BULK AT MOST 1048576: true; the input reads as it did. -/
def fnExactWavePeriodUptoRow : OpenClaim := { program := "ytlhgpalobdnfoaa", sum := "19e9bb7a293c2e5b6d1a9761fd9ce3b3f5d43503294c00b7e282506a9b382f86", func := "loop.example/g01153/laws.FnExactWavePeriod", spec := "fnExactWavePeriod", apart := false, narrowed := true }
def FnExactWavePeriodUptoSaid : Prop := fnExactWavePeriodUptoRow.holds Try.pinned (OpenSpec.upto fnExactWavePeriodSpec)

end Rows
end Go.Proofs.Ytlhgpalobdnfoaa
