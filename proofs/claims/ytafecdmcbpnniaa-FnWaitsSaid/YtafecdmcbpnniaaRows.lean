/-
  No cell of these rows narrows 'for every input' (looked for: loops, veiled, ifaces, maps, wideKeys, modest, calm, conditions, laid).
  DERIVED. THE GIVEN ROWS OF THIS SEAT. 12 by the template 'for every input the law returns true; each argument reads behind the call as it read before'; 0 by the template 'total and deterministic' (their statements: YtafecdmcbpnniaaTotals.lean).
  GIVEN WITH THE SEED: the statements are not yours to turn. If you find one false, say at which input.
  Laid BY PROGRAM, IN A SANDBOX (cutbox-rows.mjs): the forced cells as the released guide's own fill.sh prints them over the translation 5f017845cdf0912c… (all of the seat's roots in one cut). By AI agents, Wed Nov 11 2026. No macro, syntax, notation, axiom, sorry.
-/
import Derived.Test.YtafecdmcbpnniaaChecked
import GoSem.Claim
import GoSem.ClaimJoined
import GoSem.ClaimMapViews
import Derived.JoinedTies
import Derived.KernelRfl
namespace Go.Proofs.Ytafecdmcbpnniaa
/- THE CELL 'sum', in the pinned program and in every row, IS THE sha256 OF THE DUMP (.gsa) THAT YtafecdmcbpnniaaProg.lean LOADS. Nothing in Lean hashes anything: it is a label: what it is worth is what the hold of that sum in a sandbox is worth. -/
noncomputable def Try.pinned : Pinned := { name := "ytafecdmcbpnniaa", sum := "5f017845cdf0912cdf9ee5207e267edd6da2b35363ff55a0fba00c92c14968eb", checked := Try.checked }
namespace Rows
def none {H : Type} : Left H := { results := [], args := [] }

/-- 'laws.FnExactValidClock': WHATEVER THE INPUT: true; the input reads as it did. -/
def fnExactValidClockSpec : ChangeSpec := { name := "fnExactValidClock", fn := fun _ => fun
  | [d] => { results := [.lit (.bool true)], args := [d] }
  | _ => none }
def fnExactValidClockRow : OpenClaim := { program := "ytafecdmcbpnniaa", sum := "5f017845cdf0912cdf9ee5207e267edd6da2b35363ff55a0fba00c92c14968eb", func := "loop.example/g01153/laws.FnExactValidClock", spec := "fnExactValidClock", apart := false }
def FnExactValidClockSaid : Prop := fnExactValidClockRow.holds Try.pinned (OpenSpec.ofChange fnExactValidClockSpec)

/-- ITS FALSE NEIGHBOUR: 'it returns false'. Refute it at one input. -/
def fnExactValidClockWrong : ChangeSpec := { name := "fnExactValidClock", fn := fun _ => fun
  | [d] => { results := [.lit (.bool false)], args := [d] }
  | _ => none }
def FnExactValidClockWrongFalsely : Prop := fnExactValidClockRow.holds Try.pinned (OpenSpec.ofChange fnExactValidClockWrong)

/-- 'laws.FnExactEdgeAt': WHATEVER THE INPUT: true; the input reads as it did. -/
def fnExactEdgeAtSpec : ChangeSpec := { name := "fnExactEdgeAt", fn := fun _ => fun
  | [d1, d2] => { results := [.lit (.bool true)], args := [d1, d2] }
  | _ => none }
def fnExactEdgeAtRow : OpenClaim := { program := "ytafecdmcbpnniaa", sum := "5f017845cdf0912cdf9ee5207e267edd6da2b35363ff55a0fba00c92c14968eb", func := "loop.example/g01153/laws.FnExactEdgeAt", spec := "fnExactEdgeAt", apart := false }
def FnExactEdgeAtSaid : Prop := fnExactEdgeAtRow.holds Try.pinned (OpenSpec.ofChange fnExactEdgeAtSpec)

/-- ITS FALSE NEIGHBOUR: 'it returns false'. Refute it at one input. -/
def fnExactEdgeAtWrong : ChangeSpec := { name := "fnExactEdgeAt", fn := fun _ => fun
  | [d1, d2] => { results := [.lit (.bool false)], args := [d1, d2] }
  | _ => none }
def FnExactEdgeAtWrongFalsely : Prop := fnExactEdgeAtRow.holds Try.pinned (OpenSpec.ofChange fnExactEdgeAtWrong)

/-- 'laws.FnExactNextEdge': WHATEVER THE INPUT: true; the input reads as it did. -/
def fnExactNextEdgeSpec : ChangeSpec := { name := "fnExactNextEdge", fn := fun _ => fun
  | [d1, d2] => { results := [.lit (.bool true)], args := [d1, d2] }
  | _ => none }
def fnExactNextEdgeRow : OpenClaim := { program := "ytafecdmcbpnniaa", sum := "5f017845cdf0912cdf9ee5207e267edd6da2b35363ff55a0fba00c92c14968eb", func := "loop.example/g01153/laws.FnExactNextEdge", spec := "fnExactNextEdge", apart := false }
def FnExactNextEdgeSaid : Prop := fnExactNextEdgeRow.holds Try.pinned (OpenSpec.ofChange fnExactNextEdgeSpec)

/-- ITS FALSE NEIGHBOUR: 'it returns false'. Refute it at one input. -/
def fnExactNextEdgeWrong : ChangeSpec := { name := "fnExactNextEdge", fn := fun _ => fun
  | [d1, d2] => { results := [.lit (.bool false)], args := [d1, d2] }
  | _ => none }
def FnExactNextEdgeWrongFalsely : Prop := fnExactNextEdgeRow.holds Try.pinned (OpenSpec.ofChange fnExactNextEdgeWrong)

/-- 'laws.FnExactCountEdgesIn': WHATEVER THE INPUT: true; the input reads as it did. -/
def fnExactCountEdgesInSpec : ChangeSpec := { name := "fnExactCountEdgesIn", fn := fun _ => fun
  | [d1, d2, d3] => { results := [.lit (.bool true)], args := [d1, d2, d3] }
  | _ => none }
def fnExactCountEdgesInRow : OpenClaim := { program := "ytafecdmcbpnniaa", sum := "5f017845cdf0912cdf9ee5207e267edd6da2b35363ff55a0fba00c92c14968eb", func := "loop.example/g01153/laws.FnExactCountEdgesIn", spec := "fnExactCountEdgesIn", apart := false }
def FnExactCountEdgesInSaid : Prop := fnExactCountEdgesInRow.holds Try.pinned (OpenSpec.ofChange fnExactCountEdgesInSpec)

/-- ITS FALSE NEIGHBOUR: 'it returns false'. Refute it at one input. -/
def fnExactCountEdgesInWrong : ChangeSpec := { name := "fnExactCountEdgesIn", fn := fun _ => fun
  | [d1, d2, d3] => { results := [.lit (.bool false)], args := [d1, d2, d3] }
  | _ => none }
def FnExactCountEdgesInWrongFalsely : Prop := fnExactCountEdgesInRow.holds Try.pinned (OpenSpec.ofChange fnExactCountEdgesInWrong)

/-- 'laws.FnExactLeastGap': WHATEVER THE INPUT: true; the input reads as it did. -/
def fnExactLeastGapSpec : ChangeSpec := { name := "fnExactLeastGap", fn := fun _ => fun
  | [d1, d2] => { results := [.lit (.bool true)], args := [d1, d2] }
  | _ => none }
def fnExactLeastGapRow : OpenClaim := { program := "ytafecdmcbpnniaa", sum := "5f017845cdf0912cdf9ee5207e267edd6da2b35363ff55a0fba00c92c14968eb", func := "loop.example/g01153/laws.FnExactLeastGap", spec := "fnExactLeastGap", apart := false }
def FnExactLeastGapSaid : Prop := fnExactLeastGapRow.holds Try.pinned (OpenSpec.ofChange fnExactLeastGapSpec)

/-- ITS FALSE NEIGHBOUR: 'it returns false'. Refute it at one input. -/
def fnExactLeastGapWrong : ChangeSpec := { name := "fnExactLeastGap", fn := fun _ => fun
  | [d1, d2] => { results := [.lit (.bool false)], args := [d1, d2] }
  | _ => none }
def FnExactLeastGapWrongFalsely : Prop := fnExactLeastGapRow.holds Try.pinned (OpenSpec.ofChange fnExactLeastGapWrong)

/-- 'laws.FnExactLongestWait': WHATEVER THE INPUT: true; the input reads as it did. -/
def fnExactLongestWaitSpec : ChangeSpec := { name := "fnExactLongestWait", fn := fun _ => fun
  | [d1, d2] => { results := [.lit (.bool true)], args := [d1, d2] }
  | _ => none }
def fnExactLongestWaitRow : OpenClaim := { program := "ytafecdmcbpnniaa", sum := "5f017845cdf0912cdf9ee5207e267edd6da2b35363ff55a0fba00c92c14968eb", func := "loop.example/g01153/laws.FnExactLongestWait", spec := "fnExactLongestWait", apart := false }
def FnExactLongestWaitSaid : Prop := fnExactLongestWaitRow.holds Try.pinned (OpenSpec.ofChange fnExactLongestWaitSpec)

/-- ITS FALSE NEIGHBOUR: 'it returns false'. Refute it at one input. -/
def fnExactLongestWaitWrong : ChangeSpec := { name := "fnExactLongestWait", fn := fun _ => fun
  | [d1, d2] => { results := [.lit (.bool false)], args := [d1, d2] }
  | _ => none }
def FnExactLongestWaitWrongFalsely : Prop := fnExactLongestWaitRow.holds Try.pinned (OpenSpec.ofChange fnExactLongestWaitWrong)

/-- 'laws.FnExactEvenPhases': WHATEVER THE INPUT: true; the input reads as it did. -/
def fnExactEvenPhasesSpec : ChangeSpec := { name := "fnExactEvenPhases", fn := fun _ => fun
  | [d1, d2] => { results := [.lit (.bool true)], args := [d1, d2] }
  | _ => none }
def fnExactEvenPhasesRow : OpenClaim := { program := "ytafecdmcbpnniaa", sum := "5f017845cdf0912cdf9ee5207e267edd6da2b35363ff55a0fba00c92c14968eb", func := "loop.example/g01153/laws.FnExactEvenPhases", spec := "fnExactEvenPhases", apart := false }
def FnExactEvenPhasesSaid : Prop := fnExactEvenPhasesRow.holds Try.pinned (OpenSpec.ofChange fnExactEvenPhasesSpec)

/-- ITS FALSE NEIGHBOUR: 'it returns false'. Refute it at one input. -/
def fnExactEvenPhasesWrong : ChangeSpec := { name := "fnExactEvenPhases", fn := fun _ => fun
  | [d1, d2] => { results := [.lit (.bool false)], args := [d1, d2] }
  | _ => none }
def FnExactEvenPhasesWrongFalsely : Prop := fnExactEvenPhasesRow.holds Try.pinned (OpenSpec.ofChange fnExactEvenPhasesWrong)

/-- 'laws.FnExactNearEdges': WHATEVER THE INPUT: true; the input reads as it did. -/
def fnExactNearEdgesSpec : ChangeSpec := { name := "fnExactNearEdges", fn := fun _ => fun
  | [d1, d2, d3, d4] => { results := [.lit (.bool true)], args := [d1, d2, d3, d4] }
  | _ => none }
def fnExactNearEdgesRow : OpenClaim := { program := "ytafecdmcbpnniaa", sum := "5f017845cdf0912cdf9ee5207e267edd6da2b35363ff55a0fba00c92c14968eb", func := "loop.example/g01153/laws.FnExactNearEdges", spec := "fnExactNearEdges", apart := false }
def FnExactNearEdgesSaid : Prop := fnExactNearEdgesRow.holds Try.pinned (OpenSpec.ofChange fnExactNearEdgesSpec)

/-- ITS FALSE NEIGHBOUR: 'it returns false'. Refute it at one input. -/
def fnExactNearEdgesWrong : ChangeSpec := { name := "fnExactNearEdges", fn := fun _ => fun
  | [d1, d2, d3, d4] => { results := [.lit (.bool false)], args := [d1, d2, d3, d4] }
  | _ => none }
def FnExactNearEdgesWrongFalsely : Prop := fnExactNearEdgesRow.holds Try.pinned (OpenSpec.ofChange fnExactNearEdgesWrong)

/-- 'laws.FnExactCommonPeriod': WHATEVER THE INPUT: true; the input reads as it did. -/
def fnExactCommonPeriodSpec : ChangeSpec := { name := "fnExactCommonPeriod", fn := fun _ => fun
  | [d] => { results := [.lit (.bool true)], args := [d] }
  | _ => none }
def fnExactCommonPeriodRow : OpenClaim := { program := "ytafecdmcbpnniaa", sum := "5f017845cdf0912cdf9ee5207e267edd6da2b35363ff55a0fba00c92c14968eb", func := "loop.example/g01153/laws.FnExactCommonPeriod", spec := "fnExactCommonPeriod", apart := false }
def FnExactCommonPeriodSaid : Prop := fnExactCommonPeriodRow.holds Try.pinned (OpenSpec.ofChange fnExactCommonPeriodSpec)

/-- ITS FALSE NEIGHBOUR: 'it returns false'. Refute it at one input. -/
def fnExactCommonPeriodWrong : ChangeSpec := { name := "fnExactCommonPeriod", fn := fun _ => fun
  | [d] => { results := [.lit (.bool false)], args := [d] }
  | _ => none }
def FnExactCommonPeriodWrongFalsely : Prop := fnExactCommonPeriodRow.holds Try.pinned (OpenSpec.ofChange fnExactCommonPeriodWrong)

/-- 'laws.FnExactFirstMeeting': WHATEVER THE INPUT: true; the input reads as it did. -/
def fnExactFirstMeetingSpec : ChangeSpec := { name := "fnExactFirstMeeting", fn := fun _ => fun
  | [d] => { results := [.lit (.bool true)], args := [d] }
  | _ => none }
def fnExactFirstMeetingRow : OpenClaim := { program := "ytafecdmcbpnniaa", sum := "5f017845cdf0912cdf9ee5207e267edd6da2b35363ff55a0fba00c92c14968eb", func := "loop.example/g01153/laws.FnExactFirstMeeting", spec := "fnExactFirstMeeting", apart := false }
def FnExactFirstMeetingSaid : Prop := fnExactFirstMeetingRow.holds Try.pinned (OpenSpec.ofChange fnExactFirstMeetingSpec)

/-- ITS FALSE NEIGHBOUR: 'it returns false'. Refute it at one input. -/
def fnExactFirstMeetingWrong : ChangeSpec := { name := "fnExactFirstMeeting", fn := fun _ => fun
  | [d] => { results := [.lit (.bool false)], args := [d] }
  | _ => none }
def FnExactFirstMeetingWrongFalsely : Prop := fnExactFirstMeetingRow.holds Try.pinned (OpenSpec.ofChange fnExactFirstMeetingWrong)

/-- 'laws.FnWaits': WHATEVER THE INPUT: true; the input reads as it did. -/
def fnWaitsSpec : ChangeSpec := { name := "fnWaits", fn := fun _ => fun
  | [d1, d2] => { results := [.lit (.bool true)], args := [d1, d2] }
  | _ => none }
def fnWaitsRow : OpenClaim := { program := "ytafecdmcbpnniaa", sum := "5f017845cdf0912cdf9ee5207e267edd6da2b35363ff55a0fba00c92c14968eb", func := "loop.example/g01153/laws.FnWaits", spec := "fnWaits", apart := false }
def FnWaitsSaid : Prop := fnWaitsRow.holds Try.pinned (OpenSpec.ofChange fnWaitsSpec)

/-- ITS FALSE NEIGHBOUR: 'it returns false'. Refute it at one input. -/
def fnWaitsWrong : ChangeSpec := { name := "fnWaits", fn := fun _ => fun
  | [d1, d2] => { results := [.lit (.bool false)], args := [d1, d2] }
  | _ => none }
def FnWaitsWrongFalsely : Prop := fnWaitsRow.holds Try.pinned (OpenSpec.ofChange fnWaitsWrong)

/-- 'laws.FnMeetings': WHATEVER THE INPUT: true; the input reads as it did. -/
def fnMeetingsSpec : ChangeSpec := { name := "fnMeetings", fn := fun _ => fun
  | [d1, d2] => { results := [.lit (.bool true)], args := [d1, d2] }
  | _ => none }
def fnMeetingsRow : OpenClaim := { program := "ytafecdmcbpnniaa", sum := "5f017845cdf0912cdf9ee5207e267edd6da2b35363ff55a0fba00c92c14968eb", func := "loop.example/g01153/laws.FnMeetings", spec := "fnMeetings", apart := false }
def FnMeetingsSaid : Prop := fnMeetingsRow.holds Try.pinned (OpenSpec.ofChange fnMeetingsSpec)

/-- ITS FALSE NEIGHBOUR: 'it returns false'. Refute it at one input. -/
def fnMeetingsWrong : ChangeSpec := { name := "fnMeetings", fn := fun _ => fun
  | [d1, d2] => { results := [.lit (.bool false)], args := [d1, d2] }
  | _ => none }
def FnMeetingsWrongFalsely : Prop := fnMeetingsRow.holds Try.pinned (OpenSpec.ofChange fnMeetingsWrong)

/- THE SECOND FORM. 'bulk': how many values and letters a reading holds, each counted each time it is reached (what is shared counts as often as it is met; a slice's spare places count too). A statement '..UptoSaid' is the law's where the arguments, and the package variables that the reading takes, are together of bulk at most 1048576: NARROWER than '..Said'. Prove '..Said' where nothing that the law and all that it calls make is longer than what came in: it says more and counts as full. Else prove '..UptoSaid'. A law counts once. -/
mutual
def uptoBulk {H : Type} : DataW H → Nat
  | .lit (.string bytes) => bytes.length + 1
  | .lit _ => 1
  | .nil => 1
  | .ptr d => uptoBulk d + 1
  | .slice elems spare => uptoBulkAll elems + uptoBulkAll spare + 1
  | .agg parts => uptoBulkAll parts + 1
  | .iface _ d => uptoBulk d + 1
  | .map entries => uptoBulkEntries entries + 1
  | .held _ => 1
def uptoBulkAll {H : Type} : List (DataW H) → Nat
  | [] => 0
  | d :: r => uptoBulk d + uptoBulkAll r
def uptoBulkEntries {H : Type} : List (Lit × DataW H) → Nat
  | [] => 0
  | x :: r => uptoBulkEntry x + uptoBulkEntries r
def uptoBulkEntry {H : Type} : Lit × DataW H → Nat
  | (.string bytes, d) => bytes.length + uptoBulk d + 1
  | (_, d) => uptoBulk d + 1
 end
def uptoSmall : (H : Type) → List (DataW H) → Bool := fun _ ds => decide (uptoBulkAll ds ≤ 1048576)
def OpenSpec.upto (s : _root_.Go.ChangeSpec) : _root_.Go.OpenSpec := { _root_.Go.OpenSpec.ofChange s with cond := some uptoSmall }

/-- 'laws.FnExactValidClock', WHERE WHAT IT READS IS OF BULK AT MOST 1048576: true; the input reads as it did. -/
def fnExactValidClockUptoRow : OpenClaim := { program := "ytafecdmcbpnniaa", sum := "5f017845cdf0912cdf9ee5207e267edd6da2b35363ff55a0fba00c92c14968eb", func := "loop.example/g01153/laws.FnExactValidClock", spec := "fnExactValidClock", apart := false, narrowed := true }
def FnExactValidClockUptoSaid : Prop := fnExactValidClockUptoRow.holds Try.pinned (OpenSpec.upto fnExactValidClockSpec)

/-- 'laws.FnExactEdgeAt', WHERE WHAT IT READS IS OF BULK AT MOST 1048576: true; the input reads as it did. -/
def fnExactEdgeAtUptoRow : OpenClaim := { program := "ytafecdmcbpnniaa", sum := "5f017845cdf0912cdf9ee5207e267edd6da2b35363ff55a0fba00c92c14968eb", func := "loop.example/g01153/laws.FnExactEdgeAt", spec := "fnExactEdgeAt", apart := false, narrowed := true }
def FnExactEdgeAtUptoSaid : Prop := fnExactEdgeAtUptoRow.holds Try.pinned (OpenSpec.upto fnExactEdgeAtSpec)

/-- 'laws.FnExactNextEdge', WHERE WHAT IT READS IS OF BULK AT MOST 1048576: true; the input reads as it did. -/
def fnExactNextEdgeUptoRow : OpenClaim := { program := "ytafecdmcbpnniaa", sum := "5f017845cdf0912cdf9ee5207e267edd6da2b35363ff55a0fba00c92c14968eb", func := "loop.example/g01153/laws.FnExactNextEdge", spec := "fnExactNextEdge", apart := false, narrowed := true }
def FnExactNextEdgeUptoSaid : Prop := fnExactNextEdgeUptoRow.holds Try.pinned (OpenSpec.upto fnExactNextEdgeSpec)

/-- 'laws.FnExactCountEdgesIn', WHERE WHAT IT READS IS OF BULK AT MOST 1048576: true; the input reads as it did. -/
def fnExactCountEdgesInUptoRow : OpenClaim := { program := "ytafecdmcbpnniaa", sum := "5f017845cdf0912cdf9ee5207e267edd6da2b35363ff55a0fba00c92c14968eb", func := "loop.example/g01153/laws.FnExactCountEdgesIn", spec := "fnExactCountEdgesIn", apart := false, narrowed := true }
def FnExactCountEdgesInUptoSaid : Prop := fnExactCountEdgesInUptoRow.holds Try.pinned (OpenSpec.upto fnExactCountEdgesInSpec)

/-- 'laws.FnExactLeastGap', WHERE WHAT IT READS IS OF BULK AT MOST 1048576: true; the input reads as it did. -/
def fnExactLeastGapUptoRow : OpenClaim := { program := "ytafecdmcbpnniaa", sum := "5f017845cdf0912cdf9ee5207e267edd6da2b35363ff55a0fba00c92c14968eb", func := "loop.example/g01153/laws.FnExactLeastGap", spec := "fnExactLeastGap", apart := false, narrowed := true }
def FnExactLeastGapUptoSaid : Prop := fnExactLeastGapUptoRow.holds Try.pinned (OpenSpec.upto fnExactLeastGapSpec)

/-- 'laws.FnExactLongestWait', WHERE WHAT IT READS IS OF BULK AT MOST 1048576: true; the input reads as it did. -/
def fnExactLongestWaitUptoRow : OpenClaim := { program := "ytafecdmcbpnniaa", sum := "5f017845cdf0912cdf9ee5207e267edd6da2b35363ff55a0fba00c92c14968eb", func := "loop.example/g01153/laws.FnExactLongestWait", spec := "fnExactLongestWait", apart := false, narrowed := true }
def FnExactLongestWaitUptoSaid : Prop := fnExactLongestWaitUptoRow.holds Try.pinned (OpenSpec.upto fnExactLongestWaitSpec)

/-- 'laws.FnExactEvenPhases', WHERE WHAT IT READS IS OF BULK AT MOST 1048576: true; the input reads as it did. -/
def fnExactEvenPhasesUptoRow : OpenClaim := { program := "ytafecdmcbpnniaa", sum := "5f017845cdf0912cdf9ee5207e267edd6da2b35363ff55a0fba00c92c14968eb", func := "loop.example/g01153/laws.FnExactEvenPhases", spec := "fnExactEvenPhases", apart := false, narrowed := true }
def FnExactEvenPhasesUptoSaid : Prop := fnExactEvenPhasesUptoRow.holds Try.pinned (OpenSpec.upto fnExactEvenPhasesSpec)

/-- 'laws.FnExactNearEdges', WHERE WHAT IT READS IS OF BULK AT MOST 1048576: true; the input reads as it did. -/
def fnExactNearEdgesUptoRow : OpenClaim := { program := "ytafecdmcbpnniaa", sum := "5f017845cdf0912cdf9ee5207e267edd6da2b35363ff55a0fba00c92c14968eb", func := "loop.example/g01153/laws.FnExactNearEdges", spec := "fnExactNearEdges", apart := false, narrowed := true }
def FnExactNearEdgesUptoSaid : Prop := fnExactNearEdgesUptoRow.holds Try.pinned (OpenSpec.upto fnExactNearEdgesSpec)

/-- 'laws.FnExactCommonPeriod', WHERE WHAT IT READS IS OF BULK AT MOST 1048576: true; the input reads as it did. -/
def fnExactCommonPeriodUptoRow : OpenClaim := { program := "ytafecdmcbpnniaa", sum := "5f017845cdf0912cdf9ee5207e267edd6da2b35363ff55a0fba00c92c14968eb", func := "loop.example/g01153/laws.FnExactCommonPeriod", spec := "fnExactCommonPeriod", apart := false, narrowed := true }
def FnExactCommonPeriodUptoSaid : Prop := fnExactCommonPeriodUptoRow.holds Try.pinned (OpenSpec.upto fnExactCommonPeriodSpec)

/-- 'laws.FnExactFirstMeeting', WHERE WHAT IT READS IS OF BULK AT MOST 1048576: true; the input reads as it did. -/
def fnExactFirstMeetingUptoRow : OpenClaim := { program := "ytafecdmcbpnniaa", sum := "5f017845cdf0912cdf9ee5207e267edd6da2b35363ff55a0fba00c92c14968eb", func := "loop.example/g01153/laws.FnExactFirstMeeting", spec := "fnExactFirstMeeting", apart := false, narrowed := true }
def FnExactFirstMeetingUptoSaid : Prop := fnExactFirstMeetingUptoRow.holds Try.pinned (OpenSpec.upto fnExactFirstMeetingSpec)

/-- 'laws.FnWaits', WHERE WHAT IT READS IS OF BULK AT MOST 1048576: true; the input reads as it did. -/
def fnWaitsUptoRow : OpenClaim := { program := "ytafecdmcbpnniaa", sum := "5f017845cdf0912cdf9ee5207e267edd6da2b35363ff55a0fba00c92c14968eb", func := "loop.example/g01153/laws.FnWaits", spec := "fnWaits", apart := false, narrowed := true }
def FnWaitsUptoSaid : Prop := fnWaitsUptoRow.holds Try.pinned (OpenSpec.upto fnWaitsSpec)

/-- 'laws.FnMeetings', WHERE WHAT IT READS IS OF BULK AT MOST 1048576: true; the input reads as it did. -/
def fnMeetingsUptoRow : OpenClaim := { program := "ytafecdmcbpnniaa", sum := "5f017845cdf0912cdf9ee5207e267edd6da2b35363ff55a0fba00c92c14968eb", func := "loop.example/g01153/laws.FnMeetings", spec := "fnMeetings", apart := false, narrowed := true }
def FnMeetingsUptoSaid : Prop := fnMeetingsUptoRow.holds Try.pinned (OpenSpec.upto fnMeetingsSpec)

end Rows
end Go.Proofs.Ytafecdmcbpnniaa
