/-
  No cell of these rows narrows 'for every input' (looked for: loops, veiled, ifaces, maps, wideKeys, modest, calm, conditions, laid).
  DERIVED. THE GIVEN ROWS OF THIS SEAT. 12 by the template 'for every input the law returns true; each argument reads behind the call as it read before'; 0 by the template 'total and deterministic' (their statements: YtljbblfdaphjpabTotals.lean).
  GIVEN WITH THE SEED: the statements are not yours to turn. If you find one false, say at which input.
  Laid BY PROGRAM, IN A SANDBOX (cutbox-rows.mjs): the forced cells as the released guide's own fill.sh prints them over the translation 5e440e27f6a4498b… (all of the seat's roots in one cut). By AI agents, Wed Nov 11 2026. No macro, syntax, notation, axiom, sorry.
-/
import Derived.Test.YtljbblfdaphjpabChecked
import GoSem.Claim
import GoSem.ClaimJoined
import GoSem.ClaimMapViews
import Derived.JoinedTies
import Derived.KernelRfl
namespace Go.Proofs.Ytljbblfdaphjpab
/- THE CELL 'sum', in the pinned program and in every row, IS THE sha256 OF THE DUMP (.gsa) THAT YtljbblfdaphjpabProg.lean LOADS. Nothing in Lean hashes anything: it is a label: what it is worth is what the hold of that sum in a sandbox is worth. -/
noncomputable def Try.pinned : Pinned := { name := "ytljbblfdaphjpab", sum := "5e440e27f6a4498b0b11759caec1c4c05cce27be8297d8075a33d73ab77df7d3", checked := Try.checked }
namespace Rows
def none {H : Type} : Left H := { results := [], args := [] }

/-- 'laws.FnExactReflectedCounter': WHATEVER THE INPUT: true; the input reads as it did. -/
def fnExactReflectedCounterSpec : ChangeSpec := { name := "fnExactReflectedCounter", fn := fun _ => fun
  | [d] => { results := [.lit (.bool true)], args := [d] }
  | _ => none }
def fnExactReflectedCounterRow : OpenClaim := { program := "ytljbblfdaphjpab", sum := "5e440e27f6a4498b0b11759caec1c4c05cce27be8297d8075a33d73ab77df7d3", func := "loop.example/g01153/laws.FnExactReflectedCounter", spec := "fnExactReflectedCounter", unfollowed := true, recurses := true, apart := false }
def FnExactReflectedCounterSaid : Prop := fnExactReflectedCounterRow.holds Try.pinned (OpenSpec.ofChange fnExactReflectedCounterSpec)

/-- ITS FALSE NEIGHBOUR: 'it returns false'. Refute it at one input. -/
def fnExactReflectedCounterWrong : ChangeSpec := { name := "fnExactReflectedCounter", fn := fun _ => fun
  | [d] => { results := [.lit (.bool false)], args := [d] }
  | _ => none }
def FnExactReflectedCounterWrongFalsely : Prop := fnExactReflectedCounterRow.holds Try.pinned (OpenSpec.ofChange fnExactReflectedCounterWrong)

/-- 'laws.FnExactRingCounter': WHATEVER THE INPUT: true; the input reads as it did. -/
def fnExactRingCounterSpec : ChangeSpec := { name := "fnExactRingCounter", fn := fun _ => fun
  | [d] => { results := [.lit (.bool true)], args := [d] }
  | _ => none }
def fnExactRingCounterRow : OpenClaim := { program := "ytljbblfdaphjpab", sum := "5e440e27f6a4498b0b11759caec1c4c05cce27be8297d8075a33d73ab77df7d3", func := "loop.example/g01153/laws.FnExactRingCounter", spec := "fnExactRingCounter", unfollowed := true, recurses := true, apart := false }
def FnExactRingCounterSaid : Prop := fnExactRingCounterRow.holds Try.pinned (OpenSpec.ofChange fnExactRingCounterSpec)

/-- ITS FALSE NEIGHBOUR: 'it returns false'. Refute it at one input. -/
def fnExactRingCounterWrong : ChangeSpec := { name := "fnExactRingCounter", fn := fun _ => fun
  | [d] => { results := [.lit (.bool false)], args := [d] }
  | _ => none }
def FnExactRingCounterWrongFalsely : Prop := fnExactRingCounterRow.holds Try.pinned (OpenSpec.ofChange fnExactRingCounterWrong)

/-- 'laws.FnExactTwistedCounter': WHATEVER THE INPUT: true; the input reads as it did. -/
def fnExactTwistedCounterSpec : ChangeSpec := { name := "fnExactTwistedCounter", fn := fun _ => fun
  | [d] => { results := [.lit (.bool true)], args := [d] }
  | _ => none }
def fnExactTwistedCounterRow : OpenClaim := { program := "ytljbblfdaphjpab", sum := "5e440e27f6a4498b0b11759caec1c4c05cce27be8297d8075a33d73ab77df7d3", func := "loop.example/g01153/laws.FnExactTwistedCounter", spec := "fnExactTwistedCounter", unfollowed := true, recurses := true, apart := false }
def FnExactTwistedCounterSaid : Prop := fnExactTwistedCounterRow.holds Try.pinned (OpenSpec.ofChange fnExactTwistedCounterSpec)

/-- ITS FALSE NEIGHBOUR: 'it returns false'. Refute it at one input. -/
def fnExactTwistedCounterWrong : ChangeSpec := { name := "fnExactTwistedCounter", fn := fun _ => fun
  | [d] => { results := [.lit (.bool false)], args := [d] }
  | _ => none }
def FnExactTwistedCounterWrongFalsely : Prop := fnExactTwistedCounterRow.holds Try.pinned (OpenSpec.ofChange fnExactTwistedCounterWrong)

/-- 'laws.FnExactTapCounter': WHATEVER THE INPUT: true; the input reads as it did. -/
def fnExactTapCounterSpec : ChangeSpec := { name := "fnExactTapCounter", fn := fun _ => fun
  | [d1, d2] => { results := [.lit (.bool true)], args := [d1, d2] }
  | _ => none }
def fnExactTapCounterRow : OpenClaim := { program := "ytljbblfdaphjpab", sum := "5e440e27f6a4498b0b11759caec1c4c05cce27be8297d8075a33d73ab77df7d3", func := "loop.example/g01153/laws.FnExactTapCounter", spec := "fnExactTapCounter", unfollowed := true, recurses := true, apart := false }
def FnExactTapCounterSaid : Prop := fnExactTapCounterRow.holds Try.pinned (OpenSpec.ofChange fnExactTapCounterSpec)

/-- ITS FALSE NEIGHBOUR: 'it returns false'. Refute it at one input. -/
def fnExactTapCounterWrong : ChangeSpec := { name := "fnExactTapCounter", fn := fun _ => fun
  | [d1, d2] => { results := [.lit (.bool false)], args := [d1, d2] }
  | _ => none }
def FnExactTapCounterWrongFalsely : Prop := fnExactTapCounterRow.holds Try.pinned (OpenSpec.ofChange fnExactTapCounterWrong)

/-- 'laws.FnExactReflectedOf': WHATEVER THE INPUT: true; the input reads as it did. -/
def fnExactReflectedOfSpec : ChangeSpec := { name := "fnExactReflectedOf", fn := fun _ => fun
  | [d1, d2] => { results := [.lit (.bool true)], args := [d1, d2] }
  | _ => none }
def fnExactReflectedOfRow : OpenClaim := { program := "ytljbblfdaphjpab", sum := "5e440e27f6a4498b0b11759caec1c4c05cce27be8297d8075a33d73ab77df7d3", func := "loop.example/g01153/laws.FnExactReflectedOf", spec := "fnExactReflectedOf", apart := false }
def FnExactReflectedOfSaid : Prop := fnExactReflectedOfRow.holds Try.pinned (OpenSpec.ofChange fnExactReflectedOfSpec)

/-- ITS FALSE NEIGHBOUR: 'it returns false'. Refute it at one input. -/
def fnExactReflectedOfWrong : ChangeSpec := { name := "fnExactReflectedOf", fn := fun _ => fun
  | [d1, d2] => { results := [.lit (.bool false)], args := [d1, d2] }
  | _ => none }
def FnExactReflectedOfWrongFalsely : Prop := fnExactReflectedOfRow.holds Try.pinned (OpenSpec.ofChange fnExactReflectedOfWrong)

/-- 'laws.FnExactFromReflected': WHATEVER THE INPUT: true; the input reads as it did. -/
def fnExactFromReflectedSpec : ChangeSpec := { name := "fnExactFromReflected", fn := fun _ => fun
  | [d1, d2] => { results := [.lit (.bool true)], args := [d1, d2] }
  | _ => none }
def fnExactFromReflectedRow : OpenClaim := { program := "ytljbblfdaphjpab", sum := "5e440e27f6a4498b0b11759caec1c4c05cce27be8297d8075a33d73ab77df7d3", func := "loop.example/g01153/laws.FnExactFromReflected", spec := "fnExactFromReflected", apart := false }
def FnExactFromReflectedSaid : Prop := fnExactFromReflectedRow.holds Try.pinned (OpenSpec.ofChange fnExactFromReflectedSpec)

/-- ITS FALSE NEIGHBOUR: 'it returns false'. Refute it at one input. -/
def fnExactFromReflectedWrong : ChangeSpec := { name := "fnExactFromReflected", fn := fun _ => fun
  | [d1, d2] => { results := [.lit (.bool false)], args := [d1, d2] }
  | _ => none }
def FnExactFromReflectedWrongFalsely : Prop := fnExactFromReflectedRow.holds Try.pinned (OpenSpec.ofChange fnExactFromReflectedWrong)

/-- 'laws.FnExactStateAfter': WHATEVER THE INPUT: true; the input reads as it did. -/
def fnExactStateAfterSpec : ChangeSpec := { name := "fnExactStateAfter", fn := fun _ => fun
  | [d1, d2, d3] => { results := [.lit (.bool true)], args := [d1, d2, d3] }
  | _ => none }
def fnExactStateAfterRow : OpenClaim := { program := "ytljbblfdaphjpab", sum := "5e440e27f6a4498b0b11759caec1c4c05cce27be8297d8075a33d73ab77df7d3", func := "loop.example/g01153/laws.FnExactStateAfter", spec := "fnExactStateAfter", unfollowed := true, recurses := true, apart := false }
def FnExactStateAfterSaid : Prop := fnExactStateAfterRow.holds Try.pinned (OpenSpec.ofChange fnExactStateAfterSpec)

/-- ITS FALSE NEIGHBOUR: 'it returns false'. Refute it at one input. -/
def fnExactStateAfterWrong : ChangeSpec := { name := "fnExactStateAfter", fn := fun _ => fun
  | [d1, d2, d3] => { results := [.lit (.bool false)], args := [d1, d2, d3] }
  | _ => none }
def FnExactStateAfterWrongFalsely : Prop := fnExactStateAfterRow.holds Try.pinned (OpenSpec.ofChange fnExactStateAfterWrong)

/-- 'laws.FnExactRingsOf': WHATEVER THE INPUT: true; the input reads as it did. -/
def fnExactRingsOfSpec : ChangeSpec := { name := "fnExactRingsOf", fn := fun _ => fun
  | [d] => { results := [.lit (.bool true)], args := [d] }
  | _ => none }
def fnExactRingsOfRow : OpenClaim := { program := "ytljbblfdaphjpab", sum := "5e440e27f6a4498b0b11759caec1c4c05cce27be8297d8075a33d73ab77df7d3", func := "loop.example/g01153/laws.FnExactRingsOf", spec := "fnExactRingsOf", unfollowed := true, recurses := true, apart := false }
def FnExactRingsOfSaid : Prop := fnExactRingsOfRow.holds Try.pinned (OpenSpec.ofChange fnExactRingsOfSpec)

/-- ITS FALSE NEIGHBOUR: 'it returns false'. Refute it at one input. -/
def fnExactRingsOfWrong : ChangeSpec := { name := "fnExactRingsOf", fn := fun _ => fun
  | [d] => { results := [.lit (.bool false)], args := [d] }
  | _ => none }
def FnExactRingsOfWrongFalsely : Prop := fnExactRingsOfRow.holds Try.pinned (OpenSpec.ofChange fnExactRingsOfWrong)

/-- 'laws.FnExactTailOf': WHATEVER THE INPUT: true; the input reads as it did. -/
def fnExactTailOfSpec : ChangeSpec := { name := "fnExactTailOf", fn := fun _ => fun
  | [d1, d2] => { results := [.lit (.bool true)], args := [d1, d2] }
  | _ => none }
def fnExactTailOfRow : OpenClaim := { program := "ytljbblfdaphjpab", sum := "5e440e27f6a4498b0b11759caec1c4c05cce27be8297d8075a33d73ab77df7d3", func := "loop.example/g01153/laws.FnExactTailOf", spec := "fnExactTailOf", unfollowed := true, recurses := true, apart := false }
def FnExactTailOfSaid : Prop := fnExactTailOfRow.holds Try.pinned (OpenSpec.ofChange fnExactTailOfSpec)

/-- ITS FALSE NEIGHBOUR: 'it returns false'. Refute it at one input. -/
def fnExactTailOfWrong : ChangeSpec := { name := "fnExactTailOf", fn := fun _ => fun
  | [d1, d2] => { results := [.lit (.bool false)], args := [d1, d2] }
  | _ => none }
def FnExactTailOfWrongFalsely : Prop := fnExactTailOfRow.holds Try.pinned (OpenSpec.ofChange fnExactTailOfWrong)

/-- 'laws.FnExactIsSelfStarting': WHATEVER THE INPUT: true; the input reads as it did. -/
def fnExactIsSelfStartingSpec : ChangeSpec := { name := "fnExactIsSelfStarting", fn := fun _ => fun
  | [d1, d2] => { results := [.lit (.bool true)], args := [d1, d2] }
  | _ => none }
def fnExactIsSelfStartingRow : OpenClaim := { program := "ytljbblfdaphjpab", sum := "5e440e27f6a4498b0b11759caec1c4c05cce27be8297d8075a33d73ab77df7d3", func := "loop.example/g01153/laws.FnExactIsSelfStarting", spec := "fnExactIsSelfStarting", unfollowed := true, recurses := true, apart := false }
def FnExactIsSelfStartingSaid : Prop := fnExactIsSelfStartingRow.holds Try.pinned (OpenSpec.ofChange fnExactIsSelfStartingSpec)

/-- ITS FALSE NEIGHBOUR: 'it returns false'. Refute it at one input. -/
def fnExactIsSelfStartingWrong : ChangeSpec := { name := "fnExactIsSelfStarting", fn := fun _ => fun
  | [d1, d2] => { results := [.lit (.bool false)], args := [d1, d2] }
  | _ => none }
def FnExactIsSelfStartingWrongFalsely : Prop := fnExactIsSelfStartingRow.holds Try.pinned (OpenSpec.ofChange fnExactIsSelfStartingWrong)

/-- 'laws.FnExactMostChanged': WHATEVER THE INPUT: true; the input reads as it did. -/
def fnExactMostChangedSpec : ChangeSpec := { name := "fnExactMostChanged", fn := fun _ => fun
  | [d1, d2] => { results := [.lit (.bool true)], args := [d1, d2] }
  | _ => none }
def fnExactMostChangedRow : OpenClaim := { program := "ytljbblfdaphjpab", sum := "5e440e27f6a4498b0b11759caec1c4c05cce27be8297d8075a33d73ab77df7d3", func := "loop.example/g01153/laws.FnExactMostChanged", spec := "fnExactMostChanged", unfollowed := true, recurses := true, apart := false }
def FnExactMostChangedSaid : Prop := fnExactMostChangedRow.holds Try.pinned (OpenSpec.ofChange fnExactMostChangedSpec)

/-- ITS FALSE NEIGHBOUR: 'it returns false'. Refute it at one input. -/
def fnExactMostChangedWrong : ChangeSpec := { name := "fnExactMostChanged", fn := fun _ => fun
  | [d1, d2] => { results := [.lit (.bool false)], args := [d1, d2] }
  | _ => none }
def FnExactMostChangedWrongFalsely : Prop := fnExactMostChangedRow.holds Try.pinned (OpenSpec.ofChange fnExactMostChangedWrong)

/-- 'laws.FnExactRippleStates': WHATEVER THE INPUT: true; the input reads as it did. -/
def fnExactRippleStatesSpec : ChangeSpec := { name := "fnExactRippleStates", fn := fun _ => fun
  | [d1, d2] => { results := [.lit (.bool true)], args := [d1, d2] }
  | _ => none }
def fnExactRippleStatesRow : OpenClaim := { program := "ytljbblfdaphjpab", sum := "5e440e27f6a4498b0b11759caec1c4c05cce27be8297d8075a33d73ab77df7d3", func := "loop.example/g01153/laws.FnExactRippleStates", spec := "fnExactRippleStates", apart := false }
def FnExactRippleStatesSaid : Prop := fnExactRippleStatesRow.holds Try.pinned (OpenSpec.ofChange fnExactRippleStatesSpec)

/-- ITS FALSE NEIGHBOUR: 'it returns false'. Refute it at one input. -/
def fnExactRippleStatesWrong : ChangeSpec := { name := "fnExactRippleStates", fn := fun _ => fun
  | [d1, d2] => { results := [.lit (.bool false)], args := [d1, d2] }
  | _ => none }
def FnExactRippleStatesWrongFalsely : Prop := fnExactRippleStatesRow.holds Try.pinned (OpenSpec.ofChange fnExactRippleStatesWrong)

/- THE SECOND FORM. 'bulk': how many values and letters a reading holds, each counted each time it is reached (what is shared counts as often as it is met; a slice's spare places count too). A statement '..UptoSaid' is the law's where the arguments, and the package variables that the reading takes, are together of bulk at most 1048576: NARROWER than '..Said'. Prove '..Said' where nothing that the law and all that it calls make is longer than what came in: it says more and counts as full. Else prove '..UptoSaid'. A law counts once. -/
mutual
def uptoBulk {H : Type} : DataW H → Nat
  | .lit (.string bytes) => bytes.length + 1
  | .lit _ => 1
  | .nil => 1
  | .ptr d => uptoBulk d + 1
  | .slice elems spare => uptoBulkAll elems + uptoBulkAll spare + 1
  | .agg parts => uptoBulkAll parts + 1
  | .iface _ d => uptoBulk d + 1
  | .map entries => uptoBulkEntries entries + 1
  | .held _ => 1
def uptoBulkAll {H : Type} : List (DataW H) → Nat
  | [] => 0
  | d :: r => uptoBulk d + uptoBulkAll r
def uptoBulkEntries {H : Type} : List (Lit × DataW H) → Nat
  | [] => 0
  | x :: r => uptoBulkEntry x + uptoBulkEntries r
def uptoBulkEntry {H : Type} : Lit × DataW H → Nat
  | (.string bytes, d) => bytes.length + uptoBulk d + 1
  | (_, d) => uptoBulk d + 1
 end
def uptoSmall : (H : Type) → List (DataW H) → Bool := fun _ ds => decide (uptoBulkAll ds ≤ 1048576)
def OpenSpec.upto (s : _root_.Go.ChangeSpec) : _root_.Go.OpenSpec := { _root_.Go.OpenSpec.ofChange s with cond := some uptoSmall }

/-- 'laws.FnExactReflectedCounter', WHERE WHAT IT READS IS OF BULK AT MOST 1048576: true; the input reads as it did. -/
def fnExactReflectedCounterUptoRow : OpenClaim := { program := "ytljbblfdaphjpab", sum := "5e440e27f6a4498b0b11759caec1c4c05cce27be8297d8075a33d73ab77df7d3", func := "loop.example/g01153/laws.FnExactReflectedCounter", spec := "fnExactReflectedCounter", unfollowed := true, recurses := true, apart := false, narrowed := true }
def FnExactReflectedCounterUptoSaid : Prop := fnExactReflectedCounterUptoRow.holds Try.pinned (OpenSpec.upto fnExactReflectedCounterSpec)

/-- 'laws.FnExactRingCounter', WHERE WHAT IT READS IS OF BULK AT MOST 1048576: true; the input reads as it did. -/
def fnExactRingCounterUptoRow : OpenClaim := { program := "ytljbblfdaphjpab", sum := "5e440e27f6a4498b0b11759caec1c4c05cce27be8297d8075a33d73ab77df7d3", func := "loop.example/g01153/laws.FnExactRingCounter", spec := "fnExactRingCounter", unfollowed := true, recurses := true, apart := false, narrowed := true }
def FnExactRingCounterUptoSaid : Prop := fnExactRingCounterUptoRow.holds Try.pinned (OpenSpec.upto fnExactRingCounterSpec)

/-- 'laws.FnExactTwistedCounter', WHERE WHAT IT READS IS OF BULK AT MOST 1048576: true; the input reads as it did. -/
def fnExactTwistedCounterUptoRow : OpenClaim := { program := "ytljbblfdaphjpab", sum := "5e440e27f6a4498b0b11759caec1c4c05cce27be8297d8075a33d73ab77df7d3", func := "loop.example/g01153/laws.FnExactTwistedCounter", spec := "fnExactTwistedCounter", unfollowed := true, recurses := true, apart := false, narrowed := true }
def FnExactTwistedCounterUptoSaid : Prop := fnExactTwistedCounterUptoRow.holds Try.pinned (OpenSpec.upto fnExactTwistedCounterSpec)

/-- 'laws.FnExactTapCounter', WHERE WHAT IT READS IS OF BULK AT MOST 1048576: true; the input reads as it did. -/
def fnExactTapCounterUptoRow : OpenClaim := { program := "ytljbblfdaphjpab", sum := "5e440e27f6a4498b0b11759caec1c4c05cce27be8297d8075a33d73ab77df7d3", func := "loop.example/g01153/laws.FnExactTapCounter", spec := "fnExactTapCounter", unfollowed := true, recurses := true, apart := false, narrowed := true }
def FnExactTapCounterUptoSaid : Prop := fnExactTapCounterUptoRow.holds Try.pinned (OpenSpec.upto fnExactTapCounterSpec)

/-- 'laws.FnExactReflectedOf', WHERE WHAT IT READS IS OF BULK AT MOST 1048576: true; the input reads as it did. -/
def fnExactReflectedOfUptoRow : OpenClaim := { program := "ytljbblfdaphjpab", sum := "5e440e27f6a4498b0b11759caec1c4c05cce27be8297d8075a33d73ab77df7d3", func := "loop.example/g01153/laws.FnExactReflectedOf", spec := "fnExactReflectedOf", apart := false, narrowed := true }
def FnExactReflectedOfUptoSaid : Prop := fnExactReflectedOfUptoRow.holds Try.pinned (OpenSpec.upto fnExactReflectedOfSpec)

/-- 'laws.FnExactFromReflected', WHERE WHAT IT READS IS OF BULK AT MOST 1048576: true; the input reads as it did. -/
def fnExactFromReflectedUptoRow : OpenClaim := { program := "ytljbblfdaphjpab", sum := "5e440e27f6a4498b0b11759caec1c4c05cce27be8297d8075a33d73ab77df7d3", func := "loop.example/g01153/laws.FnExactFromReflected", spec := "fnExactFromReflected", apart := false, narrowed := true }
def FnExactFromReflectedUptoSaid : Prop := fnExactFromReflectedUptoRow.holds Try.pinned (OpenSpec.upto fnExactFromReflectedSpec)

/-- 'laws.FnExactStateAfter', WHERE WHAT IT READS IS OF BULK AT MOST 1048576: true; the input reads as it did. -/
def fnExactStateAfterUptoRow : OpenClaim := { program := "ytljbblfdaphjpab", sum := "5e440e27f6a4498b0b11759caec1c4c05cce27be8297d8075a33d73ab77df7d3", func := "loop.example/g01153/laws.FnExactStateAfter", spec := "fnExactStateAfter", unfollowed := true, recurses := true, apart := false, narrowed := true }
def FnExactStateAfterUptoSaid : Prop := fnExactStateAfterUptoRow.holds Try.pinned (OpenSpec.upto fnExactStateAfterSpec)

/-- 'laws.FnExactRingsOf', WHERE WHAT IT READS IS OF BULK AT MOST 1048576: true; the input reads as it did. -/
def fnExactRingsOfUptoRow : OpenClaim := { program := "ytljbblfdaphjpab", sum := "5e440e27f6a4498b0b11759caec1c4c05cce27be8297d8075a33d73ab77df7d3", func := "loop.example/g01153/laws.FnExactRingsOf", spec := "fnExactRingsOf", unfollowed := true, recurses := true, apart := false, narrowed := true }
def FnExactRingsOfUptoSaid : Prop := fnExactRingsOfUptoRow.holds Try.pinned (OpenSpec.upto fnExactRingsOfSpec)

/-- 'laws.FnExactTailOf', WHERE WHAT IT READS IS OF BULK AT MOST 1048576: true; the input reads as it did. -/
def fnExactTailOfUptoRow : OpenClaim := { program := "ytljbblfdaphjpab", sum := "5e440e27f6a4498b0b11759caec1c4c05cce27be8297d8075a33d73ab77df7d3", func := "loop.example/g01153/laws.FnExactTailOf", spec := "fnExactTailOf", unfollowed := true, recurses := true, apart := false, narrowed := true }
def FnExactTailOfUptoSaid : Prop := fnExactTailOfUptoRow.holds Try.pinned (OpenSpec.upto fnExactTailOfSpec)

/-- 'laws.FnExactIsSelfStarting', WHERE WHAT IT READS IS OF BULK AT MOST 1048576: true; the input reads as it did. -/
def fnExactIsSelfStartingUptoRow : OpenClaim := { program := "ytljbblfdaphjpab", sum := "5e440e27f6a4498b0b11759caec1c4c05cce27be8297d8075a33d73ab77df7d3", func := "loop.example/g01153/laws.FnExactIsSelfStarting", spec := "fnExactIsSelfStarting", unfollowed := true, recurses := true, apart := false, narrowed := true }
def FnExactIsSelfStartingUptoSaid : Prop := fnExactIsSelfStartingUptoRow.holds Try.pinned (OpenSpec.upto fnExactIsSelfStartingSpec)

/-- 'laws.FnExactMostChanged', WHERE WHAT IT READS IS OF BULK AT MOST 1048576: true; the input reads as it did. -/
def fnExactMostChangedUptoRow : OpenClaim := { program := "ytljbblfdaphjpab", sum := "5e440e27f6a4498b0b11759caec1c4c05cce27be8297d8075a33d73ab77df7d3", func := "loop.example/g01153/laws.FnExactMostChanged", spec := "fnExactMostChanged", unfollowed := true, recurses := true, apart := false, narrowed := true }
def FnExactMostChangedUptoSaid : Prop := fnExactMostChangedUptoRow.holds Try.pinned (OpenSpec.upto fnExactMostChangedSpec)

/-- 'laws.FnExactRippleStates', WHERE WHAT IT READS IS OF BULK AT MOST 1048576: true; the input reads as it did. -/
def fnExactRippleStatesUptoRow : OpenClaim := { program := "ytljbblfdaphjpab", sum := "5e440e27f6a4498b0b11759caec1c4c05cce27be8297d8075a33d73ab77df7d3", func := "loop.example/g01153/laws.FnExactRippleStates", spec := "fnExactRippleStates", apart := false, narrowed := true }
def FnExactRippleStatesUptoSaid : Prop := fnExactRippleStatesUptoRow.holds Try.pinned (OpenSpec.upto fnExactRippleStatesSpec)

end Rows
end Go.Proofs.Ytljbblfdaphjpab
