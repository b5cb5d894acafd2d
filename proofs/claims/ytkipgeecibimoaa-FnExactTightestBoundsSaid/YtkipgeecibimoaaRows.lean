/-
  No cell of these rows narrows 'for every input' (looked for: loops, veiled, ifaces, maps, wideKeys, modest, calm, conditions, laid).
  DERIVED. THE GIVEN ROWS OF THIS SEAT. 9 by the template 'for every input the law returns true; each argument reads behind the call as it read before'; 0 by the template 'total and deterministic' (their statements: YtkipgeecibimoaaTotals.lean).
  GIVEN WITH THE SEED: the statements are not yours to turn. If you find one false, say at which input.
  Laid BY PROGRAM, IN A SANDBOX (cutbox-rows.mjs): the forced cells as the released guide's own fill.sh prints them over the translation 9c07c1ba4fffefaf… (all of the seat's roots in one cut). By AI agents, Wed Nov 11 2026. No macro, syntax, notation, axiom, sorry.
-/
import Derived.Test.YtkipgeecibimoaaChecked
import GoSem.Claim
import GoSem.ClaimJoined
import GoSem.ClaimMapViews
import Derived.JoinedTies
import Derived.KernelRfl
namespace Go.Proofs.Ytkipgeecibimoaa
/- THE CELL 'sum', in the pinned program and in every row, IS THE sha256 OF THE DUMP (.gsa) THAT YtkipgeecibimoaaProg.lean LOADS. Nothing in Lean hashes anything: it is a label: what it is worth is what the hold of that sum in a sandbox is worth. -/
noncomputable def Try.pinned : Pinned := { name := "ytkipgeecibimoaa", sum := "9c07c1ba4fffefaf74d4f070d9d2828abf439462e067073842789f4504bc0930", checked := Try.checked }
namespace Rows
def none {H : Type} : Left H := { results := [], args := [] }

/-- 'laws.FnExactDropPulses': WHATEVER THE INPUT: true; the input reads as it did. -/
def fnExactDropPulsesSpec : ChangeSpec := { name := "fnExactDropPulses", fn := fun _ => fun
  | [d1, d2] => { results := [.lit (.bool true)], args := [d1, d2] }
  | _ => none }
def fnExactDropPulsesRow : OpenClaim := { program := "ytkipgeecibimoaa", sum := "9c07c1ba4fffefaf74d4f070d9d2828abf439462e067073842789f4504bc0930", func := "loop.example/g01153/laws.FnExactDropPulses", spec := "fnExactDropPulses", inPlace := ["internal/abi.NoEscape", "internal/bytealg.MakeNoZero"], unfollowed := true, recurses := true, plainKeys := false, apart := false }
def FnExactDropPulsesSaid : Prop := fnExactDropPulsesRow.holds Try.pinned (OpenSpec.ofChange fnExactDropPulsesSpec)

/-- ITS FALSE NEIGHBOUR: 'it returns false'. Refute it at one input. -/
def fnExactDropPulsesWrong : ChangeSpec := { name := "fnExactDropPulses", fn := fun _ => fun
  | [d1, d2] => { results := [.lit (.bool false)], args := [d1, d2] }
  | _ => none }
def FnExactDropPulsesWrongFalsely : Prop := fnExactDropPulsesRow.holds Try.pinned (OpenSpec.ofChange fnExactDropPulsesWrong)

/-- 'laws.FnShots': WHATEVER THE INPUT: true; the input reads as it did. -/
def fnShotsSpec : ChangeSpec := { name := "fnShots", fn := fun _ => fun
  | [d1, d2] => { results := [.lit (.bool true)], args := [d1, d2] }
  | _ => none }
def fnShotsRow : OpenClaim := { program := "ytkipgeecibimoaa", sum := "9c07c1ba4fffefaf74d4f070d9d2828abf439462e067073842789f4504bc0930", func := "loop.example/g01153/laws.FnShots", spec := "fnShots", inPlace := ["internal/abi.NoEscape"], unfollowed := true, recurses := true, plainKeys := false, apart := false }
def FnShotsSaid : Prop := fnShotsRow.holds Try.pinned (OpenSpec.ofChange fnShotsSpec)

/-- ITS FALSE NEIGHBOUR: 'it returns false'. Refute it at one input. -/
def fnShotsWrong : ChangeSpec := { name := "fnShots", fn := fun _ => fun
  | [d1, d2] => { results := [.lit (.bool false)], args := [d1, d2] }
  | _ => none }
def FnShotsWrongFalsely : Prop := fnShotsRow.holds Try.pinned (OpenSpec.ofChange fnShotsWrong)

/-- 'laws.FnCounted': WHATEVER THE INPUT: true; the input reads as it did. -/
def fnCountedSpec : ChangeSpec := { name := "fnCounted", fn := fun _ => fun
  | [d1, d2] => { results := [.lit (.bool true)], args := [d1, d2] }
  | _ => none }
def fnCountedRow : OpenClaim := { program := "ytkipgeecibimoaa", sum := "9c07c1ba4fffefaf74d4f070d9d2828abf439462e067073842789f4504bc0930", func := "loop.example/g01153/laws.FnCounted", spec := "fnCounted", inPlace := ["internal/abi.NoEscape"], unfollowed := true, recurses := true, plainKeys := false, apart := false }
def FnCountedSaid : Prop := fnCountedRow.holds Try.pinned (OpenSpec.ofChange fnCountedSpec)

/-- ITS FALSE NEIGHBOUR: 'it returns false'. Refute it at one input. -/
def fnCountedWrong : ChangeSpec := { name := "fnCounted", fn := fun _ => fun
  | [d1, d2] => { results := [.lit (.bool false)], args := [d1, d2] }
  | _ => none }
def FnCountedWrongFalsely : Prop := fnCountedRow.holds Try.pinned (OpenSpec.ofChange fnCountedWrong)

/-- 'laws.FnEven': WHATEVER THE INPUT: true; the input reads as it did. -/
def fnEvenSpec : ChangeSpec := { name := "fnEven", fn := fun _ => fun
  | [d1, d2] => { results := [.lit (.bool true)], args := [d1, d2] }
  | _ => none }
def fnEvenRow : OpenClaim := { program := "ytkipgeecibimoaa", sum := "9c07c1ba4fffefaf74d4f070d9d2828abf439462e067073842789f4504bc0930", func := "loop.example/g01153/laws.FnEven", spec := "fnEven", inPlace := ["internal/abi.NoEscape", "internal/bytealg.CountString", "internal/bytealg.IndexByteString", "internal/bytealg.IndexString"], named := ["internal/bytealg.MaxLen"], plainKeys := false, apart := false }
def FnEvenSaid : Prop := fnEvenRow.holds Try.pinned (OpenSpec.ofChange fnEvenSpec)

/-- ITS FALSE NEIGHBOUR: 'it returns false'. Refute it at one input. -/
def fnEvenWrong : ChangeSpec := { name := "fnEven", fn := fun _ => fun
  | [d1, d2] => { results := [.lit (.bool false)], args := [d1, d2] }
  | _ => none }
def FnEvenWrongFalsely : Prop := fnEvenRow.holds Try.pinned (OpenSpec.ofChange fnEvenWrong)

/-- 'laws.FnGated': WHATEVER THE INPUT: true; the input reads as it did. -/
def fnGatedSpec : ChangeSpec := { name := "fnGated", fn := fun _ => fun
  | [d1, d2] => { results := [.lit (.bool true)], args := [d1, d2] }
  | _ => none }
def fnGatedRow : OpenClaim := { program := "ytkipgeecibimoaa", sum := "9c07c1ba4fffefaf74d4f070d9d2828abf439462e067073842789f4504bc0930", func := "loop.example/g01153/laws.FnGated", spec := "fnGated", inPlace := ["internal/abi.NoEscape"], unfollowed := true, recurses := true, plainKeys := false, apart := false }
def FnGatedSaid : Prop := fnGatedRow.holds Try.pinned (OpenSpec.ofChange fnGatedSpec)

/-- ITS FALSE NEIGHBOUR: 'it returns false'. Refute it at one input. -/
def fnGatedWrong : ChangeSpec := { name := "fnGated", fn := fun _ => fun
  | [d1, d2] => { results := [.lit (.bool false)], args := [d1, d2] }
  | _ => none }
def FnGatedWrongFalsely : Prop := fnGatedRow.holds Try.pinned (OpenSpec.ofChange fnGatedWrong)

/-- 'laws.FnExactTightestBounds': WHATEVER THE INPUT: true; the input reads as it did. -/
def fnExactTightestBoundsSpec : ChangeSpec := { name := "fnExactTightestBounds", fn := fun _ => fun
  | [d] => { results := [.lit (.bool true)], args := [d] }
  | _ => none }
def fnExactTightestBoundsRow : OpenClaim := { program := "ytkipgeecibimoaa", sum := "9c07c1ba4fffefaf74d4f070d9d2828abf439462e067073842789f4504bc0930", func := "loop.example/g01153/laws.FnExactTightestBounds", spec := "fnExactTightestBounds", plainKeys := false, apart := false }
def FnExactTightestBoundsSaid : Prop := fnExactTightestBoundsRow.holds Try.pinned (OpenSpec.ofChange fnExactTightestBoundsSpec)

/-- ITS FALSE NEIGHBOUR: 'it returns false'. Refute it at one input. -/
def fnExactTightestBoundsWrong : ChangeSpec := { name := "fnExactTightestBounds", fn := fun _ => fun
  | [d] => { results := [.lit (.bool false)], args := [d] }
  | _ => none }
def FnExactTightestBoundsWrongFalsely : Prop := fnExactTightestBoundsRow.holds Try.pinned (OpenSpec.ofChange fnExactTightestBoundsWrong)

/-- 'laws.FnExactIsSelfStarting': WHATEVER THE INPUT: true; the input reads as it did. -/
def fnExactIsSelfStartingSpec : ChangeSpec := { name := "fnExactIsSelfStarting", fn := fun _ => fun
  | [d1, d2] => { results := [.lit (.bool true)], args := [d1, d2] }
  | _ => none }
def fnExactIsSelfStartingRow : OpenClaim := { program := "ytkipgeecibimoaa", sum := "9c07c1ba4fffefaf74d4f070d9d2828abf439462e067073842789f4504bc0930", func := "loop.example/g01153/laws.FnExactIsSelfStarting", spec := "fnExactIsSelfStarting", unfollowed := true, recurses := true, plainKeys := false, apart := false }
def FnExactIsSelfStartingSaid : Prop := fnExactIsSelfStartingRow.holds Try.pinned (OpenSpec.ofChange fnExactIsSelfStartingSpec)

/-- ITS FALSE NEIGHBOUR: 'it returns false'. Refute it at one input. -/
def fnExactIsSelfStartingWrong : ChangeSpec := { name := "fnExactIsSelfStarting", fn := fun _ => fun
  | [d1, d2] => { results := [.lit (.bool false)], args := [d1, d2] }
  | _ => none }
def FnExactIsSelfStartingWrongFalsely : Prop := fnExactIsSelfStartingRow.holds Try.pinned (OpenSpec.ofChange fnExactIsSelfStartingWrong)

/-- 'laws.FnExactRingsOf': WHATEVER THE INPUT: true; the input reads as it did. -/
def fnExactRingsOfSpec : ChangeSpec := { name := "fnExactRingsOf", fn := fun _ => fun
  | [d] => { results := [.lit (.bool true)], args := [d] }
  | _ => none }
def fnExactRingsOfRow : OpenClaim := { program := "ytkipgeecibimoaa", sum := "9c07c1ba4fffefaf74d4f070d9d2828abf439462e067073842789f4504bc0930", func := "loop.example/g01153/laws.FnExactRingsOf", spec := "fnExactRingsOf", unfollowed := true, recurses := true, plainKeys := false, apart := false }
def FnExactRingsOfSaid : Prop := fnExactRingsOfRow.holds Try.pinned (OpenSpec.ofChange fnExactRingsOfSpec)

/-- ITS FALSE NEIGHBOUR: 'it returns false'. Refute it at one input. -/
def fnExactRingsOfWrong : ChangeSpec := { name := "fnExactRingsOf", fn := fun _ => fun
  | [d] => { results := [.lit (.bool false)], args := [d] }
  | _ => none }
def FnExactRingsOfWrongFalsely : Prop := fnExactRingsOfRow.holds Try.pinned (OpenSpec.ofChange fnExactRingsOfWrong)

/-- 'laws.FnDivided': WHATEVER THE INPUT: true; the input reads as it did. -/
def fnDividedSpec : ChangeSpec := { name := "fnDivided", fn := fun _ => fun
  | [d1, d2] => { results := [.lit (.bool true)], args := [d1, d2] }
  | _ => none }
def fnDividedRow : OpenClaim := { program := "ytkipgeecibimoaa", sum := "9c07c1ba4fffefaf74d4f070d9d2828abf439462e067073842789f4504bc0930", func := "loop.example/g01153/laws.FnDivided", spec := "fnDivided", inPlace := ["internal/abi.NoEscape", "internal/bytealg.MakeNoZero"], unfollowed := true, recurses := true, plainKeys := false, apart := false }
def FnDividedSaid : Prop := fnDividedRow.holds Try.pinned (OpenSpec.ofChange fnDividedSpec)

/-- ITS FALSE NEIGHBOUR: 'it returns false'. Refute it at one input. -/
def fnDividedWrong : ChangeSpec := { name := "fnDivided", fn := fun _ => fun
  | [d1, d2] => { results := [.lit (.bool false)], args := [d1, d2] }
  | _ => none }
def FnDividedWrongFalsely : Prop := fnDividedRow.holds Try.pinned (OpenSpec.ofChange fnDividedWrong)

/- THE SECOND FORM. 'bulk': how many values and letters a reading holds, each counted each time it is reached (what is shared counts as often as it is met; a slice's spare places count too). A statement '..UptoSaid' is the law's where the arguments, and the package variables that the reading takes, are together of bulk at most 1048576: NARROWER than '..Said'. Prove '..Said' where nothing that the law and all that it calls make is longer than what came in: it says more and counts as full. Else prove '..UptoSaid'. A law counts once. -/
mutual
def uptoBulk {H : Type} : DataW H → Nat
  | .lit (.string bytes) => bytes.length + 1
  | .lit _ => 1
  | .nil => 1
  | .ptr d => uptoBulk d + 1
  | .slice elems spare => uptoBulkAll elems + uptoBulkAll spare + 1
  | .agg parts => uptoBulkAll parts + 1
  | .iface _ d => uptoBulk d + 1
  | .map entries => uptoBulkEntries entries + 1
  | .held _ => 1
def uptoBulkAll {H : Type} : List (DataW H) → Nat
  | [] => 0
  | d :: r => uptoBulk d + uptoBulkAll r
def uptoBulkEntries {H : Type} : List (Lit × DataW H) → Nat
  | [] => 0
  | x :: r => uptoBulkEntry x + uptoBulkEntries r
def uptoBulkEntry {H : Type} : Lit × DataW H → Nat
  | (.string bytes, d) => bytes.length + uptoBulk d + 1
  | (_, d) => uptoBulk d + 1
 end
def uptoSmall : (H : Type) → List (DataW H) → Bool := fun _ ds => decide (uptoBulkAll ds ≤ 1048576)
def OpenSpec.upto (s : _root_.Go.ChangeSpec) : _root_.Go.OpenSpec := { _root_.Go.OpenSpec.ofChange s with cond := some uptoSmall }

/-- 'laws.FnExactDropPulses', WHERE WHAT IT READS IS OF BULK AT MOST 1048576: true; the input reads as it did. -/
def fnExactDropPulsesUptoRow : OpenClaim := { program := "ytkipgeecibimoaa", sum := "9c07c1ba4fffefaf74d4f070d9d2828abf439462e067073842789f4504bc0930", func := "loop.example/g01153/laws.FnExactDropPulses", spec := "fnExactDropPulses", inPlace := ["internal/abi.NoEscape", "internal/bytealg.MakeNoZero"], unfollowed := true, recurses := true, plainKeys := false, apart := false, narrowed := true }
def FnExactDropPulsesUptoSaid : Prop := fnExactDropPulsesUptoRow.holds Try.pinned (OpenSpec.upto fnExactDropPulsesSpec)

/-- 'laws.FnShots', WHERE WHAT IT READS IS OF BULK AT MOST 1048576: true; the input reads as it did. -/
def fnShotsUptoRow : OpenClaim := { program := "ytkipgeecibimoaa", sum := "9c07c1ba4fffefaf74d4f070d9d2828abf439462e067073842789f4504bc0930", func := "loop.example/g01153/laws.FnShots", spec := "fnShots", inPlace := ["internal/abi.NoEscape"], unfollowed := true, recurses := true, plainKeys := false, apart := false, narrowed := true }
def FnShotsUptoSaid : Prop := fnShotsUptoRow.holds Try.pinned (OpenSpec.upto fnShotsSpec)

/-- 'laws.FnCounted', WHERE WHAT IT READS IS OF BULK AT MOST 1048576: true; the input reads as it did. -/
def fnCountedUptoRow : OpenClaim := { program := "ytkipgeecibimoaa", sum := "9c07c1ba4fffefaf74d4f070d9d2828abf439462e067073842789f4504bc0930", func := "loop.example/g01153/laws.FnCounted", spec := "fnCounted", inPlace := ["internal/abi.NoEscape"], unfollowed := true, recurses := true, plainKeys := false, apart := false, narrowed := true }
def FnCountedUptoSaid : Prop := fnCountedUptoRow.holds Try.pinned (OpenSpec.upto fnCountedSpec)

/-- 'laws.FnEven', WHERE WHAT IT READS IS OF BULK AT MOST 1048576: true; the input reads as it did. -/
def fnEvenUptoRow : OpenClaim := { program := "ytkipgeecibimoaa", sum := "9c07c1ba4fffefaf74d4f070d9d2828abf439462e067073842789f4504bc0930", func := "loop.example/g01153/laws.FnEven", spec := "fnEven", inPlace := ["internal/abi.NoEscape", "internal/bytealg.CountString", "internal/bytealg.IndexByteString", "internal/bytealg.IndexString"], named := ["internal/bytealg.MaxLen"], plainKeys := false, apart := false, narrowed := true }
def FnEvenUptoSaid : Prop := fnEvenUptoRow.holds Try.pinned (OpenSpec.upto fnEvenSpec)

/-- 'laws.FnGated', WHERE WHAT IT READS IS OF BULK AT MOST 1048576: true; the input reads as it did. -/
def fnGatedUptoRow : OpenClaim := { program := "ytkipgeecibimoaa", sum := "9c07c1ba4fffefaf74d4f070d9d2828abf439462e067073842789f4504bc0930", func := "loop.example/g01153/laws.FnGated", spec := "fnGated", inPlace := ["internal/abi.NoEscape"], unfollowed := true, recurses := true, plainKeys := false, apart := false, narrowed := true }
def FnGatedUptoSaid : Prop := fnGatedUptoRow.holds Try.pinned (OpenSpec.upto fnGatedSpec)

/-- 'laws.FnExactTightestBounds', WHERE WHAT IT READS IS OF BULK AT MOST 1048576: true; the input reads as it did. -/
def fnExactTightestBoundsUptoRow : OpenClaim := { program := "ytkipgeecibimoaa", sum := "9c07c1ba4fffefaf74d4f070d9d2828abf439462e067073842789f4504bc0930", func := "loop.example/g01153/laws.FnExactTightestBounds", spec := "fnExactTightestBounds", plainKeys := false, apart := false, narrowed := true }
def FnExactTightestBoundsUptoSaid : Prop := fnExactTightestBoundsUptoRow.holds Try.pinned (OpenSpec.upto fnExactTightestBoundsSpec)

/-- 'laws.FnExactIsSelfStarting', WHERE WHAT IT READS IS OF BULK AT MOST 1048576: true; the input reads as it did. -/
def fnExactIsSelfStartingUptoRow : OpenClaim := { program := "ytkipgeecibimoaa", sum := "9c07c1ba4fffefaf74d4f070d9d2828abf439462e067073842789f4504bc0930", func := "loop.example/g01153/laws.FnExactIsSelfStarting", spec := "fnExactIsSelfStarting", unfollowed := true, recurses := true, plainKeys := false, apart := false, narrowed := true }
def FnExactIsSelfStartingUptoSaid : Prop := fnExactIsSelfStartingUptoRow.holds Try.pinned (OpenSpec.upto fnExactIsSelfStartingSpec)

/-- 'laws.FnExactRingsOf', WHERE WHAT IT READS IS OF BULK AT MOST 1048576: true; the input reads as it did. -/
def fnExactRingsOfUptoRow : OpenClaim := { program := "ytkipgeecibimoaa", sum := "9c07c1ba4fffefaf74d4f070d9d2828abf439462e067073842789f4504bc0930", func := "loop.example/g01153/laws.FnExactRingsOf", spec := "fnExactRingsOf", unfollowed := true, recurses := true, plainKeys := false, apart := false, narrowed := true }
def FnExactRingsOfUptoSaid : Prop := fnExactRingsOfUptoRow.holds Try.pinned (OpenSpec.upto fnExactRingsOfSpec)

/-- 'laws.FnDivided', WHERE WHAT IT READS IS OF BULK AT MOST 1048576: true; the input reads as it did. -/
def fnDividedUptoRow : OpenClaim := { program := "ytkipgeecibimoaa", sum := "9c07c1ba4fffefaf74d4f070d9d2828abf439462e067073842789f4504bc0930", func := "loop.example/g01153/laws.FnDivided", spec := "fnDivided", inPlace := ["internal/abi.NoEscape", "internal/bytealg.MakeNoZero"], unfollowed := true, recurses := true, plainKeys := false, apart := false, narrowed := true }
def FnDividedUptoSaid : Prop := fnDividedUptoRow.holds Try.pinned (OpenSpec.upto fnDividedSpec)

end Rows
end Go.Proofs.Ytkipgeecibimoaa
