/-
  DERIVED. GIVEN WITH THE SEED: THE CARDS: each row of YtmhkeiccemfpeaaDoorRows.lean that lists a variable, with what it lists TIED to the program's text (the seventh form; the later family's looks); each row that meets fmt, with fmt's text TOLD by the authors' own Lean function (tested against real Go, not proved from fmt's source: count such statements apart). THE CARD IS WHAT COUNTS. Prove the row's statement (the work); the ties are given (YtmhkeiccemfpeaaDoorTie.lean); close each card by the builder's one call (the guide's Derived/Test/ToyasCard.lean, 'card_holds'). Laid BY PROGRAM, IN A SANDBOX (cutbox-door.mjs). By AI agents, Wed Nov 11 2026. No macro, syntax, notation, axiom, sorry.
-/
import Derived.Test.YtmhkeiccemfpeaaDoorRows
import GoSem.ClaimSeven
namespace Go.Proofs.YtmhkeiccemfpeaaDoor
namespace Rows

/-- THE TIED CARD OF 'laws.FnExactFlowText'. -/
def fnExactFlowTextCard : Claim7 := { stood := { row := fnExactFlowTextRow, standIns := [], harness := (true, "ab1eea3ed684e27e9ba547099bbdaf2dcf5e7fa1597f421fc7cb5d0b857a41da"), looks := false }, kinds := [], alts := [], laidByText := true, laidKinds := [.data, .data, .data], laidTests := true, laidLooks := .later }
def FnExactFlowTextCardSaid : Prop := Claim7.holds Tryd.pinned (.plain (OpenSpec.ofChange fnExactFlowTextSpec)) fnExactFlowTextCard

/-- THE SECOND FORM's CARD OF 'laws.FnExactFlowText'. -/
def fnExactFlowTextUptoCard : Claim7 := { stood := { row := fnExactFlowTextUptoRow, standIns := [], harness := (true, "ab1eea3ed684e27e9ba547099bbdaf2dcf5e7fa1597f421fc7cb5d0b857a41da"), looks := false }, kinds := [], alts := [], laidByText := true, laidKinds := [.data, .data, .data], laidTests := true, laidLooks := .later }
def FnExactFlowTextUptoCardSaid : Prop := Claim7.holds Tryd.pinned (.plain (OpenSpec.upto fnExactFlowTextSpec)) fnExactFlowTextUptoCard
end Rows
end Go.Proofs.YtmhkeiccemfpeaaDoor
