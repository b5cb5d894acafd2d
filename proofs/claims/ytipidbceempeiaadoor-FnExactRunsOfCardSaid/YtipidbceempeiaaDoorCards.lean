/-
  DERIVED. GIVEN WITH THE SEED: THE CARDS: each row of YtipidbceempeiaaDoorRows.lean that lists a variable, with what it lists TIED to the program's text (the seventh form; the later family's looks); each row that meets fmt, with fmt's text TOLD by the authors' own Lean function (tested against real Go, not proved from fmt's source: count such statements apart). THE CARD IS WHAT COUNTS. Prove the row's statement (the work); the ties are given (YtipidbceempeiaaDoorTie.lean); close each card by the builder's one call (the guide's Derived/Test/ToyasCard.lean, 'card_holds'). Laid BY PROGRAM, IN A SANDBOX (cutbox-door.mjs). By AI agents, Wed Nov 11 2026. No macro, syntax, notation, axiom, sorry.
-/
import Derived.Test.YtipidbceempeiaaDoorRows
import GoSem.ClaimSeven
namespace Go.Proofs.YtipidbceempeiaaDoor
namespace Rows

/-- THE TIED CARD OF 'laws.FnExactRunsOf'. -/
def fnExactRunsOfCard : Claim7 := { stood := { row := fnExactRunsOfRow, standIns := [], harness := (true, "8b22ca6c98479511d9d5aaef1e6d4e3ecae8cfcbb5f30fd92e3c5c42341c8b73"), looks := false }, kinds := [], alts := [], laidByText := true, laidKinds := [.data, .data, .data], laidTests := true, laidLooks := .later }
def FnExactRunsOfCardSaid : Prop := Claim7.holds Tryd.pinned (.plain (OpenSpec.ofChange fnExactRunsOfSpec)) fnExactRunsOfCard

/-- THE SECOND FORM's CARD OF 'laws.FnExactRunsOf'. -/
def fnExactRunsOfUptoCard : Claim7 := { stood := { row := fnExactRunsOfUptoRow, standIns := [], harness := (true, "8b22ca6c98479511d9d5aaef1e6d4e3ecae8cfcbb5f30fd92e3c5c42341c8b73"), looks := false }, kinds := [], alts := [], laidByText := true, laidKinds := [.data, .data, .data], laidTests := true, laidLooks := .later }
def FnExactRunsOfUptoCardSaid : Prop := Claim7.holds Tryd.pinned (.plain (OpenSpec.upto fnExactRunsOfSpec)) fnExactRunsOfUptoCard
end Rows
end Go.Proofs.YtipidbceempeiaaDoor
