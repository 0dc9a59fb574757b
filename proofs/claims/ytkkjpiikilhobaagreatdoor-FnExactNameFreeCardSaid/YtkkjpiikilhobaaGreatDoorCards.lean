/-
  DERIVED. GIVEN WITH THE SEED: THE CARDS: each row of YtkkjpiikilhobaaGreatDoorRows.lean that lists a variable, with what it lists TIED to the program's text (the seventh form; the later family's looks); each row that meets fmt, with fmt's text TOLD by the authors' own Lean function (tested against real Go, not proved from fmt's source: count such statements apart). THE CARD IS WHAT COUNTS. Prove the row's statement (the work); the ties are given (YtkkjpiikilhobaaGreatDoorTie.lean); close each card by the builder's one call (the guide's Derived/Test/ToyasCard.lean, 'card_holds'). Laid BY PROGRAM, IN A SANDBOX (cutbox-door.mjs). By AI agents, Wed Nov 11 2026. No macro, syntax, notation, axiom, sorry.
-/
import Derived.Test.YtkkjpiikilhobaaGreatDoorRows
import GoSem.ClaimSeven
namespace Go.Proofs.YtkkjpiikilhobaaGreatDoor
namespace Rows

/-- THE TIED CARD OF 'laws.FnExactNameFree'. -/
def fnExactNameFreeCard : Claim7 := { stood := { row := fnExactNameFreeRow, standIns := [], harness := (true, "3040b4b91f1fe75e2dfe9a5c419158b6bd164d025ebd372eb87c7edf648184aa"), looks := false }, kinds := [], alts := [], laidByText := true, laidKinds := [.data], laidTests := true, laidLooks := .later }
def FnExactNameFreeCardSaid : Prop := Claim7.holds Tryz.pinned (.plain (OpenSpec.ofChange fnExactNameFreeSpec)) fnExactNameFreeCard

/-- THE SECOND FORM's CARD OF 'laws.FnExactNameFree'. -/
def fnExactNameFreeUptoCard : Claim7 := { stood := { row := fnExactNameFreeUptoRow, standIns := [], harness := (true, "3040b4b91f1fe75e2dfe9a5c419158b6bd164d025ebd372eb87c7edf648184aa"), looks := false }, kinds := [], alts := [], laidByText := true, laidKinds := [.data], laidTests := true, laidLooks := .later }
def FnExactNameFreeUptoCardSaid : Prop := Claim7.holds Tryz.pinned (.plain (OpenSpec.upto fnExactNameFreeSpec)) fnExactNameFreeUptoCard
end Rows
end Go.Proofs.YtkkjpiikilhobaaGreatDoor
