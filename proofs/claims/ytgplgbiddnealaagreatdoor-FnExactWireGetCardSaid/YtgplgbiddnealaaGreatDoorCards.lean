/-
  DERIVED. GIVEN WITH THE SEED: THE CARDS: each row of YtgplgbiddnealaaGreatDoorRows.lean that lists a variable, with what it lists TIED to the program's text (the seventh form; the later family's looks); each row that meets fmt, with fmt's text TOLD by the authors' own Lean function (tested against real Go, not proved from fmt's source: count such statements apart). THE CARD IS WHAT COUNTS. Prove the row's statement (the work); the ties are given (YtgplgbiddnealaaGreatDoorTie.lean); close each card by the builder's one call (the guide's Derived/Test/ToyasCard.lean, 'card_holds'). Laid BY PROGRAM, IN A SANDBOX (cutbox-door.mjs). By AI agents, Wed Nov 11 2026. No macro, syntax, notation, axiom, sorry.
-/
import Derived.Test.YtgplgbiddnealaaGreatDoorRows
import GoSem.ClaimSeven
namespace Go.Proofs.YtgplgbiddnealaaGreatDoor
namespace Rows

/-- THE TIED CARD OF 'laws.FnExactWireGet'. -/
def fnExactWireGetCard : Claim7 := { stood := { row := fnExactWireGetRow, standIns := [], harness := (true, "70440a151c4aa4255b92bd22f785db9794f0cf1335b5d13ec3582f235ec6dcb9"), looks := true }, kinds := [], alts := [], laidByText := true, laidKinds := [.data, .data, .data, .data, .sentinel, .sentinel, .data, .pinned], laidTests := true, laidLooks := .later }
def FnExactWireGetCardSaid : Prop := Claim7.holds Tryz.pinned (.plain (OpenSpec.ofChange fnExactWireGetSpec)) fnExactWireGetCard

/-- THE SECOND FORM's CARD OF 'laws.FnExactWireGet'. -/
def fnExactWireGetUptoCard : Claim7 := { stood := { row := fnExactWireGetUptoRow, standIns := [], harness := (true, "70440a151c4aa4255b92bd22f785db9794f0cf1335b5d13ec3582f235ec6dcb9"), looks := true }, kinds := [], alts := [], laidByText := true, laidKinds := [.data, .data, .data, .data, .sentinel, .sentinel, .data, .pinned], laidTests := true, laidLooks := .later }
def FnExactWireGetUptoCardSaid : Prop := Claim7.holds Tryz.pinned (.plain (OpenSpec.upto fnExactWireGetSpec)) fnExactWireGetUptoCard
end Rows
end Go.Proofs.YtgplgbiddnealaaGreatDoor
