/-
  DERIVED. GIVEN WITH THE SEED: THE CARDS: each row of YthikfinliiaecaaGreatDoorRows.lean that lists a variable, with what it lists TIED to the program's text (the seventh form; the later family's looks); each row that meets fmt, with fmt's text TOLD by the authors' own Lean function (tested against real Go, not proved from fmt's source: count such statements apart). THE CARD IS WHAT COUNTS. Prove the row's statement (the work); the ties are given (YthikfinliiaecaaGreatDoorTie.lean); close each card by the builder's one call (the guide's Derived/Test/ToyasCard.lean, 'card_holds'). Laid BY PROGRAM, IN A SANDBOX (cutbox-door.mjs). By AI agents, Wed Nov 11 2026. No macro, syntax, notation, axiom, sorry.
-/
import Derived.Test.YthikfinliiaecaaGreatDoorRows
import GoSem.ClaimSeven
namespace Go.Proofs.YthikfinliiaecaaGreatDoor
namespace Rows

/-- THE TIED CARD OF 'laws.FnWireGet'. -/
def fnWireGetCard : Claim7 := { stood := { row := fnWireGetRow, standIns := [], harness := (true, "b51c8ea59ddea8d5de021ad52a38d61de0ef215f23108cc4f9329d5b0b5056e8"), looks := true }, kinds := [], alts := [], laidByText := true, laidKinds := [.data, .data, .data, .data, .sentinel, .sentinel, .data, .pinned], laidTests := true, laidLooks := .later }
def FnWireGetCardSaid : Prop := Claim7.holds Tryz.pinned (.plain (OpenSpec.ofChange fnWireGetSpec)) fnWireGetCard

/-- THE SECOND FORM's CARD OF 'laws.FnWireGet'. -/
def fnWireGetUptoCard : Claim7 := { stood := { row := fnWireGetUptoRow, standIns := [], harness := (true, "b51c8ea59ddea8d5de021ad52a38d61de0ef215f23108cc4f9329d5b0b5056e8"), looks := true }, kinds := [], alts := [], laidByText := true, laidKinds := [.data, .data, .data, .data, .sentinel, .sentinel, .data, .pinned], laidTests := true, laidLooks := .later }
def FnWireGetUptoCardSaid : Prop := Claim7.holds Tryz.pinned (.plain (OpenSpec.upto fnWireGetSpec)) fnWireGetUptoCard
end Rows
end Go.Proofs.YthikfinliiaecaaGreatDoor
