/-
  DERIVED. GIVEN WITH THE SEED: THE CARDS: each row of YtkollpgacheeoaaGreatDoorRows.lean that lists a variable, with what it lists TIED to the program's text (the seventh form; the later family's looks); each row that meets fmt, with fmt's text TOLD by the authors' own Lean function (tested against real Go, not proved from fmt's source: count such statements apart). THE CARD IS WHAT COUNTS. Prove the row's statement (the work); the ties are given (YtkollpgacheeoaaGreatDoorTie.lean); close each card by the builder's one call (the guide's Derived/Test/ToyasCard.lean, 'card_holds'). Laid BY PROGRAM, IN A SANDBOX (cutbox-door.mjs). By AI agents, Wed Nov 11 2026. No macro, syntax, notation, axiom, sorry.
-/
import Derived.Test.YtkollpgacheeoaaGreatDoorRows
import GoSem.ClaimSeven
namespace Go.Proofs.YtkollpgacheeoaaGreatDoor
namespace Rows

/-- THE TIED CARD OF 'laws.FnWirePut'. -/
def fnWirePutCard : Claim7 := { stood := { row := fnWirePutRow, standIns := [], harness := (true, "84f92888a8b02c1908b86663ffe00049cbf2253c1da8e11975fd81b32143bff7"), looks := true }, kinds := [], alts := [], laidByText := true, laidKinds := [.data, .data, .data, .data, .sentinel, .sentinel, .data, .pinned], laidTests := true, laidLooks := .later }
def FnWirePutCardSaid : Prop := Claim7.holds Tryz.pinned (.plain (OpenSpec.ofChange fnWirePutSpec)) fnWirePutCard

/-- THE SECOND FORM's CARD OF 'laws.FnWirePut'. -/
def fnWirePutUptoCard : Claim7 := { stood := { row := fnWirePutUptoRow, standIns := [], harness := (true, "84f92888a8b02c1908b86663ffe00049cbf2253c1da8e11975fd81b32143bff7"), looks := true }, kinds := [], alts := [], laidByText := true, laidKinds := [.data, .data, .data, .data, .sentinel, .sentinel, .data, .pinned], laidTests := true, laidLooks := .later }
def FnWirePutUptoCardSaid : Prop := Claim7.holds Tryz.pinned (.plain (OpenSpec.upto fnWirePutSpec)) fnWirePutUptoCard
end Rows
end Go.Proofs.YtkollpgacheeoaaGreatDoor
