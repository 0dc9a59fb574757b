/-
  DERIVED. GIVEN WITH THE SEED: THE CARDS: each row of YtaagnifagahgfaaDoorRows.lean that lists a variable, with what it lists TIED to the program's text (the seventh form; the later family's looks); each row that meets fmt, with fmt's text TOLD by the authors' own Lean function (tested against real Go, not proved from fmt's source: count such statements apart). THE CARD IS WHAT COUNTS. Prove the row's statement (the work); the ties are given (YtaagnifagahgfaaDoorTie.lean); close each card by the builder's one call (the guide's Derived/Test/ToyasCard.lean, 'card_holds'). Laid BY PROGRAM, IN A SANDBOX (cutbox-door.mjs). By AI agents, Wed Nov 11 2026. No macro, syntax, notation, axiom, sorry.
-/
import Derived.Test.YtaagnifagahgfaaDoorRows
import GoSem.ClaimSeven
namespace Go.Proofs.YtaagnifagahgfaaDoor
namespace Rows

/-- THE TIED CARD OF 'laws.FnExactCodeGet'. -/
def fnExactCodeGetCard : Claim7 := { stood := { row := fnExactCodeGetRow, standIns := [], harness := (true, "85d3ebd16fce3b971431ad07ae0820168582f6726c90e87391a64c211ce9baf9"), looks := true }, kinds := [], alts := [], laidByText := true, laidKinds := [.data, .data, .data, .sentinel, .sentinel, .data], laidTests := true, laidLooks := .later }
def FnExactCodeGetCardSaid : Prop := Claim7.holds Tryd.pinned (.plain (OpenSpec.ofChange fnExactCodeGetSpec)) fnExactCodeGetCard

/-- THE SECOND FORM's CARD OF 'laws.FnExactCodeGet'. -/
def fnExactCodeGetUptoCard : Claim7 := { stood := { row := fnExactCodeGetUptoRow, standIns := [], harness := (true, "85d3ebd16fce3b971431ad07ae0820168582f6726c90e87391a64c211ce9baf9"), looks := true }, kinds := [], alts := [], laidByText := true, laidKinds := [.data, .data, .data, .sentinel, .sentinel, .data], laidTests := true, laidLooks := .later }
def FnExactCodeGetUptoCardSaid : Prop := Claim7.holds Tryd.pinned (.plain (OpenSpec.upto fnExactCodeGetSpec)) fnExactCodeGetUptoCard
end Rows
end Go.Proofs.YtaagnifagahgfaaDoor
