/-
  DERIVED. GIVEN WITH THE SEED: THE CARDS: each row of YtmbldcmmpbodgaaDoorRows.lean that lists a variable, with what it lists TIED to the program's text (the seventh form; the later family's looks); each row that meets fmt, with fmt's text TOLD by the authors' own Lean function (tested against real Go, not proved from fmt's source: count such statements apart). THE CARD IS WHAT COUNTS. Prove the row's statement (the work); the ties are given (YtmbldcmmpbodgaaDoorTie.lean); close each card by the builder's one call (the guide's Derived/Test/ToyasCard.lean, 'card_holds'). Laid BY PROGRAM, IN A SANDBOX (cutbox-door.mjs). By AI agents, Wed Nov 11 2026. No macro, syntax, notation, axiom, sorry.
-/
import Derived.Test.YtmbldcmmpbodgaaDoorRows
import GoSem.ClaimSeven
namespace Go.Proofs.YtmbldcmmpbodgaaDoor
namespace Rows

/-- THE TIED CARD OF 'laws.FnExactCodePut'. -/
def fnExactCodePutCard : Claim7 := { stood := { row := fnExactCodePutRow, standIns := [], harness := (true, "7f55d949012fc443555e9e4b239e239da21b8c4cccecc59dc52890ab37ab6634"), looks := true }, kinds := [], alts := [], laidByText := true, laidKinds := [.data, .data, .data, .data], laidTests := true, laidLooks := .later }
def FnExactCodePutCardSaid : Prop := Claim7.holds Tryd.pinned (.plain (OpenSpec.ofChange fnExactCodePutSpec)) fnExactCodePutCard

/-- THE SECOND FORM's CARD OF 'laws.FnExactCodePut'. -/
def fnExactCodePutUptoCard : Claim7 := { stood := { row := fnExactCodePutUptoRow, standIns := [], harness := (true, "7f55d949012fc443555e9e4b239e239da21b8c4cccecc59dc52890ab37ab6634"), looks := true }, kinds := [], alts := [], laidByText := true, laidKinds := [.data, .data, .data, .data], laidTests := true, laidLooks := .later }
def FnExactCodePutUptoCardSaid : Prop := Claim7.holds Tryd.pinned (.plain (OpenSpec.upto fnExactCodePutSpec)) fnExactCodePutUptoCard
end Rows
end Go.Proofs.YtmbldcmmpbodgaaDoor
