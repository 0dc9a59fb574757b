/-
  DERIVED. GIVEN WITH THE SEED: THE CARDS: each row of YtnmmhicgodfpcaaDoorRows.lean that lists a variable, with what it lists TIED to the program's text (the seventh form; the later family's looks); each row that meets fmt, with fmt's text TOLD by the authors' own Lean function (tested against real Go, not proved from fmt's source: count such statements apart). THE CARD IS WHAT COUNTS. Prove the row's statement (the work); the ties are given (YtnmmhicgodfpcaaDoorTie.lean); close each card by the builder's one call (the guide's Derived/Test/ToyasCard.lean, 'card_holds'). Laid BY PROGRAM, IN A SANDBOX (cutbox-door.mjs). By AI agents, Wed Nov 11 2026. No macro, syntax, notation, axiom, sorry.
-/
import Derived.Test.YtnmmhicgodfpcaaDoorRows
import GoSem.ClaimSeven
namespace Go.Proofs.YtnmmhicgodfpcaaDoor
namespace Rows

/-- THE TIED CARD OF 'laws.FnExactAnswerPut'. -/
def fnExactAnswerPutCard : Claim7 := { stood := { row := fnExactAnswerPutRow, standIns := [], harness := (true, "9d370b1e956aa87c1c9d5c34ca44333e1c52a1fa6400b8807bf682d7300892f8"), looks := false }, kinds := [], alts := [], laidByText := true, laidKinds := [.data, .data, .data], laidTests := true, laidLooks := .later }
def FnExactAnswerPutCardSaid : Prop := Claim7.holds Tryd.pinned (.plain (OpenSpec.ofChange fnExactAnswerPutSpec)) fnExactAnswerPutCard

/-- THE SECOND FORM's CARD OF 'laws.FnExactAnswerPut'. -/
def fnExactAnswerPutUptoCard : Claim7 := { stood := { row := fnExactAnswerPutUptoRow, standIns := [], harness := (true, "9d370b1e956aa87c1c9d5c34ca44333e1c52a1fa6400b8807bf682d7300892f8"), looks := false }, kinds := [], alts := [], laidByText := true, laidKinds := [.data, .data, .data], laidTests := true, laidLooks := .later }
def FnExactAnswerPutUptoCardSaid : Prop := Claim7.holds Tryd.pinned (.plain (OpenSpec.upto fnExactAnswerPutSpec)) fnExactAnswerPutUptoCard
end Rows
end Go.Proofs.YtnmmhicgodfpcaaDoor
