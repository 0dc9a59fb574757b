/-
  DERIVED. GIVEN WITH THE SEED: THE CARDS: each row of YtchblncpabhflaaDoorRows.lean that lists a variable, with what it lists TIED to the program's text (the seventh form; the later family's looks); each row that meets fmt, with fmt's text TOLD by the authors' own Lean function (tested against real Go, not proved from fmt's source: count such statements apart). THE CARD IS WHAT COUNTS. Prove the row's statement (the work); the ties are given (YtchblncpabhflaaDoorTie.lean); close each card by the builder's one call (the guide's Derived/Test/ToyasCard.lean, 'card_holds'). Laid BY PROGRAM, IN A SANDBOX (cutbox-door.mjs). By AI agents, Wed Nov 11 2026. No macro, syntax, notation, axiom, sorry.
-/
import Derived.Test.YtchblncpabhflaaDoorRows
import GoSem.ClaimSeven
namespace Go.Proofs.YtchblncpabhflaaDoor
namespace Rows

/-- THE TIED CARD OF 'laws.FnClean'. -/
def fnCleanCard : Claim7 := { stood := { row := fnCleanRow, standIns := [], harness := (true, "e951818565e85319f832a847b57ef1b85473eb86412640642eb282829d3cfb81"), looks := false }, kinds := [], alts := [], laidByText := true, laidKinds := [.data, .data, .data], laidTests := true, laidLooks := .later }
def FnCleanCardSaid : Prop := Claim7.holds Tryd.pinned (.plain (OpenSpec.ofChange fnCleanSpec)) fnCleanCard

/-- THE SECOND FORM's CARD OF 'laws.FnClean'. -/
def fnCleanUptoCard : Claim7 := { stood := { row := fnCleanUptoRow, standIns := [], harness := (true, "e951818565e85319f832a847b57ef1b85473eb86412640642eb282829d3cfb81"), looks := false }, kinds := [], alts := [], laidByText := true, laidKinds := [.data, .data, .data], laidTests := true, laidLooks := .later }
def FnCleanUptoCardSaid : Prop := Claim7.holds Tryd.pinned (.plain (OpenSpec.upto fnCleanSpec)) fnCleanUptoCard
end Rows
end Go.Proofs.YtchblncpabhflaaDoor
