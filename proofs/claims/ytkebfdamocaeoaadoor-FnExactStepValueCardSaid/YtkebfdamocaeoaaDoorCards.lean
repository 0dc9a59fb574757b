/-
  DERIVED. GIVEN WITH THE SEED: THE CARDS: each row of YtkebfdamocaeoaaDoorRows.lean that lists a variable, with what it lists TIED to the program's text (the seventh form; the later family's looks); each row that meets fmt, with fmt's text TOLD by the authors' own Lean function (tested against real Go, not proved from fmt's source: count such statements apart). THE CARD IS WHAT COUNTS. Prove the row's statement (the work); the ties are given (YtkebfdamocaeoaaDoorTie.lean); close each card by the builder's one call (the guide's Derived/Test/ToyasCard.lean, 'card_holds'). Laid BY PROGRAM, IN A SANDBOX (cutbox-door.mjs). By AI agents, Wed Nov 11 2026. No macro, syntax, notation, axiom, sorry.
-/
import Derived.Test.YtkebfdamocaeoaaDoorRows
import GoSem.ClaimSeven
namespace Go.Proofs.YtkebfdamocaeoaaDoor
namespace Rows

/-- THE TIED CARD OF 'laws.FnExactStepValue'. -/
def fnExactStepValueCard : Claim7 := { stood := { row := fnExactStepValueRow, standIns := [], harness := (true, "70390ae946d652a3d5365fa779932439ee700bbd146d577c6edd4f4f4bd98c0a"), looks := false }, kinds := [], alts := [], laidByText := true, laidKinds := [.data], laidTests := true, laidLooks := .later }
def FnExactStepValueCardSaid : Prop := Claim7.holds Tryd.pinned (.plain (OpenSpec.ofChange fnExactStepValueSpec)) fnExactStepValueCard

/-- THE SECOND FORM's CARD OF 'laws.FnExactStepValue'. -/
def fnExactStepValueUptoCard : Claim7 := { stood := { row := fnExactStepValueUptoRow, standIns := [], harness := (true, "70390ae946d652a3d5365fa779932439ee700bbd146d577c6edd4f4f4bd98c0a"), looks := false }, kinds := [], alts := [], laidByText := true, laidKinds := [.data], laidTests := true, laidLooks := .later }
def FnExactStepValueUptoCardSaid : Prop := Claim7.holds Tryd.pinned (.plain (OpenSpec.upto fnExactStepValueSpec)) fnExactStepValueUptoCard
end Rows
end Go.Proofs.YtkebfdamocaeoaaDoor
