/-
  DERIVED. GIVEN WITH THE SEED: THE CARDS: each row of YtkjppjhmejkidaaDoorRows.lean that lists a variable, with what it lists TIED to the program's text (the seventh form; the later family's looks); each row that meets fmt, with fmt's text TOLD by the authors' own Lean function (tested against real Go, not proved from fmt's source: count such statements apart). THE CARD IS WHAT COUNTS. Prove the row's statement (the work); the ties are given (YtkjppjhmejkidaaDoorTie.lean); close each card by the builder's one call (the guide's Derived/Test/ToyasCard.lean, 'card_holds'). Laid BY PROGRAM, IN A SANDBOX (cutbox-door.mjs). By AI agents, Wed Nov 11 2026. No macro, syntax, notation, axiom, sorry.
-/
import Derived.Test.YtkjppjhmejkidaaDoorRows
import GoSem.ClaimSeven
namespace Go.Proofs.YtkjppjhmejkidaaDoor
namespace Rows

/-- THE TIED CARD OF 'laws.FnExactNameTidy'. -/
def fnExactNameTidyCard : Claim7 := { stood := { row := fnExactNameTidyRow, standIns := [], harness := (true, "c02522e213e5ee7451ad1af7aa3f1d62d772d67e84d8aeee5bd582d71c096437"), looks := false }, kinds := [], alts := [], laidByText := true, laidKinds := [.data, .data, .data, .data], laidTests := true, laidLooks := .later }
def FnExactNameTidyCardSaid : Prop := Claim7.holds Tryd.pinned (.plain (OpenSpec.ofChange fnExactNameTidySpec)) fnExactNameTidyCard

/-- THE SECOND FORM's CARD OF 'laws.FnExactNameTidy'. -/
def fnExactNameTidyUptoCard : Claim7 := { stood := { row := fnExactNameTidyUptoRow, standIns := [], harness := (true, "c02522e213e5ee7451ad1af7aa3f1d62d772d67e84d8aeee5bd582d71c096437"), looks := false }, kinds := [], alts := [], laidByText := true, laidKinds := [.data, .data, .data, .data], laidTests := true, laidLooks := .later }
def FnExactNameTidyUptoCardSaid : Prop := Claim7.holds Tryd.pinned (.plain (OpenSpec.upto fnExactNameTidySpec)) fnExactNameTidyUptoCard
end Rows
end Go.Proofs.YtkjppjhmejkidaaDoor
