/-
  DERIVED. GIVEN WITH THE SEED: THE CARDS: each row of YthmpgeppicbhlaaDoorRows.lean that lists a variable, with what it lists TIED to the program's text (the seventh form; the later family's looks); each row that meets fmt, with fmt's text TOLD by the authors' own Lean function (tested against real Go, not proved from fmt's source: count such statements apart). THE CARD IS WHAT COUNTS. Prove the row's statement (the work); the ties are given (YthmpgeppicbhlaaDoorTie.lean); close each card by the builder's one call (the guide's Derived/Test/ToyasCard.lean, 'card_holds'). Laid BY PROGRAM, IN A SANDBOX (cutbox-door.mjs). By AI agents, Wed Nov 11 2026. No macro, syntax, notation, axiom, sorry.
-/
import Derived.Test.YthmpgeppicbhlaaDoorRows
import GoSem.ClaimSeven
namespace Go.Proofs.YthmpgeppicbhlaaDoor
namespace Rows

/-- THE TIED CARD OF 'laws.FnExactWirePut'. -/
def fnExactWirePutCard : Claim7 := { stood := { row := fnExactWirePutRow, standIns := [], harness := (true, "081f16a7aeb5103a64f0e4afc852f8d61e0435ce8bd21bcddf045f52324b00bd"), looks := false }, kinds := [], alts := [], laidByText := true, laidKinds := [.data, .data, .data, .data], laidTests := true, laidLooks := .later }
def FnExactWirePutCardSaid : Prop := Claim7.holds Tryd.pinned (.plain (OpenSpec.ofChange fnExactWirePutSpec)) fnExactWirePutCard

/-- THE SECOND FORM's CARD OF 'laws.FnExactWirePut'. -/
def fnExactWirePutUptoCard : Claim7 := { stood := { row := fnExactWirePutUptoRow, standIns := [], harness := (true, "081f16a7aeb5103a64f0e4afc852f8d61e0435ce8bd21bcddf045f52324b00bd"), looks := false }, kinds := [], alts := [], laidByText := true, laidKinds := [.data, .data, .data, .data], laidTests := true, laidLooks := .later }
def FnExactWirePutUptoCardSaid : Prop := Claim7.holds Tryd.pinned (.plain (OpenSpec.upto fnExactWirePutSpec)) fnExactWirePutUptoCard
end Rows
end Go.Proofs.YthmpgeppicbhlaaDoor
