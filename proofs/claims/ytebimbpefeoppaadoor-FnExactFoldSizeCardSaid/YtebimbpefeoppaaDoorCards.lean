/-
  DERIVED. GIVEN WITH THE SEED: THE CARDS: each row of YtebimbpefeoppaaDoorRows.lean that lists a variable, with what it lists TIED to the program's text (the seventh form; the later family's looks); each row that meets fmt, with fmt's text TOLD by the authors' own Lean function (tested against real Go, not proved from fmt's source: count such statements apart). THE CARD IS WHAT COUNTS. Prove the row's statement (the work); the ties are given (YtebimbpefeoppaaDoorTie.lean); close each card by the builder's one call (the guide's Derived/Test/ToyasCard.lean, 'card_holds'). Laid BY PROGRAM, IN A SANDBOX (cutbox-door.mjs). By AI agents, Wed Nov 11 2026. No macro, syntax, notation, axiom, sorry.
-/
import Derived.Test.YtebimbpefeoppaaDoorRows
import GoSem.ClaimSeven
namespace Go.Proofs.YtebimbpefeoppaaDoor
namespace Rows

/-- THE TIED CARD OF 'laws.FnExactFoldSize'. -/
def fnExactFoldSizeCard : Claim7 := { stood := { row := fnExactFoldSizeRow, standIns := [], harness := (true, "31731b3451888017bd9bb6979fc4804b3858c42eb09a7678db57765b52ef1bd3"), looks := false }, kinds := [], alts := [], laidByText := true, laidKinds := [.data], laidTests := true, laidLooks := .later }
def FnExactFoldSizeCardSaid : Prop := Claim7.holds Tryd.pinned (.plain (OpenSpec.ofChange fnExactFoldSizeSpec)) fnExactFoldSizeCard

/-- THE SECOND FORM's CARD OF 'laws.FnExactFoldSize'. -/
def fnExactFoldSizeUptoCard : Claim7 := { stood := { row := fnExactFoldSizeUptoRow, standIns := [], harness := (true, "31731b3451888017bd9bb6979fc4804b3858c42eb09a7678db57765b52ef1bd3"), looks := false }, kinds := [], alts := [], laidByText := true, laidKinds := [.data], laidTests := true, laidLooks := .later }
def FnExactFoldSizeUptoCardSaid : Prop := Claim7.holds Tryd.pinned (.plain (OpenSpec.upto fnExactFoldSizeSpec)) fnExactFoldSizeUptoCard
end Rows
end Go.Proofs.YtebimbpefeoppaaDoor
