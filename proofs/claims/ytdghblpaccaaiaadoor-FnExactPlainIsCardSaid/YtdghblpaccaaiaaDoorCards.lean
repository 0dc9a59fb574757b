/-
  DERIVED. GIVEN WITH THE SEED: THE CARDS: each row of YtdghblpaccaaiaaDoorRows.lean that lists a variable, with what it lists TIED to the program's text (the seventh form; the later family's looks); each row that meets fmt, with fmt's text TOLD by the authors' own Lean function (tested against real Go, not proved from fmt's source: count such statements apart). THE CARD IS WHAT COUNTS. Prove the row's statement (the work); the ties are given (YtdghblpaccaaiaaDoorTie.lean); close each card by the builder's one call (the guide's Derived/Test/ToyasCard.lean, 'card_holds'). Laid BY PROGRAM, IN A SANDBOX (cutbox-door.mjs). By AI agents, Wed Nov 11 2026. No macro, syntax, notation, axiom, sorry.
-/
import Derived.Test.YtdghblpaccaaiaaDoorRows
import GoSem.ClaimSeven
namespace Go.Proofs.YtdghblpaccaaiaaDoor
namespace Rows

/-- THE TIED CARD OF 'laws.FnExactPlainIs'. -/
def fnExactPlainIsCard : Claim7 := { stood := { row := fnExactPlainIsRow, standIns := [], harness := (true, "94f516a0b1ddac2cd35e173713145676719adc1a0f198fbd1d12d1256f4612e0"), looks := false }, kinds := [], alts := [], laidByText := true, laidKinds := [.data], laidTests := true, laidLooks := .later }
def FnExactPlainIsCardSaid : Prop := Claim7.holds Tryd.pinned (.plain (OpenSpec.ofChange fnExactPlainIsSpec)) fnExactPlainIsCard

/-- THE SECOND FORM's CARD OF 'laws.FnExactPlainIs'. -/
def fnExactPlainIsUptoCard : Claim7 := { stood := { row := fnExactPlainIsUptoRow, standIns := [], harness := (true, "94f516a0b1ddac2cd35e173713145676719adc1a0f198fbd1d12d1256f4612e0"), looks := false }, kinds := [], alts := [], laidByText := true, laidKinds := [.data], laidTests := true, laidLooks := .later }
def FnExactPlainIsUptoCardSaid : Prop := Claim7.holds Tryd.pinned (.plain (OpenSpec.upto fnExactPlainIsSpec)) fnExactPlainIsUptoCard
end Rows
end Go.Proofs.YtdghblpaccaaiaaDoor
