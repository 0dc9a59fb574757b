/-
  DERIVED. GIVEN WITH THE SEED: THE CARDS: each row of YthcifgpkiclkiaaDoorRows.lean that lists a variable, with what it lists TIED to the program's text (the seventh form; the later family's looks); each row that meets fmt, with fmt's text TOLD by the authors' own Lean function (tested against real Go, not proved from fmt's source: count such statements apart). THE CARD IS WHAT COUNTS. Prove the row's statement (the work); the ties are given (YthcifgpkiclkiaaDoorTie.lean); close each card by the builder's one call (the guide's Derived/Test/ToyasCard.lean, 'card_holds'). Laid BY PROGRAM, IN A SANDBOX (cutbox-door.mjs). By AI agents, Wed Nov 11 2026. No macro, syntax, notation, axiom, sorry.
-/
import Derived.Test.YthcifgpkiclkiaaDoorRows
import GoSem.ClaimSeven
namespace Go.Proofs.YthcifgpkiclkiaaDoor
namespace Rows

/-- THE TIED CARD OF 'laws.FnSameDeep'. -/
def fnSameDeepCard : Claim7 := { stood := { row := fnSameDeepRow, standIns := [], harness := (true, "12fa79cda5d64ee2fcc880fe680ff4f65336c957f9f679b31e967707ff2ee5bd"), looks := false }, kinds := [], alts := [], laidByText := true, laidKinds := [.data], laidTests := true, laidLooks := .later }
def FnSameDeepCardSaid : Prop := Claim7.holds Tryd.pinned (.plain (OpenSpec.ofChange fnSameDeepSpec)) fnSameDeepCard

/-- THE SECOND FORM's CARD OF 'laws.FnSameDeep'. -/
def fnSameDeepUptoCard : Claim7 := { stood := { row := fnSameDeepUptoRow, standIns := [], harness := (true, "12fa79cda5d64ee2fcc880fe680ff4f65336c957f9f679b31e967707ff2ee5bd"), looks := false }, kinds := [], alts := [], laidByText := true, laidKinds := [.data], laidTests := true, laidLooks := .later }
def FnSameDeepUptoCardSaid : Prop := Claim7.holds Tryd.pinned (.plain (OpenSpec.upto fnSameDeepSpec)) fnSameDeepUptoCard
end Rows
end Go.Proofs.YthcifgpkiclkiaaDoor
