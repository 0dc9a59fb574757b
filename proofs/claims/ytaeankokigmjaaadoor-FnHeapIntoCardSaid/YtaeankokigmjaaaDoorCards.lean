/-
  DERIVED. GIVEN WITH THE SEED: THE CARDS: each row of YtaeankokigmjaaaDoorRows.lean that lists a variable, with what it lists TIED to the program's text (the seventh form; the later family's looks); each row that meets fmt, with fmt's text TOLD by the authors' own Lean function (tested against real Go, not proved from fmt's source: count such statements apart). THE CARD IS WHAT COUNTS. Prove the row's statement (the work); the ties are given (YtaeankokigmjaaaDoorTie.lean); close each card by the builder's one call (the guide's Derived/Test/ToyasCard.lean, 'card_holds'). Laid BY PROGRAM, IN A SANDBOX (cutbox-door.mjs). By AI agents, Wed Nov 11 2026. No macro, syntax, notation, axiom, sorry.
-/
import Derived.Test.YtaeankokigmjaaaDoorRows
import GoSem.ClaimSeven
namespace Go.Proofs.YtaeankokigmjaaaDoor
namespace Rows

/-- THE TIED CARD OF 'laws.FnHeapInto'. -/
def fnHeapIntoCard : Claim7 := { stood := { row := fnHeapIntoRow, standIns := [], harness := (true, "ed9c070ada6e6f8c2dad3ec03e025d4cede454d6495c50adbd6d7d29009fb413"), looks := false }, kinds := [], alts := [], laidByText := true, laidKinds := [.data, .data, .data], laidTests := true, laidLooks := .later }
def FnHeapIntoCardSaid : Prop := Claim7.holds Tryd.pinned (.plain (OpenSpec.ofChange fnHeapIntoSpec)) fnHeapIntoCard

/-- THE SECOND FORM's CARD OF 'laws.FnHeapInto'. -/
def fnHeapIntoUptoCard : Claim7 := { stood := { row := fnHeapIntoUptoRow, standIns := [], harness := (true, "ed9c070ada6e6f8c2dad3ec03e025d4cede454d6495c50adbd6d7d29009fb413"), looks := false }, kinds := [], alts := [], laidByText := true, laidKinds := [.data, .data, .data], laidTests := true, laidLooks := .later }
def FnHeapIntoUptoCardSaid : Prop := Claim7.holds Tryd.pinned (.plain (OpenSpec.upto fnHeapIntoSpec)) fnHeapIntoUptoCard
end Rows
end Go.Proofs.YtaeankokigmjaaaDoor
