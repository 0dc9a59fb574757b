/-
  DERIVED. GIVEN WITH THE SEED: THE CARDS: each row of YtmjbfenjalmnlaaDoorRows.lean that lists a variable, with what it lists TIED to the program's text (the seventh form; the later family's looks); each row that meets fmt, with fmt's text TOLD by the authors' own Lean function (tested against real Go, not proved from fmt's source: count such statements apart). THE CARD IS WHAT COUNTS. Prove the row's statement (the work); the ties are given (YtmjbfenjalmnlaaDoorTie.lean); close each card by the builder's one call (the guide's Derived/Test/ToyasCard.lean, 'card_holds'). Laid BY PROGRAM, IN A SANDBOX (cutbox-door.mjs). By AI agents, Wed Nov 11 2026. No macro, syntax, notation, axiom, sorry.
-/
import Derived.Test.YtmjbfenjalmnlaaDoorRows
import GoSem.ClaimSeven
namespace Go.Proofs.YtmjbfenjalmnlaaDoor
namespace Rows

/-- THE TIED CARD OF 'laws.FnExactNameLike'. -/
def fnExactNameLikeCard : Claim7 := { stood := { row := fnExactNameLikeRow, standIns := [], harness := (true, "b81d8304325946b99a4a50a741a628557a5e1e55fcfd65576ef9e1699e677249"), looks := false }, kinds := [], alts := [], laidByText := true, laidKinds := [.data], laidTests := true, laidLooks := .later }
def FnExactNameLikeCardSaid : Prop := Claim7.holds Tryd.pinned (.plain (OpenSpec.ofChange fnExactNameLikeSpec)) fnExactNameLikeCard

/-- THE SECOND FORM's CARD OF 'laws.FnExactNameLike'. -/
def fnExactNameLikeUptoCard : Claim7 := { stood := { row := fnExactNameLikeUptoRow, standIns := [], harness := (true, "b81d8304325946b99a4a50a741a628557a5e1e55fcfd65576ef9e1699e677249"), looks := false }, kinds := [], alts := [], laidByText := true, laidKinds := [.data], laidTests := true, laidLooks := .later }
def FnExactNameLikeUptoCardSaid : Prop := Claim7.holds Tryd.pinned (.plain (OpenSpec.upto fnExactNameLikeSpec)) fnExactNameLikeUptoCard
end Rows
end Go.Proofs.YtmjbfenjalmnlaaDoor
