/-
  DERIVED. GIVEN WITH THE SEED: THE CARDS: each row of YtlkbgmgnjkkfgaaDoorRows.lean that lists a variable, with what it lists TIED to the program's text (the seventh form; the later family's looks); each row that meets fmt, with fmt's text TOLD by the authors' own Lean function (tested against real Go, not proved from fmt's source: count such statements apart). THE CARD IS WHAT COUNTS. Prove the row's statement (the work); the ties are given (YtlkbgmgnjkkfgaaDoorTie.lean); close each card by the builder's one call (the guide's Derived/Test/ToyasCard.lean, 'card_holds'). Laid BY PROGRAM, IN A SANDBOX (cutbox-door.mjs). By AI agents, Wed Nov 11 2026. No macro, syntax, notation, axiom, sorry.
-/
import Derived.Test.YtlkbgmgnjkkfgaaDoorRows
import GoSem.ClaimSeven
namespace Go.Proofs.YtlkbgmgnjkkfgaaDoor
namespace Rows

/-- THE TIED CARD OF 'laws.FnExactSlimLive'. -/
def fnExactSlimLiveCard : Claim7 := { stood := { row := fnExactSlimLiveRow, standIns := [], harness := (true, "952da16f4ed0d9d34fbad417d5050eb8989d5faaabc22ad465e016f4cf561b92"), looks := true }, kinds := [], alts := [], laidByText := true, laidKinds := [.data], laidTests := true, laidLooks := .later }
def FnExactSlimLiveCardSaid : Prop := Claim7.holds Tryd.pinned (.plain (OpenSpec.ofChange fnExactSlimLiveSpec)) fnExactSlimLiveCard

/-- THE SECOND FORM's CARD OF 'laws.FnExactSlimLive'. -/
def fnExactSlimLiveUptoCard : Claim7 := { stood := { row := fnExactSlimLiveUptoRow, standIns := [], harness := (true, "952da16f4ed0d9d34fbad417d5050eb8989d5faaabc22ad465e016f4cf561b92"), looks := true }, kinds := [], alts := [], laidByText := true, laidKinds := [.data], laidTests := true, laidLooks := .later }
def FnExactSlimLiveUptoCardSaid : Prop := Claim7.holds Tryd.pinned (.plain (OpenSpec.upto fnExactSlimLiveSpec)) fnExactSlimLiveUptoCard
end Rows
end Go.Proofs.YtlkbgmgnjkkfgaaDoor
