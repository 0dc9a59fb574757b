/-
  DERIVED. GIVEN WITH THE SEED: THE CARDS: each row of YtililpednhhdlaaDoorRows.lean that lists a variable, with what it lists TIED to the program's text (the seventh form; the later family's looks); each row that meets fmt, with fmt's text TOLD by the authors' own Lean function (tested against real Go, not proved from fmt's source: count such statements apart). THE CARD IS WHAT COUNTS. Prove the row's statement (the work); the ties are given (YtililpednhhdlaaDoorTie.lean); close each card by the builder's one call (the guide's Derived/Test/ToyasCard.lean, 'card_holds'). Laid BY PROGRAM, IN A SANDBOX (cutbox-door.mjs). By AI agents, Wed Nov 11 2026. No macro, syntax, notation, axiom, sorry.
-/
import Derived.Test.YtililpednhhdlaaDoorRows
import GoSem.ClaimSeven
namespace Go.Proofs.YtililpednhhdlaaDoor
namespace Rows

/-- THE TIED CARD OF 'laws.FnExactSameDeep'. -/
def fnExactSameDeepCard : Claim7 := { stood := { row := fnExactSameDeepRow, standIns := [], harness := (true, "dcdec9dbfedd02456c4b28957d22418237f65a51579b8c47fe3e9ec1d00e4510"), looks := false }, kinds := [], alts := [], laidByText := true, laidKinds := [.data], laidTests := true, laidLooks := .later }
def FnExactSameDeepCardSaid : Prop := Claim7.holds Tryd.pinned (.plain (OpenSpec.ofChange fnExactSameDeepSpec)) fnExactSameDeepCard

/-- THE SECOND FORM's CARD OF 'laws.FnExactSameDeep'. -/
def fnExactSameDeepUptoCard : Claim7 := { stood := { row := fnExactSameDeepUptoRow, standIns := [], harness := (true, "dcdec9dbfedd02456c4b28957d22418237f65a51579b8c47fe3e9ec1d00e4510"), looks := false }, kinds := [], alts := [], laidByText := true, laidKinds := [.data], laidTests := true, laidLooks := .later }
def FnExactSameDeepUptoCardSaid : Prop := Claim7.holds Tryd.pinned (.plain (OpenSpec.upto fnExactSameDeepSpec)) fnExactSameDeepUptoCard
end Rows
end Go.Proofs.YtililpednhhdlaaDoor
