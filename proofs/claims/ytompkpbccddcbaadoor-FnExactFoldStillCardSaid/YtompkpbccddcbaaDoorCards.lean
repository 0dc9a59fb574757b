/-
  DERIVED. GIVEN WITH THE SEED: THE CARDS: each row of YtompkpbccddcbaaDoorRows.lean that lists a variable, with what it lists TIED to the program's text (the seventh form; the later family's looks); each row that meets fmt, with fmt's text TOLD by the authors' own Lean function (tested against real Go, not proved from fmt's source: count such statements apart). THE CARD IS WHAT COUNTS. Prove the row's statement (the work); the ties are given (YtompkpbccddcbaaDoorTie.lean); close each card by the builder's one call (the guide's Derived/Test/ToyasCard.lean, 'card_holds'). Laid BY PROGRAM, IN A SANDBOX (cutbox-door.mjs). By AI agents, Wed Nov 11 2026. No macro, syntax, notation, axiom, sorry.
-/
import Derived.Test.YtompkpbccddcbaaDoorRows
import GoSem.ClaimSeven
namespace Go.Proofs.YtompkpbccddcbaaDoor
namespace Rows

/-- THE TIED CARD OF 'laws.FnExactFoldStill'. -/
def fnExactFoldStillCard : Claim7 := { stood := { row := fnExactFoldStillRow, standIns := [], harness := (true, "daa916eaf78434a103f127c29bfc1f29e03b3c497a10a221070fea69ddc77bc7"), looks := false }, kinds := [], alts := [], laidByText := true, laidKinds := [.data], laidTests := true, laidLooks := .later }
def FnExactFoldStillCardSaid : Prop := Claim7.holds Tryd.pinned (.plain (OpenSpec.ofChange fnExactFoldStillSpec)) fnExactFoldStillCard

/-- THE SECOND FORM's CARD OF 'laws.FnExactFoldStill'. -/
def fnExactFoldStillUptoCard : Claim7 := { stood := { row := fnExactFoldStillUptoRow, standIns := [], harness := (true, "daa916eaf78434a103f127c29bfc1f29e03b3c497a10a221070fea69ddc77bc7"), looks := false }, kinds := [], alts := [], laidByText := true, laidKinds := [.data], laidTests := true, laidLooks := .later }
def FnExactFoldStillUptoCardSaid : Prop := Claim7.holds Tryd.pinned (.plain (OpenSpec.upto fnExactFoldStillSpec)) fnExactFoldStillUptoCard
end Rows
end Go.Proofs.YtompkpbccddcbaaDoor
