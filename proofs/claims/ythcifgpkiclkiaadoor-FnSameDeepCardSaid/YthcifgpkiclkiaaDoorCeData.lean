/-
  The law's own toWord, eqWord, toCell, eqCell.
-/
import Derived.Test.YthcifgpkiclkiaaDoorRows
import Derived.Test.YthcifgpkiclkiaaDoorCeWords
import Derived.WalkKit
import Derived.WalkSpells
import Derived.WalkLawsBesides
import Derived.RowKit3
import Derived.Deep.RegionWith
namespace Go.Proofs.YthcifgpkiclkiaaDoor
open Go.RowKit




end Go.Proofs.YthcifgpkiclkiaaDoor
