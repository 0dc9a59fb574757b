/-
  The law's own toWord, eqWord, toCell, eqCell.
-/
import Derived.Test.YtndpioniobhbmaaRows
import Derived.Test.YtndpioniobhbmaaCeWords
import Derived.WalkKit
import Derived.WalkSpells
import Derived.WalkLawsBesides
import Derived.RowKit3
import Derived.Deep.RegionWith
namespace Go.Proofs.Ytndpioniobhbmaa
open Go.RowKit




end Go.Proofs.Ytndpioniobhbmaa
