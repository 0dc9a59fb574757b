/-
  The law's own toWord, eqWord, toCell, eqCell.
-/
import Derived.Test.YtaeankokigmjaaaDoorRows
import Derived.Test.YtaeankokigmjaaaDoorCeWords
import Derived.WalkKit
import Derived.WalkSpells
import Derived.WalkLawsBesides
import Derived.RowKit3
import Derived.Deep.RegionWith
namespace Go.Proofs.YtaeankokigmjaaaDoor
open Go.RowKit




end Go.Proofs.YtaeankokigmjaaaDoor
