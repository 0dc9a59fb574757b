/-
  The law's own toWord, eqWord, toCell, eqCell.
-/
import Derived.Test.YtchblncpabhflaaDoorRows
import Derived.Test.YtchblncpabhflaaDoorCeWords
import Derived.WalkKit
import Derived.WalkSpells
import Derived.WalkLawsBesides
import Derived.RowKit3
import Derived.Deep.RegionWith
namespace Go.Proofs.YtchblncpabhflaaDoor
open Go.RowKit




end Go.Proofs.YtchblncpabhflaaDoor
