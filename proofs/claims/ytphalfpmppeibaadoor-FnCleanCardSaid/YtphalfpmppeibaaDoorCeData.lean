/-
  The law's own toWord, eqWord, toCell, eqCell.
-/
import Derived.Test.YtphalfpmppeibaaDoorRows
import Derived.Test.YtphalfpmppeibaaDoorCeWords
import Derived.WalkKit
import Derived.WalkSpells
import Derived.WalkLawsBesides
import Derived.RowKit3
import Derived.Deep.RegionWith
namespace Go.Proofs.YtphalfpmppeibaaDoor
open Go.RowKit




end Go.Proofs.YtphalfpmppeibaaDoor
