/-
  The law's own toWord, eqWord, toCell, eqCell.
-/
import Derived.Test.YtoijdgklijdcfaaRows
import Derived.Test.YtoijdgklijdcfaaCeWords
import Derived.WalkKit
import Derived.WalkSpells
import Derived.WalkLawsBesides
import Derived.RowKit3
import Derived.Deep.RegionWith
namespace Go.Proofs.Ytoijdgklijdcfaa
open Go.RowKit




end Go.Proofs.Ytoijdgklijdcfaa
