/-
  Events as plain data.
-/
import Derived.Test.YtdfgimmnmfdegaaRows
import Derived.Test.YtdfgimmnmfdegaaOwRow
import Derived.WalkKit
import Derived.WalkSpells
import Derived.WalkLawsBesides
import Derived.RowKit3
import Derived.Deep.RegionWith
namespace Go.Proofs.Ytdfgimmnmfdegaa
open Go.RowKit

/-- An event: its kind, its process. -/
structure Ev where
  kind : Int
  proc : Int
abbrev Ev.val (e : Ev) : Value := .agg #[.int .i64 e.kind, .int .i64 e.proc]
def Ev.cells (e : Ev) : List Value := [.int .i64 e.kind, .int .i64 e.proc]
theorem Ev.two {w : World} {b o : Nat} {c : Ev} (h : w.rangeAt b o c.cells) :
    w.cell? ⟨b, o, none⟩ = some (.int .i64 c.kind) ∧ w.cell? ⟨b, o + 1, none⟩ = some (.int .i64 c.proc) :=
  ⟨h 0 _ rfl, h 1 _ rfl⟩
theorem Ev.len (c : Ev) : c.cells.length = 2 := rfl

end Go.Proofs.Ytdfgimmnmfdegaa
