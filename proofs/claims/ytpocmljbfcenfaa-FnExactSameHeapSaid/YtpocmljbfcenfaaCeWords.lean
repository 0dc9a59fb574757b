/-
  Words and cells as plain data. No program is named here.
-/
import Derived.Test.YtpocmljbfcenfaaRwRow
namespace Go.Proofs.Ytpocmljbfcenfaa
open Go.RowKit

/-- A word: its tag, its number. -/
structure Wd where
  tag : Int
  num : Int
/-- A cell. -/
structure Ce where
  kind : Int
  num : Int
  a : Wd
  b : Wd
abbrev Wd.val (w : Wd) : Value := .agg #[.int .i64 w.tag, .int .i64 w.num]
abbrev Ce.val (c : Ce) : Value := .agg #[.int .i64 c.kind, .int .i64 c.num, .int .i64 c.a.tag, .int .i64 c.a.num, .int .i64 c.b.tag, .int .i64 c.b.num]
def Wd.cells (w : Wd) : List Value := [.int .i64 w.tag, .int .i64 w.num]
def Ce.cells (c : Ce) : List Value := [.int .i64 c.kind, .int .i64 c.num, .int .i64 c.a.tag, .int .i64 c.a.num, .int .i64 c.b.tag, .int .i64 c.b.num]
theorem Ce.six {w : World} {b o : Nat} {c : Ce} (h : w.rangeAt b o c.cells) :
    w.cell? ⟨b, o, none⟩ = some (.int .i64 c.kind) ∧ w.cell? ⟨b, o + 1, none⟩ = some (.int .i64 c.num) ∧ w.cell? ⟨b, o + 2, none⟩ = some (.int .i64 c.a.tag) ∧ w.cell? ⟨b, o + 3, none⟩ = some (.int .i64 c.a.num) ∧ w.cell? ⟨b, o + 4, none⟩ = some (.int .i64 c.b.tag) ∧ w.cell? ⟨b, o + 5, none⟩ = some (.int .i64 c.b.num) :=
  ⟨h 0 _ rfl, h 1 _ rfl, h 2 _ rfl, h 3 _ rfl, h 4 _ rfl, h 5 _ rfl⟩
theorem Wd.two {w : World} {b o : Nat} {c : Wd} (h : w.rangeAt b o c.cells) :
    w.cell? ⟨b, o, none⟩ = some (.int .i64 c.tag) ∧ w.cell? ⟨b, o + 1, none⟩ = some (.int .i64 c.num) :=
  ⟨h 0 _ rfl, h 1 _ rfl⟩
/-- The cells cs lie in w as v. -/
abbrev Cells (w : World) (S : Nat → Prop) (cs : List Ce) (v : Value) : Prop := RowOf 6 Ce.cells w S cs v

/-- Words lie in w as v. -/
abbrev Words (w : World) (S : Nat → Prop) (ws : List Wd) (v : Value) : Prop := RowOf 2 Wd.cells w S ws v
end Go.Proofs.Ytpocmljbfcenfaa
