/-
  Boxes: an expression that was laid in a block of its own, in every later world.
-/
import Derived.Test.YtdghblpaccaaiaaDoorExTakes
import Derived.Test.YtdghblpaccaaiaaDoorExTo
import Derived.Test.YtdghblpaccaaiaaDoorExEq
namespace Go.Proofs.YtdghblpaccaaiaaDoor
open Go.RowKit

/-- The five cells of a box that was laid at B, in every later world. -/
theorem box5 {w wr : World} {a b c d x : Value} {t : TypeId} (h : Below (w.heap.size + 1) (w.alloc (.cells #[a, b, c, d, x] t)) wr) :
    wr.cell? ⟨w.heap.size, 0, none⟩ = some a ∧ wr.cell? ⟨w.heap.size, 1, none⟩ = some b ∧ wr.cell? ⟨w.heap.size, 2, none⟩ = some c ∧ wr.cell? ⟨w.heap.size, 3, none⟩ = some d ∧ wr.cell? ⟨w.heap.size, 4, none⟩ = some x := by
  have key : ∀ j, wr.cell? ⟨w.heap.size, j, none⟩ = (#[a, b, c, d, x] : Array Value)[j]? := fun j => by
    rw [h.cell (p := ⟨w.heap.size, j, none⟩) (by show w.heap.size < w.heap.size + 1; omega), cell_of_row _ _ _ _ _ _ (heap_alloc_new w _)]
  exact ⟨key 0, key 1, key 2, key 3, key 4⟩
theorem box_start {w w2 : World} {o : Obj} (h : Below (w.alloc o).heap.size (w.alloc o) w2) : Below (w.heap.size + 1) (w.alloc o) w2 := by simpa using h
theorem box_alloc {w wr : World} {o o2 : Obj} (h : Below (w.heap.size + 1) (w.alloc o) wr) : Below (w.heap.size + 1) (w.alloc o) (wr.alloc o2) :=
  h.alloc (by have := h.size; simpa using this) o2
theorem lies_alloc {w : World} {es : List Ex} {v : Value} (h : Lies w (· < w.heap.size) es v) (o : Obj) : Lies (w.alloc o) (· < (w.alloc o).heap.size) es v :=
  h.keep ((Below.refl _ _).alloc (Nat.le_refl _) o) (by simp)
theorem lies_box {w wr : World} {o : Obj} {es : List Ex} {v : Value} (h : Lies w (· < w.heap.size) es v) (hb : Below (w.heap.size + 1) (w.alloc o) wr) : Lies wr (· < wr.heap.size) es v :=
  h.keep (below_of_box hb) (below_of_box hb).size
theorem lies_lt {w : World} {N : Nat} {es : List Ex} {v : Value} (h : Lies w (fun b => N ≤ b ∧ b < w.heap.size) es v) : Lies w (· < w.heap.size) es v :=
  h.same fun _ hb => ⟨rfl, hb.2⟩
theorem tab_box {w wr : World} {o : Obj} (h : Tab w) (hb : Below (w.heap.size + 1) (w.alloc o) wr) : Tab wr := h.below (below_of_box hb) h.pos

theorem below_chain {w w7 w8 w9 : World} (h7 : Below w.heap.size w w7) (h8 : Below w7.drew.heap.size w7.drew w8) (h9 : Below w8.heap.size w8 w9) : Below w.heap.size w w9 := by
  have h78 := h7.drew.trans (h8.mono h7.size)
  exact h78.trans (h9.mono h78.size)

end Go.Proofs.YtdghblpaccaaiaaDoor
