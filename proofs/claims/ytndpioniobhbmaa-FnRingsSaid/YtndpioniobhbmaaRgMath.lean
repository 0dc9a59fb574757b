/-
  Cells that lead back to themselves: what is to be answered.
-/
import Derived.Test.YtndpioniobhbmaaHrMath
import Derived.Test.YtndpioniobhbmaaWlRefs
import Derived.Test.YtndpioniobhbmaaOwRow
namespace Go.Proofs.Ytndpioniobhbmaa
open Go.RowKit

/-- Whether a cell leads back to itself. -/
def ringQ (cs : List Ce) (k : Nat) : Bool := match cs[k]? with | some c => (inM (copyS cs [] [c.a, c.b])).getD k false | none => false
theorem ring_at {cs : List Ce} {k : Nat} (hk : k < cs.length) : ringQ cs k = (inM (copyS cs [] [cs[k].a, cs[k].b])).getD k false := by
  rw [ringQ]; simp [hk]
theorem rg_two (w : World) (x y : Wd) (t : TypeId) : Words (w.alloc (.cells #[.int .i64 x.tag, .int .i64 x.num, .int .i64 y.tag, .int .i64 y.num] t)) (· < (w.alloc (.cells #[.int .i64 x.tag, .int .i64 x.num, .int .i64 y.tag, .int .i64 y.num] t)).heap.size) [x, y] (.slice (some ⟨w.heap.size, 0, none⟩) 2 2) :=
  ⟨_, 2, rfl, fun i z hi => ⟨w.heap.size, 0, by simp, rfl, fun j u hj => by
    have key : ∀ j, (w.alloc (.cells #[.int .i64 x.tag, .int .i64 x.num, .int .i64 y.tag, .int .i64 y.num] t)).cell? ⟨w.heap.size, j, none⟩ = (#[.int .i64 x.tag, .int .i64 x.num, .int .i64 y.tag, .int .i64 y.num] : Array Value)[j]? := fun j => cell_of_row _ _ _ _ _ _ (heap_alloc_new w _)
    rw [key]
    match i with
    | 0 =>
      have e : x = z := by simpa using hi
      subst e
      match j with
      | 0 => simpa [Wd.cells] using hj
      | 1 => simpa [Wd.cells] using hj
      | j + 2 => simp [Wd.cells] at hj
    | 1 =>
      have e : y = z := by simpa using hi
      subst e
      match j with
      | 0 => simpa [Wd.cells] using hj
      | 1 => simpa [Wd.cells] using hj
      | j + 2 => simp [Wd.cells] at hj
    | i + 2 => simp at hi⟩⟩
theorem rg_new (w : World) (o : Obj) : Below w.heap.size w (w.alloc o) := (Below.refl _ _).alloc (Nat.le_refl _) o

/-- For each cell, whether it leads back to itself. -/
def ringsB (cs : List Ce) : List Bool := (List.range cs.length).map (ringQ cs)
theorem ringsB_length (cs : List Ce) : (ringsB cs).length = cs.length := by simp [ringsB]
theorem ringsB_get (cs : List Ce) (k : Nat) (h : k < (ringsB cs).length) : (ringsB cs)[k] = ringQ cs k := by simp [ringsB]
/-- What SameRings answers. -/
def ringsM (cs : List Ce) : List Nat := if heapM cs = true then takenM (ringsB cs) else []

end Go.Proofs.Ytndpioniobhbmaa
