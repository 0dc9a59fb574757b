/-
  What the program's hasItsOwn asks, as plain mathematics.
-/
import Derived.Test.YtdghblpaccaaiaaDoorExForm
namespace Go.Proofs.YtdghblpaccaaiaaDoor
open Go.RowKit

/-- Whether an expression of so many parts has what its kind has. -/
def ownC (k : Int) (n : Nat) (a b : ByteArray) (u : Int) : Bool := decide ((n : Int) = kidsN k) && bareC k a b u
theorem own_kids (k : Int) (n : Nat) (a b : ByteArray) (u : Int) (h : ¬ (n : Int) = kidsN k) : ownC k n a b u = false := by simp [ownC, h]
theorem own_least (k : Int) (n : Nat) (a b : ByteArray) (u : Int) (h : ¬ leastN k ≤ u) : ownC k n a b u = false := by simp [ownC, bareC, h]
theorem own_most (k : Int) (n : Nat) (a b : ByteArray) (u : Int) (h : ¬ u ≤ mostN k) : ownC k n a b u = false := by simp [ownC, bareC, h]
theorem own_all (k : Int) (n : Nat) (a b : ByteArray) (u : Int) (h : (n : Int) = kidsN k) (h1 : leastN k ≤ u) (h2 : u ≤ mostN k) : ownC k n a b u = namesC (namesN k) a b := by simp [ownC, bareC, h, h1, h2]
theorem below_own0 {w w2 : World} {o o2 : Obj} (h : Below (w.alloc o).heap.size (w.alloc o) w2) : Below w.heap.size w (w2.alloc o2) :=
  (((Below.refl _ _).alloc (Nat.le_refl _) o).trans (h.mono (by simp))).alloc (by have := h.size; simp at this; omega) o2
theorem below_own {w w2 w3 : World} {o o2 : Obj} (h : Below (w.alloc o).heap.size (w.alloc o) w2) (h3 : Below (w2.alloc o2).heap.size (w2.alloc o2) w3) : Below w.heap.size w w3 :=
  (below_own0 h).trans (h3.mono (by have := h.size; simp at this; simp; omega))

end Go.Proofs.YtdghblpaccaaiaaDoor
