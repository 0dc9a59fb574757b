/-
  The reader of a code: words.
-/
import Derived.Test.YtndpioniobhbmaaRdOne
import Derived.Test.YtndpioniobhbmaaWlCopy
import Derived.Deep.LoopGhost
namespace Go.Proofs.Ytndpioniobhbmaa
open Go.RowKit

/-- How words are drawn. -/
def WordsDrawn (w w' : World) (g P : Nat) (r : Ending) : Prop := ∃ ws v, r = .returned v ∧ ws.length ≤ 4 ∧ OwnR 2 Wd.cells 31 w' w.heap.size ws v ∧ Rd w' g (P + 20) ∧ w.grownBy w' (some g)
theorem rd_one2 (t z : Int) : ∀ u ∈ [Value.int .i64 t, .int .i64 z], u.oneCell' = true := fun u hu => by
  simp only [List.mem_cons, List.not_mem_nil, or_false] at hu
  rcases hu with rfl | rfl <;> rfl
theorem rd_but {w w' : World} {B n s g : Nat} {e : TypeId} {v : Value} {xs : List Value} (h : w.ownsRow B e s v n xs) (hg : w.grownBy w' (some g)) (hB : g < B) : w'.ownsRow B e s v n xs :=
  ow_but h hg (fun k hk => by cases hk; exact hB)
theorem rd_grow {w w' : World} {g P : Nat} {row : Option Nat} (h : Rd w g P) (hg : w.grownBy w' row) (hr : ∀ k, row = some k → g < k) : Rd w' g P :=
  h.same (fun k hk => hg.block k (by have := h.lt; omega) (fun e => by have := hr k e.symm; omega)) hg.size
theorem grow_on {w w1 w2 : World} {g : Nat} {row : Option Nat} (h : w.grownBy w1 (some g)) (hg : w1.grownBy w2 row) (hr : ∀ k, row = some k → w.heap.size ≤ k) : w.grownBy w2 (some g) :=
  ⟨hg.os.trans h.os, hg.tape.trans h.tape, hg.output.trans h.output, Nat.le_trans h.size hg.size, fun i hi hne => (hg.block i (Nat.lt_of_lt_of_le hi h.size) (fun e => by have := hr i e.symm; omega)).trans (h.block i hi hne)⟩

end Go.Proofs.Ytndpioniobhbmaa
