/-
  SameDeep: the specification's, whole.
-/
import Derived.Test.YtndpioniobhbmaaDpSpec
namespace Go.Proofs.Ytndpioniobhbmaa
open Go.RowKit

/-- What SameDeep answers. -/
def deepOf (cs : List Ce) (d : Wd) : Int := if heapM cs = true ∧ wordP cs.length d.tag d.num then (deepM cs 14 d : Int) else -1
theorem deepOf_yes {cs : List Ce} {d : Wd} (h1 : heapM cs = true) (h2 : wordP cs.length d.tag d.num) : deepOf cs d = (deepM cs 14 d : Int) := if_pos ⟨h1, h2⟩
theorem deepOf_heap {cs : List Ce} {d : Wd} (h1 : heapM cs = false) : deepOf cs d = -1 := if_neg (fun h => by rw [h1] at h; exact absurd h.1 (by simp))
theorem deepOf_word {cs : List Ce} {d : Wd} (h1 : ¬ wordP cs.length d.tag d.num) : deepOf cs d = -1 := if_neg (fun h => h1 h.2)

end Go.Proofs.Ytndpioniobhbmaa
