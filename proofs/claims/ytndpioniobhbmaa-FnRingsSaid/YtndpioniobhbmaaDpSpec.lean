/-
  How deep cells lead one to the other: the specification's SameDeep.
-/
import Derived.Test.YtndpioniobhbmaaWlRefs
import Derived.Test.YtndpioniobhbmaaHoSpec
import Derived.Test.YtndpioniobhbmaaWrNum
import Derived.Deep.Cut
namespace Go.Proofs.Ytndpioniobhbmaa
open Go.RowKit

/-- How deep a word leads, so deep at most. -/
def deepM (cs : List Ce) : Nat → Wd → Nat
  | 0, _ => 0
  | m + 1, d => if d.tag = 4 then (match cs[d.num.toNat]? with | some c => max (deepM cs m c.a) (deepM cs m c.b) + 1 | none => 1) else 0
theorem deep_le (cs : List Ce) : ∀ (m : Nat) (d : Wd), deepM cs m d ≤ m
  | 0, _ => Nat.le_refl _
  | m + 1, d => by
    rw [deepM]
    split
    · split
      · rename_i c _
        have h1 := deep_le cs m c.a
        have h2 := deep_le cs m c.b
        omega
      · omega
    · omega
theorem deep_at {cs : List Ce} {m i : Nat} (hi : i < cs.length) : deepM cs (m + 1) ⟨4, i⟩ = max (deepM cs m cs[i].a) (deepM cs m cs[i].b) + 1 := by
  rw [deepM, if_pos rfl]
  simp [hi]
theorem deep_no {cs : List Ce} {d : Wd} (h : d.tag ≠ 4) : ∀ m, deepM cs m d = 0
  | 0 => rfl
  | m + 1 => by rw [deepM, if_neg h]
abbrev dpBox (d : Wd) : Obj := .cells #[.int .i64 d.tag, .int .i64 d.num] 31
theorem dp_two {w : World} {g : Nat} {d : Wd} (h : w.heap[g]? = some (dpBox d)) : w.cell? ⟨g, 0, none⟩ = some (.int .i64 d.tag) ∧ w.cell? ⟨g, 1, none⟩ = some (.int .i64 d.num) := ⟨cell_of_row _ _ 0 _ _ _ h, cell_of_row _ _ 1 _ _ _ h⟩
theorem dp_keep {w w' : World} {b : Nat} {d : Wd} (h : w.heap[b]? = some (dpBox d)) (hb : Below w.heap.size w w') : w'.heap[b]? = some (dpBox d) := (hb.block b (Array.getElem?_eq_some_iff.1 h).1).trans h

end Go.Proofs.Ytndpioniobhbmaa
