/-
  The law's own eqIntS, markIntS, heldIntS.
-/
import Derived.Test.YtndpioniobhbmaaRows
import Derived.Test.YtndpioniobhbmaaOwRow
import Derived.Test.YtndpioniobhbmaaHrMath
import Derived.WalkKit
import Derived.WalkSpells
import Derived.WalkLawsBesides
import Derived.RowKit3
import Derived.Deep.QuietTactic
import Derived.BigQuiet
import Derived.Deep.LoopGhost
namespace Go.Proofs.Ytndpioniobhbmaa
open Go.RowKit

/-- Numbers lie in w as v, in a block of the law's own from lo to hi. -/
def OwnI (w : World) (lo hi : Nat) (l : List Nat) (v : Value) : Prop := w.ownsRow lo 3 1 v l.length (natsV l) ∧ ∀ k, v.ownBlock = some k → k < hi
theorem OwnI.keep {w w' : World} {lo hi : Nat} {l : List Nat} {v : Value} (h : OwnI w lo hi l v) (hb : Below w.heap.size w w') : OwnI w' lo hi l v := ⟨ow_keep h.1 hb, h.2⟩
theorem OwnI.but {w w' : World} {lo hi : Nat} {l : List Nat} {v u : Value} (h : OwnI w lo hi l v) (hg : w.grownBy w' u.ownBlock) (hu : ∀ k, u.ownBlock = some k → v.ownBlock ≠ some k) : OwnI w' lo hi l v := by
  refine ⟨h.1.kept hg ?_, h.2⟩
  cases hv : v.ownBlock with
  | none => exact Or.inl rfl
  | some k => exact Or.inr fun e => hu k e.symm hv
theorem own_at {w : World} {lo n : Nat} {e : TypeId} {v : Value} {xs : List Value} (h : w.ownsRow lo e 1 v n xs) : ∃ a cap, v = .slice a n cap ∧ ∀ j (hj : j < xs.length), ∃ g, a = some ⟨g, 0, none⟩ ∧ w.cell? ⟨g, j, none⟩ = some xs[j] := by
  have hx := h.1
  rcases h.2 with ⟨rfl, rfl⟩ | ⟨g, cap, cur, rfl, hg, hh, _⟩
  · exact ⟨none, 0, rfl, fun j hj => by omega⟩
  · refine ⟨_, cap, rfl, fun j hj => ⟨g, rfl, ?_⟩⟩
    exact (ow_cell h j hj).1



end Go.Proofs.Ytndpioniobhbmaa
