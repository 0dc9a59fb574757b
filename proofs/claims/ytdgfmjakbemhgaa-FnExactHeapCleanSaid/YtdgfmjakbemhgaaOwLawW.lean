/-
  What a law holds: rows of words of its own.
-/
import Derived.Test.YtdgfmjakbemhgaaOwLaw
namespace Go.Proofs.Ytdgfmjakbemhgaa
open Go.RowKit

section
variable {w w' : World} {lo hi : Nat} {m : List Wd} {v : Value}
def OwnW (w : World) (lo hi : Nat) (l : List Wd) (v : Value) : Prop := w.ownsRow lo 41 2 v l.length (l.flatMap Wd.cells) ∧ ∀ k, v.ownBlock = some k → k < hi
theorem OwnW.keep (h : OwnW w lo hi m v) (hb : Below w.heap.size w w') : OwnW w' lo hi m v := ⟨ow_keep h.1 hb, h.2⟩
theorem OwnW.but {u : Value} (h : OwnW w lo hi m v) (hg : w.grownBy w' u.ownBlock) (hu : ∀ k, u.ownBlock = some k → v.ownBlock ≠ some k) : OwnW w' lo hi m v := by
  refine ⟨h.1.kept hg ?_, h.2⟩
  cases hv : v.ownBlock with
  | none => exact Or.inl rfl
  | some k => exact Or.inr fun e => hu k e.symm hv
theorem OwnW.row (h : OwnW w lo hi m v) : Words w (· < w.heap.size) m v := (OwnR.row (f := Wd.cells) h.1 (fun _ => rfl)).same fun _ hb => ⟨rfl, hb.2⟩
def MarkW (w : World) (lo n k : Nat) (v : Value) : Prop := w.ownsRow lo 41 2 v n (marksI (n * 2) k)
end
end Go.Proofs.Ytdgfmjakbemhgaa
