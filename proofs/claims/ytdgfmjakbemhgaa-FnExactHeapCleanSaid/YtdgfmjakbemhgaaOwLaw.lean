/-
  What a law holds: rows of cells of its own, and how they are kept.
-/
import Derived.Test.YtdgfmjakbemhgaaOwRow
import Derived.Test.YtdgfmjakbemhgaaCeWords
namespace Go.Proofs.Ytdgfmjakbemhgaa
open Go.RowKit

/-- The cells l lie in w as v, in a block of the law's own from lo to hi. -/
def OwnC (w : World) (lo hi : Nat) (l : List Ce) (v : Value) : Prop := w.ownsRow lo 43 6 v l.length (l.flatMap Ce.cells) ∧ ∀ k, v.ownBlock = some k → k < hi
section
variable {w w' : World} {lo hi : Nat} {l : List Ce} {m : List Wd} {v : Value}
theorem OwnC.keep (h : OwnC w lo hi l v) (hb : Below w.heap.size w w') : OwnC w' lo hi l v := ⟨ow_keep h.1 hb, h.2⟩
theorem OwnC.but {u : Value} (h : OwnC w lo hi l v) (hg : w.grownBy w' u.ownBlock) (hu : ∀ k, u.ownBlock = some k → v.ownBlock ≠ some k) : OwnC w' lo hi l v := by
  refine ⟨h.1.kept hg ?_, h.2⟩
  cases hv : v.ownBlock with
  | none => exact Or.inl rfl
  | some k => exact Or.inr fun e => hu k e.symm hv
theorem OwnC.row (h : OwnC w lo hi l v) : Cells w (· < w.heap.size) l v := (OwnR.row (f := Ce.cells) h.1 (fun _ => rfl)).same fun _ hb => ⟨rfl, hb.2⟩
end
/-- A row of marks. -/
def MarkC (w : World) (lo n k : Nat) (v : Value) : Prop := w.ownsRow lo 43 6 v n (marksI (n * 6) k)
theorem mk_but {w w' : World} {B n s : Nat} {e : TypeId} {v u : Value} {xs : List Value} (h : w.ownsRow B e s v n xs) (hg : w.grownBy w' u.ownBlock) (hu : ∀ k, u.ownBlock = some k → v.ownBlock ≠ some k) : w'.ownsRow B e s v n xs := by
  refine h.kept hg ?_
  cases hv : v.ownBlock with
  | none => exact Or.inl rfl
  | some k => exact Or.inr fun e => hu k e.symm hv
/-- Values whose blocks lie apart: the one's below N, the other's from N on. -/
theorem far {u v : Value} {N : Nat} (h1 : ∀ k, v.ownBlock = some k → k < N) (h2 : ∀ k, u.ownBlock = some k → N ≤ k) : ∀ k, u.ownBlock = some k → v.ownBlock ≠ some k := fun k hk e => by
  have := h1 k e
  have := h2 k hk
  omega
theorem far' {u v : Value} {N : Nat} (h1 : ∀ k, u.ownBlock = some k → k < N) (h2 : ∀ k, v.ownBlock = some k → N ≤ k) : ∀ k, u.ownBlock = some k → v.ownBlock ≠ some k := fun k hk e => by
  have := h2 k e
  have := h1 k hk
  omega

end Go.Proofs.Ytdgfmjakbemhgaa
