/-
  A reader that was just opened; a word's box.
-/
import Derived.Test.YtndpioniobhbmaaRdHeap
import Derived.Test.YtndpioniobhbmaaRdOpen
namespace Go.Proofs.Ytndpioniobhbmaa
open Go.RowKit

theorem rd_openedW {w : World} {len : Nat} {v : Value} (hv : Bytes w w.heap.size len v) (hlen : len ≤ 2000) : Rd (w.alloc (.cells #[v, .int .i64 0] 49)) w.heap.size 0 := by
  obtain ⟨a, cap, rfl, _, _, h3⟩ := hv
  have key : ∀ j, (w.alloc (.cells #[.slice a len cap, .int .i64 0] 49)).cell? ⟨w.heap.size, j, none⟩ = (#[.slice a len cap, .int .i64 0] : Array Value)[j]? := fun j => cell_of_row _ _ _ _ _ _ (heap_alloc_new w _)
  refine ⟨a, len, cap, 0, hlen, Nat.le_refl _, by simp, key 0, key 1, by simp, fun i hi => ?_⟩
  obtain ⟨b, off, x, ha, hb, hc, hx⟩ := h3 i hi
  exact ⟨b, off, x, ha, hb, by rw [((Below.refl _ _).alloc (Nat.le_refl _) _ : Below w.heap.size w _).cell (p := ⟨b, off + i, none⟩) hb]; exact hc, hx⟩
theorem below_butW {w w1 w2 : World} {g : Nat} (h : Below w.heap.size w w1) (hg : w1.grownBy w2 (some g)) (hB : w.heap.size ≤ g) : Below w.heap.size w w2 :=
  h.grown hg h.size (fun k hk => by cases hk; exact hB)
abbrev boxV (d : Wd) : Obj := .cells #[.int .i64 d.tag, .int .i64 d.num] 31
theorem boxV_two {w : World} {g : Nat} {d : Wd} (h : w.heap[g]? = some (boxV d)) : (w.cell? ⟨g, 0, none⟩ = some (.int .i64 d.tag) ∧ w.cell? ⟨g, 1, none⟩ = some (.int .i64 d.num)) ∧ ∀ o, w.frozen? ⟨g, o, none⟩ = false := by
  have key := fun j => cell_of_row _ _ j _ _ _ h
  refine ⟨⟨key 0, key 1⟩, fun o => ?_⟩
  unfold World.frozen?
  rw [h]
  simp
theorem set_twoV {w : World} {b c : Nat} {v0 v1 : Value} (hne : c ≠ b) : ((w.setCell ⟨b, 0, none⟩ v0).setCell ⟨b, 1, none⟩ v1).heap[c]? = w.heap[c]? := by
  rw [Below.heap_setCell _ _ _ _ hne, Below.heap_setCell _ _ _ _ hne]

end Go.Proofs.Ytndpioniobhbmaa
