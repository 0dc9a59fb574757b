/-
  Rows of plain things, so many cells each, in a block. No program is named here.
-/
import Derived.Below
import Derived.Deep.MidRow
import Derived.WalkKit
namespace Go.Proofs.Ytpocmljbfcenfaa
open Go.RowKit

theorem rw_same {w w' : World} {b o : Nat} {cs : List Value} (hs : w'.heap[b]? = w.heap[b]?) (h : w.rangeAt b o cs) : w'.rangeAt b o cs :=
  fun j v hv => by rw [← h j v hv]; exact World.cell?_of_block (w := w) hs

theorem rw_cell {W w1 : World} (hb : Below W.heap.size W w1) : (∀ b o, b < W.heap.size → w1.cell? ⟨b, o, none⟩ = W.cell? ⟨b, o, none⟩) ∧ (∀ b o, b < W.heap.size → w1.frozen? ⟨b, o, none⟩ = W.frozen? ⟨b, o, none⟩) :=
  ⟨fun b o h => hb.cell (p := ⟨b, o, none⟩) h, fun b o h => hb.frozen (p := ⟨b, o, none⟩) h⟩

theorem rw_frozen_set (w : World) (p q : Addr) (v : Value) : (w.setCell p v).frozen? q = w.frozen? q := by
  unfold World.frozen? World.setCell
  simp only [Array.getElem?_modify]
  by_cases h : p.block = q.block
  · rw [if_pos h]
    cases hq : w.heap[q.block]? with
    | none => rfl
    | some o => cases o <;> rfl
  · rw [if_neg h]
theorem rw_unfrozen_new (w : World) (b o : Nat) (h : w.heap.size ≤ b) : w.frozen? ⟨b, o, none⟩ = false := by
  unfold World.frozen?
  rw [Array.getElem?_eq_none h]

/-- The things l lie in w as the slice value v, n cells each, in a block of which S holds. -/
def RowOf {α : Type} (n : Nat) (f : α → List Value) (w : World) (S : Nat → Prop) (l : List α) (v : Value) : Prop :=
  ∃ a cap, v = .slice a l.length cap ∧ ∀ i x, l[i]? = some x → ∃ b off, S b ∧ a = some ⟨b, off, none⟩ ∧ w.rangeAt b (off + i * n) (f x)

section
variable {α : Type} {n : Nat} {f : α → List Value} {w w' : World} {S S' : Nat → Prop} {l : List α} {v : Value}
theorem RowOf.same (h : RowOf n f w S l v) (hs : ∀ b, S b → w'.heap[b]? = w.heap[b]? ∧ S' b) : RowOf n f w' S' l v := by
  obtain ⟨a, cap, rfl, h⟩ := h
  refine ⟨a, cap, rfl, fun i x hi => ?_⟩
  obtain ⟨b, off, hb, rfl, hr⟩ := h i x hi
  exact ⟨b, off, (hs b hb).2, rfl, rw_same (hs b hb).1 hr⟩
theorem RowOf.keep {B B' : Nat} (h : RowOf n f w (· < B) l v) (hb : Below B w w') (hB : B ≤ B') : RowOf n f w' (· < B') l v :=
  h.same fun b hlt => ⟨hb.block b hlt, Nat.lt_of_lt_of_le hlt hB⟩
theorem RowOf.drew (h : RowOf n f w S l v) : RowOf n f w.drew S l v := h.same fun _ hb => ⟨rfl, hb⟩
theorem RowOf.slice (h : RowOf n f w S l v) : ∃ a cap, v = .slice a l.length cap := by
  obtain ⟨a, cap, rfl, _⟩ := h
  exact ⟨a, cap, rfl⟩
theorem RowOf.at {a : Option Addr} {cap m : Nat} (h : RowOf n f w S l (.slice a m cap)) (i : Nat) (hi : i < l.length) : ∃ b off, S b ∧ a = some ⟨b, off, none⟩ ∧ w.rangeAt b (off + i * n) (f l[i]) := by
  obtain ⟨a', cap', he, h⟩ := h
  obtain ⟨rfl, rfl, rfl⟩ : a = a' ∧ m = l.length ∧ cap = cap' := by simpa using he
  exact h i _ (List.getElem?_eq_getElem hi)
theorem RowOf.nil (a : Option Addr) (cap : Nat) : RowOf n f w S [] (.slice a 0 cap) := ⟨a, cap, rfl, fun i x h => by simp at h⟩
end

theorem rw_heap_setCells (b : Nat) : ∀ (vs : List Value) (o : Nat) (w : World) (k : Nat), k ≠ b → (w.setCells b o vs).heap[k]? = w.heap[k]?
  | [], _, _, _, _ => rfl
  | v :: r, o, w, k, h => by
    rw [World.setCells, rw_heap_setCells b r (o + 1) _ k h]
    exact Below.heap_setCell _ _ _ _ h
theorem rw_size_setCells (b : Nat) : ∀ (vs : List Value) (o : Nat) (w : World), (w.setCells b o vs).heap.size = w.heap.size
  | [], _, _ => rfl
  | v :: r, o, w => by
    rw [World.setCells, rw_size_setCells b r (o + 1)]
    simp [World.setCell]
theorem rw_below_setCells {B b : Nat} {a : World} (hB : B ≤ b) : ∀ (vs : List Value) (o : Nat) (w : World), Below B a w → Below B a (w.setCells b o vs)
  | [], _, _, h => h
  | v :: r, o, w, h => by
    rw [World.setCells]
    exact rw_below_setCells hB r (o + 1) _ (h.setCell (p := ⟨b, o, none⟩) hB v)
theorem rw_there_made (w : World) (z : Array Value) (n : Nat) (t : TypeId) : (w.alloc (.cells (madeCells z n) t)).there w.heap.size 0 n := fun j hj => by
  have hb : (w.alloc (.cells (madeCells z n) t)).heap[w.heap.size]? = some (.cells (madeCells z n) t) := heap_alloc_new _ _
  refine ⟨?_, ?_⟩
  · rw [cell_of_row _ _ _ _ _ _ hb]; simp [size_madeCells, hj]
  · unfold World.frozen?
    rw [hb]
    simp
theorem rw_there_part {w : World} {b o n k : Nat} (h : w.there b 0 n) (hn : o + k ≤ n) : w.there b o k := fun j hj => by
  have := h (o + j) (by omega)
  simpa using this
theorem rw_there_same {w w' : World} {b o n : Nat} (hs : w'.heap[b]? = w.heap[b]?) (h : w.there b o n) : w'.there b o n := fun j hj => by
  obtain ⟨h1, h2⟩ := h j hj
  exact ⟨by rw [World.cell?_of_block (w := w) hs]; exact h1, by rw [World.frozen?_of_block (w := w) hs]; exact h2⟩

/-- The first m of l are copied into block nb. -/
def CopyTo {α : Type} (n : Nat) (f : α → List Value) (w : World) (nb : Nat) (l : List α) (m : Nat) : Prop := ∀ i x, i < m → l[i]? = some x → w.rangeAt nb (i * n) (f x)
theorem CopyTo.zero {α : Type} {n : Nat} {f : α → List Value} {w : World} {nb : Nat} {l : List α} : CopyTo n f w nb l 0 := fun i x h => absurd h (by omega)
theorem CopyTo.next {α : Type} {n : Nat} {f : α → List Value} {wr w2 : World} {nb : Nat} {l : List α} {m : Nat} (hd : CopyTo n f wr nb l m) (hf : ∀ x, (f x).length = n) (hlt : m < l.length) (hb : w2.heap[nb]? = wr.heap[nb]?)
    (hth : w2.there nb (m * n) n) : CopyTo n f (w2.setCells nb (m * n) (f l[m])) nb l (m + 1) := by
  intro i x hi hx
  by_cases h : i < m
  · refine World.rangeAt_setCells_apart (rw_same hb (hd i x h hx)) _ _ _ (Or.inr (Or.inl ?_))
    rw [hf]
    have : (i + 1) * n ≤ m * n := Nat.mul_le_mul_right _ h
    rw [Nat.succ_mul] at this
    exact this
  · obtain rfl : i = m := by omega
    rw [List.getElem?_eq_getElem hlt] at hx
    cases hx
    exact World.rangeAt_setCells_same w2 nb (i * n) (f l[i]) (by rw [hf]; exact hth)
theorem CopyTo.all {α : Type} {n : Nat} {f : α → List Value} {w : World} {nb : Nat} {l : List α} (hd : CopyTo n f w nb l l.length) {S : Nat → Prop} (hS : S nb) (cap : Nat) : RowOf n f w S l (.slice (some ⟨nb, 0, none⟩) l.length cap) :=
  ⟨_, _, rfl, fun i x hi => ⟨nb, 0, hS, rfl, by have := hd i x (List.getElem?_eq_some_iff.1 hi).1 hi; simpa using this⟩⟩
end Go.Proofs.Ytpocmljbfcenfaa
