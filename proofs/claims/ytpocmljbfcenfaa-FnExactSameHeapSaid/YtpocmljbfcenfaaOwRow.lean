/-
  Rows of the call's own, so many cells each; marks of plain numbers. No program is named here.
-/
import Derived.Test.YtpocmljbfcenfaaRwRow
import Derived.Deep.MidRow
import Derived.OwnWalk
namespace Go.Proofs.Ytpocmljbfcenfaa
open Go.RowKit

/-- The things l lie in w as v, n cells each, in a block of the call's own from B on. -/
def OwnR {α : Type} (n : Nat) (f : α → List Value) (E : TypeId) (w : World) (B : Nat) (l : List α) (v : Value) : Prop := w.ownsRow B E n v l.length (l.flatMap f)

theorem ow_keep {w w' : World} {B n s : Nat} {e : TypeId} {v : Value} {xs : List Value} (h : w.ownsRow B e s v n xs) (hb : Below w.heap.size w w') : w'.ownsRow B e s v n xs := by
  obtain ⟨h1, h2⟩ := h
  refine ⟨h1, ?_⟩
  rcases h2 with h2 | ⟨g, cap, cur, hv, hg, hh, r⟩
  · exact Or.inl h2
  · exact Or.inr ⟨g, cap, cur, hv, hg, by rw [hb.block g (Array.getElem?_eq_some_iff.1 hh).1]; exact hh, r⟩
theorem ow_base {w : World} {B B' n s : Nat} {e : TypeId} {v : Value} {xs : List Value} (h : w.ownsRow B e s v n xs) (hB : B' ≤ B) : w.ownsRow B' e s v n xs := by
  obtain ⟨h1, h2⟩ := h
  refine ⟨h1, ?_⟩
  rcases h2 with h2 | ⟨g, cap, cur, hv, hg, r⟩
  · exact Or.inl h2
  · exact Or.inr ⟨g, cap, cur, hv, Nat.le_trans hB hg, r⟩
theorem ow_but {w w' : World} {B n s : Nat} {e : TypeId} {v : Value} {xs : List Value} {row : Option Nat} (h : w.ownsRow B e s v n xs) (hg : w.grownBy w' row) (hr : ∀ k, row = some k → k < B) : w'.ownsRow B e s v n xs := by
  refine h.kept hg ?_
  cases hv : v.ownBlock with
  | none => exact Or.inl rfl
  | some k =>
    refine Or.inr fun e => ?_
    have := hr k e.symm
    have := (h.lt k hv).1
    omega
theorem ow_cells_new (w : World) (cs : Array Value) (T : TypeId) : ∀ j u, cs.toList[j]? = some u → (w.alloc (.cells cs T)).cell? ((⟨w.heap.size, 0, none⟩ : Addr).add j) = some u := fun j u hj => by
  rw [Addr.add_mid, cell_of_row _ _ _ _ _ _ (heap_alloc_new _ _)]
  simpa using hj
theorem ow_but_below {w w' : World} (row : Option Nat) (h : Below w.heap.size w w') : w.grownBy w' row := ⟨h.os, h.tape, h.output, h.size, fun k hk _ => h.block k hk⟩
theorem ow_but_set (w : World) (g j : Nat) (v : Value) : w.grownBy (w.setCell ⟨g, j, none⟩ v) (some g) := by
  have h := (Below.refl 0 w).setCell (p := ⟨g, j, none⟩) (Nat.zero_le _) v
  exact ⟨h.os, h.tape, h.output, h.size, fun k _ hn => Below.heap_setCell _ _ _ _ (fun e => hn (by rw [e]))⟩
theorem ow_grown_trans {a b c : World} {row : Option Nat} (h : a.grownBy b row) (k : b.grownBy c row) : a.grownBy c row :=
  ⟨k.os.trans h.os, k.tape.trans h.tape, k.output.trans h.output, Nat.le_trans h.size k.size, fun i hi hne => (k.block i (Nat.lt_of_lt_of_le hi h.size) hne).trans (h.block i hi hne)⟩
theorem ow_below {w w' : World} {B : Nat} {row : Option Nat} (h : w.grownBy w' row) (hr : ∀ k, row = some k → B ≤ k) (hB : B ≤ w.heap.size) : Below B w w' :=
  (Below.refl B w).grown h hB hr

theorem ow_flat_get {α : Type} {n : Nat} {f : α → List Value} (hf : ∀ x, (f x).length = n) : ∀ (l : List α) (i j : Nat) (x : α) (u : Value), l[i]? = some x → (f x)[j]? = some u → (l.flatMap f)[i * n + j]? = some u
  | [], i, j, x, u, h, _ => by simp at h
  | y :: l, 0, j, x, u, h, hu => by
    have h' : y = x := by simpa using h
    subst h'
    have hj : j < (f y).length := (List.getElem?_eq_some_iff.1 hu).1
    rw [List.flatMap_cons, Nat.zero_mul, Nat.zero_add, List.getElem?_append_left hj]
    exact hu
  | y :: l, i + 1, j, x, u, h, hu => by
    have h' : l[i]? = some x := by simpa using h
    rw [List.flatMap_cons, List.getElem?_append_right (by rw [hf, Nat.succ_mul]; omega), hf, show (i + 1) * n + j - n = i * n + j by rw [Nat.succ_mul]; omega]
    exact ow_flat_get hf l i j x u h' hu
theorem ow_flat_len {α : Type} {n : Nat} {f : α → List Value} (hf : ∀ x, (f x).length = n) : ∀ l : List α, (l.flatMap f).length = l.length * n
  | [] => by simp
  | y :: l => by rw [List.flatMap_cons, List.length_append, hf, ow_flat_len hf l, List.length_cons, Nat.succ_mul]; omega

section
variable {α : Type} {n : Nat} {f : α → List Value} {E : TypeId} {w w' : World} {B : Nat} {l : List α} {v : Value}
theorem OwnR.keep (h : OwnR n f E w B l v) (hb : Below w.heap.size w w') : OwnR n f E w' B l v := ow_keep h hb
theorem OwnR.base {B' : Nat} (h : OwnR n f E w B l v) (hB : B' ≤ B) : OwnR n f E w B' l v := ow_base h hB
theorem OwnR.row (h : OwnR n f E w B l v) (hf : ∀ x, (f x).length = n) : RowOf n f w (fun b => B ≤ b ∧ b < w.heap.size) l v := by
  have h0 := h
  obtain ⟨_, ⟨rfl, hn⟩ | ⟨g, cap, cur, rfl, hg, hh, _⟩⟩ := h
  · refine ⟨none, 0, by rw [hn], fun i x hi => ?_⟩
    have := (List.getElem?_eq_some_iff.1 hi).1
    omega
  · refine ⟨_, cap, rfl, fun i x hi => ⟨g, 0, ⟨hg, (Array.getElem?_eq_some_iff.1 hh).1⟩, rfl, fun j u hj => ?_⟩⟩
    have := World.ownsRow.cells h0 (g := g) rfl (i * n + j) u (ow_flat_get hf l i j x u hi hj)
    rw [Addr.add_mid] at this
    simpa using this
theorem OwnR.nil : OwnR n f E w B [] (.slice none 0 0) := World.ownsRow_nil _ _ _ _
theorem OwnR.snoc {x : α} (h : w.ownsRow B E n v (l.length + 1) (l.flatMap f ++ f x)) : OwnR n f E w B (l ++ [x]) v := by
  unfold OwnR
  rw [List.length_append, List.flatMap_append]
  simpa using h
theorem OwnR.lt (h : OwnR n f E w B l v) : ∀ k, v.ownBlock = some k → B ≤ k ∧ k < w.heap.size := World.ownsRow.lt h
end

/-- m numbers from k on. -/
def marksI (m k : Nat) : List Value := (List.range m).map fun i => .int .i64 ((k + i : Nat) : Int)
theorem marksI_length (m k : Nat) : (marksI m k).length = m := by simp [marksI]
theorem marksI_get {m k i : Nat} (h : i < m) : (marksI m k)[i]? = some (.int .i64 ((k + i : Nat) : Int)) := by simp [marksI, h]
/-- The first i of xs are marks. -/
def marksIn (xs : List Value) (k i : Nat) : List Value := (marksI xs.length k).take i ++ xs.drop i
theorem marksIn_length (xs : List Value) (k i : Nat) (h : i ≤ xs.length) : (marksIn xs k i).length = xs.length := by simp [marksIn, marksI]; omega
theorem marksIn_zero (xs : List Value) (k : Nat) : marksIn xs k 0 = xs := by simp [marksIn]
theorem marksIn_end (xs : List Value) (k : Nat) : marksIn xs k xs.length = marksI xs.length k := by
  rw [marksIn, List.take_of_length_le (by rw [marksI_length]; exact Nat.le_refl _), List.drop_length, List.append_nil]
theorem marksIn_next (xs : List Value) (k i : Nat) (h : i < xs.length) : (marksIn xs k i).set i (.int .i64 ((k + i : Nat) : Int)) = marksIn xs k (i + 1) := by
  have hl : ((marksI xs.length k).take i).length = i := by rw [List.length_take, marksI_length]; omega
  have hm : i < (marksI xs.length k).length := by rw [marksI_length]; exact h
  have hg : (marksI xs.length k)[i] = .int .i64 ((k + i : Nat) : Int) := by simp [marksI]
  rw [marksIn, List.set_append_right _ _ (by omega), hl, Nat.sub_self, List.drop_eq_getElem_cons h, List.set_cons_zero, marksIn, List.take_succ_eq_append_getElem hm, hg, List.append_assoc]
  rfl
theorem ow_set {w : World} {B g n s cap : Nat} {e : TypeId} {xs : List Value} (h : w.ownsRow B e s (.slice (some ⟨g, 0, none⟩) n cap) n xs) (i : Nat) (u : Value) : (w.setCell ⟨g, i, none⟩ u).ownsRow B e s (.slice (some ⟨g, 0, none⟩) n cap) n (xs.set i u) := by
  obtain ⟨h1, ⟨h2, _⟩ | ⟨g', cap', cur, hv, hg, hh, hn, hm, hs, ht⟩⟩ := h
  · cases h2
  · obtain ⟨rfl, rfl⟩ : g = g' ∧ cap = cap' := by simpa using hv
    refine ⟨by simpa using h1, Or.inr ⟨g, cap, cur.setIfInBounds i u, rfl, hg, ?_, hn, hm, by simpa using hs, ?_⟩⟩
    · unfold World.setCell
      simp only [Array.getElem?_modify]
      simp
      exact ⟨_, hh, by simp⟩
    · rw [Array.toList_setIfInBounds, List.take_set, ht]
theorem ow_cell {w : World} {B g n s cap : Nat} {e : TypeId} {xs : List Value} (h : w.ownsRow B e s (.slice (some ⟨g, 0, none⟩) n cap) n xs) (i : Nat) (hi : i < xs.length) : w.cell? ⟨g, i, none⟩ = some xs[i] ∧ w.frozen? ⟨g, i, none⟩ = false := by
  have hc := h.cells (g := g) rfl i xs[i] (by simp [hi])
  rw [Addr.add_mid] at hc
  obtain ⟨h1, ⟨h2, _⟩ | ⟨g', cap', cur, hv, hg, hh, hn, hm, hs, ht⟩⟩ := h
  · cases h2
  · obtain ⟨rfl, rfl⟩ : g = g' ∧ cap = cap' := by simpa using hv
    refine ⟨by simpa using hc, ?_⟩
    unfold World.frozen?
    rw [hh]
    simp
/-- How a marking ends: n things of s numbers each from k on. -/
def MarkedI (E : TypeId) (s : Nat) (w w' : World) (B n k : Nat) (v : Value) (r : Ending) : Prop := r = .returned (.int .i64 ((k + n * s : Nat) : Int)) ∧ w'.ownsRow B E s v n (marksI (n * s) k) ∧ w.grownBy w' v.ownBlock
end Go.Proofs.Ytpocmljbfcenfaa
