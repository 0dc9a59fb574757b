/-
  The program's CodeGet: its loop over lines.
-/
import Derived.Test.YtaagnifagahgfaaDoorLgAll3
import Derived.Test.YtaagnifagahgfaaDoorLgAll25
import Derived.Test.YtaagnifagahgfaaDoorLgAll20
namespace Go.Proofs.YtaagnifagahgfaaDoor
open Go.RowKit Go.Shelf
attribute [local go_sem] Oper.semAt_some

/-- The ops of the first k lines. -/
def opsL (l : List UInt8) (k : Nat) : List Wd := (List.range k).map fun i => lineOpM (lineL i l)
theorem opsL_length (l : List UInt8) (k : Nat) : (opsL l k).length = k := by simp [opsL]
theorem opsL_next (l : List UInt8) (k : Nat) : opsL l (k + 1) = opsL l k ++ [lineOpM (lineL k l)] := by simp [opsL, List.range_succ]
theorem own_aside {s d n sz : Nat} {A B : World} {e : TypeId} {v : Value} {xs : List Value} (h : A.ownsRow (d + 2) e sz v n xs) (hs : s < d) (ha : Aside s d A B) : B.ownsRow (d + 2) e sz v n xs := by
  obtain ⟨h1, ⟨h2, h3⟩ | ⟨g, cap, cur, rfl, hg, hh, r⟩⟩ := h
  · exact ⟨h1, Or.inl ⟨h2, h3⟩⟩
  · exact ⟨h1, Or.inr ⟨g, cap, cur, rfl, hg, by rw [ha.block g (Array.getElem?_eq_some_iff.1 hh).1 (by omega) (by omega) (by omega)]; exact hh, r⟩⟩
theorem below_aside {b s d : Nat} {w A B : World} (h : Below b w A) (hs : b ≤ s) (hd : b ≤ d) (hA : b ≤ A.heap.size) (ha : Aside s d A B) : Below b w B :=
  ⟨ha.os.trans h.os, ha.tape.trans h.tape, ha.output.trans h.output, Nat.le_trans h.size ha.size, fun k hk => (ha.block k (by omega) (by omega) (by omega) (by omega)).trans (h.block k hk)⟩
/-- Between two rounds: the list so far, in its box. -/
structure LI (b x d : Nat) (l : List UInt8) (w : World) (k : Nat) (W : World) : Prop where
  box : ∃ v, W.heap[x]? = some (.cells #[v] 22) ∧ W.ownsRow (d + 2) 33 2 v k ((opsL l k).flatMap Wd.cells)
  below : Below b w W
theorem LI.aside {b x s d : Nat} {l : List UInt8} {w : World} {k : Nat} {A B : World} (h : LI b x d l w k A) (h1 : b ≤ x) (h2 : x < s) (h3 : s < d) (hA : d < A.heap.size) (ha : Aside s d A B) : LI b x d l w k B := by
  obtain ⟨⟨v, hv, hr⟩, hb⟩ := h
  exact ⟨⟨v, by rw [ha.block x (by omega) (by omega) (by omega) (by omega)]; exact hv, own_aside hr h3 ha⟩, below_aside hb (by omega) (by omega) (by omega) ha⟩
theorem LI.start {b x d : Nat} {l : List UInt8} {w W : World} (h : W.heap[x]? = some (.cells #[.slice none 0 0] 22)) (hb : Below b w W) : LI b x d l w 0 W := ⟨⟨_, h, World.ownsRow_nil _ _ _ _⟩, hb⟩
/-- An op is appended. -/
theorem LI.next {b x s d : Nat} {l : List UInt8} {w : World} {k : Nat} {W w7 w8 : World} {v v' : Value} {o : Obj} (h : LI b x d l w k W) (h1 : b ≤ x) (h2 : x < s) (h3 : s < d) (hd : d + 1 < W.heap.size)
    (hv : W.heap[x]? = some (.cells #[v] 22)) (hrow : W.ownsRow (d + 2) 33 2 v k ((opsL l k).flatMap Wd.cells)) (h7 : Below W.heap.size W w7) (h8 : (w7.alloc o).grownBy w8 v.ownBlock)
    (hown : w8.ownsRow (d + 2) 33 2 v' (k + 1) ((opsL l k).flatMap Wd.cells ++ [.int .i64 (lineOpM (lineL k l)).tag, .int .i64 (lineOpM (lineL k l)).num])) :
    LI b x d l w (k + 1) (w8.setCell ⟨x, 0, none⟩ v') ∧ W.heap.size ≤ (w8.setCell ⟨x, 0, none⟩ v').heap.size ∧ (∀ j, j < d + 2 → j ≠ x → (w8.setCell ⟨x, 0, none⟩ v').heap[j]? = W.heap[j]?) ∧ w8.heap[x]? = some (.cells #[v] 22) := by
  have hrl := World.ownsRow.lt hrow
  have hz7 := h7.size
  have hz8 := h8.size
  have hz : (w8.setCell ⟨x, 0, none⟩ v').heap.size = w8.heap.size := by simp [World.setCell]
  have hal : (w7.alloc o).heap.size = w7.heap.size + 1 := by simp
  have hblk : ∀ j, j < W.heap.size → some j ≠ v.ownBlock → w8.heap[j]? = W.heap[j]? := fun j hj hne => by
    rw [h8.block j (by omega) hne, ((Below.refl w7.heap.size w7).alloc (Nat.le_refl _) o).block j (by omega), h7.block j hj]
  have hnr : ∀ j, j < d + 2 → some j ≠ v.ownBlock := fun j hj e => by
    have := (hrl j e.symm).1
    omega
  have hx8 : w8.heap[x]? = some (.cells #[v] 22) := by rw [hblk x (by omega) (hnr x (by omega))]; exact hv
  have hset : ∀ j, j ≠ x → (w8.setCell ⟨x, 0, none⟩ v').heap[j]? = w8.heap[j]? := fun j hj => Below.heap_setCell _ _ _ _ hj
  have hb8 : Below b w w8 := by
    have e1 := h.below.trans (h7.mono (by have := h.below.size; omega))
    refine ⟨h8.os.trans ((((Below.refl b w7).alloc (by omega) o).os).trans e1.os), h8.tape.trans ((((Below.refl b w7).alloc (by omega) o).tape).trans e1.tape), h8.output.trans ((((Below.refl b w7).alloc (by omega) o).output).trans e1.output), by have := h.below.size; omega, fun j hj => ?_⟩
    rw [hblk j (by omega) (hnr j (by omega))]
    exact h.below.block j hj
  refine ⟨⟨⟨v', ?_, ?_⟩, hb8.setCell (by exact h1) _⟩, by omega, fun j hj hne => by rw [hset j hne]; exact hblk j (by omega) (hnr j hj), hx8⟩
  · unfold World.setCell
    simp only [Array.getElem?_modify]
    rw [hx8]
    simp
  · rw [opsL_next, List.flatMap_append]
    show (w8.setCell _ v').ownsRow (d + 2) _ 2 v' (k + 1) ((opsL l k).flatMap Wd.cells ++ (Wd.cells (lineOpM (lineL k l)) ++ []))
    rw [List.append_nil]
    obtain ⟨g1, ⟨g2, g3⟩ | ⟨g, cap, cur, rfl, hg, hh, r⟩⟩ := hown
    · exact ⟨g1, Or.inl ⟨g2, g3⟩⟩
    · exact ⟨g1, Or.inr ⟨g, cap, cur, rfl, hg, by rw [hset g (by omega)]; exact hh, r⟩⟩
set_option maxHeartbeats 1000000 in
theorem lines_new (t : ByteArray) (w : World) : Calls Tryd.prog 16 #[.string t] w fun r w' => r = .returned (.func (.func 27) #[] #[.pointer (some ⟨w.heap.size, 0, none⟩)]) ∧ w' = w.alloc (.cells #[.string t] 9) := by
  go_enter Tryd.func16, Tryd.ntmps16
  go_wp2_with fail
  go_ret
  exact ⟨rfl, rfl⟩
end Go.Proofs.YtaagnifagahgfaaDoor

