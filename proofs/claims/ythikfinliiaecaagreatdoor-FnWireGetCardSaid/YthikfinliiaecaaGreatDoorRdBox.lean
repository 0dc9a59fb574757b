/-
  A cell in a box of its own that is written; a row of cells one of which is turned. No function is named here.
-/
import Derived.Test.YthikfinliiaecaaGreatDoorFgAll10
namespace Go.Proofs.YthikfinliiaecaaGreatDoor
open Go.RowKit

/-- A cell lies in block C, and may be written. -/
structure Box6 (w : World) (C : Nat) (c : Ce) : Prop where
  lt : C < w.heap.size
  c0 : w.cell? ⟨C, 0, none⟩ = some (.int .i64 c.kind)
  c1 : w.cell? ⟨C, 1, none⟩ = some (.int .i64 c.num)
  c2 : w.cell? ⟨C, 2, none⟩ = some (.int .i64 c.a.tag)
  c3 : w.cell? ⟨C, 3, none⟩ = some (.int .i64 c.a.num)
  c4 : w.cell? ⟨C, 4, none⟩ = some (.int .i64 c.b.tag)
  c5 : w.cell? ⟨C, 5, none⟩ = some (.int .i64 c.b.num)
  fr : ∀ o, w.frozen? ⟨C, o, none⟩ = false
theorem Box6.but {w w' : World} {C g : Nat} {c : Ce} (h : Box6 w C c) (hg : w.grownBy w' (some g)) (hne : C ≠ g) : Box6 w' C c := by
  have hb := hg.block C h.lt (by simp; omega)
  have hz := hg.size
  have hl := h.lt
  exact ⟨by omega, by rw [World.cell?_of_block (w := w) hb]; exact h.c0, by rw [World.cell?_of_block (w := w) hb]; exact h.c1, by rw [World.cell?_of_block (w := w) hb]; exact h.c2, by rw [World.cell?_of_block (w := w) hb]; exact h.c3, by rw [World.cell?_of_block (w := w) hb]; exact h.c4, by rw [World.cell?_of_block (w := w) hb]; exact h.c5, fun o => by rw [World.frozen?_of_block (w := w) hb]; exact h.fr o⟩
theorem set_ne {w : World} {C i j : Nat} {u : Value} (h : i ≠ j) : (w.setCell ⟨C, i, none⟩ u).cell? ⟨C, j, none⟩ = w.cell? ⟨C, j, none⟩ :=
  World.cell?_setCell_other _ _ _ _ (by intro e; cases e; exact h rfl)
theorem set_size (w : World) (p : Addr) (u : Value) : (w.setCell p u).heap.size = w.heap.size := by simp [World.setCell]
theorem Box6.setB {w : World} {C : Nat} {c : Ce} (h : Box6 w C c) (t z : Int) : Box6 ((w.setCell ⟨C, 4, none⟩ (.int .i64 t)).setCell ⟨C, 5, none⟩ (.int .i64 z)) C ⟨c.kind, c.num, c.a, ⟨t, z⟩⟩ := by
  refine ⟨by rw [set_size, set_size]; exact h.lt, ?_, ?_, ?_, ?_, ?_, ?_, fun o => by rw [rw_frozen_set, rw_frozen_set]; exact h.fr o⟩
  · rw [set_ne (by omega), set_ne (by omega)]; exact h.c0
  · rw [set_ne (by omega), set_ne (by omega)]; exact h.c1
  · rw [set_ne (by omega), set_ne (by omega)]; exact h.c2
  · rw [set_ne (by omega), set_ne (by omega)]; exact h.c3
  · rw [set_ne (by omega)]; exact World.cell?_setCell_same _ _ _ h.c4
  · exact World.cell?_setCell_same _ _ _ (by rw [set_ne (by omega)]; exact h.c5)
theorem Box6.setA {w : World} {C : Nat} {c : Ce} (h : Box6 w C c) (t z : Int) : Box6 ((w.setCell ⟨C, 2, none⟩ (.int .i64 t)).setCell ⟨C, 3, none⟩ (.int .i64 z)) C ⟨c.kind, c.num, ⟨t, z⟩, c.b⟩ := by
  refine ⟨by rw [set_size, set_size]; exact h.lt, ?_, ?_, ?_, ?_, ?_, ?_, fun o => by rw [rw_frozen_set, rw_frozen_set]; exact h.fr o⟩
  · rw [set_ne (by omega), set_ne (by omega)]; exact h.c0
  · rw [set_ne (by omega), set_ne (by omega)]; exact h.c1
  · rw [set_ne (by omega)]; exact World.cell?_setCell_same _ _ _ h.c2
  · exact World.cell?_setCell_same _ _ _ (by rw [set_ne (by omega)]; exact h.c3)
  · rw [set_ne (by omega), set_ne (by omega)]; exact h.c4
  · rw [set_ne (by omega), set_ne (by omega)]; exact h.c5
theorem Box6.setN {w : World} {C : Nat} {c : Ce} (h : Box6 w C c) (z : Int) : Box6 (w.setCell ⟨C, 1, none⟩ (.int .i64 z)) C ⟨c.kind, z, c.a, c.b⟩ := by
  refine ⟨by rw [set_size]; exact h.lt, ?_, ?_, ?_, ?_, ?_, ?_, fun o => by rw [rw_frozen_set]; exact h.fr o⟩
  · rw [set_ne (by omega)]; exact h.c0
  · exact World.cell?_setCell_same _ _ _ h.c1
  · rw [set_ne (by omega)]; exact h.c2
  · rw [set_ne (by omega)]; exact h.c3
  · rw [set_ne (by omega)]; exact h.c4
  · rw [set_ne (by omega)]; exact h.c5
theorem box6_new (w : World) (k n a b c d : Int) (t : TypeId) : Box6 (w.alloc (.cells #[.int .i64 k, .int .i64 n, .int .i64 a, .int .i64 b, .int .i64 c, .int .i64 d] t)) w.heap.size ⟨k, n, ⟨a, b⟩, ⟨c, d⟩⟩ := by
  have key : ∀ j, (w.alloc (.cells #[.int .i64 k, .int .i64 n, .int .i64 a, .int .i64 b, .int .i64 c, .int .i64 d] t)).cell? ⟨w.heap.size, j, none⟩ = (#[.int .i64 k, .int .i64 n, .int .i64 a, .int .i64 b, .int .i64 c, .int .i64 d] : Array Value)[j]? := fun j => cell_of_row _ _ _ _ _ _ (heap_alloc_new w _)
  exact ⟨by simp, key 0, key 1, key 2, key 3, key 4, key 5, fun o => by simp⟩

/-- Cells that were drawn lie in a row of the call's own; the reader stands; from block C on all is new. -/
structure Held (w : World) (g Q : Nat) (cs : List Ce) (v : Value) (C : Nat) (wc : World) : Prop where
  own : OwnR 6 Ce.cells 48 wc w.heap.size cs v
  lt : ∀ k, v.ownBlock = some k → k < C
  rd : Rd wc g Q
  grown : w.grownBy wc (some g)
  low : w.heap.size ≤ C
  gl : g < w.heap.size
theorem Held.set {w wc : World} {g Q C o : Nat} {cs : List Ce} {v u : Value} (h : Held w g Q cs v C wc) : Held w g Q cs v C (wc.setCell ⟨C, o, none⟩ u) := by
  have hl := h.low
  have hg := h.gl
  refine ⟨World.ownsRow.kept h.own (ow_but_set wc C o u) ?_, h.lt, rd_set h.rd (by omega) u, but_set h.grown h.low u, h.low, h.gl⟩
  cases hv : v.ownBlock with
  | none => exact Or.inl rfl
  | some k => exact Or.inr fun e => by have := h.lt k hv; have := Option.some.inj e; omega
theorem Held.but {w wc w' : World} {g Q Q' C : Nat} {cs : List Ce} {v : Value} (h : Held w g Q cs v C wc) (hg : wc.grownBy w' (some g)) (hR : Rd w' g Q') : Held w g Q' cs v C w' :=
  ⟨rd_but h.own hg h.gl, h.lt, hR, ow_grown_trans h.grown hg, h.low, h.gl⟩
theorem Held.mono {w wc : World} {g Q Q' C : Nat} {cs : List Ce} {v : Value} (h : Held w g Q cs v C wc) (hQ : Q ≤ Q') : Held w g Q' cs v C wc :=
  ⟨h.own, h.lt, h.rd.mono hQ, h.grown, h.low, h.gl⟩
theorem ce_len : ∀ x, (Ce.cells x).length = 6 := fun _ => rfl
/-- Where the cell at a place lies. -/
theorem Held.at {w wc : World} {g Q C : Nat} {cs : List Ce} {v : Value} (h : Held w g Q cs v C wc) (i : Nat) (hi : i < cs.length) : ∃ b cap, v = .slice (some ⟨b, 0, none⟩) cs.length cap ∧ wc.cell? ⟨b, i * 6, none⟩ = some (.int .i64 cs[i].kind) := by
  have ho := h.own
  obtain ⟨_, ⟨rfl, hn⟩ | ⟨b, cap, cur, rfl, hg, hh, _⟩⟩ := h.own
  · omega
  · refine ⟨b, cap, rfl, ?_⟩
    have := World.ownsRow.cells ho (g := b) rfl (i * 6 + 0) (.int .i64 cs[i].kind) (ow_flat_get ce_len cs i 0 cs[i] _ (List.getElem?_eq_getElem hi) rfl)
    rw [Addr.add_mid] at this
    simpa using this

theorem rd_flat_set {f : Ce → List Value} (hf : ∀ x, (f x).length = 6) : ∀ (l : List Ce) (i j : Nat) (x : Ce) (u : Value) (hi : i < l.length), j < 6 → (f l[i]).set j u = f x → (l.flatMap f).set (i * 6 + j) u = (l.set i x).flatMap f
  | y :: l, 0, j, x, u, hi, hj, h => by
    have h' : (f y).set j u = f x := h
    rw [List.flatMap_cons, Nat.zero_mul, Nat.zero_add, List.set_append_left _ _ (by rw [hf]; exact hj), h', List.set_cons_zero, List.flatMap_cons]
  | y :: l, i + 1, j, x, u, hi, hj, h => by
    rw [List.flatMap_cons, List.set_append_right _ _ (by rw [hf]; omega), hf, show (i + 1) * 6 + j - 6 = i * 6 + j by omega, rd_flat_set hf l i j x u (by simpa using hi) hj h, List.set_cons_succ, List.flatMap_cons]
/-- One number of a row of cells is turned: it is a row of cells still. -/
theorem own_turn {w : World} {B b cap : Nat} {cs : List Ce} (h : OwnR 6 Ce.cells 48 w B cs (.slice (some ⟨b, 0, none⟩) cs.length cap)) (i j : Nat) (hi : i < cs.length) (z : Int) (hj : j < 6) :
    ∃ cs' : List Ce, cs'.length = cs.length ∧ OwnR 6 Ce.cells 48 (w.setCell ⟨b, i * 6 + j, none⟩ (.int .i64 z)) B cs' (.slice (some ⟨b, 0, none⟩) cs.length cap) := by
  have hs := ow_set h (i * 6 + j) (.int .i64 z)
  have key : ∃ x : Ce, (Ce.cells cs[i]).set j (.int .i64 z) = Ce.cells x := by
    match j, hj with
    | 0, _ => exact ⟨⟨z, cs[i].num, cs[i].a, cs[i].b⟩, rfl⟩
    | 1, _ => exact ⟨⟨cs[i].kind, z, cs[i].a, cs[i].b⟩, rfl⟩
    | 2, _ => exact ⟨⟨cs[i].kind, cs[i].num, ⟨z, cs[i].a.num⟩, cs[i].b⟩, rfl⟩
    | 3, _ => exact ⟨⟨cs[i].kind, cs[i].num, ⟨cs[i].a.tag, z⟩, cs[i].b⟩, rfl⟩
    | 4, _ => exact ⟨⟨cs[i].kind, cs[i].num, cs[i].a, ⟨z, cs[i].b.num⟩⟩, rfl⟩
    | 5, _ => exact ⟨⟨cs[i].kind, cs[i].num, cs[i].a, ⟨cs[i].b.tag, z⟩⟩, rfl⟩
  obtain ⟨x, hx⟩ := key
  refine ⟨cs.set i x, by simp, ?_⟩
  unfold OwnR
  rw [← rd_flat_set ce_len cs i j x (.int .i64 z) hi hj hx, List.length_set]
  exact hs
/-- The cells of a row of cells may be written. -/
theorem own_open {w : World} {B b cap : Nat} {cs : List Ce} (h : OwnR 6 Ce.cells 48 w B cs (.slice (some ⟨b, 0, none⟩) cs.length cap)) (i j : Nat) (hi : i < cs.length) (hj : j < 6) :
    ∃ z : Int, w.cell? ⟨b, i * 6 + j, none⟩ = some (.int .i64 z) ∧ w.frozen? ⟨b, i * 6 + j, none⟩ = false := by
  have hlen : i * 6 + j < (cs.flatMap Ce.cells).length := by rw [ow_flat_len ce_len]; omega
  obtain ⟨h1, h2⟩ := ow_cell h (i * 6 + j) hlen
  have key : ∃ z : Int, (Ce.cells cs[i])[j]? = some (.int .i64 z) := by
    match j, hj with
    | 0, _ => exact ⟨_, rfl⟩
    | 1, _ => exact ⟨_, rfl⟩
    | 2, _ => exact ⟨_, rfl⟩
    | 3, _ => exact ⟨_, rfl⟩
    | 4, _ => exact ⟨_, rfl⟩
    | 5, _ => exact ⟨_, rfl⟩
  obtain ⟨z, hz⟩ := key
  have := ow_flat_get ce_len cs i j cs[i] _ (List.getElem?_eq_getElem hi) hz
  rw [List.getElem?_eq_getElem hlen] at this
  exact ⟨z, by rw [h1]; exact this, h2⟩
/-- A row of n cells of the call's own in block b, and the reader. -/
structure Fin6 (w : World) (g Q n b cap : Nat) (w' : World) : Prop where
  row : ∃ cs : List Ce, cs.length = n ∧ OwnR 6 Ce.cells 48 w' w.heap.size cs (.slice (some ⟨b, 0, none⟩) n cap)
  rd : Rd w' g Q
  grown : w.grownBy w' (some g)
  gl : g < w.heap.size
  lb : w.heap.size ≤ b
theorem Fin6.set {w w' : World} {g Q n b cap : Nat} (h : Fin6 w g Q n b cap w') (i j : Nat) (hi : i < n) (hj : j < 6) (z : Int) : Fin6 w g Q n b cap (w'.setCell ⟨b, i * 6 + j, none⟩ (.int .i64 z)) := by
  obtain ⟨cs, rfl, hO⟩ := h.row
  obtain ⟨cs', hl, hO'⟩ := own_turn hO i j hi z hj
  have hb := h.lb
  have hg := h.gl
  exact ⟨⟨cs', hl, hO'⟩, rd_set h.rd (by omega) _, but_set h.grown h.lb _, h.gl, h.lb⟩
theorem Fin6.but {w w' w2 : World} {g Q Q' n b cap : Nat} (h : Fin6 w g Q n b cap w') (hg : w'.grownBy w2 (some g)) (hR : Rd w2 g Q') : Fin6 w g Q' n b cap w2 := by
  obtain ⟨cs, hl, hO⟩ := h.row
  exact ⟨⟨cs, hl, rd_but hO hg h.gl⟩, hR, ow_grown_trans h.grown hg, h.gl, h.lb⟩
theorem Fin6.open {w w' : World} {g Q n b cap : Nat} (h : Fin6 w g Q n b cap w') (i : Nat) (hi : i < n) :
    (∃ z : Int, w'.cell? ⟨b, i * 6, none⟩ = some (.int .i64 z)) ∧ (∃ z : Int, w'.cell? ⟨b, i * 6 + 1, none⟩ = some (.int .i64 z)) ∧ (∃ z : Int, w'.cell? ⟨b, i * 6 + 2, none⟩ = some (.int .i64 z)) ∧ (∃ z : Int, w'.cell? ⟨b, i * 6 + 3, none⟩ = some (.int .i64 z)) ∧ (∃ z : Int, w'.cell? ⟨b, i * 6 + 4, none⟩ = some (.int .i64 z)) ∧ (∃ z : Int, w'.cell? ⟨b, i * 6 + 5, none⟩ = some (.int .i64 z)) ∧ ∀ j, j < 6 → w'.frozen? ⟨b, i * 6 + j, none⟩ = false := by
  obtain ⟨cs, rfl, hO⟩ := h.row
  have k := fun j hj => own_open hO i j hi hj
  obtain ⟨z0, h0, _⟩ := k 0 (by omega)
  obtain ⟨z1, h1, _⟩ := k 1 (by omega)
  obtain ⟨z2, h2, _⟩ := k 2 (by omega)
  obtain ⟨z3, h3, _⟩ := k 3 (by omega)
  obtain ⟨z4, h4, _⟩ := k 4 (by omega)
  obtain ⟨z5, h5, _⟩ := k 5 (by omega)
  exact ⟨⟨z0, h0⟩, ⟨z1, h1⟩, ⟨z2, h2⟩, ⟨z3, h3⟩, ⟨z4, h4⟩, ⟨z5, h5⟩, fun j hj => by obtain ⟨_, _, hf⟩ := k j hj; exact hf⟩
end Go.Proofs.YthikfinliiaecaaGreatDoor

