/-
  The specification's one: what it reads; come of whatever place.
-/
import Derived.Test.YtmbldcmmpbodgaaDoorCkComC
import Derived.Test.YtmbldcmmpbodgaaDoorCkFollow
import Derived.Test.YtmbldcmmpbodgaaDoorCkRnd
namespace Go.Proofs.YtmbldcmmpbodgaaDoor
open Go.RowKit

theorem law_come (ops : List Wd) (C : Tb × Bool) (k : Nat) (s : Sd) (w : World) (B g : Nat) (vl vt : Value) (h : SW w B g ops vl C vt) (hl : C.1.length = ops.length) (P : Int) (hP : P = (k : Int)) :
    Calls Tryd.prog 17 #[.pointer (some ⟨g, 0, none⟩), .int .i64 P, .agg #[.int .i64 s.n, .int .i64 s.v, .bool false]] w fun r w' => r = .returned (.tuple #[]) ∧ SW w' B g ops vl (comeM C (k, s)) vt ∧ Sm w w' g vt := by
  subst hP
  by_cases h1 : ops.length ≤ k
  · rw [show comeM C (k, s) = (C.1, true) from by unfold comeM; rw [if_pos (Or.inl (by simp only; omega))]]
    exact come_far ops C k s w B g vl vt h h1
  have hk : k < ops.length := by omega
  by_cases h2 : s.n < 0 ∨ s.v < 0
  · rw [show comeM C (k, s) = (C.1, true) from by unfold comeM; rw [if_pos (Or.inr h2)]]
    cases hc : C.1.getD k none with
    | none => exact come_low ops C k s w B g vl vt h hk hl hc h2
    | some s0 =>
      by_cases h3 : s0 = s
      · exact come_less ops C k s w B g vl vt h hk hl s0 hc h3 h2
      · exact come_other ops C k s w B g vl vt h hk hl s0 hc h3
  · have e : comeM C (k, s) = match C.1.getD k none with
        | some s0 => if s0 = s then (C.1, C.2) else (C.1, true)
        | none => (C.1.set k (some s), C.2) := by
      unfold comeM
      rw [if_neg (by simp only; omega)]
      rfl
    rw [e]
    cases hc : C.1.getD k none with
    | none => exact come_new ops C k s w B g vl vt h hk hl hc (by omega)
    | some s0 =>
      by_cases h3 : s0 = s
      · subst h3
        simp only [if_true]
        exact come_same ops C k s0 w B g vl vt h hk hl hc (by omega)
      · simp only [if_neg h3]
        exact come_other ops C k s w B g vl vt h hk hl s0 hc h3
/-- What one reads. -/
structure SF (w : World) (g k len lb loff lcap tb tcap : Nat) (tag num n v : Int) (bad : Bool) : Prop where
  c0 : w.cell? ⟨g, 0, none⟩ = some (.slice (some ⟨lb, loff, none⟩) len lcap)
  c1 : w.cell? ⟨g, 1, none⟩ = some (.slice (some ⟨tb, 0, none⟩) len tcap)
  c2 : w.cell? ⟨g, 2, none⟩ = some (.bool bad)
  cf : w.frozen? ⟨g, 2, none⟩ = false
  d0 : w.cell? ⟨tb, k * 3, none⟩ = some (.int .i64 n)
  d1 : w.cell? ⟨tb, k * 3 + 1, none⟩ = some (.int .i64 v)
  d2 : w.cell? ⟨tb, k * 3 + 2, none⟩ = some (.bool true)
  e0 : w.cell? ⟨lb, loff + k * 2, none⟩ = some (.int .i64 tag)
  e1 : w.cell? ⟨lb, loff + k * 2 + 1, none⟩ = some (.int .i64 num)
  gl : g < w.heap.size
  tl : tb < w.heap.size
  ll : lb < w.heap.size
theorem SF.keep {w w' : World} {g k len lb loff lcap tb tcap : Nat} {tag num n v : Int} {bad : Bool} (h : SF w g k len lb loff lcap tb tcap tag num n v bad) (hb : Below w.heap.size w w') : SF w' g k len lb loff lcap tb tcap tag num n v bad := by
  have hg := hb.block g h.gl
  have ht := hb.block tb h.tl
  have hl := hb.block lb h.ll
  have hz := hb.size
  exact ⟨by rw [World.cell?_of_block (w := w) hg]; exact h.c0, by rw [World.cell?_of_block (w := w) hg]; exact h.c1, by rw [World.cell?_of_block (w := w) hg]; exact h.c2, by rw [World.frozen?_of_block (w := w) hg]; exact h.cf, by rw [World.cell?_of_block (w := w) ht]; exact h.d0, by rw [World.cell?_of_block (w := w) ht]; exact h.d1, by rw [World.cell?_of_block (w := w) ht]; exact h.d2,
    by rw [World.cell?_of_block (w := w) hl]; exact h.e0, by rw [World.cell?_of_block (w := w) hl]; exact h.e1, Nat.lt_of_lt_of_le h.gl hz, Nat.lt_of_lt_of_le h.tl hz, Nat.lt_of_lt_of_le h.ll hz⟩
theorem SW.sf {w : World} {B g : Nat} {ops : List Wd} {vl vt : Value} {C : Tb × Bool} {k : Nat} {s : Sd} (h : SW w B g ops vl C vt) (hl : C.1.length = ops.length) (hk : C.1.getD k none = some s) (hkl : k < ops.length) :
    ∃ lb loff lcap tb tcap, vl = .slice (some ⟨lb, loff, none⟩) ops.length lcap ∧ vt = .slice (some ⟨tb, 0, none⟩) ops.length tcap ∧ SF w g k ops.length lb loff lcap tb tcap (ops.getD k op0).tag (ops.getD k op0).num s.n s.v C.2 := by
  obtain ⟨la, lcap, rfl⟩ := h.list.slice
  obtain ⟨c0, c1, c2, cf⟩ := h.cells
  obtain ⟨tb, tcap, rfl, htB, htl, htg, hr, hf⟩ := h.at (i := k) (by omega)
  obtain ⟨lb, loff, hlb, rfl, hrl⟩ := RowOf.at h.list k hkl
  have he : C.1[k]'(by omega) = some s := by
    rw [List.getD_eq_getElem?_getD, List.getElem?_eq_getElem (by omega)] at hk
    exact hk
  rw [he] at hr
  have ho : ops.getD k op0 = ops[k] := by
    rw [List.getD_eq_getElem?_getD, List.getElem?_eq_getElem hkl]
    rfl
  rw [ho, hl]
  rw [hl] at c1
  obtain ⟨e0, e1⟩ := Wd.two hrl
  have := h.hB
  have := h.lt
  exact ⟨lb, loff, lcap, tb, tcap, rfl, rfl, c0, c1, c2, cf, hr 0 _ rfl, hr 1 _ rfl, hr 2 _ rfl, e0, e1, h.lt, htl, by omega⟩
/-- A box of two and one of three. -/
theorem box23 {w w2 : World} {p q a b c : Value} {T U : TypeId} (h : Below ((w.alloc (.cells #[p, q] T)).alloc (.cells #[a, b, c] U)).heap.size ((w.alloc (.cells #[p, q] T)).alloc (.cells #[a, b, c] U)) w2) :
    (w2.cell? ⟨w.heap.size, 0, none⟩ = some p ∧ w2.cell? ⟨w.heap.size, 1, none⟩ = some q) ∧ (w2.cell? ⟨w.heap.size + 1, 0, none⟩ = some a ∧ w2.cell? ⟨w.heap.size + 1, 1, none⟩ = some b ∧ w2.cell? ⟨w.heap.size + 1, 2, none⟩ = some c) ∧ w.heap.size + 1 < w2.heap.size ∧ Below w.heap.size w w2 := by
  have hz' : (w.alloc (.cells #[p, q] T)).heap.size = w.heap.size + 1 := by simp
  have hz2 : ((w.alloc (.cells #[p, q] T)).alloc (.cells #[a, b, c] U)).heap.size = w.heap.size + 2 := by simp
  have hz := h.size
  have b1 := ((((Below.refl (w.alloc (.cells #[p, q] T)).heap.size (w.alloc (.cells #[p, q] T))).alloc (Nat.le_refl _) (.cells #[a, b, c] U)).trans (h.mono (by omega))).block w.heap.size (by omega)).trans (heap_alloc_new w (.cells #[p, q] T))
  have b3 : ((w.alloc (.cells #[p, q] T)).alloc (.cells #[a, b, c] U)).heap[w.heap.size + 1]? = some (.cells #[a, b, c] U) := by
    have := heap_alloc_new (w.alloc (.cells #[p, q] T)) (.cells #[a, b, c] U)
    rw [hz'] at this
    exact this
  have b2 := (h.block (w.heap.size + 1) (by omega)).trans b3
  refine ⟨⟨by rw [cell_of_row _ _ _ _ _ _ b1]; rfl, by rw [cell_of_row _ _ _ _ _ _ b1]; rfl⟩, ⟨by rw [cell_of_row _ _ _ _ _ _ b2]; rfl, by rw [cell_of_row _ _ _ _ _ _ b2]; rfl, by rw [cell_of_row _ _ _ _ _ _ b2]; rfl⟩, by omega, ?_⟩
  exact (((Below.refl w.heap.size w).alloc (Nat.le_refl _) _).alloc (by omega) _).trans (h.mono (by omega))
theorem moves_le (op : Wd) (h : 0 ≤ op.num ∧ op.num ≤ 1048576) : -1048576 ≤ movesM op ∧ movesM op ≤ 1 := by
  unfold movesM
  split
  · omega
  · split <;> omega
end Go.Proofs.YtmbldcmmpbodgaaDoor
