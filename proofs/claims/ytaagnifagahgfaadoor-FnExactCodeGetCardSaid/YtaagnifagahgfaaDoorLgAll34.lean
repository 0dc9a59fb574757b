/-
  The specification's one: what it reads; come of whatever place.
  The specification's one: what can't be done.
-/
import Derived.Test.YtaagnifagahgfaaDoorCkComC
import Derived.Test.YtaagnifagahgfaaDoorCkFollow
import Derived.Test.YtaagnifagahgfaaDoorCkRnd
namespace Go.Proofs.YtaagnifagahgfaaDoor
open Go.RowKit

theorem law_come (ops : List Wd) (C : Tb × Bool) (k : Nat) (s : Sd) (w : World) (B g : Nat) (vl vt : Value) (h : SW w B g ops vl C vt) (hl : C.1.length = ops.length) (P : Int) (hP : P = (k : Int)) :
    Calls Tryd.prog 24 #[.pointer (some ⟨g, 0, none⟩), .int .i64 P, .agg #[.int .i64 s.n, .int .i64 s.v, .bool false]] w fun r w' => r = .returned (.tuple #[]) ∧ SW w' B g ops vl (comeM C (k, s)) vt ∧ Sm w w' g vt := by
  subst hP
  by_cases h1 : ops.length ≤ k
  · rw [show comeM C (k, s) = (C.1, true) from by unfold comeM; rw [if_pos (Or.inl (by simp only; omega))]]
    exact come_far ops C k s w B g vl vt h h1
  have hk : k < ops.length := by omega
  by_cases h2 : s.n < 0 ∨ s.v < 0
  · rw [show comeM C (k, s) = (C.1, true) from by unfold comeM; rw [if_pos (Or.inr h2)]]
    cases hc : C.1.getD k none with
    | none => exact come_low ops C k s w B g vl vt h hk hl hc h2
    | some s0 =>
      by_cases h3 : s0 = s
      · exact come_less ops C k s w B g vl vt h hk hl s0 hc h3 h2
      · exact come_other ops C k s w B g vl vt h hk hl s0 hc h3
  · have e : comeM C (k, s) = match C.1.getD k none with
        | some s0 => if s0 = s then (C.1, C.2) else (C.1, true)
        | none => (C.1.set k (some s), C.2) := by
      unfold comeM
      rw [if_neg (by simp only; omega)]
      rfl
    rw [e]
    cases hc : C.1.getD k none with
    | none => exact come_new ops C k s w B g vl vt h hk hl hc (by omega)
    | some s0 =>
      by_cases h3 : s0 = s
      · subst h3
        simp only [if_true]
        exact come_same ops C k s0 w B g vl vt h hk hl hc (by omega)
      · simp only [if_neg h3]
        exact come_other ops C k s w B g vl vt h hk hl s0 hc h3
/-- What one reads. -/
structure SF (w : World) (g k len lb loff lcap tb tcap : Nat) (tag num n v : Int) (bad : Bool) : Prop where
  c0 : w.cell? ⟨g, 0, none⟩ = some (.slice (some ⟨lb, loff, none⟩) len lcap)
  c1 : w.cell? ⟨g, 1, none⟩ = some (.slice (some ⟨tb, 0, none⟩) len tcap)
  c2 : w.cell? ⟨g, 2, none⟩ = some (.bool bad)
  cf : w.frozen? ⟨g, 2, none⟩ = false
  d0 : w.cell? ⟨tb, k * 3, none⟩ = some (.int .i64 n)
  d1 : w.cell? ⟨tb, k * 3 + 1, none⟩ = some (.int .i64 v)
  d2 : w.cell? ⟨tb, k * 3 + 2, none⟩ = some (.bool true)
  e0 : w.cell? ⟨lb, loff + k * 2, none⟩ = some (.int .i64 tag)
  e1 : w.cell? ⟨lb, loff + k * 2 + 1, none⟩ = some (.int .i64 num)
  gl : g < w.heap.size
  tl : tb < w.heap.size
  ll : lb < w.heap.size
theorem SF.keep {w w' : World} {g k len lb loff lcap tb tcap : Nat} {tag num n v : Int} {bad : Bool} (h : SF w g k len lb loff lcap tb tcap tag num n v bad) (hb : Below w.heap.size w w') : SF w' g k len lb loff lcap tb tcap tag num n v bad := by
  have hg := hb.block g h.gl
  have ht := hb.block tb h.tl
  have hl := hb.block lb h.ll
  have hz := hb.size
  exact ⟨by rw [World.cell?_of_block (w := w) hg]; exact h.c0, by rw [World.cell?_of_block (w := w) hg]; exact h.c1, by rw [World.cell?_of_block (w := w) hg]; exact h.c2, by rw [World.frozen?_of_block (w := w) hg]; exact h.cf, by rw [World.cell?_of_block (w := w) ht]; exact h.d0, by rw [World.cell?_of_block (w := w) ht]; exact h.d1, by rw [World.cell?_of_block (w := w) ht]; exact h.d2,
    by rw [World.cell?_of_block (w := w) hl]; exact h.e0, by rw [World.cell?_of_block (w := w) hl]; exact h.e1, Nat.lt_of_lt_of_le h.gl hz, Nat.lt_of_lt_of_le h.tl hz, Nat.lt_of_lt_of_le h.ll hz⟩
theorem SW.sf {w : World} {B g : Nat} {ops : List Wd} {vl vt : Value} {C : Tb × Bool} {k : Nat} {s : Sd} (h : SW w B g ops vl C vt) (hl : C.1.length = ops.length) (hk : C.1.getD k none = some s) (hkl : k < ops.length) :
    ∃ lb loff lcap tb tcap, vl = .slice (some ⟨lb, loff, none⟩) ops.length lcap ∧ vt = .slice (some ⟨tb, 0, none⟩) ops.length tcap ∧ SF w g k ops.length lb loff lcap tb tcap (ops.getD k op0).tag (ops.getD k op0).num s.n s.v C.2 := by
  obtain ⟨la, lcap, rfl⟩ := h.list.slice
  obtain ⟨c0, c1, c2, cf⟩ := h.cells
  obtain ⟨tb, tcap, rfl, htB, htl, htg, hr, hf⟩ := h.at (i := k) (by omega)
  obtain ⟨lb, loff, hlb, rfl, hrl⟩ := RowOf.at h.list k hkl
  have he : C.1[k]'(by omega) = some s := by
    rw [List.getD_eq_getElem?_getD, List.getElem?_eq_getElem (by omega)] at hk
    exact hk
  rw [he] at hr
  have ho : ops.getD k op0 = ops[k] := by
    rw [List.getD_eq_getElem?_getD, List.getElem?_eq_getElem hkl]
    rfl
  rw [ho, hl]
  rw [hl] at c1
  obtain ⟨e0, e1⟩ := Wd.two hrl
  have := h.hB
  have := h.lt
  exact ⟨lb, loff, lcap, tb, tcap, rfl, rfl, c0, c1, c2, cf, hr 0 _ rfl, hr 1 _ rfl, hr 2 _ rfl, e0, e1, h.lt, htl, by omega⟩
/-- A box of two and one of three. -/
theorem box23 {w w2 : World} {p q a b c : Value} {T U : TypeId} (h : Below ((w.alloc (.cells #[p, q] T)).alloc (.cells #[a, b, c] U)).heap.size ((w.alloc (.cells #[p, q] T)).alloc (.cells #[a, b, c] U)) w2) :
    (w2.cell? ⟨w.heap.size, 0, none⟩ = some p ∧ w2.cell? ⟨w.heap.size, 1, none⟩ = some q) ∧ (w2.cell? ⟨w.heap.size + 1, 0, none⟩ = some a ∧ w2.cell? ⟨w.heap.size + 1, 1, none⟩ = some b ∧ w2.cell? ⟨w.heap.size + 1, 2, none⟩ = some c) ∧ w.heap.size + 1 < w2.heap.size ∧ Below w.heap.size w w2 := by
  have hz' : (w.alloc (.cells #[p, q] T)).heap.size = w.heap.size + 1 := by simp
  have hz2 : ((w.alloc (.cells #[p, q] T)).alloc (.cells #[a, b, c] U)).heap.size = w.heap.size + 2 := by simp
  have hz := h.size
  have b1 := ((((Below.refl (w.alloc (.cells #[p, q] T)).heap.size (w.alloc (.cells #[p, q] T))).alloc (Nat.le_refl _) (.cells #[a, b, c] U)).trans (h.mono (by omega))).block w.heap.size (by omega)).trans (heap_alloc_new w (.cells #[p, q] T))
  have b3 : ((w.alloc (.cells #[p, q] T)).alloc (.cells #[a, b, c] U)).heap[w.heap.size + 1]? = some (.cells #[a, b, c] U) := by
    have := heap_alloc_new (w.alloc (.cells #[p, q] T)) (.cells #[a, b, c] U)
    rw [hz'] at this
    exact this
  have b2 := (h.block (w.heap.size + 1) (by omega)).trans b3
  refine ⟨⟨by rw [cell_of_row _ _ _ _ _ _ b1]; rfl, by rw [cell_of_row _ _ _ _ _ _ b1]; rfl⟩, ⟨by rw [cell_of_row _ _ _ _ _ _ b2]; rfl, by rw [cell_of_row _ _ _ _ _ _ b2]; rfl, by rw [cell_of_row _ _ _ _ _ _ b2]; rfl⟩, by omega, ?_⟩
  exact (((Below.refl w.heap.size w).alloc (Nat.le_refl _) _).alloc (by omega) _).trans (h.mono (by omega))
theorem moves_le (op : Wd) (h : 0 ≤ op.num ∧ op.num ≤ 1048576) : -1048576 ≤ movesM op ∧ movesM op ≤ 1 := by
  unfold movesM
  split
  · omega
  · split <;> omega
end Go.Proofs.YtaagnifagahgfaaDoor

namespace Go.Proofs.YtaagnifagahgfaaDoor
open Go.RowKit

set_option maxRecDepth 100000 in
set_option maxHeartbeats 4000000 in
theorem one_few (ops : List Wd) (C : Tb × Bool) (k : Nat) (s : Sd) (w : World) (B g : Nat) (vl vt : Value) (h : SW w B g ops vl C vt) (hl : C.1.length = ops.length) (hk : C.1.getD k none = some s) (hkl : k < ops.length) (_hlen : ops.length ≤ 200) (hn : 0 ≤ s.n ∧ s.n ≤ 1000) (hvm : s.v ≤ 1000)
    (hT : 1 ≤ (ops.getD k op0).tag ∧ (ops.getD k op0).tag ≤ 24) (hnu : 0 ≤ (ops.getD k op0).num ∧ (ops.getD k op0).num ≤ 1048576) (hv : s.v < takesM (ops.getD k op0).tag) :
    Calls Tryd.prog 25 #[.pointer (some ⟨g, 0, none⟩), .int .i64 (k : Int)] w fun r w' => r = .returned (.tuple #[]) ∧ SW w' B g ops vl (C.1, true) vt ∧ Sm w w' g vt := by
  obtain ⟨lb, loff, lcap, tb, tcap, rfl, rfl, ff⟩ := h.sf hl hk hkl
  obtain ⟨n, v⟩ := s
  have hM := fun w => spec_l6Moves (ops.getD k op0) hT hnu w
  have htk := takes_le (ops.getD k op0).tag
  have hmv := moves_le (ops.getD k op0) hnu
  generalize movesM (ops.getD k op0) = mv at *
  generalize (ops.getD k op0).tag = tag at *
  generalize (ops.getD k op0).num = num at *
  generalize takesM tag = tk at *
  generalize putsM tag = pt at *
  obtain ⟨T, bad⟩ := C
  simp only at ff hv hn hvm hnu hl h ⊢
  obtain ⟨ht0, ht1, ht2, ht3⟩ := htk
  obtain ⟨c0, c1, c2, cf, d0, d1, d2, e0, e1, gl, tl, ll⟩ := ff.keep ((Below.refl _ _).alloc (Nat.le_refl _) (.cells #[.int .i64 tag, .int .i64 num] 33))
  have hff : Hid (SF w g k ops.length lb loff lcap tb tcap tag num n v bad) := ff
  obtain ⟨c0', c1', c2', cf', d0', d1', d2', e0', e1', gl', tl', ll'⟩ := ff
  have hki : (k : Int) < (ops.length : Int) := by omega
  have hh : Hid (SW w B g ops (.slice (some ⟨lb, loff, none⟩) ops.length lcap) (T, bad) (.slice (some ⟨tb, 0, none⟩) ops.length tcap)) := h
  have hl' : Hid (T.length = ops.length) := hl
  clear h hl hk hT
  go_enter Tryd.func25, Tryd.ntmps25
  go_wp2_with (go_at_call 38; refine (hM _).mono ?_; rintro r w2 ⟨rfl, hb2⟩; obtain ⟨⟨x0, x1⟩, ⟨y0, y1, y2⟩, zl, hb3⟩ := box23 hb2; have ff2 := hff.out.keep hb3; obtain ⟨c0, c1, c2, cf, d0, d1, d2, e0, e1, gl, tl, ll⟩ := ff2; have ne1 : w.heap.size ≠ w2.heap.size := (by omega); have ne2 : w.heap.size + 1 ≠ w2.heap.size := (by omega); have ne3 : w2.heap.size ≠ w.heap.size := (by omega); have ne4 : w2.heap.size ≠ w.heap.size + 1 := (by omega); have zl0 : w.heap.size < w2.heap.size := (by omega))
  have hS := (hh.out.keep hb3).fell true
  exact bodyPost_ret (v := .tuple #[]) (by simp [results, Tryd.results25, go_sem]) rfl ⟨rfl, hS.1, (Sm.ofBelow hb3).trans hS.2⟩
set_option maxRecDepth 100000 in
set_option maxHeartbeats 4000000 in
theorem one_var (ops : List Wd) (C : Tb × Bool) (k : Nat) (s : Sd) (w : World) (B g : Nat) (vl vt : Value) (h : SW w B g ops vl C vt) (hl : C.1.length = ops.length) (hk : C.1.getD k none = some s) (hkl : k < ops.length) (_hlen : ops.length ≤ 200) (hn : 0 ≤ s.n ∧ s.n ≤ 1000) (hvm : s.v ≤ 1000)
    (hT : 1 ≤ (ops.getD k op0).tag ∧ (ops.getD k op0).tag ≤ 24) (hnu : 0 ≤ (ops.getD k op0).num ∧ (ops.getD k op0).num ≤ 1048576) (hv : ¬ s.v < takesM (ops.getD k op0).tag) (h3 : (ops.getD k op0).tag = 3) (hnn : s.n ≤ (ops.getD k op0).num) :
    Calls Tryd.prog 25 #[.pointer (some ⟨g, 0, none⟩), .int .i64 (k : Int)] w fun r w' => r = .returned (.tuple #[]) ∧ SW w' B g ops vl (C.1, true) vt ∧ Sm w w' g vt := by
  obtain ⟨lb, loff, lcap, tb, tcap, rfl, rfl, ff⟩ := h.sf hl hk hkl
  obtain ⟨n, v⟩ := s
  have hM := fun w => spec_l6Moves (ops.getD k op0) hT hnu w
  have htk := takes_le (ops.getD k op0).tag
  have hmv := moves_le (ops.getD k op0) hnu
  generalize movesM (ops.getD k op0) = mv at *
  generalize (ops.getD k op0).tag = tag at *
  generalize (ops.getD k op0).num = num at *
  generalize takesM tag = tk at *
  generalize putsM tag = pt at *
  obtain ⟨T, bad⟩ := C
  simp only at ff hv hn hnn h3 hvm hnu hl h ⊢
  obtain ⟨ht0, ht1, ht2, ht3⟩ := htk
  have b3 : (tag == 3) = true := by simpa using h3
  clear h3
  obtain ⟨c0, c1, c2, cf, d0, d1, d2, e0, e1, gl, tl, ll⟩ := ff.keep ((Below.refl _ _).alloc (Nat.le_refl _) (.cells #[.int .i64 tag, .int .i64 num] 33))
  have hff : Hid (SF w g k ops.length lb loff lcap tb tcap tag num n v bad) := ff
  obtain ⟨c0', c1', c2', cf', d0', d1', d2', e0', e1', gl', tl', ll'⟩ := ff
  have hki : (k : Int) < (ops.length : Int) := by omega
  have hh : Hid (SW w B g ops (.slice (some ⟨lb, loff, none⟩) ops.length lcap) (T, bad) (.slice (some ⟨tb, 0, none⟩) ops.length tcap)) := h
  have hl' : Hid (T.length = ops.length) := hl
  clear h hl hk hT
  go_enter Tryd.func25, Tryd.ntmps25
  go_wp2_with (go_at_call 38; refine (hM _).mono ?_; rintro r w2 ⟨rfl, hb2⟩; obtain ⟨⟨x0, x1⟩, ⟨y0, y1, y2⟩, zl, hb3⟩ := box23 hb2; have ff2 := hff.out.keep hb3; obtain ⟨c0, c1, c2, cf, d0, d1, d2, e0, e1, gl, tl, ll⟩ := ff2; have ne1 : w.heap.size ≠ w2.heap.size := (by omega); have ne2 : w.heap.size + 1 ≠ w2.heap.size := (by omega); have ne3 : w2.heap.size ≠ w.heap.size := (by omega); have ne4 : w2.heap.size ≠ w.heap.size + 1 := (by omega); have zl0 : w.heap.size < w2.heap.size := (by omega))
  have hS := (hh.out.keep hb3).fell true
  exact bodyPost_ret (v := .tuple #[]) (by simp [results, Tryd.results25, go_sem]) rfl ⟨rfl, hS.1, (Sm.ofBelow hb3).trans hS.2⟩
theorem SW.boxSet {w w1 w' : World} {B g : Nat} {ops : List Wd} {vl vt : Value} {C C1 : Tb × Bool} (h : SW w B g ops vl C vt) (hb : Below w.heap.size w w1) (hC : SW w' B g ops vl C1 vt) (hM : Sm w1 w' g vt) (k o : Nat) (h1 : w.heap.size ≤ k) (x : Value) :
    SW (w'.setCell ⟨k, o, none⟩ x) B g ops vl C1 vt ∧ Sm w (w'.setCell ⟨k, o, none⟩ x) g vt := by
  have hg := h.lt
  have hB := h.hB
  have hz : (w'.setCell ⟨k, o, none⟩ x).heap.size = w'.heap.size := by simp [World.setCell]
  have hs : ∀ i, i ≠ k → (w'.setCell ⟨k, o, none⟩ x).heap[i]? = w'.heap[i]? := fun i hi => Below.heap_setCell _ _ _ _ hi
  have hMM := (Sm.ofBelow (g := g) (vt := vt) hb).trans hM
  refine ⟨hC.same fun i hi hc => hs i (fun e => ?_), ⟨hMM.os, hMM.tape, hMM.output, by have := hMM.size; omega, fun i hi a b => by rw [hs i (by omega)]; exact hMM.block i hi a b⟩⟩
  subst e
  rcases hc with e | e | e
  · omega
  · omega
  · have := (h.tab.lt i e.symm).2; omega
end Go.Proofs.YtaagnifagahgfaaDoor

