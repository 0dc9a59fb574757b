/-
  The specification's come: a place that was not come to yet.
  The specification's one: what it reads; come of whatever place.
-/
import Derived.Test.YtlkbgmgnjkkfgaaDoorCkComB
import Derived.Test.YtlkbgmgnjkkfgaaDoorLvAll6
import Derived.Test.YtlkbgmgnjkkfgaaDoorCkRnd
namespace Go.Proofs.YtlkbgmgnjkkfgaaDoor
open Go.RowKit

theorem SW.drew {w : World} {B g : Nat} {ops : List Wd} {vl : Value} {C : Tb × Bool} {vt : Value} (h : SW w B g ops vl C vt) : SW w.drew B g ops vl C vt := ⟨h.hB, h.blk, h.list, h.tab, h.tg⟩
theorem Sm.drew {w w' : World} {g : Nat} {vt : Value} (h : Sm w w' g vt) : Sm w w'.drew g vt := ⟨h.os, h.tape, h.output, h.size, h.block⟩
theorem set_known {T : Tb} {k : Nat} {s : Sd} (h : T.getD k none = some s) : T.set k (some s) = T := by
  apply List.ext_getElem?
  intro i
  rw [List.getElem?_set]
  split
  · rename_i e
    subst e
    rw [List.getD_eq_getElem?_getD] at h
    cases ht : T[k]? with
    | none => rw [ht] at h; cases h
    | some o =>
      rw [ht] at h
      have : o = some s := h
      have hk := (List.getElem?_eq_some_iff.1 ht).1
      simp [hk, this]
  · rfl
set_option maxRecDepth 100000 in
set_option maxHeartbeats 4000000 in
theorem come_new (ops : List Wd) (C : Tb × Bool) (k : Nat) (s : Sd) (w : World) (B g : Nat) (vl vt : Value) (h : SW w B g ops vl C vt) (hp : k < ops.length) (hl : C.1.length = ops.length) (hk : C.1.getD k none = none) (hs : 0 ≤ s.n ∧ 0 ≤ s.v) :
    Calls Tryd.prog 22 #[.pointer (some ⟨g, 0, none⟩), .int .i64 (k : Int), .agg #[.int .i64 s.n, .int .i64 s.v, .bool false]] w fun r w' => r = .returned (.tuple #[]) ∧ SW w' B g ops vl (C.1.set k (some s), C.2) vt ∧ Sm w w' g vt := by
  have hb1 : Below w.heap.size w (w.alloc (.cells #[.int .i64 s.n, .int .i64 s.v, .bool true] 54)) := (Below.refl _ _).alloc (Nat.le_refl _) _
  have h1 := h.keep hb1
  obtain ⟨la, lcap, rfl⟩ := h.list.slice
  obtain ⟨c0, c1, c2, f2⟩ := h1.cells
  have hi : ¬ (ops.length : Int) ≤ (k : Int) := by omega
  have hiN : ¬ ops.length ≤ k := by omega
  have hiD : decide (ops.length ≤ k) = false := decide_eq_false hiN
  obtain ⟨tb, tcap, rfl, htB, htl, htg, hr, hf⟩ := h1.at (i := k) (by omega)
  have hti : (k : Int) < (C.1.length : Int) := by omega
  rw [hl] at h1 c1 ⊢
  have he : C.1[k]'(by omega) = none := by
    rw [List.getD_eq_getElem?_getD, List.getElem?_eq_getElem (by omega)] at hk
    exact hk
  rw [he] at hr
  have d0 : (w.alloc (.cells #[.int .i64 s.n, .int .i64 s.v, .bool true] 54)).cell? ⟨tb, k * 3, none⟩ = some (.int .i64 0) := hr 0 _ rfl
  have d1 : (w.alloc (.cells #[.int .i64 s.n, .int .i64 s.v, .bool true] 54)).cell? ⟨tb, k * 3 + 1, none⟩ = some (.int .i64 0) := hr 1 _ rfl
  have d2 : (w.alloc (.cells #[.int .i64 s.n, .int .i64 s.v, .bool true] 54)).cell? ⟨tb, k * 3 + 2, none⟩ = some (.bool false) := hr 2 _ rfl
  clear hr hk he
  obtain ⟨n, v⟩ := s
  simp only at d0 d1 hb1 h1 c0 c1 c2 f2 d2 hs
  obtain ⟨g1, g2⟩ := hs
  have e3 : decide (n < 0) = false := decide_eq_false (by omega)
  have e5 : decide (v < 0) = false := decide_eq_false (by omega)
  have e6 : ¬ n < 0 := by omega
  have e7 : ¬ v < 0 := by omega
  go_enter Tryd.func22, Tryd.ntmps22
  go_wp2_with fail
  go_quiet (fail)
  have hS := SW.drewN h1 nq
  have hM : Sm w _ g (.slice (some ⟨tb, 0, none⟩) ops.length tcap) := (Sm.ofBelow hb1).drewN nq
  obtain ⟨p0, p1, p2, pf⟩ := hS.cells
  have q0 := ow_cells_new w #[.int .i64 n, .int .i64 v, .bool true] 54 0 _ rfl
  have q1 := ow_cells_new w #[.int .i64 n, .int .i64 v, .bool true] 54 1 _ rfl
  have q2 := ow_cells_new w #[.int .i64 n, .int .i64 v, .bool true] 54 2 _ rfl
  replace q0 : ((w.alloc (.cells #[.int .i64 n, .int .i64 v, .bool true] 54)).drewN nq).cell? ⟨w.heap.size, 0, none⟩ = some (.int .i64 n) := q0
  replace q1 : ((w.alloc (.cells #[.int .i64 n, .int .i64 v, .bool true] 54)).drewN nq).cell? ⟨w.heap.size, 1, none⟩ = some (.int .i64 v) := q1
  replace q2 : ((w.alloc (.cells #[.int .i64 n, .int .i64 v, .bool true] 54)).drewN nq).cell? ⟨w.heap.size, 2, none⟩ = some (.bool true) := q2
  have r0 : ((w.alloc (.cells #[.int .i64 n, .int .i64 v, .bool true] 54)).drewN nq).frozen? ⟨tb, k * 3, none⟩ = false := hf _
  have r1 : ((w.alloc (.cells #[.int .i64 n, .int .i64 v, .bool true] 54)).drewN nq).frozen? ⟨tb, k * 3 + 1, none⟩ = false := hf _
  have r2 : ((w.alloc (.cells #[.int .i64 n, .int .i64 v, .bool true] 54)).drewN nq).frozen? ⟨tb, k * 3 + 2, none⟩ = false := hf _
  replace d0 : ((w.alloc (.cells #[.int .i64 n, .int .i64 v, .bool true] 54)).drewN nq).cell? ⟨tb, k * 3, none⟩ = some _ := d0
  replace d1 : ((w.alloc (.cells #[.int .i64 n, .int .i64 v, .bool true] 54)).drewN nq).cell? ⟨tb, k * 3 + 1, none⟩ = some _ := d1
  replace d2 : ((w.alloc (.cells #[.int .i64 n, .int .i64 v, .bool true] 54)).drewN nq).cell? ⟨tb, k * 3 + 2, none⟩ = some _ := d2
  clear hf c0 c1 c2 f2 h1 hb1 htl h e3 e5 g1 g2 e6 e7 hiN hiD p0 p2 pf
  generalize (w.alloc (.cells #[.int .i64 n, .int .i64 v, .bool true] 54)).drewN nq = W at *
  generalize w.heap.size = z at *
  go_wp2_with fail
  go_region
  go_wp2_with fail
  have hP := hS.put ⟨n, v⟩ rfl (by omega : k < C.1.length)
  refine bodyPost_end (v := .tuple #[]) (by simp [results, Tryd.results22, go_sem]) rfl ?_
  exact ⟨rfl, SW.drew (hP.1), Sm.drew (hM.trans hP.2)⟩
set_option maxRecDepth 100000 in
set_option maxHeartbeats 4000000 in
theorem come_same (ops : List Wd) (C : Tb × Bool) (k : Nat) (s : Sd) (w : World) (B g : Nat) (vl vt : Value) (h : SW w B g ops vl C vt) (hp : k < ops.length) (hl : C.1.length = ops.length) (hk : C.1.getD k none = some s) (hs : 0 ≤ s.n ∧ 0 ≤ s.v) :
    Calls Tryd.prog 22 #[.pointer (some ⟨g, 0, none⟩), .int .i64 (k : Int), .agg #[.int .i64 s.n, .int .i64 s.v, .bool false]] w fun r w' => r = .returned (.tuple #[]) ∧ SW w' B g ops vl C vt ∧ Sm w w' g vt := by
  have hb1 : Below w.heap.size w (w.alloc (.cells #[.int .i64 s.n, .int .i64 s.v, .bool true] 54)) := (Below.refl _ _).alloc (Nat.le_refl _) _
  have h1 := h.keep hb1
  obtain ⟨la, lcap, rfl⟩ := h.list.slice
  obtain ⟨c0, c1, c2, f2⟩ := h1.cells
  have hi : ¬ (ops.length : Int) ≤ (k : Int) := by omega
  have hiN : ¬ ops.length ≤ k := by omega
  have hiD : decide (ops.length ≤ k) = false := decide_eq_false hiN
  obtain ⟨tb, tcap, rfl, htB, htl, htg, hr, hf⟩ := h1.at (i := k) (by omega)
  have hti : (k : Int) < (C.1.length : Int) := by omega
  rw [hl] at h1 c1 ⊢
  have he : C.1[k]'(by omega) = some s := by
    rw [List.getD_eq_getElem?_getD, List.getElem?_eq_getElem (by omega)] at hk
    exact hk
  rw [he] at hr
  have d0 : (w.alloc (.cells #[.int .i64 s.n, .int .i64 s.v, .bool true] 54)).cell? ⟨tb, k * 3, none⟩ = some (.int .i64 s.n) := hr 0 _ rfl
  have d1 : (w.alloc (.cells #[.int .i64 s.n, .int .i64 s.v, .bool true] 54)).cell? ⟨tb, k * 3 + 1, none⟩ = some (.int .i64 s.v) := hr 1 _ rfl
  have d2 : (w.alloc (.cells #[.int .i64 s.n, .int .i64 s.v, .bool true] 54)).cell? ⟨tb, k * 3 + 2, none⟩ = some (.bool true) := hr 2 _ rfl
  have hset : Hid (C.1.set k (some s) = C.1) := set_known hk
  clear hr hk he
  obtain ⟨n, v⟩ := s
  simp only at d0 d1 hb1 h1 c0 c1 c2 f2 d2 hs hset
  obtain ⟨g1, g2⟩ := hs
  have e3 : decide (n < 0) = false := decide_eq_false (by omega)
  have e5 : decide (v < 0) = false := decide_eq_false (by omega)
  have e6 : ¬ n < 0 := by omega
  have e7 : ¬ v < 0 := by omega
  go_enter Tryd.func22, Tryd.ntmps22
  go_wp2_with fail
  go_quiet (fail)
  have hS := SW.drewN h1 nq
  have hM : Sm w _ g (.slice (some ⟨tb, 0, none⟩) ops.length tcap) := (Sm.ofBelow hb1).drewN nq
  obtain ⟨p0, p1, p2, pf⟩ := hS.cells
  have q0 := ow_cells_new w #[.int .i64 n, .int .i64 v, .bool true] 54 0 _ rfl
  have q1 := ow_cells_new w #[.int .i64 n, .int .i64 v, .bool true] 54 1 _ rfl
  have q2 := ow_cells_new w #[.int .i64 n, .int .i64 v, .bool true] 54 2 _ rfl
  replace q0 : ((w.alloc (.cells #[.int .i64 n, .int .i64 v, .bool true] 54)).drewN nq).cell? ⟨w.heap.size, 0, none⟩ = some (.int .i64 n) := q0
  replace q1 : ((w.alloc (.cells #[.int .i64 n, .int .i64 v, .bool true] 54)).drewN nq).cell? ⟨w.heap.size, 1, none⟩ = some (.int .i64 v) := q1
  replace q2 : ((w.alloc (.cells #[.int .i64 n, .int .i64 v, .bool true] 54)).drewN nq).cell? ⟨w.heap.size, 2, none⟩ = some (.bool true) := q2
  have r0 : ((w.alloc (.cells #[.int .i64 n, .int .i64 v, .bool true] 54)).drewN nq).frozen? ⟨tb, k * 3, none⟩ = false := hf _
  have r1 : ((w.alloc (.cells #[.int .i64 n, .int .i64 v, .bool true] 54)).drewN nq).frozen? ⟨tb, k * 3 + 1, none⟩ = false := hf _
  have r2 : ((w.alloc (.cells #[.int .i64 n, .int .i64 v, .bool true] 54)).drewN nq).frozen? ⟨tb, k * 3 + 2, none⟩ = false := hf _
  replace d0 : ((w.alloc (.cells #[.int .i64 n, .int .i64 v, .bool true] 54)).drewN nq).cell? ⟨tb, k * 3, none⟩ = some _ := d0
  replace d1 : ((w.alloc (.cells #[.int .i64 n, .int .i64 v, .bool true] 54)).drewN nq).cell? ⟨tb, k * 3 + 1, none⟩ = some _ := d1
  replace d2 : ((w.alloc (.cells #[.int .i64 n, .int .i64 v, .bool true] 54)).drewN nq).cell? ⟨tb, k * 3 + 2, none⟩ = some _ := d2
  clear hf c0 c1 c2 f2 h1 hb1 htl h e3 e5 g1 g2 e6 e7 hiN hiD p0 p2 pf
  generalize (w.alloc (.cells #[.int .i64 n, .int .i64 v, .bool true] 54)).drewN nq = W at *
  generalize w.heap.size = z at *
  go_wp2_with fail
  go_region
  go_wp2_with fail
  have hP := hS.put ⟨n, v⟩ rfl (by omega : k < C.1.length)
  refine bodyPost_end (v := .tuple #[]) (by simp [results, Tryd.results22, go_sem]) rfl ?_
  exact ⟨rfl, SW.drew ((by have h9 := hP.1; rw [hset.out] at h9; exact h9)), Sm.drew (hM.trans hP.2)⟩
end Go.Proofs.YtlkbgmgnjkkfgaaDoor

namespace Go.Proofs.YtlkbgmgnjkkfgaaDoor
open Go.RowKit

theorem law_come (ops : List Wd) (C : Tb × Bool) (k : Nat) (s : Sd) (w : World) (B g : Nat) (vl vt : Value) (h : SW w B g ops vl C vt) (hl : C.1.length = ops.length) (P : Int) (hP : P = (k : Int)) :
    Calls Tryd.prog 22 #[.pointer (some ⟨g, 0, none⟩), .int .i64 P, .agg #[.int .i64 s.n, .int .i64 s.v, .bool false]] w fun r w' => r = .returned (.tuple #[]) ∧ SW w' B g ops vl (comeM C (k, s)) vt ∧ Sm w w' g vt := by
  subst hP
  by_cases h1 : ops.length ≤ k
  · rw [show comeM C (k, s) = (C.1, true) from by unfold comeM; rw [if_pos (Or.inl (by simp only; omega))]]
    exact come_far ops C k s w B g vl vt h h1
  have hk : k < ops.length := by omega
  by_cases h2 : s.n < 0 ∨ s.v < 0
  · rw [show comeM C (k, s) = (C.1, true) from by unfold comeM; rw [if_pos (Or.inr h2)]]
    cases hc : C.1.getD k none with
    | none => exact come_low ops C k s w B g vl vt h hk hl hc h2
    | some s0 =>
      by_cases h3 : s0 = s
      · exact come_less ops C k s w B g vl vt h hk hl s0 hc h3 h2
      · exact come_other ops C k s w B g vl vt h hk hl s0 hc h3
  · have e : comeM C (k, s) = match C.1.getD k none with
        | some s0 => if s0 = s then (C.1, C.2) else (C.1, true)
        | none => (C.1.set k (some s), C.2) := by
      unfold comeM
      rw [if_neg (by simp only; omega)]
      rfl
    rw [e]
    cases hc : C.1.getD k none with
    | none => exact come_new ops C k s w B g vl vt h hk hl hc (by omega)
    | some s0 =>
      by_cases h3 : s0 = s
      · subst h3
        simp only [if_true]
        exact come_same ops C k s0 w B g vl vt h hk hl hc (by omega)
      · simp only [if_neg h3]
        exact come_other ops C k s w B g vl vt h hk hl s0 hc h3
/-- What one reads. -/
structure SF (w : World) (g k len lb loff lcap tb tcap : Nat) (tag num n v : Int) (bad : Bool) : Prop where
  c0 : w.cell? ⟨g, 0, none⟩ = some (.slice (some ⟨lb, loff, none⟩) len lcap)
  c1 : w.cell? ⟨g, 1, none⟩ = some (.slice (some ⟨tb, 0, none⟩) len tcap)
  c2 : w.cell? ⟨g, 2, none⟩ = some (.bool bad)
  cf : w.frozen? ⟨g, 2, none⟩ = false
  d0 : w.cell? ⟨tb, k * 3, none⟩ = some (.int .i64 n)
  d1 : w.cell? ⟨tb, k * 3 + 1, none⟩ = some (.int .i64 v)
  d2 : w.cell? ⟨tb, k * 3 + 2, none⟩ = some (.bool true)
  e0 : w.cell? ⟨lb, loff + k * 2, none⟩ = some (.int .i64 tag)
  e1 : w.cell? ⟨lb, loff + k * 2 + 1, none⟩ = some (.int .i64 num)
  gl : g < w.heap.size
  tl : tb < w.heap.size
  ll : lb < w.heap.size
theorem SF.keep {w w' : World} {g k len lb loff lcap tb tcap : Nat} {tag num n v : Int} {bad : Bool} (h : SF w g k len lb loff lcap tb tcap tag num n v bad) (hb : Below w.heap.size w w') : SF w' g k len lb loff lcap tb tcap tag num n v bad := by
  have hg := hb.block g h.gl
  have ht := hb.block tb h.tl
  have hl := hb.block lb h.ll
  have hz := hb.size
  exact ⟨by rw [World.cell?_of_block (w := w) hg]; exact h.c0, by rw [World.cell?_of_block (w := w) hg]; exact h.c1, by rw [World.cell?_of_block (w := w) hg]; exact h.c2, by rw [World.frozen?_of_block (w := w) hg]; exact h.cf, by rw [World.cell?_of_block (w := w) ht]; exact h.d0, by rw [World.cell?_of_block (w := w) ht]; exact h.d1, by rw [World.cell?_of_block (w := w) ht]; exact h.d2,
    by rw [World.cell?_of_block (w := w) hl]; exact h.e0, by rw [World.cell?_of_block (w := w) hl]; exact h.e1, Nat.lt_of_lt_of_le h.gl hz, Nat.lt_of_lt_of_le h.tl hz, Nat.lt_of_lt_of_le h.ll hz⟩
theorem SW.sf {w : World} {B g : Nat} {ops : List Wd} {vl vt : Value} {C : Tb × Bool} {k : Nat} {s : Sd} (h : SW w B g ops vl C vt) (hl : C.1.length = ops.length) (hk : C.1.getD k none = some s) (hkl : k < ops.length) :
    ∃ lb loff lcap tb tcap, vl = .slice (some ⟨lb, loff, none⟩) ops.length lcap ∧ vt = .slice (some ⟨tb, 0, none⟩) ops.length tcap ∧ SF w g k ops.length lb loff lcap tb tcap (ops.getD k op0).tag (ops.getD k op0).num s.n s.v C.2 := by
  obtain ⟨la, lcap, rfl⟩ := h.list.slice
  obtain ⟨c0, c1, c2, cf⟩ := h.cells
  obtain ⟨tb, tcap, rfl, htB, htl, htg, hr, hf⟩ := h.at (i := k) (by omega)
  obtain ⟨lb, loff, hlb, rfl, hrl⟩ := RowOf.at h.list k hkl
  have he : C.1[k]'(by omega) = some s := by
    rw [List.getD_eq_getElem?_getD, List.getElem?_eq_getElem (by omega)] at hk
    exact hk
  rw [he] at hr
  have ho : ops.getD k op0 = ops[k] := by
    rw [List.getD_eq_getElem?_getD, List.getElem?_eq_getElem hkl]
    rfl
  rw [ho, hl]
  rw [hl] at c1
  obtain ⟨e0, e1⟩ := Wd.two hrl
  have := h.hB
  have := h.lt
  exact ⟨lb, loff, lcap, tb, tcap, rfl, rfl, c0, c1, c2, cf, hr 0 _ rfl, hr 1 _ rfl, hr 2 _ rfl, e0, e1, h.lt, htl, by omega⟩
/-- A box of two and one of three. -/
theorem box23 {w w2 : World} {p q a b c : Value} {T U : TypeId} (h : Below ((w.alloc (.cells #[p, q] T)).alloc (.cells #[a, b, c] U)).heap.size ((w.alloc (.cells #[p, q] T)).alloc (.cells #[a, b, c] U)) w2) :
    (w2.cell? ⟨w.heap.size, 0, none⟩ = some p ∧ w2.cell? ⟨w.heap.size, 1, none⟩ = some q) ∧ (w2.cell? ⟨w.heap.size + 1, 0, none⟩ = some a ∧ w2.cell? ⟨w.heap.size + 1, 1, none⟩ = some b ∧ w2.cell? ⟨w.heap.size + 1, 2, none⟩ = some c) ∧ w.heap.size + 1 < w2.heap.size ∧ Below w.heap.size w w2 := by
  have hz' : (w.alloc (.cells #[p, q] T)).heap.size = w.heap.size + 1 := by simp
  have hz2 : ((w.alloc (.cells #[p, q] T)).alloc (.cells #[a, b, c] U)).heap.size = w.heap.size + 2 := by simp
  have hz := h.size
  have b1 := ((((Below.refl (w.alloc (.cells #[p, q] T)).heap.size (w.alloc (.cells #[p, q] T))).alloc (Nat.le_refl _) (.cells #[a, b, c] U)).trans (h.mono (by omega))).block w.heap.size (by omega)).trans (heap_alloc_new w (.cells #[p, q] T))
  have b3 : ((w.alloc (.cells #[p, q] T)).alloc (.cells #[a, b, c] U)).heap[w.heap.size + 1]? = some (.cells #[a, b, c] U) := by
    have := heap_alloc_new (w.alloc (.cells #[p, q] T)) (.cells #[a, b, c] U)
    rw [hz'] at this
    exact this
  have b2 := (h.block (w.heap.size + 1) (by omega)).trans b3
  refine ⟨⟨by rw [cell_of_row _ _ _ _ _ _ b1]; rfl, by rw [cell_of_row _ _ _ _ _ _ b1]; rfl⟩, ⟨by rw [cell_of_row _ _ _ _ _ _ b2]; rfl, by rw [cell_of_row _ _ _ _ _ _ b2]; rfl, by rw [cell_of_row _ _ _ _ _ _ b2]; rfl⟩, by omega, ?_⟩
  exact (((Below.refl w.heap.size w).alloc (Nat.le_refl _) _).alloc (by omega) _).trans (h.mono (by omega))
theorem moves_le (op : Wd) (h : 0 ≤ op.num ∧ op.num ≤ 1048576) : -1048576 ≤ movesM op ∧ movesM op ≤ 1 := by
  unfold movesM
  split
  · omega
  · split <;> omega
end Go.Proofs.YtlkbgmgnjkkfgaaDoor

