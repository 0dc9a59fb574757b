/-
  The specification's come: a place that was not come to yet.
-/
import Derived.Test.YtaagnifagahgfaaDoorCkComB
namespace Go.Proofs.YtaagnifagahgfaaDoor
open Go.RowKit

theorem SW.drew {w : World} {B g : Nat} {ops : List Wd} {vl : Value} {C : Tb × Bool} {vt : Value} (h : SW w B g ops vl C vt) : SW w.drew B g ops vl C vt := ⟨h.hB, h.blk, h.list, h.tab, h.tg⟩
theorem Sm.drew {w w' : World} {g : Nat} {vt : Value} (h : Sm w w' g vt) : Sm w w'.drew g vt := ⟨h.os, h.tape, h.output, h.size, h.block⟩
theorem set_known {T : Tb} {k : Nat} {s : Sd} (h : T.getD k none = some s) : T.set k (some s) = T := by
  apply List.ext_getElem?
  intro i
  rw [List.getElem?_set]
  split
  · rename_i e
    subst e
    rw [List.getD_eq_getElem?_getD] at h
    cases ht : T[k]? with
    | none => rw [ht] at h; cases h
    | some o =>
      rw [ht] at h
      have : o = some s := h
      have hk := (List.getElem?_eq_some_iff.1 ht).1
      simp [hk, this]
  · rfl
set_option maxRecDepth 100000 in
set_option maxHeartbeats 4000000 in
theorem come_new (ops : List Wd) (C : Tb × Bool) (k : Nat) (s : Sd) (w : World) (B g : Nat) (vl vt : Value) (h : SW w B g ops vl C vt) (hp : k < ops.length) (hl : C.1.length = ops.length) (hk : C.1.getD k none = none) (hs : 0 ≤ s.n ∧ 0 ≤ s.v) :
    Calls Tryd.prog 24 #[.pointer (some ⟨g, 0, none⟩), .int .i64 (k : Int), .agg #[.int .i64 s.n, .int .i64 s.v, .bool false]] w fun r w' => r = .returned (.tuple #[]) ∧ SW w' B g ops vl (C.1.set k (some s), C.2) vt ∧ Sm w w' g vt := by
  have hb1 : Below w.heap.size w (w.alloc (.cells #[.int .i64 s.n, .int .i64 s.v, .bool true] 53)) := (Below.refl _ _).alloc (Nat.le_refl _) _
  have h1 := h.keep hb1
  obtain ⟨la, lcap, rfl⟩ := h.list.slice
  obtain ⟨c0, c1, c2, f2⟩ := h1.cells
  have hi : ¬ (ops.length : Int) ≤ (k : Int) := by omega
  have hiN : ¬ ops.length ≤ k := by omega
  have hiD : decide (ops.length ≤ k) = false := decide_eq_false hiN
  obtain ⟨tb, tcap, rfl, htB, htl, htg, hr, hf⟩ := h1.at (i := k) (by omega)
  have hti : (k : Int) < (C.1.length : Int) := by omega
  rw [hl] at h1 c1 ⊢
  have he : C.1[k]'(by omega) = none := by
    rw [List.getD_eq_getElem?_getD, List.getElem?_eq_getElem (by omega)] at hk
    exact hk
  rw [he] at hr
  have d0 : (w.alloc (.cells #[.int .i64 s.n, .int .i64 s.v, .bool true] 53)).cell? ⟨tb, k * 3, none⟩ = some (.int .i64 0) := hr 0 _ rfl
  have d1 : (w.alloc (.cells #[.int .i64 s.n, .int .i64 s.v, .bool true] 53)).cell? ⟨tb, k * 3 + 1, none⟩ = some (.int .i64 0) := hr 1 _ rfl
  have d2 : (w.alloc (.cells #[.int .i64 s.n, .int .i64 s.v, .bool true] 53)).cell? ⟨tb, k * 3 + 2, none⟩ = some (.bool false) := hr 2 _ rfl
  clear hr hk he
  obtain ⟨n, v⟩ := s
  simp only at d0 d1 hb1 h1 c0 c1 c2 f2 d2 hs
  obtain ⟨g1, g2⟩ := hs
  have e3 : decide (n < 0) = false := decide_eq_false (by omega)
  have e5 : decide (v < 0) = false := decide_eq_false (by omega)
  have e6 : ¬ n < 0 := by omega
  have e7 : ¬ v < 0 := by omega
  go_enter Tryd.func24, Tryd.ntmps24
  go_wp2_with fail
  go_quiet (fail)
  have hS := SW.drewN h1 nq
  have hM : Sm w _ g (.slice (some ⟨tb, 0, none⟩) ops.length tcap) := (Sm.ofBelow hb1).drewN nq
  obtain ⟨p0, p1, p2, pf⟩ := hS.cells
  have q0 := ow_cells_new w #[.int .i64 n, .int .i64 v, .bool true] 53 0 _ rfl
  have q1 := ow_cells_new w #[.int .i64 n, .int .i64 v, .bool true] 53 1 _ rfl
  have q2 := ow_cells_new w #[.int .i64 n, .int .i64 v, .bool true] 53 2 _ rfl
  replace q0 : ((w.alloc (.cells #[.int .i64 n, .int .i64 v, .bool true] 53)).drewN nq).cell? ⟨w.heap.size, 0, none⟩ = some (.int .i64 n) := q0
  replace q1 : ((w.alloc (.cells #[.int .i64 n, .int .i64 v, .bool true] 53)).drewN nq).cell? ⟨w.heap.size, 1, none⟩ = some (.int .i64 v) := q1
  replace q2 : ((w.alloc (.cells #[.int .i64 n, .int .i64 v, .bool true] 53)).drewN nq).cell? ⟨w.heap.size, 2, none⟩ = some (.bool true) := q2
  have r0 : ((w.alloc (.cells #[.int .i64 n, .int .i64 v, .bool true] 53)).drewN nq).frozen? ⟨tb, k * 3, none⟩ = false := hf _
  have r1 : ((w.alloc (.cells #[.int .i64 n, .int .i64 v, .bool true] 53)).drewN nq).frozen? ⟨tb, k * 3 + 1, none⟩ = false := hf _
  have r2 : ((w.alloc (.cells #[.int .i64 n, .int .i64 v, .bool true] 53)).drewN nq).frozen? ⟨tb, k * 3 + 2, none⟩ = false := hf _
  replace d0 : ((w.alloc (.cells #[.int .i64 n, .int .i64 v, .bool true] 53)).drewN nq).cell? ⟨tb, k * 3, none⟩ = some _ := d0
  replace d1 : ((w.alloc (.cells #[.int .i64 n, .int .i64 v, .bool true] 53)).drewN nq).cell? ⟨tb, k * 3 + 1, none⟩ = some _ := d1
  replace d2 : ((w.alloc (.cells #[.int .i64 n, .int .i64 v, .bool true] 53)).drewN nq).cell? ⟨tb, k * 3 + 2, none⟩ = some _ := d2
  clear hf c0 c1 c2 f2 h1 hb1 htl h e3 e5 g1 g2 e6 e7 hiN hiD p0 p2 pf
  generalize (w.alloc (.cells #[.int .i64 n, .int .i64 v, .bool true] 53)).drewN nq = W at *
  generalize w.heap.size = z at *
  go_wp2_with fail
  go_region
  go_wp2_with fail
  have hP := hS.put ⟨n, v⟩ rfl (by omega : k < C.1.length)
  refine bodyPost_end (v := .tuple #[]) (by simp [results, Tryd.results24, go_sem]) rfl ?_
  exact ⟨rfl, SW.drew (hP.1), Sm.drew (hM.trans hP.2)⟩
set_option maxRecDepth 100000 in
set_option maxHeartbeats 4000000 in
theorem come_same (ops : List Wd) (C : Tb × Bool) (k : Nat) (s : Sd) (w : World) (B g : Nat) (vl vt : Value) (h : SW w B g ops vl C vt) (hp : k < ops.length) (hl : C.1.length = ops.length) (hk : C.1.getD k none = some s) (hs : 0 ≤ s.n ∧ 0 ≤ s.v) :
    Calls Tryd.prog 24 #[.pointer (some ⟨g, 0, none⟩), .int .i64 (k : Int), .agg #[.int .i64 s.n, .int .i64 s.v, .bool false]] w fun r w' => r = .returned (.tuple #[]) ∧ SW w' B g ops vl C vt ∧ Sm w w' g vt := by
  have hb1 : Below w.heap.size w (w.alloc (.cells #[.int .i64 s.n, .int .i64 s.v, .bool true] 53)) := (Below.refl _ _).alloc (Nat.le_refl _) _
  have h1 := h.keep hb1
  obtain ⟨la, lcap, rfl⟩ := h.list.slice
  obtain ⟨c0, c1, c2, f2⟩ := h1.cells
  have hi : ¬ (ops.length : Int) ≤ (k : Int) := by omega
  have hiN : ¬ ops.length ≤ k := by omega
  have hiD : decide (ops.length ≤ k) = false := decide_eq_false hiN
  obtain ⟨tb, tcap, rfl, htB, htl, htg, hr, hf⟩ := h1.at (i := k) (by omega)
  have hti : (k : Int) < (C.1.length : Int) := by omega
  rw [hl] at h1 c1 ⊢
  have he : C.1[k]'(by omega) = some s := by
    rw [List.getD_eq_getElem?_getD, List.getElem?_eq_getElem (by omega)] at hk
    exact hk
  rw [he] at hr
  have d0 : (w.alloc (.cells #[.int .i64 s.n, .int .i64 s.v, .bool true] 53)).cell? ⟨tb, k * 3, none⟩ = some (.int .i64 s.n) := hr 0 _ rfl
  have d1 : (w.alloc (.cells #[.int .i64 s.n, .int .i64 s.v, .bool true] 53)).cell? ⟨tb, k * 3 + 1, none⟩ = some (.int .i64 s.v) := hr 1 _ rfl
  have d2 : (w.alloc (.cells #[.int .i64 s.n, .int .i64 s.v, .bool true] 53)).cell? ⟨tb, k * 3 + 2, none⟩ = some (.bool true) := hr 2 _ rfl
  have hset : Hid (C.1.set k (some s) = C.1) := set_known hk
  clear hr hk he
  obtain ⟨n, v⟩ := s
  simp only at d0 d1 hb1 h1 c0 c1 c2 f2 d2 hs hset
  obtain ⟨g1, g2⟩ := hs
  have e3 : decide (n < 0) = false := decide_eq_false (by omega)
  have e5 : decide (v < 0) = false := decide_eq_false (by omega)
  have e6 : ¬ n < 0 := by omega
  have e7 : ¬ v < 0 := by omega
  go_enter Tryd.func24, Tryd.ntmps24
  go_wp2_with fail
  go_quiet (fail)
  have hS := SW.drewN h1 nq
  have hM : Sm w _ g (.slice (some ⟨tb, 0, none⟩) ops.length tcap) := (Sm.ofBelow hb1).drewN nq
  obtain ⟨p0, p1, p2, pf⟩ := hS.cells
  have q0 := ow_cells_new w #[.int .i64 n, .int .i64 v, .bool true] 53 0 _ rfl
  have q1 := ow_cells_new w #[.int .i64 n, .int .i64 v, .bool true] 53 1 _ rfl
  have q2 := ow_cells_new w #[.int .i64 n, .int .i64 v, .bool true] 53 2 _ rfl
  replace q0 : ((w.alloc (.cells #[.int .i64 n, .int .i64 v, .bool true] 53)).drewN nq).cell? ⟨w.heap.size, 0, none⟩ = some (.int .i64 n) := q0
  replace q1 : ((w.alloc (.cells #[.int .i64 n, .int .i64 v, .bool true] 53)).drewN nq).cell? ⟨w.heap.size, 1, none⟩ = some (.int .i64 v) := q1
  replace q2 : ((w.alloc (.cells #[.int .i64 n, .int .i64 v, .bool true] 53)).drewN nq).cell? ⟨w.heap.size, 2, none⟩ = some (.bool true) := q2
  have r0 : ((w.alloc (.cells #[.int .i64 n, .int .i64 v, .bool true] 53)).drewN nq).frozen? ⟨tb, k * 3, none⟩ = false := hf _
  have r1 : ((w.alloc (.cells #[.int .i64 n, .int .i64 v, .bool true] 53)).drewN nq).frozen? ⟨tb, k * 3 + 1, none⟩ = false := hf _
  have r2 : ((w.alloc (.cells #[.int .i64 n, .int .i64 v, .bool true] 53)).drewN nq).frozen? ⟨tb, k * 3 + 2, none⟩ = false := hf _
  replace d0 : ((w.alloc (.cells #[.int .i64 n, .int .i64 v, .bool true] 53)).drewN nq).cell? ⟨tb, k * 3, none⟩ = some _ := d0
  replace d1 : ((w.alloc (.cells #[.int .i64 n, .int .i64 v, .bool true] 53)).drewN nq).cell? ⟨tb, k * 3 + 1, none⟩ = some _ := d1
  replace d2 : ((w.alloc (.cells #[.int .i64 n, .int .i64 v, .bool true] 53)).drewN nq).cell? ⟨tb, k * 3 + 2, none⟩ = some _ := d2
  clear hf c0 c1 c2 f2 h1 hb1 htl h e3 e5 g1 g2 e6 e7 hiN hiD p0 p2 pf
  generalize (w.alloc (.cells #[.int .i64 n, .int .i64 v, .bool true] 53)).drewN nq = W at *
  generalize w.heap.size = z at *
  go_wp2_with fail
  go_region
  go_wp2_with fail
  have hP := hS.put ⟨n, v⟩ rfl (by omega : k < C.1.length)
  refine bodyPost_end (v := .tuple #[]) (by simp [results, Tryd.results24, go_sem]) rfl ?_
  exact ⟨rfl, SW.drew ((by have h9 := hP.1; rw [hset.out] at h9; exact h9)), Sm.drew (hM.trans hP.2)⟩
end Go.Proofs.YtaagnifagahgfaaDoor

