/-
  The specification's come.
-/
import Derived.Test.YtlkbgmgnjkkfgaaDoorLvAll16
import Derived.Deep.Cut
namespace Go.Proofs.YtlkbgmgnjkkfgaaDoor
open Go.RowKit

theorem SW.drewN {w : World} {B g : Nat} {ops : List Wd} {vl : Value} {C : Tb × Bool} {vt : Value} (h : SW w B g ops vl C vt) (n : Nat) : SW (w.drewN n) B g ops vl C vt := ⟨h.hB, h.blk, h.list, h.tab, h.tg⟩
theorem Sm.drewN {w w' : World} {g : Nat} {vt : Value} (h : Sm w w' g vt) (n : Nat) : Sm w (w'.drewN n) g vt := ⟨h.os, h.tape, h.output, h.size, h.block⟩
set_option maxRecDepth 100000 in
set_option maxHeartbeats 4000000 in
theorem come_far (ops : List Wd) (C : Tb × Bool) (k : Nat) (s : Sd) (w : World) (B g : Nat) (vl vt : Value) (h : SW w B g ops vl C vt) (hk : ops.length ≤ k) :
    Calls Tryd.prog 22 #[.pointer (some ⟨g, 0, none⟩), .int .i64 (k : Int), .agg #[.int .i64 s.n, .int .i64 s.v, .bool false]] w fun r w' => r = .returned (.tuple #[]) ∧ SW w' B g ops vl (C.1, true) vt ∧ Sm w w' g vt := by
  have hb1 : Below w.heap.size w (w.alloc (.cells #[.int .i64 s.n, .int .i64 s.v, .bool true] 54)) := (Below.refl _ _).alloc (Nat.le_refl _) _
  have h1 := h.keep hb1
  obtain ⟨la, lcap, rfl⟩ := h.list.slice
  obtain ⟨c0, c1, c2, f2⟩ := h1.cells
  have hi : (ops.length : Int) ≤ (k : Int) := by omega
  go_enter Tryd.func22, Tryd.ntmps22
  go_wp2_with fail
  go_quiet (fail)
  go_wp2_with fail
  have hS := (SW.drewN h1 nq).fell true
  exact bodyPost_ret (v := .tuple #[]) (by simp [results, Tryd.results22, go_sem]) rfl ⟨rfl, hS.1, (Sm.drewN (Sm.ofBelow hb1) nq).trans hS.2⟩
set_option maxRecDepth 100000 in
set_option maxHeartbeats 4000000 in
theorem come_other (ops : List Wd) (C : Tb × Bool) (k : Nat) (s : Sd) (w : World) (B g : Nat) (vl vt : Value) (h : SW w B g ops vl C vt) (hp : k < ops.length) (hl : C.1.length = ops.length) (s0 : Sd) (hk : C.1.getD k none = some s0) (hne : s0 ≠ s) :
    Calls Tryd.prog 22 #[.pointer (some ⟨g, 0, none⟩), .int .i64 (k : Int), .agg #[.int .i64 s.n, .int .i64 s.v, .bool false]] w fun r w' => r = .returned (.tuple #[]) ∧ SW w' B g ops vl (C.1, true) vt ∧ Sm w w' g vt := by
  have hb1 : Below w.heap.size w (w.alloc (.cells #[.int .i64 s.n, .int .i64 s.v, .bool true] 54)) := (Below.refl _ _).alloc (Nat.le_refl _) _
  have h1 := h.keep hb1
  obtain ⟨la, lcap, rfl⟩ := h.list.slice
  obtain ⟨c0, c1, c2, f2⟩ := h1.cells
  have hi : ¬ (ops.length : Int) ≤ (k : Int) := by omega
  have hiN : ¬ ops.length ≤ k := by omega
  have hiD : decide (ops.length ≤ k) = false := decide_eq_false hiN
  obtain ⟨tb, tcap, rfl, htB, htl, htg, hr, hf⟩ := h1.at (i := k) (by omega)
  have hti : (k : Int) < (C.1.length : Int) := by omega
  rw [hl] at h1 c1 ⊢
  have he : C.1[k]'(by omega) = some s0 := by
    rw [List.getD_eq_getElem?_getD, List.getElem?_eq_getElem (by omega)] at hk
    exact hk
  rw [he] at hr
  have d0 : (w.alloc (.cells #[.int .i64 s.n, .int .i64 s.v, .bool true] 54)).cell? ⟨tb, k * 3, none⟩ = some (.int .i64 s0.n) := hr 0 _ rfl
  have d1 : (w.alloc (.cells #[.int .i64 s.n, .int .i64 s.v, .bool true] 54)).cell? ⟨tb, k * 3 + 1, none⟩ = some (.int .i64 s0.v) := hr 1 _ rfl
  have d2 : (w.alloc (.cells #[.int .i64 s.n, .int .i64 s.v, .bool true] 54)).cell? ⟨tb, k * 3 + 2, none⟩ = some (.bool true) := hr 2 _ rfl
  clear hr hf hk he
  obtain ⟨n0, v0⟩ := s0
  obtain ⟨n, v⟩ := s
  simp only at d0 d1 hb1 h1 c0 c1 c2 f2 d2
  by_cases e1 : n0 = n
  · by_cases e2 : v0 = v
    · subst e1 e2
      exact absurd rfl hne
    · subst e1
      have b2 : (v0 == v) = false := by simpa using e2
      clear hne
      go_enter Tryd.func22, Tryd.ntmps22
      go_wp2_with fail
      go_quiet (fail)
      go_wp2_with fail
      have hS := (SW.drewN h1 nq).fell true
      exact bodyPost_ret (v := .tuple #[]) (by simp [results, Tryd.results22, go_sem]) rfl ⟨rfl, hS.1, (Sm.drewN (Sm.ofBelow hb1) nq).trans hS.2⟩
  · have b1 : (n0 == n) = false := by simpa using e1
    clear hne
    go_enter Tryd.func22, Tryd.ntmps22
    go_wp2_with fail
    go_quiet (fail)
    go_wp2_with fail
    have hS := (SW.drewN h1 nq).fell true
    exact bodyPost_ret (v := .tuple #[]) (by simp [results, Tryd.results22, go_sem]) rfl ⟨rfl, hS.1, (Sm.drewN (Sm.ofBelow hb1) nq).trans hS.2⟩
set_option maxRecDepth 100000 in
set_option maxHeartbeats 4000000 in
theorem come_less (ops : List Wd) (C : Tb × Bool) (k : Nat) (s : Sd) (w : World) (B g : Nat) (vl vt : Value) (h : SW w B g ops vl C vt) (hp : k < ops.length) (hl : C.1.length = ops.length) (s0 : Sd) (hk : C.1.getD k none = some s0) (hne : s0 = s) (hs : s.n < 0 ∨ s.v < 0) :
    Calls Tryd.prog 22 #[.pointer (some ⟨g, 0, none⟩), .int .i64 (k : Int), .agg #[.int .i64 s.n, .int .i64 s.v, .bool false]] w fun r w' => r = .returned (.tuple #[]) ∧ SW w' B g ops vl (C.1, true) vt ∧ Sm w w' g vt := by
  have hb1 : Below w.heap.size w (w.alloc (.cells #[.int .i64 s.n, .int .i64 s.v, .bool true] 54)) := (Below.refl _ _).alloc (Nat.le_refl _) _
  have h1 := h.keep hb1
  obtain ⟨la, lcap, rfl⟩ := h.list.slice
  obtain ⟨c0, c1, c2, f2⟩ := h1.cells
  have hi : ¬ (ops.length : Int) ≤ (k : Int) := by omega
  have hiN : ¬ ops.length ≤ k := by omega
  have hiD : decide (ops.length ≤ k) = false := decide_eq_false hiN
  obtain ⟨tb, tcap, rfl, htB, htl, htg, hr, hf⟩ := h1.at (i := k) (by omega)
  have hti : (k : Int) < (C.1.length : Int) := by omega
  rw [hl] at h1 c1 ⊢
  have he : C.1[k]'(by omega) = some s0 := by
    rw [List.getD_eq_getElem?_getD, List.getElem?_eq_getElem (by omega)] at hk
    exact hk
  rw [he] at hr
  have d0 : (w.alloc (.cells #[.int .i64 s.n, .int .i64 s.v, .bool true] 54)).cell? ⟨tb, k * 3, none⟩ = some (.int .i64 s0.n) := hr 0 _ rfl
  have d1 : (w.alloc (.cells #[.int .i64 s.n, .int .i64 s.v, .bool true] 54)).cell? ⟨tb, k * 3 + 1, none⟩ = some (.int .i64 s0.v) := hr 1 _ rfl
  have d2 : (w.alloc (.cells #[.int .i64 s.n, .int .i64 s.v, .bool true] 54)).cell? ⟨tb, k * 3 + 2, none⟩ = some (.bool true) := hr 2 _ rfl
  clear hr hf hk he
  subst hne
  obtain ⟨n, v⟩ := s0
  simp only at d0 d1 hb1 h1 c0 c1 c2 f2 d2 hs
  by_cases e1 : n < 0
  · clear hs
    go_enter Tryd.func22, Tryd.ntmps22
    go_wp2_with fail
    go_quiet (fail)
    go_wp2_with fail
    have hS := (SW.drewN h1 nq).fell true
    exact bodyPost_ret (v := .tuple #[]) (by simp [results, Tryd.results22, go_sem]) rfl ⟨rfl, hS.1, (Sm.drewN (Sm.ofBelow hb1) nq).trans hS.2⟩
  · have e2 : v < 0 := by omega
    have e3 : decide (n < 0) = false := decide_eq_false e1
    have e4 : 0 ≤ n := by omega
    clear hs
    go_enter Tryd.func22, Tryd.ntmps22
    go_wp2_with fail
    go_quiet (fail)
    go_wp2_with fail
    have hS := (SW.drewN h1 nq).fell true
    exact bodyPost_ret (v := .tuple #[]) (by simp [results, Tryd.results22, go_sem]) rfl ⟨rfl, hS.1, (Sm.drewN (Sm.ofBelow hb1) nq).trans hS.2⟩
set_option maxRecDepth 100000 in
set_option maxHeartbeats 4000000 in
theorem come_low (ops : List Wd) (C : Tb × Bool) (k : Nat) (s : Sd) (w : World) (B g : Nat) (vl vt : Value) (h : SW w B g ops vl C vt) (hp : k < ops.length) (hl : C.1.length = ops.length) (hk : C.1.getD k none = none) (hs : s.n < 0 ∨ s.v < 0) :
    Calls Tryd.prog 22 #[.pointer (some ⟨g, 0, none⟩), .int .i64 (k : Int), .agg #[.int .i64 s.n, .int .i64 s.v, .bool false]] w fun r w' => r = .returned (.tuple #[]) ∧ SW w' B g ops vl (C.1, true) vt ∧ Sm w w' g vt := by
  have hb1 : Below w.heap.size w (w.alloc (.cells #[.int .i64 s.n, .int .i64 s.v, .bool true] 54)) := (Below.refl _ _).alloc (Nat.le_refl _) _
  have h1 := h.keep hb1
  obtain ⟨la, lcap, rfl⟩ := h.list.slice
  obtain ⟨c0, c1, c2, f2⟩ := h1.cells
  have hi : ¬ (ops.length : Int) ≤ (k : Int) := by omega
  have hiN : ¬ ops.length ≤ k := by omega
  have hiD : decide (ops.length ≤ k) = false := decide_eq_false hiN
  obtain ⟨tb, tcap, rfl, htB, htl, htg, hr, hf⟩ := h1.at (i := k) (by omega)
  have hti : (k : Int) < (C.1.length : Int) := by omega
  rw [hl] at h1 c1 ⊢
  have he : C.1[k]'(by omega) = none := by
    rw [List.getD_eq_getElem?_getD, List.getElem?_eq_getElem (by omega)] at hk
    exact hk
  rw [he] at hr
  have d0 : (w.alloc (.cells #[.int .i64 s.n, .int .i64 s.v, .bool true] 54)).cell? ⟨tb, k * 3, none⟩ = some (.int .i64 0) := hr 0 _ rfl
  have d1 : (w.alloc (.cells #[.int .i64 s.n, .int .i64 s.v, .bool true] 54)).cell? ⟨tb, k * 3 + 1, none⟩ = some (.int .i64 0) := hr 1 _ rfl
  have d2 : (w.alloc (.cells #[.int .i64 s.n, .int .i64 s.v, .bool true] 54)).cell? ⟨tb, k * 3 + 2, none⟩ = some (.bool false) := hr 2 _ rfl
  clear hr hf hk he
  obtain ⟨n, v⟩ := s
  simp only at d0 d1 hb1 h1 c0 c1 c2 f2 d2 hs
  by_cases e1 : n < 0
  · clear hs
    go_enter Tryd.func22, Tryd.ntmps22
    go_wp2_with fail
    go_quiet (fail)
    go_wp2_with fail
    have hS := (SW.drewN h1 nq).fell true
    exact bodyPost_ret (v := .tuple #[]) (by simp [results, Tryd.results22, go_sem]) rfl ⟨rfl, hS.1, (Sm.drewN (Sm.ofBelow hb1) nq).trans hS.2⟩
  · have e2 : v < 0 := by omega
    have e3 : decide (n < 0) = false := decide_eq_false e1
    have e4 : 0 ≤ n := by omega
    clear hs
    go_enter Tryd.func22, Tryd.ntmps22
    go_wp2_with fail
    go_quiet (fail)
    go_wp2_with fail
    have hS := (SW.drewN h1 nq).fell true
    exact bodyPost_ret (v := .tuple #[]) (by simp [results, Tryd.results22, go_sem]) rfl ⟨rfl, hS.1, (Sm.drewN (Sm.ofBelow hb1) nq).trans hS.2⟩
end Go.Proofs.YtlkbgmgnjkkfgaaDoor

