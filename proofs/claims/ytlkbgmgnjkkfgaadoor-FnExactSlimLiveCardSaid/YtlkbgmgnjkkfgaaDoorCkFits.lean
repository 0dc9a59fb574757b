/-
  The program's numFits.
-/
import Derived.Test.YtlkbgmgnjkkfgaaDoorLvAll2
namespace Go.Proofs.YtlkbgmgnjkkfgaaDoor
open Go.RowKit

theorem op_cell {w w2 : World} {k n : Int} (h : Below (w.alloc (.cells #[.int .i64 k, .int .i64 n] 37)).heap.size (w.alloc (.cells #[.int .i64 k, .int .i64 n] 37)) w2) : w2.cell? ⟨w.heap.size, 0, none⟩ = some (.int .i64 k) ∧ w2.cell? ⟨w.heap.size, 1, none⟩ = some (.int .i64 n) ∧ Below w.heap.size w w2 := by
  have hb := h.block w.heap.size (by simp)
  refine ⟨(World.cell?_of_block (a := ⟨w.heap.size, 0, none⟩) hb).trans (by simp), (World.cell?_of_block (a := ⟨w.heap.size, 1, none⟩) hb).trans (by simp), ((Below.refl _ _).alloc (Nat.le_refl _) _).trans (h.mono (by simp))⟩
theorem fmeth_figureOp (k n : Int) (w : World) : (method 205 79 (.agg #[.int .i64 k, .int .i64 n]) "loop.example/ensemble/impl.bounds").run Tryd.prog w = .ok (54, .agg #[.int .i64 k, .int .i64 n]) w := by kernel_rfl
set_option maxHeartbeats 1000000 in
theorem fits_figureOp (k n size : Int) (w : World) (hk : k = 1 ∨ k = 2) (_hz : 1 ≤ size ∧ size ≤ 200) :
    Calls Tryd.prog 24 #[.agg #[.int .i64 k, .int .i64 n], .int .i64 size] w fun r w' => r = .returned (.bool (decide (leastM k ≤ n ∧ n ≤ mostM k size))) ∧ Below w.heap.size w w' := by
  have hT : deedT k = 79 := by rcases hk with rfl | rfl <;> rfl
  have hk' : 1 ≤ k ∧ k ≤ 24 := by omega
  have hB := fun w => bounds_figureOp k n size w hk
  have hm := fmeth_figureOp k n
  clear hk
  generalize leastM k = l at hB ⊢
  generalize mostM k size = m at hB ⊢
  by_cases h1 : l ≤ n
  · rw [show decide (l ≤ n ∧ n ≤ m) = decide (n ≤ m) from by simp [h1]]
    go_enter Tryd.func24, Tryd.ntmps24
    go_wp2_with (first
      | (go_at_call 30; refine (deed_kind _ _ _ hk').mono ?_; rintro r w2 ⟨rfl, hb2⟩; rw [hT])
      | (go_at_call 54; refine (hB _).mono ?_; rintro r w3 ⟨rfl, hb3⟩; obtain ⟨hc0, hc1, hb4⟩ := op_cell (hb2.trans (hb3.mono hb2.size)); clear hb2 hb3))
    go_ret
    exact ⟨rfl, hb4⟩
  · rw [decide_eq_false (fun h => h1 h.1)]
    go_enter Tryd.func24, Tryd.ntmps24
    go_wp2_with (first
      | (go_at_call 30; refine (deed_kind _ _ _ hk').mono ?_; rintro r w2 ⟨rfl, hb2⟩; rw [hT])
      | (go_at_call 54; refine (hB _).mono ?_; rintro r w3 ⟨rfl, hb3⟩; obtain ⟨hc0, hc1, hb4⟩ := op_cell (hb2.trans (hb3.mono hb2.size)); clear hb2 hb3))
    go_ret
    exact ⟨rfl, hb4⟩
theorem fmeth_nameOp (k n : Int) (w : World) : (method 205 80 (.agg #[.int .i64 k, .int .i64 n]) "loop.example/ensemble/impl.bounds").run Tryd.prog w = .ok (55, .agg #[.int .i64 k, .int .i64 n]) w := by kernel_rfl
set_option maxHeartbeats 1000000 in
theorem fits_nameOp (k n size : Int) (w : World) (hk : k = 3) (_hz : 1 ≤ size ∧ size ≤ 200) :
    Calls Tryd.prog 24 #[.agg #[.int .i64 k, .int .i64 n], .int .i64 size] w fun r w' => r = .returned (.bool (decide (leastM k ≤ n ∧ n ≤ mostM k size))) ∧ Below w.heap.size w w' := by
  have hT : deedT k = 80 := by subst hk; rfl
  have hk' : 1 ≤ k ∧ k ≤ 24 := by omega
  have hB := fun w => bounds_nameOp k n size w hk
  have hm := fmeth_nameOp k n
  clear hk
  generalize leastM k = l at hB ⊢
  generalize mostM k size = m at hB ⊢
  by_cases h1 : l ≤ n
  · rw [show decide (l ≤ n ∧ n ≤ m) = decide (n ≤ m) from by simp [h1]]
    go_enter Tryd.func24, Tryd.ntmps24
    go_wp2_with (first
      | (go_at_call 30; refine (deed_kind _ _ _ hk').mono ?_; rintro r w2 ⟨rfl, hb2⟩; rw [hT])
      | (go_at_call 55; refine (hB _).mono ?_; rintro r w3 ⟨rfl, hb3⟩; obtain ⟨hc0, hc1, hb4⟩ := op_cell (hb2.trans (hb3.mono hb2.size)); clear hb2 hb3))
    go_ret
    exact ⟨rfl, hb4⟩
  · rw [decide_eq_false (fun h => h1 h.1)]
    go_enter Tryd.func24, Tryd.ntmps24
    go_wp2_with (first
      | (go_at_call 30; refine (deed_kind _ _ _ hk').mono ?_; rintro r w2 ⟨rfl, hb2⟩; rw [hT])
      | (go_at_call 55; refine (hB _).mono ?_; rintro r w3 ⟨rfl, hb3⟩; obtain ⟨hc0, hc1, hb4⟩ := op_cell (hb2.trans (hb3.mono hb2.size)); clear hb2 hb3))
    go_ret
    exact ⟨rfl, hb4⟩
theorem fmeth_makeOp (k n : Int) (w : World) : (method 205 73 (.agg #[.int .i64 k, .int .i64 n]) "loop.example/ensemble/impl.bounds").run Tryd.prog w = .ok (50, .agg #[.int .i64 k, .int .i64 n]) w := by kernel_rfl
set_option maxHeartbeats 1000000 in
theorem fits_makeOp (k n size : Int) (w : World) (hk : k = 4 ∨ k = 5) (hz : 1 ≤ size ∧ size ≤ 200) :
    Calls Tryd.prog 24 #[.agg #[.int .i64 k, .int .i64 n], .int .i64 size] w fun r w' => r = .returned (.bool (decide (leastM k ≤ n ∧ n ≤ mostM k size))) ∧ Below w.heap.size w w' := by
  have hT : deedT k = 73 := by rcases hk with rfl | rfl <;> rfl
  have hk' : 1 ≤ k ∧ k ≤ 24 := by omega
  have hB := fun w => bounds_makeOp k n size w hk hz
  have hm := fmeth_makeOp k n
  clear hk
  generalize leastM k = l at hB ⊢
  generalize mostM k size = m at hB ⊢
  by_cases h1 : l ≤ n
  · rw [show decide (l ≤ n ∧ n ≤ m) = decide (n ≤ m) from by simp [h1]]
    go_enter Tryd.func24, Tryd.ntmps24
    go_wp2_with (first
      | (go_at_call 30; refine (deed_kind _ _ _ hk').mono ?_; rintro r w2 ⟨rfl, hb2⟩; rw [hT])
      | (go_at_call 50; refine (hB _).mono ?_; rintro r w3 ⟨rfl, hb3⟩; obtain ⟨hc0, hc1, hb4⟩ := op_cell (hb2.trans (hb3.mono hb2.size)); clear hb2 hb3))
    go_ret
    exact ⟨rfl, hb4⟩
  · rw [decide_eq_false (fun h => h1 h.1)]
    go_enter Tryd.func24, Tryd.ntmps24
    go_wp2_with (first
      | (go_at_call 30; refine (deed_kind _ _ _ hk').mono ?_; rintro r w2 ⟨rfl, hb2⟩; rw [hT])
      | (go_at_call 50; refine (hB _).mono ?_; rintro r w3 ⟨rfl, hb3⟩; obtain ⟨hc0, hc1, hb4⟩ := op_cell (hb2.trans (hb3.mono hb2.size)); clear hb2 hb3))
    go_ret
    exact ⟨rfl, hb4⟩
theorem fmeth_bindOp (k n : Int) (w : World) : (method 205 81 (.agg #[.int .i64 k, .int .i64 n]) "loop.example/ensemble/impl.bounds").run Tryd.prog w = .ok (56, .agg #[.int .i64 k, .int .i64 n]) w := by kernel_rfl
set_option maxHeartbeats 1000000 in
theorem fits_bindOp (k n size : Int) (w : World) (hk : k = 7) (_hz : 1 ≤ size ∧ size ≤ 200) :
    Calls Tryd.prog 24 #[.agg #[.int .i64 k, .int .i64 n], .int .i64 size] w fun r w' => r = .returned (.bool (decide (leastM k ≤ n ∧ n ≤ mostM k size))) ∧ Below w.heap.size w w' := by
  have hT : deedT k = 81 := by subst hk; rfl
  have hk' : 1 ≤ k ∧ k ≤ 24 := by omega
  have hB := fun w => bounds_bindOp k n size w hk
  have hm := fmeth_bindOp k n
  clear hk
  generalize leastM k = l at hB ⊢
  generalize mostM k size = m at hB ⊢
  by_cases h1 : l ≤ n
  · rw [show decide (l ≤ n ∧ n ≤ m) = decide (n ≤ m) from by simp [h1]]
    go_enter Tryd.func24, Tryd.ntmps24
    go_wp2_with (first
      | (go_at_call 30; refine (deed_kind _ _ _ hk').mono ?_; rintro r w2 ⟨rfl, hb2⟩; rw [hT])
      | (go_at_call 56; refine (hB _).mono ?_; rintro r w3 ⟨rfl, hb3⟩; obtain ⟨hc0, hc1, hb4⟩ := op_cell (hb2.trans (hb3.mono hb2.size)); clear hb2 hb3))
    go_ret
    exact ⟨rfl, hb4⟩
  · rw [decide_eq_false (fun h => h1 h.1)]
    go_enter Tryd.func24, Tryd.ntmps24
    go_wp2_with (first
      | (go_at_call 30; refine (deed_kind _ _ _ hk').mono ?_; rintro r w2 ⟨rfl, hb2⟩; rw [hT])
      | (go_at_call 56; refine (hB _).mono ?_; rintro r w3 ⟨rfl, hb3⟩; obtain ⟨hc0, hc1, hb4⟩ := op_cell (hb2.trans (hb3.mono hb2.size)); clear hb2 hb3))
    go_ret
    exact ⟨rfl, hb4⟩
theorem fmeth_dropOp (k n : Int) (w : World) : (method 205 82 (.agg #[.int .i64 k, .int .i64 n]) "loop.example/ensemble/impl.bounds").run Tryd.prog w = .ok (57, .agg #[.int .i64 k, .int .i64 n]) w := by kernel_rfl
set_option maxHeartbeats 1000000 in
theorem fits_dropOp (k n size : Int) (w : World) (hk : k = 8) (_hz : 1 ≤ size ∧ size ≤ 200) :
    Calls Tryd.prog 24 #[.agg #[.int .i64 k, .int .i64 n], .int .i64 size] w fun r w' => r = .returned (.bool (decide (leastM k ≤ n ∧ n ≤ mostM k size))) ∧ Below w.heap.size w w' := by
  have hT : deedT k = 82 := by subst hk; rfl
  have hk' : 1 ≤ k ∧ k ≤ 24 := by omega
  have hB := fun w => bounds_dropOp k n size w hk
  have hm := fmeth_dropOp k n
  clear hk
  generalize leastM k = l at hB ⊢
  generalize mostM k size = m at hB ⊢
  by_cases h1 : l ≤ n
  · rw [show decide (l ≤ n ∧ n ≤ m) = decide (n ≤ m) from by simp [h1]]
    go_enter Tryd.func24, Tryd.ntmps24
    go_wp2_with (first
      | (go_at_call 30; refine (deed_kind _ _ _ hk').mono ?_; rintro r w2 ⟨rfl, hb2⟩; rw [hT])
      | (go_at_call 57; refine (hB _).mono ?_; rintro r w3 ⟨rfl, hb3⟩; obtain ⟨hc0, hc1, hb4⟩ := op_cell (hb2.trans (hb3.mono hb2.size)); clear hb2 hb3))
    go_ret
    exact ⟨rfl, hb4⟩
  · rw [decide_eq_false (fun h => h1 h.1)]
    go_enter Tryd.func24, Tryd.ntmps24
    go_wp2_with (first
      | (go_at_call 30; refine (deed_kind _ _ _ hk').mono ?_; rintro r w2 ⟨rfl, hb2⟩; rw [hT])
      | (go_at_call 57; refine (hB _).mono ?_; rintro r w3 ⟨rfl, hb3⟩; obtain ⟨hc0, hc1, hb4⟩ := op_cell (hb2.trans (hb3.mono hb2.size)); clear hb2 hb3))
    go_ret
    exact ⟨rfl, hb4⟩
theorem fmeth_ifOp (k n : Int) (w : World) : (method 205 74 (.agg #[.int .i64 k, .int .i64 n]) "loop.example/ensemble/impl.bounds").run Tryd.prog w = .ok (51, .agg #[.int .i64 k, .int .i64 n]) w := by kernel_rfl
set_option maxHeartbeats 1000000 in
theorem fits_ifOp (k n size : Int) (w : World) (hk : k = 9) (hz : 1 ≤ size ∧ size ≤ 200) :
    Calls Tryd.prog 24 #[.agg #[.int .i64 k, .int .i64 n], .int .i64 size] w fun r w' => r = .returned (.bool (decide (leastM k ≤ n ∧ n ≤ mostM k size))) ∧ Below w.heap.size w w' := by
  have hT : deedT k = 74 := by subst hk; rfl
  have hk' : 1 ≤ k ∧ k ≤ 24 := by omega
  have hB := fun w => bounds_ifOp k n size w hk hz
  have hm := fmeth_ifOp k n
  clear hk
  generalize leastM k = l at hB ⊢
  generalize mostM k size = m at hB ⊢
  by_cases h1 : l ≤ n
  · rw [show decide (l ≤ n ∧ n ≤ m) = decide (n ≤ m) from by simp [h1]]
    go_enter Tryd.func24, Tryd.ntmps24
    go_wp2_with (first
      | (go_at_call 30; refine (deed_kind _ _ _ hk').mono ?_; rintro r w2 ⟨rfl, hb2⟩; rw [hT])
      | (go_at_call 51; refine (hB _).mono ?_; rintro r w3 ⟨rfl, hb3⟩; obtain ⟨hc0, hc1, hb4⟩ := op_cell (hb2.trans (hb3.mono hb2.size)); clear hb2 hb3))
    go_ret
    exact ⟨rfl, hb4⟩
  · rw [decide_eq_false (fun h => h1 h.1)]
    go_enter Tryd.func24, Tryd.ntmps24
    go_wp2_with (first
      | (go_at_call 30; refine (deed_kind _ _ _ hk').mono ?_; rintro r w2 ⟨rfl, hb2⟩; rw [hT])
      | (go_at_call 51; refine (hB _).mono ?_; rintro r w3 ⟨rfl, hb3⟩; obtain ⟨hc0, hc1, hb4⟩ := op_cell (hb2.trans (hb3.mono hb2.size)); clear hb2 hb3))
    go_ret
    exact ⟨rfl, hb4⟩
theorem fmeth_caseOp (k n : Int) (w : World) : (method 205 75 (.agg #[.int .i64 k, .int .i64 n]) "loop.example/ensemble/impl.bounds").run Tryd.prog w = .ok (52, .agg #[.int .i64 k, .int .i64 n]) w := by kernel_rfl
set_option maxHeartbeats 1000000 in
theorem fits_caseOp (k n size : Int) (w : World) (hk : k = 16) (hz : 1 ≤ size ∧ size ≤ 200) :
    Calls Tryd.prog 24 #[.agg #[.int .i64 k, .int .i64 n], .int .i64 size] w fun r w' => r = .returned (.bool (decide (leastM k ≤ n ∧ n ≤ mostM k size))) ∧ Below w.heap.size w w' := by
  have hT : deedT k = 75 := by subst hk; rfl
  have hk' : 1 ≤ k ∧ k ≤ 24 := by omega
  have hB := fun w => bounds_caseOp k n size w hk hz
  have hm := fmeth_caseOp k n
  clear hk
  generalize leastM k = l at hB ⊢
  generalize mostM k size = m at hB ⊢
  by_cases h1 : l ≤ n
  · rw [show decide (l ≤ n ∧ n ≤ m) = decide (n ≤ m) from by simp [h1]]
    go_enter Tryd.func24, Tryd.ntmps24
    go_wp2_with (first
      | (go_at_call 30; refine (deed_kind _ _ _ hk').mono ?_; rintro r w2 ⟨rfl, hb2⟩; rw [hT])
      | (go_at_call 52; refine (hB _).mono ?_; rintro r w3 ⟨rfl, hb3⟩; obtain ⟨hc0, hc1, hb4⟩ := op_cell (hb2.trans (hb3.mono hb2.size)); clear hb2 hb3))
    go_ret
    exact ⟨rfl, hb4⟩
  · rw [decide_eq_false (fun h => h1 h.1)]
    go_enter Tryd.func24, Tryd.ntmps24
    go_wp2_with (first
      | (go_at_call 30; refine (deed_kind _ _ _ hk').mono ?_; rintro r w2 ⟨rfl, hb2⟩; rw [hT])
      | (go_at_call 52; refine (hB _).mono ?_; rintro r w3 ⟨rfl, hb3⟩; obtain ⟨hc0, hc1, hb4⟩ := op_cell (hb2.trans (hb3.mono hb2.size)); clear hb2 hb3))
    go_ret
    exact ⟨rfl, hb4⟩
theorem fmeth_goOp (k n : Int) (w : World) : (method 205 76 (.agg #[.int .i64 k, .int .i64 n]) "loop.example/ensemble/impl.bounds").run Tryd.prog w = .ok (53, .agg #[.int .i64 k, .int .i64 n]) w := by kernel_rfl
set_option maxHeartbeats 1000000 in
theorem fits_goOp (k n size : Int) (w : World) (hk : k = 10) (hz : 1 ≤ size ∧ size ≤ 200) :
    Calls Tryd.prog 24 #[.agg #[.int .i64 k, .int .i64 n], .int .i64 size] w fun r w' => r = .returned (.bool (decide (leastM k ≤ n ∧ n ≤ mostM k size))) ∧ Below w.heap.size w w' := by
  have hT : deedT k = 76 := by subst hk; rfl
  have hk' : 1 ≤ k ∧ k ≤ 24 := by omega
  have hB := fun w => bounds_goOp k n size w hk hz
  have hm := fmeth_goOp k n
  clear hk
  generalize leastM k = l at hB ⊢
  generalize mostM k size = m at hB ⊢
  by_cases h1 : l ≤ n
  · rw [show decide (l ≤ n ∧ n ≤ m) = decide (n ≤ m) from by simp [h1]]
    go_enter Tryd.func24, Tryd.ntmps24
    go_wp2_with (first
      | (go_at_call 30; refine (deed_kind _ _ _ hk').mono ?_; rintro r w2 ⟨rfl, hb2⟩; rw [hT])
      | (go_at_call 53; refine (hB _).mono ?_; rintro r w3 ⟨rfl, hb3⟩; obtain ⟨hc0, hc1, hb4⟩ := op_cell (hb2.trans (hb3.mono hb2.size)); clear hb2 hb3))
    go_ret
    exact ⟨rfl, hb4⟩
  · rw [decide_eq_false (fun h => h1 h.1)]
    go_enter Tryd.func24, Tryd.ntmps24
    go_wp2_with (first
      | (go_at_call 30; refine (deed_kind _ _ _ hk').mono ?_; rintro r w2 ⟨rfl, hb2⟩; rw [hT])
      | (go_at_call 53; refine (hB _).mono ?_; rintro r w3 ⟨rfl, hb3⟩; obtain ⟨hc0, hc1, hb4⟩ := op_cell (hb2.trans (hb3.mono hb2.size)); clear hb2 hb3))
    go_ret
    exact ⟨rfl, hb4⟩
theorem fmeth_signOp (k n : Int) (w : World) : (method 205 83 (.agg #[.int .i64 k, .int .i64 n]) "loop.example/ensemble/impl.bounds").run Tryd.prog w = .ok (58, .agg #[.int .i64 k, .int .i64 n]) w := by kernel_rfl
set_option maxHeartbeats 1000000 in
theorem fits_signOp (k n size : Int) (w : World) (hk : k = 17) (_hz : 1 ≤ size ∧ size ≤ 200) :
    Calls Tryd.prog 24 #[.agg #[.int .i64 k, .int .i64 n], .int .i64 size] w fun r w' => r = .returned (.bool (decide (leastM k ≤ n ∧ n ≤ mostM k size))) ∧ Below w.heap.size w w' := by
  have hT : deedT k = 83 := by subst hk; rfl
  have hk' : 1 ≤ k ∧ k ≤ 24 := by omega
  have hB := fun w => bounds_signOp k n size w hk
  have hm := fmeth_signOp k n
  clear hk
  generalize leastM k = l at hB ⊢
  generalize mostM k size = m at hB ⊢
  by_cases h1 : l ≤ n
  · rw [show decide (l ≤ n ∧ n ≤ m) = decide (n ≤ m) from by simp [h1]]
    go_enter Tryd.func24, Tryd.ntmps24
    go_wp2_with (first
      | (go_at_call 30; refine (deed_kind _ _ _ hk').mono ?_; rintro r w2 ⟨rfl, hb2⟩; rw [hT])
      | (go_at_call 58; refine (hB _).mono ?_; rintro r w3 ⟨rfl, hb3⟩; obtain ⟨hc0, hc1, hb4⟩ := op_cell (hb2.trans (hb3.mono hb2.size)); clear hb2 hb3))
    go_ret
    exact ⟨rfl, hb4⟩
  · rw [decide_eq_false (fun h => h1 h.1)]
    go_enter Tryd.func24, Tryd.ntmps24
    go_wp2_with (first
      | (go_at_call 30; refine (deed_kind _ _ _ hk').mono ?_; rintro r w2 ⟨rfl, hb2⟩; rw [hT])
      | (go_at_call 58; refine (hB _).mono ?_; rintro r w3 ⟨rfl, hb3⟩; obtain ⟨hc0, hc1, hb4⟩ := op_cell (hb2.trans (hb3.mono hb2.size)); clear hb2 hb3))
    go_ret
    exact ⟨rfl, hb4⟩
theorem fmeth_giveOp (k n : Int) (w : World) : (method 205 84 (.agg #[.int .i64 k, .int .i64 n]) "loop.example/ensemble/impl.bounds").run Tryd.prog w = .ok (59, .agg #[.int .i64 k, .int .i64 n]) w := by kernel_rfl
set_option maxHeartbeats 1000000 in
theorem fits_giveOp (k n size : Int) (w : World) (hk : k = 24) (_hz : 1 ≤ size ∧ size ≤ 200) :
    Calls Tryd.prog 24 #[.agg #[.int .i64 k, .int .i64 n], .int .i64 size] w fun r w' => r = .returned (.bool (decide (leastM k ≤ n ∧ n ≤ mostM k size))) ∧ Below w.heap.size w w' := by
  have hT : deedT k = 84 := by subst hk; rfl
  have hk' : 1 ≤ k ∧ k ≤ 24 := by omega
  have hB := fun w => bounds_giveOp k n size w hk
  have hm := fmeth_giveOp k n
  clear hk
  generalize leastM k = l at hB ⊢
  generalize mostM k size = m at hB ⊢
  by_cases h1 : l ≤ n
  · rw [show decide (l ≤ n ∧ n ≤ m) = decide (n ≤ m) from by simp [h1]]
    go_enter Tryd.func24, Tryd.ntmps24
    go_wp2_with (first
      | (go_at_call 30; refine (deed_kind _ _ _ hk').mono ?_; rintro r w2 ⟨rfl, hb2⟩; rw [hT])
      | (go_at_call 59; refine (hB _).mono ?_; rintro r w3 ⟨rfl, hb3⟩; obtain ⟨hc0, hc1, hb4⟩ := op_cell (hb2.trans (hb3.mono hb2.size)); clear hb2 hb3))
    go_ret
    exact ⟨rfl, hb4⟩
  · rw [decide_eq_false (fun h => h1 h.1)]
    go_enter Tryd.func24, Tryd.ntmps24
    go_wp2_with (first
      | (go_at_call 30; refine (deed_kind _ _ _ hk').mono ?_; rintro r w2 ⟨rfl, hb2⟩; rw [hT])
      | (go_at_call 59; refine (hB _).mono ?_; rintro r w3 ⟨rfl, hb3⟩; obtain ⟨hc0, hc1, hb4⟩ := op_cell (hb2.trans (hb3.mono hb2.size)); clear hb2 hb3))
    go_ret
    exact ⟨rfl, hb4⟩
theorem fmeth_workOp (k n : Int) (w : World) : (method 205 85 (.agg #[.int .i64 k, .int .i64 n]) "loop.example/ensemble/impl.bounds").run Tryd.prog w = .ok (60, .agg #[.int .i64 k, .int .i64 n]) w := by kernel_rfl
set_option maxHeartbeats 1000000 in
theorem fits_workOp (k n size : Int) (w : World) (hk : k = 6 ∨ k = 11 ∨ k = 12 ∨ k = 13 ∨ k = 14 ∨ k = 15 ∨ k = 18 ∨ k = 19 ∨ k = 20 ∨ k = 21 ∨ k = 22 ∨ k = 23) (_hz : 1 ≤ size ∧ size ≤ 200) :
    Calls Tryd.prog 24 #[.agg #[.int .i64 k, .int .i64 n], .int .i64 size] w fun r w' => r = .returned (.bool (decide (leastM k ≤ n ∧ n ≤ mostM k size))) ∧ Below w.heap.size w w' := by
  have hT : deedT k = 85 := by rcases hk with rfl | rfl | rfl | rfl | rfl | rfl | rfl | rfl | rfl | rfl | rfl | rfl <;> rfl
  have hk' : 1 ≤ k ∧ k ≤ 24 := by omega
  have hB := fun w => bounds_workOp k n size w (by rcases hk with rfl | rfl | rfl | rfl | rfl | rfl | rfl | rfl | rfl | rfl | rfl | rfl <;> rfl) (by rcases hk with rfl | rfl | rfl | rfl | rfl | rfl | rfl | rfl | rfl | rfl | rfl | rfl <;> rfl)
  have hm := fmeth_workOp k n
  clear hk
  generalize leastM k = l at hB ⊢
  generalize mostM k size = m at hB ⊢
  by_cases h1 : l ≤ n
  · rw [show decide (l ≤ n ∧ n ≤ m) = decide (n ≤ m) from by simp [h1]]
    go_enter Tryd.func24, Tryd.ntmps24
    go_wp2_with (first
      | (go_at_call 30; refine (deed_kind _ _ _ hk').mono ?_; rintro r w2 ⟨rfl, hb2⟩; rw [hT])
      | (go_at_call 60; refine (hB _).mono ?_; rintro r w3 ⟨rfl, hb3⟩; obtain ⟨hc0, hc1, hb4⟩ := op_cell (hb2.trans (hb3.mono hb2.size)); clear hb2 hb3))
    go_ret
    exact ⟨rfl, hb4⟩
  · rw [decide_eq_false (fun h => h1 h.1)]
    go_enter Tryd.func24, Tryd.ntmps24
    go_wp2_with (first
      | (go_at_call 30; refine (deed_kind _ _ _ hk').mono ?_; rintro r w2 ⟨rfl, hb2⟩; rw [hT])
      | (go_at_call 60; refine (hB _).mono ?_; rintro r w3 ⟨rfl, hb3⟩; obtain ⟨hc0, hc1, hb4⟩ := op_cell (hb2.trans (hb3.mono hb2.size)); clear hb2 hb3))
    go_ret
    exact ⟨rfl, hb4⟩
theorem fits_none (k n size : Int) (w : World) (hk : k < 1 ∨ 24 < k) :
    Calls Tryd.prog 24 #[.agg #[.int .i64 k, .int .i64 n], .int .i64 size] w fun r w' => r = .returned (.bool false) ∧ Below w.heap.size w w' := by
  have hD := fun w => deed_none k n w hk
  clear hk
  go_enter Tryd.func24, Tryd.ntmps24
  go_wp2_with (go_at_call 30; refine (hD _).mono ?_; rintro r w2 ⟨rfl, hb2⟩)
  go_ret
  obtain ⟨hc0, hc1, hb4⟩ := op_cell hb2
  exact ⟨rfl, hb4⟩
theorem law_numFits (op : Wd) (size : Int) (w : World) (hz : 1 ≤ size ∧ size ≤ 200) :
    Calls Tryd.prog 24 #[.agg #[.int .i64 op.tag, .int .i64 op.num], .int .i64 size] w fun r w' => r = .returned (.bool (fitsM op size)) ∧ Below w.heap.size w w' := by
  obtain ⟨k, n⟩ := op
  unfold fitsM
  by_cases hk : 1 ≤ k ∧ k ≤ 24
  · rw [show decide (1 ≤ k ∧ k ≤ 24 ∧ leastM k ≤ n ∧ n ≤ mostM k size) = decide (leastM k ≤ n ∧ n ≤ mostM k size) from by simp [hk]]
    rcases code_cases k hk with h | h | h | h | h | h | h | h | h | h | h | h | h | h | h | h | h | h | h | h | h | h | h | h
    all_goals first
      | exact fits_figureOp k n size w (by omega) hz
      | exact fits_nameOp k n size w (by omega) hz
      | exact fits_makeOp k n size w (by omega) hz
      | exact fits_bindOp k n size w (by omega) hz
      | exact fits_dropOp k n size w (by omega) hz
      | exact fits_ifOp k n size w (by omega) hz
      | exact fits_caseOp k n size w (by omega) hz
      | exact fits_goOp k n size w (by omega) hz
      | exact fits_signOp k n size w (by omega) hz
      | exact fits_giveOp k n size w (by omega) hz
      | exact fits_workOp k n size w (by omega) hz
  · rw [decide_eq_false (fun h => hk ⟨h.1, h.2.1⟩)]
    exact fits_none k n size w (by omega)
end Go.Proofs.YtlkbgmgnjkkfgaaDoor

