/-
  The program's hasNum, codeText, CodePut.
-/
import Derived.Test.YtaagnifagahgfaaDoorLgAll20
import Derived.Test.YtaagnifagahgfaaDoorAnLay
import Derived.Deep.RegionHeld3
import Derived.Deep.LoopGhost
import Derived.Deep.Cut
namespace Go.Proofs.YtaagnifagahgfaaDoor
open Go.RowKit

theorem is_bindOp_bindOp (k n : Int) (w : World) : (Instr.typeAssert (.iface 86 (.agg #[.int .i64 k, .int .i64 n])) 75 86 true).run Tryd.prog w = .ok (.tuple #[.agg #[.int .i64 k, .int .i64 n], .bool true]) w := by kernel_rfl
theorem is_bindOp_giveOp (k n : Int) (w : World) : (Instr.typeAssert (.iface 86 (.agg #[.int .i64 k, .int .i64 n])) 75 87 true).run Tryd.prog w = .ok (.tuple #[.agg #[.int .i64 0, .int .i64 0], .bool false]) w := by kernel_rfl
theorem is_bindOp_workOp (k n : Int) (w : World) : (Instr.typeAssert (.iface 86 (.agg #[.int .i64 k, .int .i64 n])) 75 88 true).run Tryd.prog w = .ok (.tuple #[.agg #[.int .i64 0, .int .i64 0], .bool false]) w := by kernel_rfl
theorem is_caseOp_bindOp (k n : Int) (w : World) : (Instr.typeAssert (.iface 103 (.agg #[.int .i64 k, .int .i64 n])) 75 86 true).run Tryd.prog w = .ok (.tuple #[.agg #[.int .i64 0, .int .i64 0], .bool false]) w := by kernel_rfl
theorem is_caseOp_giveOp (k n : Int) (w : World) : (Instr.typeAssert (.iface 103 (.agg #[.int .i64 k, .int .i64 n])) 75 87 true).run Tryd.prog w = .ok (.tuple #[.agg #[.int .i64 0, .int .i64 0], .bool false]) w := by kernel_rfl
theorem is_caseOp_workOp (k n : Int) (w : World) : (Instr.typeAssert (.iface 103 (.agg #[.int .i64 k, .int .i64 n])) 75 88 true).run Tryd.prog w = .ok (.tuple #[.agg #[.int .i64 0, .int .i64 0], .bool false]) w := by kernel_rfl
theorem is_dropOp_bindOp (k n : Int) (w : World) : (Instr.typeAssert (.iface 101 (.agg #[.int .i64 k, .int .i64 n])) 75 86 true).run Tryd.prog w = .ok (.tuple #[.agg #[.int .i64 0, .int .i64 0], .bool false]) w := by kernel_rfl
theorem is_dropOp_giveOp (k n : Int) (w : World) : (Instr.typeAssert (.iface 101 (.agg #[.int .i64 k, .int .i64 n])) 75 87 true).run Tryd.prog w = .ok (.tuple #[.agg #[.int .i64 0, .int .i64 0], .bool false]) w := by kernel_rfl
theorem is_dropOp_workOp (k n : Int) (w : World) : (Instr.typeAssert (.iface 101 (.agg #[.int .i64 k, .int .i64 n])) 75 88 true).run Tryd.prog w = .ok (.tuple #[.agg #[.int .i64 0, .int .i64 0], .bool false]) w := by kernel_rfl
theorem is_figureOp_bindOp (k n : Int) (w : World) : (Instr.typeAssert (.iface 98 (.agg #[.int .i64 k, .int .i64 n])) 75 86 true).run Tryd.prog w = .ok (.tuple #[.agg #[.int .i64 0, .int .i64 0], .bool false]) w := by kernel_rfl
theorem is_figureOp_giveOp (k n : Int) (w : World) : (Instr.typeAssert (.iface 98 (.agg #[.int .i64 k, .int .i64 n])) 75 87 true).run Tryd.prog w = .ok (.tuple #[.agg #[.int .i64 0, .int .i64 0], .bool false]) w := by kernel_rfl
theorem is_figureOp_workOp (k n : Int) (w : World) : (Instr.typeAssert (.iface 98 (.agg #[.int .i64 k, .int .i64 n])) 75 88 true).run Tryd.prog w = .ok (.tuple #[.agg #[.int .i64 0, .int .i64 0], .bool false]) w := by kernel_rfl
theorem is_giveOp_bindOp (k n : Int) (w : World) : (Instr.typeAssert (.iface 87 (.agg #[.int .i64 k, .int .i64 n])) 75 86 true).run Tryd.prog w = .ok (.tuple #[.agg #[.int .i64 0, .int .i64 0], .bool false]) w := by kernel_rfl
theorem is_giveOp_giveOp (k n : Int) (w : World) : (Instr.typeAssert (.iface 87 (.agg #[.int .i64 k, .int .i64 n])) 75 87 true).run Tryd.prog w = .ok (.tuple #[.agg #[.int .i64 k, .int .i64 n], .bool true]) w := by kernel_rfl
theorem is_giveOp_workOp (k n : Int) (w : World) : (Instr.typeAssert (.iface 87 (.agg #[.int .i64 k, .int .i64 n])) 75 88 true).run Tryd.prog w = .ok (.tuple #[.agg #[.int .i64 0, .int .i64 0], .bool false]) w := by kernel_rfl
theorem is_goOp_bindOp (k n : Int) (w : World) : (Instr.typeAssert (.iface 104 (.agg #[.int .i64 k, .int .i64 n])) 75 86 true).run Tryd.prog w = .ok (.tuple #[.agg #[.int .i64 0, .int .i64 0], .bool false]) w := by kernel_rfl
theorem is_goOp_giveOp (k n : Int) (w : World) : (Instr.typeAssert (.iface 104 (.agg #[.int .i64 k, .int .i64 n])) 75 87 true).run Tryd.prog w = .ok (.tuple #[.agg #[.int .i64 0, .int .i64 0], .bool false]) w := by kernel_rfl
theorem is_goOp_workOp (k n : Int) (w : World) : (Instr.typeAssert (.iface 104 (.agg #[.int .i64 k, .int .i64 n])) 75 88 true).run Tryd.prog w = .ok (.tuple #[.agg #[.int .i64 0, .int .i64 0], .bool false]) w := by kernel_rfl
theorem is_ifOp_bindOp (k n : Int) (w : World) : (Instr.typeAssert (.iface 102 (.agg #[.int .i64 k, .int .i64 n])) 75 86 true).run Tryd.prog w = .ok (.tuple #[.agg #[.int .i64 0, .int .i64 0], .bool false]) w := by kernel_rfl
theorem is_ifOp_giveOp (k n : Int) (w : World) : (Instr.typeAssert (.iface 102 (.agg #[.int .i64 k, .int .i64 n])) 75 87 true).run Tryd.prog w = .ok (.tuple #[.agg #[.int .i64 0, .int .i64 0], .bool false]) w := by kernel_rfl
theorem is_ifOp_workOp (k n : Int) (w : World) : (Instr.typeAssert (.iface 102 (.agg #[.int .i64 k, .int .i64 n])) 75 88 true).run Tryd.prog w = .ok (.tuple #[.agg #[.int .i64 0, .int .i64 0], .bool false]) w := by kernel_rfl
theorem is_makeOp_bindOp (k n : Int) (w : World) : (Instr.typeAssert (.iface 100 (.agg #[.int .i64 k, .int .i64 n])) 75 86 true).run Tryd.prog w = .ok (.tuple #[.agg #[.int .i64 0, .int .i64 0], .bool false]) w := by kernel_rfl
theorem is_makeOp_giveOp (k n : Int) (w : World) : (Instr.typeAssert (.iface 100 (.agg #[.int .i64 k, .int .i64 n])) 75 87 true).run Tryd.prog w = .ok (.tuple #[.agg #[.int .i64 0, .int .i64 0], .bool false]) w := by kernel_rfl
theorem is_makeOp_workOp (k n : Int) (w : World) : (Instr.typeAssert (.iface 100 (.agg #[.int .i64 k, .int .i64 n])) 75 88 true).run Tryd.prog w = .ok (.tuple #[.agg #[.int .i64 0, .int .i64 0], .bool false]) w := by kernel_rfl
theorem is_nameOp_bindOp (k n : Int) (w : World) : (Instr.typeAssert (.iface 99 (.agg #[.int .i64 k, .int .i64 n])) 75 86 true).run Tryd.prog w = .ok (.tuple #[.agg #[.int .i64 0, .int .i64 0], .bool false]) w := by kernel_rfl
theorem is_nameOp_giveOp (k n : Int) (w : World) : (Instr.typeAssert (.iface 99 (.agg #[.int .i64 k, .int .i64 n])) 75 87 true).run Tryd.prog w = .ok (.tuple #[.agg #[.int .i64 0, .int .i64 0], .bool false]) w := by kernel_rfl
theorem is_nameOp_workOp (k n : Int) (w : World) : (Instr.typeAssert (.iface 99 (.agg #[.int .i64 k, .int .i64 n])) 75 88 true).run Tryd.prog w = .ok (.tuple #[.agg #[.int .i64 0, .int .i64 0], .bool false]) w := by kernel_rfl
theorem is_signOp_bindOp (k n : Int) (w : World) : (Instr.typeAssert (.iface 105 (.agg #[.int .i64 k, .int .i64 n])) 75 86 true).run Tryd.prog w = .ok (.tuple #[.agg #[.int .i64 0, .int .i64 0], .bool false]) w := by kernel_rfl
theorem is_signOp_giveOp (k n : Int) (w : World) : (Instr.typeAssert (.iface 105 (.agg #[.int .i64 k, .int .i64 n])) 75 87 true).run Tryd.prog w = .ok (.tuple #[.agg #[.int .i64 0, .int .i64 0], .bool false]) w := by kernel_rfl
theorem is_signOp_workOp (k n : Int) (w : World) : (Instr.typeAssert (.iface 105 (.agg #[.int .i64 k, .int .i64 n])) 75 88 true).run Tryd.prog w = .ok (.tuple #[.agg #[.int .i64 0, .int .i64 0], .bool false]) w := by kernel_rfl
theorem is_workOp_bindOp (k n : Int) (w : World) : (Instr.typeAssert (.iface 88 (.agg #[.int .i64 k, .int .i64 n])) 75 86 true).run Tryd.prog w = .ok (.tuple #[.agg #[.int .i64 0, .int .i64 0], .bool false]) w := by kernel_rfl
theorem is_workOp_giveOp (k n : Int) (w : World) : (Instr.typeAssert (.iface 88 (.agg #[.int .i64 k, .int .i64 n])) 75 87 true).run Tryd.prog w = .ok (.tuple #[.agg #[.int .i64 0, .int .i64 0], .bool false]) w := by kernel_rfl
theorem is_workOp_workOp (k n : Int) (w : World) : (Instr.typeAssert (.iface 88 (.agg #[.int .i64 k, .int .i64 n])) 75 88 true).run Tryd.prog w = .ok (.tuple #[.agg #[.int .i64 k, .int .i64 n], .bool true]) w := by kernel_rfl
set_option maxHeartbeats 1000000 in
theorem hasNum_bindOp (k n : Int) (w : World) (hk : 1 ≤ k ∧ k ≤ 24) (ht : deedT k = 86) :
    Calls Tryd.prog 35 #[.agg #[.int .i64 k, .int .i64 n]] w fun r w' => r = .returned (.bool false) ∧ Below w.heap.size w w' := by
  have hE := fun w => deed_kind k n w hk
  rw [ht] at hE
  have a1 := fun w => is_bindOp_bindOp k n w
  have a2 := fun w => is_bindOp_giveOp k n w
  have a3 := fun w => is_bindOp_workOp k n w
  clear ht hk
  go_enter Tryd.func35, Tryd.ntmps35
  go_wp2_with (go_at_call 44; refine (hE _).mono ?_; rintro r w2 ⟨rfl, hb2⟩)
  go_ret
  exact ⟨rfl, ((Below.refl _ _).alloc (Nat.le_refl _) _).trans (hb2.mono (by simp))⟩
set_option maxHeartbeats 1000000 in
theorem hasNum_caseOp (k n : Int) (w : World) (hk : 1 ≤ k ∧ k ≤ 24) (ht : deedT k = 103) :
    Calls Tryd.prog 35 #[.agg #[.int .i64 k, .int .i64 n]] w fun r w' => r = .returned (.bool true) ∧ Below w.heap.size w w' := by
  have hE := fun w => deed_kind k n w hk
  rw [ht] at hE
  have a1 := fun w => is_caseOp_bindOp k n w
  have a2 := fun w => is_caseOp_giveOp k n w
  have a3 := fun w => is_caseOp_workOp k n w
  clear ht hk
  go_enter Tryd.func35, Tryd.ntmps35
  go_wp2_with (go_at_call 44; refine (hE _).mono ?_; rintro r w2 ⟨rfl, hb2⟩)
  go_ret
  exact ⟨rfl, ((Below.refl _ _).alloc (Nat.le_refl _) _).trans (hb2.mono (by simp))⟩
set_option maxHeartbeats 1000000 in
theorem hasNum_dropOp (k n : Int) (w : World) (hk : 1 ≤ k ∧ k ≤ 24) (ht : deedT k = 101) :
    Calls Tryd.prog 35 #[.agg #[.int .i64 k, .int .i64 n]] w fun r w' => r = .returned (.bool true) ∧ Below w.heap.size w w' := by
  have hE := fun w => deed_kind k n w hk
  rw [ht] at hE
  have a1 := fun w => is_dropOp_bindOp k n w
  have a2 := fun w => is_dropOp_giveOp k n w
  have a3 := fun w => is_dropOp_workOp k n w
  clear ht hk
  go_enter Tryd.func35, Tryd.ntmps35
  go_wp2_with (go_at_call 44; refine (hE _).mono ?_; rintro r w2 ⟨rfl, hb2⟩)
  go_ret
  exact ⟨rfl, ((Below.refl _ _).alloc (Nat.le_refl _) _).trans (hb2.mono (by simp))⟩
set_option maxHeartbeats 1000000 in
theorem hasNum_figureOp (k n : Int) (w : World) (hk : 1 ≤ k ∧ k ≤ 24) (ht : deedT k = 98) :
    Calls Tryd.prog 35 #[.agg #[.int .i64 k, .int .i64 n]] w fun r w' => r = .returned (.bool true) ∧ Below w.heap.size w w' := by
  have hE := fun w => deed_kind k n w hk
  rw [ht] at hE
  have a1 := fun w => is_figureOp_bindOp k n w
  have a2 := fun w => is_figureOp_giveOp k n w
  have a3 := fun w => is_figureOp_workOp k n w
  clear ht hk
  go_enter Tryd.func35, Tryd.ntmps35
  go_wp2_with (go_at_call 44; refine (hE _).mono ?_; rintro r w2 ⟨rfl, hb2⟩)
  go_ret
  exact ⟨rfl, ((Below.refl _ _).alloc (Nat.le_refl _) _).trans (hb2.mono (by simp))⟩
set_option maxHeartbeats 1000000 in
theorem hasNum_giveOp (k n : Int) (w : World) (hk : 1 ≤ k ∧ k ≤ 24) (ht : deedT k = 87) :
    Calls Tryd.prog 35 #[.agg #[.int .i64 k, .int .i64 n]] w fun r w' => r = .returned (.bool false) ∧ Below w.heap.size w w' := by
  have hE := fun w => deed_kind k n w hk
  rw [ht] at hE
  have a1 := fun w => is_giveOp_bindOp k n w
  have a2 := fun w => is_giveOp_giveOp k n w
  have a3 := fun w => is_giveOp_workOp k n w
  clear ht hk
  go_enter Tryd.func35, Tryd.ntmps35
  go_wp2_with (go_at_call 44; refine (hE _).mono ?_; rintro r w2 ⟨rfl, hb2⟩)
  go_ret
  exact ⟨rfl, ((Below.refl _ _).alloc (Nat.le_refl _) _).trans (hb2.mono (by simp))⟩
set_option maxHeartbeats 1000000 in
theorem hasNum_goOp (k n : Int) (w : World) (hk : 1 ≤ k ∧ k ≤ 24) (ht : deedT k = 104) :
    Calls Tryd.prog 35 #[.agg #[.int .i64 k, .int .i64 n]] w fun r w' => r = .returned (.bool true) ∧ Below w.heap.size w w' := by
  have hE := fun w => deed_kind k n w hk
  rw [ht] at hE
  have a1 := fun w => is_goOp_bindOp k n w
  have a2 := fun w => is_goOp_giveOp k n w
  have a3 := fun w => is_goOp_workOp k n w
  clear ht hk
  go_enter Tryd.func35, Tryd.ntmps35
  go_wp2_with (go_at_call 44; refine (hE _).mono ?_; rintro r w2 ⟨rfl, hb2⟩)
  go_ret
  exact ⟨rfl, ((Below.refl _ _).alloc (Nat.le_refl _) _).trans (hb2.mono (by simp))⟩
set_option maxHeartbeats 1000000 in
theorem hasNum_ifOp (k n : Int) (w : World) (hk : 1 ≤ k ∧ k ≤ 24) (ht : deedT k = 102) :
    Calls Tryd.prog 35 #[.agg #[.int .i64 k, .int .i64 n]] w fun r w' => r = .returned (.bool true) ∧ Below w.heap.size w w' := by
  have hE := fun w => deed_kind k n w hk
  rw [ht] at hE
  have a1 := fun w => is_ifOp_bindOp k n w
  have a2 := fun w => is_ifOp_giveOp k n w
  have a3 := fun w => is_ifOp_workOp k n w
  clear ht hk
  go_enter Tryd.func35, Tryd.ntmps35
  go_wp2_with (go_at_call 44; refine (hE _).mono ?_; rintro r w2 ⟨rfl, hb2⟩)
  go_ret
  exact ⟨rfl, ((Below.refl _ _).alloc (Nat.le_refl _) _).trans (hb2.mono (by simp))⟩
set_option maxHeartbeats 1000000 in
theorem hasNum_makeOp (k n : Int) (w : World) (hk : 1 ≤ k ∧ k ≤ 24) (ht : deedT k = 100) :
    Calls Tryd.prog 35 #[.agg #[.int .i64 k, .int .i64 n]] w fun r w' => r = .returned (.bool true) ∧ Below w.heap.size w w' := by
  have hE := fun w => deed_kind k n w hk
  rw [ht] at hE
  have a1 := fun w => is_makeOp_bindOp k n w
  have a2 := fun w => is_makeOp_giveOp k n w
  have a3 := fun w => is_makeOp_workOp k n w
  clear ht hk
  go_enter Tryd.func35, Tryd.ntmps35
  go_wp2_with (go_at_call 44; refine (hE _).mono ?_; rintro r w2 ⟨rfl, hb2⟩)
  go_ret
  exact ⟨rfl, ((Below.refl _ _).alloc (Nat.le_refl _) _).trans (hb2.mono (by simp))⟩
set_option maxHeartbeats 1000000 in
theorem hasNum_nameOp (k n : Int) (w : World) (hk : 1 ≤ k ∧ k ≤ 24) (ht : deedT k = 99) :
    Calls Tryd.prog 35 #[.agg #[.int .i64 k, .int .i64 n]] w fun r w' => r = .returned (.bool true) ∧ Below w.heap.size w w' := by
  have hE := fun w => deed_kind k n w hk
  rw [ht] at hE
  have a1 := fun w => is_nameOp_bindOp k n w
  have a2 := fun w => is_nameOp_giveOp k n w
  have a3 := fun w => is_nameOp_workOp k n w
  clear ht hk
  go_enter Tryd.func35, Tryd.ntmps35
  go_wp2_with (go_at_call 44; refine (hE _).mono ?_; rintro r w2 ⟨rfl, hb2⟩)
  go_ret
  exact ⟨rfl, ((Below.refl _ _).alloc (Nat.le_refl _) _).trans (hb2.mono (by simp))⟩
set_option maxHeartbeats 1000000 in
theorem hasNum_signOp (k n : Int) (w : World) (hk : 1 ≤ k ∧ k ≤ 24) (ht : deedT k = 105) :
    Calls Tryd.prog 35 #[.agg #[.int .i64 k, .int .i64 n]] w fun r w' => r = .returned (.bool true) ∧ Below w.heap.size w w' := by
  have hE := fun w => deed_kind k n w hk
  rw [ht] at hE
  have a1 := fun w => is_signOp_bindOp k n w
  have a2 := fun w => is_signOp_giveOp k n w
  have a3 := fun w => is_signOp_workOp k n w
  clear ht hk
  go_enter Tryd.func35, Tryd.ntmps35
  go_wp2_with (go_at_call 44; refine (hE _).mono ?_; rintro r w2 ⟨rfl, hb2⟩)
  go_ret
  exact ⟨rfl, ((Below.refl _ _).alloc (Nat.le_refl _) _).trans (hb2.mono (by simp))⟩
set_option maxHeartbeats 1000000 in
theorem hasNum_workOp (k n : Int) (w : World) (hk : 1 ≤ k ∧ k ≤ 24) (ht : deedT k = 88) :
    Calls Tryd.prog 35 #[.agg #[.int .i64 k, .int .i64 n]] w fun r w' => r = .returned (.bool false) ∧ Below w.heap.size w w' := by
  have hE := fun w => deed_kind k n w hk
  rw [ht] at hE
  have a1 := fun w => is_workOp_bindOp k n w
  have a2 := fun w => is_workOp_giveOp k n w
  have a3 := fun w => is_workOp_workOp k n w
  clear ht hk
  go_enter Tryd.func35, Tryd.ntmps35
  go_wp2_with (go_at_call 44; refine (hE _).mono ?_; rintro r w2 ⟨rfl, hb2⟩)
  go_ret
  exact ⟨rfl, ((Below.refl _ _).alloc (Nat.le_refl _) _).trans (hb2.mono (by simp))⟩
theorem impl_hasNum (k n : Int) (w : World) (hk : 1 ≤ k ∧ k ≤ 24) :
    Calls Tryd.prog 35 #[.agg #[.int .i64 k, .int .i64 n]] w fun r w' => r = .returned (.bool (hasM k)) ∧ Below w.heap.size w w' := by
  rcases code_cases k hk with (rfl | rfl | rfl | rfl | rfl | rfl | rfl | rfl | rfl | rfl | rfl | rfl | rfl | rfl | rfl | rfl | rfl | rfl | rfl | rfl | rfl | rfl | rfl | rfl)
  · exact hasNum_figureOp 1 n w hk rfl
  · exact hasNum_figureOp 2 n w hk rfl
  · exact hasNum_nameOp 3 n w hk rfl
  · exact hasNum_makeOp 4 n w hk rfl
  · exact hasNum_makeOp 5 n w hk rfl
  · exact hasNum_workOp 6 n w hk rfl
  · exact hasNum_bindOp 7 n w hk rfl
  · exact hasNum_dropOp 8 n w hk rfl
  · exact hasNum_ifOp 9 n w hk rfl
  · exact hasNum_goOp 10 n w hk rfl
  · exact hasNum_workOp 11 n w hk rfl
  · exact hasNum_workOp 12 n w hk rfl
  · exact hasNum_workOp 13 n w hk rfl
  · exact hasNum_workOp 14 n w hk rfl
  · exact hasNum_workOp 15 n w hk rfl
  · exact hasNum_caseOp 16 n w hk rfl
  · exact hasNum_signOp 17 n w hk rfl
  · exact hasNum_workOp 18 n w hk rfl
  · exact hasNum_workOp 19 n w hk rfl
  · exact hasNum_workOp 20 n w hk rfl
  · exact hasNum_workOp 21 n w hk rfl
  · exact hasNum_workOp 22 n w hk rfl
  · exact hasNum_workOp 23 n w hk rfl
  · exact hasNum_giveOp 24 n w hk rfl
end Go.Proofs.YtaagnifagahgfaaDoor

