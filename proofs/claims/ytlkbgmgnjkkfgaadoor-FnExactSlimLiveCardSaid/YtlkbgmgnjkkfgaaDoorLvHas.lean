/-
  hasPlace: whether an op's number is a place.
-/
import Derived.Test.YtlkbgmgnjkkfgaaDoorLvAll2
import Derived.Test.YtlkbgmgnjkkfgaaDoorLvMath
namespace Go.Proofs.YtlkbgmgnjkkfgaaDoor
open Go.RowKit

theorem lv_figureOp_makeOp (k n : Int) (w : World) : (Instr.typeAssert (.iface 79 (.agg #[.int .i64 k, .int .i64 n])) 62 73 true).run Tryd.prog w = .ok (.tuple #[.agg #[.int .i64 0, .int .i64 0], .bool false]) w := by kernel_rfl
theorem lv_figureOp_ifOp (k n : Int) (w : World) : (Instr.typeAssert (.iface 79 (.agg #[.int .i64 k, .int .i64 n])) 62 74 true).run Tryd.prog w = .ok (.tuple #[.agg #[.int .i64 0, .int .i64 0], .bool false]) w := by kernel_rfl
theorem lv_figureOp_caseOp (k n : Int) (w : World) : (Instr.typeAssert (.iface 79 (.agg #[.int .i64 k, .int .i64 n])) 62 75 true).run Tryd.prog w = .ok (.tuple #[.agg #[.int .i64 0, .int .i64 0], .bool false]) w := by kernel_rfl
theorem lv_figureOp_goOp (k n : Int) (w : World) : (Instr.typeAssert (.iface 79 (.agg #[.int .i64 k, .int .i64 n])) 62 76 true).run Tryd.prog w = .ok (.tuple #[.agg #[.int .i64 0, .int .i64 0], .bool false]) w := by kernel_rfl
theorem lv_nameOp_makeOp (k n : Int) (w : World) : (Instr.typeAssert (.iface 80 (.agg #[.int .i64 k, .int .i64 n])) 62 73 true).run Tryd.prog w = .ok (.tuple #[.agg #[.int .i64 0, .int .i64 0], .bool false]) w := by kernel_rfl
theorem lv_nameOp_ifOp (k n : Int) (w : World) : (Instr.typeAssert (.iface 80 (.agg #[.int .i64 k, .int .i64 n])) 62 74 true).run Tryd.prog w = .ok (.tuple #[.agg #[.int .i64 0, .int .i64 0], .bool false]) w := by kernel_rfl
theorem lv_nameOp_caseOp (k n : Int) (w : World) : (Instr.typeAssert (.iface 80 (.agg #[.int .i64 k, .int .i64 n])) 62 75 true).run Tryd.prog w = .ok (.tuple #[.agg #[.int .i64 0, .int .i64 0], .bool false]) w := by kernel_rfl
theorem lv_nameOp_goOp (k n : Int) (w : World) : (Instr.typeAssert (.iface 80 (.agg #[.int .i64 k, .int .i64 n])) 62 76 true).run Tryd.prog w = .ok (.tuple #[.agg #[.int .i64 0, .int .i64 0], .bool false]) w := by kernel_rfl
theorem lv_makeOp_makeOp (k n : Int) (w : World) : (Instr.typeAssert (.iface 73 (.agg #[.int .i64 k, .int .i64 n])) 62 73 true).run Tryd.prog w = .ok (.tuple #[.agg #[.int .i64 k, .int .i64 n], .bool true]) w := by kernel_rfl
theorem lv_makeOp_ifOp (k n : Int) (w : World) : (Instr.typeAssert (.iface 73 (.agg #[.int .i64 k, .int .i64 n])) 62 74 true).run Tryd.prog w = .ok (.tuple #[.agg #[.int .i64 0, .int .i64 0], .bool false]) w := by kernel_rfl
theorem lv_makeOp_caseOp (k n : Int) (w : World) : (Instr.typeAssert (.iface 73 (.agg #[.int .i64 k, .int .i64 n])) 62 75 true).run Tryd.prog w = .ok (.tuple #[.agg #[.int .i64 0, .int .i64 0], .bool false]) w := by kernel_rfl
theorem lv_makeOp_goOp (k n : Int) (w : World) : (Instr.typeAssert (.iface 73 (.agg #[.int .i64 k, .int .i64 n])) 62 76 true).run Tryd.prog w = .ok (.tuple #[.agg #[.int .i64 0, .int .i64 0], .bool false]) w := by kernel_rfl
theorem lv_bindOp_makeOp (k n : Int) (w : World) : (Instr.typeAssert (.iface 81 (.agg #[.int .i64 k, .int .i64 n])) 62 73 true).run Tryd.prog w = .ok (.tuple #[.agg #[.int .i64 0, .int .i64 0], .bool false]) w := by kernel_rfl
theorem lv_bindOp_ifOp (k n : Int) (w : World) : (Instr.typeAssert (.iface 81 (.agg #[.int .i64 k, .int .i64 n])) 62 74 true).run Tryd.prog w = .ok (.tuple #[.agg #[.int .i64 0, .int .i64 0], .bool false]) w := by kernel_rfl
theorem lv_bindOp_caseOp (k n : Int) (w : World) : (Instr.typeAssert (.iface 81 (.agg #[.int .i64 k, .int .i64 n])) 62 75 true).run Tryd.prog w = .ok (.tuple #[.agg #[.int .i64 0, .int .i64 0], .bool false]) w := by kernel_rfl
theorem lv_bindOp_goOp (k n : Int) (w : World) : (Instr.typeAssert (.iface 81 (.agg #[.int .i64 k, .int .i64 n])) 62 76 true).run Tryd.prog w = .ok (.tuple #[.agg #[.int .i64 0, .int .i64 0], .bool false]) w := by kernel_rfl
theorem lv_dropOp_makeOp (k n : Int) (w : World) : (Instr.typeAssert (.iface 82 (.agg #[.int .i64 k, .int .i64 n])) 62 73 true).run Tryd.prog w = .ok (.tuple #[.agg #[.int .i64 0, .int .i64 0], .bool false]) w := by kernel_rfl
theorem lv_dropOp_ifOp (k n : Int) (w : World) : (Instr.typeAssert (.iface 82 (.agg #[.int .i64 k, .int .i64 n])) 62 74 true).run Tryd.prog w = .ok (.tuple #[.agg #[.int .i64 0, .int .i64 0], .bool false]) w := by kernel_rfl
theorem lv_dropOp_caseOp (k n : Int) (w : World) : (Instr.typeAssert (.iface 82 (.agg #[.int .i64 k, .int .i64 n])) 62 75 true).run Tryd.prog w = .ok (.tuple #[.agg #[.int .i64 0, .int .i64 0], .bool false]) w := by kernel_rfl
theorem lv_dropOp_goOp (k n : Int) (w : World) : (Instr.typeAssert (.iface 82 (.agg #[.int .i64 k, .int .i64 n])) 62 76 true).run Tryd.prog w = .ok (.tuple #[.agg #[.int .i64 0, .int .i64 0], .bool false]) w := by kernel_rfl
theorem lv_ifOp_makeOp (k n : Int) (w : World) : (Instr.typeAssert (.iface 74 (.agg #[.int .i64 k, .int .i64 n])) 62 73 true).run Tryd.prog w = .ok (.tuple #[.agg #[.int .i64 0, .int .i64 0], .bool false]) w := by kernel_rfl
theorem lv_ifOp_ifOp (k n : Int) (w : World) : (Instr.typeAssert (.iface 74 (.agg #[.int .i64 k, .int .i64 n])) 62 74 true).run Tryd.prog w = .ok (.tuple #[.agg #[.int .i64 k, .int .i64 n], .bool true]) w := by kernel_rfl
theorem lv_ifOp_caseOp (k n : Int) (w : World) : (Instr.typeAssert (.iface 74 (.agg #[.int .i64 k, .int .i64 n])) 62 75 true).run Tryd.prog w = .ok (.tuple #[.agg #[.int .i64 0, .int .i64 0], .bool false]) w := by kernel_rfl
theorem lv_ifOp_goOp (k n : Int) (w : World) : (Instr.typeAssert (.iface 74 (.agg #[.int .i64 k, .int .i64 n])) 62 76 true).run Tryd.prog w = .ok (.tuple #[.agg #[.int .i64 0, .int .i64 0], .bool false]) w := by kernel_rfl
theorem lv_caseOp_makeOp (k n : Int) (w : World) : (Instr.typeAssert (.iface 75 (.agg #[.int .i64 k, .int .i64 n])) 62 73 true).run Tryd.prog w = .ok (.tuple #[.agg #[.int .i64 0, .int .i64 0], .bool false]) w := by kernel_rfl
theorem lv_caseOp_ifOp (k n : Int) (w : World) : (Instr.typeAssert (.iface 75 (.agg #[.int .i64 k, .int .i64 n])) 62 74 true).run Tryd.prog w = .ok (.tuple #[.agg #[.int .i64 0, .int .i64 0], .bool false]) w := by kernel_rfl
theorem lv_caseOp_caseOp (k n : Int) (w : World) : (Instr.typeAssert (.iface 75 (.agg #[.int .i64 k, .int .i64 n])) 62 75 true).run Tryd.prog w = .ok (.tuple #[.agg #[.int .i64 k, .int .i64 n], .bool true]) w := by kernel_rfl
theorem lv_caseOp_goOp (k n : Int) (w : World) : (Instr.typeAssert (.iface 75 (.agg #[.int .i64 k, .int .i64 n])) 62 76 true).run Tryd.prog w = .ok (.tuple #[.agg #[.int .i64 0, .int .i64 0], .bool false]) w := by kernel_rfl
theorem lv_goOp_makeOp (k n : Int) (w : World) : (Instr.typeAssert (.iface 76 (.agg #[.int .i64 k, .int .i64 n])) 62 73 true).run Tryd.prog w = .ok (.tuple #[.agg #[.int .i64 0, .int .i64 0], .bool false]) w := by kernel_rfl
theorem lv_goOp_ifOp (k n : Int) (w : World) : (Instr.typeAssert (.iface 76 (.agg #[.int .i64 k, .int .i64 n])) 62 74 true).run Tryd.prog w = .ok (.tuple #[.agg #[.int .i64 0, .int .i64 0], .bool false]) w := by kernel_rfl
theorem lv_goOp_caseOp (k n : Int) (w : World) : (Instr.typeAssert (.iface 76 (.agg #[.int .i64 k, .int .i64 n])) 62 75 true).run Tryd.prog w = .ok (.tuple #[.agg #[.int .i64 0, .int .i64 0], .bool false]) w := by kernel_rfl
theorem lv_goOp_goOp (k n : Int) (w : World) : (Instr.typeAssert (.iface 76 (.agg #[.int .i64 k, .int .i64 n])) 62 76 true).run Tryd.prog w = .ok (.tuple #[.agg #[.int .i64 k, .int .i64 n], .bool true]) w := by kernel_rfl
theorem lv_signOp_makeOp (k n : Int) (w : World) : (Instr.typeAssert (.iface 83 (.agg #[.int .i64 k, .int .i64 n])) 62 73 true).run Tryd.prog w = .ok (.tuple #[.agg #[.int .i64 0, .int .i64 0], .bool false]) w := by kernel_rfl
theorem lv_signOp_ifOp (k n : Int) (w : World) : (Instr.typeAssert (.iface 83 (.agg #[.int .i64 k, .int .i64 n])) 62 74 true).run Tryd.prog w = .ok (.tuple #[.agg #[.int .i64 0, .int .i64 0], .bool false]) w := by kernel_rfl
theorem lv_signOp_caseOp (k n : Int) (w : World) : (Instr.typeAssert (.iface 83 (.agg #[.int .i64 k, .int .i64 n])) 62 75 true).run Tryd.prog w = .ok (.tuple #[.agg #[.int .i64 0, .int .i64 0], .bool false]) w := by kernel_rfl
theorem lv_signOp_goOp (k n : Int) (w : World) : (Instr.typeAssert (.iface 83 (.agg #[.int .i64 k, .int .i64 n])) 62 76 true).run Tryd.prog w = .ok (.tuple #[.agg #[.int .i64 0, .int .i64 0], .bool false]) w := by kernel_rfl
theorem lv_giveOp_makeOp (k n : Int) (w : World) : (Instr.typeAssert (.iface 84 (.agg #[.int .i64 k, .int .i64 n])) 62 73 true).run Tryd.prog w = .ok (.tuple #[.agg #[.int .i64 0, .int .i64 0], .bool false]) w := by kernel_rfl
theorem lv_giveOp_ifOp (k n : Int) (w : World) : (Instr.typeAssert (.iface 84 (.agg #[.int .i64 k, .int .i64 n])) 62 74 true).run Tryd.prog w = .ok (.tuple #[.agg #[.int .i64 0, .int .i64 0], .bool false]) w := by kernel_rfl
theorem lv_giveOp_caseOp (k n : Int) (w : World) : (Instr.typeAssert (.iface 84 (.agg #[.int .i64 k, .int .i64 n])) 62 75 true).run Tryd.prog w = .ok (.tuple #[.agg #[.int .i64 0, .int .i64 0], .bool false]) w := by kernel_rfl
theorem lv_giveOp_goOp (k n : Int) (w : World) : (Instr.typeAssert (.iface 84 (.agg #[.int .i64 k, .int .i64 n])) 62 76 true).run Tryd.prog w = .ok (.tuple #[.agg #[.int .i64 0, .int .i64 0], .bool false]) w := by kernel_rfl
theorem lv_workOp_makeOp (k n : Int) (w : World) : (Instr.typeAssert (.iface 85 (.agg #[.int .i64 k, .int .i64 n])) 62 73 true).run Tryd.prog w = .ok (.tuple #[.agg #[.int .i64 0, .int .i64 0], .bool false]) w := by kernel_rfl
theorem lv_workOp_ifOp (k n : Int) (w : World) : (Instr.typeAssert (.iface 85 (.agg #[.int .i64 k, .int .i64 n])) 62 74 true).run Tryd.prog w = .ok (.tuple #[.agg #[.int .i64 0, .int .i64 0], .bool false]) w := by kernel_rfl
theorem lv_workOp_caseOp (k n : Int) (w : World) : (Instr.typeAssert (.iface 85 (.agg #[.int .i64 k, .int .i64 n])) 62 75 true).run Tryd.prog w = .ok (.tuple #[.agg #[.int .i64 0, .int .i64 0], .bool false]) w := by kernel_rfl
theorem lv_workOp_goOp (k n : Int) (w : World) : (Instr.typeAssert (.iface 85 (.agg #[.int .i64 k, .int .i64 n])) 62 76 true).run Tryd.prog w = .ok (.tuple #[.agg #[.int .i64 0, .int .i64 0], .bool false]) w := by kernel_rfl

set_option maxHeartbeats 8000000 in
theorem impl_hasPlace (op : Wd) (hk : 1 ≤ op.tag ∧ op.tag ≤ 24) (w : World) :
    Calls Tryd.prog 27 #[.agg #[.int .i64 op.tag, .int .i64 op.num]] w fun r w' => r = .returned (.bool (hasP op)) ∧ Below w.heap.size w w' := by
  obtain ⟨k, n⟩ := op
  dsimp only at hk ⊢
  have hb1 : Below w.heap.size w (w.alloc (.cells #[.int .i64 k, .int .i64 n] 37)) := (Below.refl _ _).alloc (Nat.le_refl _) _
  have hD := deed_kind k n (w.alloc (.cells #[.int .i64 k, .int .i64 n] 37)) hk
  rcases code_cases k hk with (rfl | rfl | rfl | rfl | rfl | rfl | rfl | rfl | rfl | rfl | rfl | rfl | rfl | rfl | rfl | rfl | rfl | rfl | rfl | rfl | rfl | rfl | rfl | rfl)
  · have hD2 : Calls Tryd.prog 30 #[.agg #[.int .i64 1, .int .i64 n]] (w.alloc (.cells #[.int .i64 1, .int .i64 n] 37)) fun r w' => r = .returned (.iface 79 (.agg #[.int .i64 1, .int .i64 n])) ∧ Below (w.alloc (.cells #[.int .i64 1, .int .i64 n] 37)).heap.size (w.alloc (.cells #[.int .i64 1, .int .i64 n] 37)) w' := hD
    have e1 := fun w => lv_figureOp_makeOp 1 n w
    have e2 := fun w => lv_figureOp_ifOp 1 n w
    have e3 := fun w => lv_figureOp_caseOp 1 n w
    have e4 := fun w => lv_figureOp_goOp 1 n w
    clear hD
    go_enter Tryd.func27, Tryd.ntmps27
    go_wp2_with (go_at_call 30; refine hD2.mono ?_; rintro r w2 ⟨rfl, hb2⟩)
    go_ret
    exact ⟨rfl, hb1.trans (hb2.mono (by simp))⟩
  · have hD2 : Calls Tryd.prog 30 #[.agg #[.int .i64 2, .int .i64 n]] (w.alloc (.cells #[.int .i64 2, .int .i64 n] 37)) fun r w' => r = .returned (.iface 79 (.agg #[.int .i64 2, .int .i64 n])) ∧ Below (w.alloc (.cells #[.int .i64 2, .int .i64 n] 37)).heap.size (w.alloc (.cells #[.int .i64 2, .int .i64 n] 37)) w' := hD
    have e1 := fun w => lv_figureOp_makeOp 2 n w
    have e2 := fun w => lv_figureOp_ifOp 2 n w
    have e3 := fun w => lv_figureOp_caseOp 2 n w
    have e4 := fun w => lv_figureOp_goOp 2 n w
    clear hD
    go_enter Tryd.func27, Tryd.ntmps27
    go_wp2_with (go_at_call 30; refine hD2.mono ?_; rintro r w2 ⟨rfl, hb2⟩)
    go_ret
    exact ⟨rfl, hb1.trans (hb2.mono (by simp))⟩
  · have hD2 : Calls Tryd.prog 30 #[.agg #[.int .i64 3, .int .i64 n]] (w.alloc (.cells #[.int .i64 3, .int .i64 n] 37)) fun r w' => r = .returned (.iface 80 (.agg #[.int .i64 3, .int .i64 n])) ∧ Below (w.alloc (.cells #[.int .i64 3, .int .i64 n] 37)).heap.size (w.alloc (.cells #[.int .i64 3, .int .i64 n] 37)) w' := hD
    have e1 := fun w => lv_nameOp_makeOp 3 n w
    have e2 := fun w => lv_nameOp_ifOp 3 n w
    have e3 := fun w => lv_nameOp_caseOp 3 n w
    have e4 := fun w => lv_nameOp_goOp 3 n w
    clear hD
    go_enter Tryd.func27, Tryd.ntmps27
    go_wp2_with (go_at_call 30; refine hD2.mono ?_; rintro r w2 ⟨rfl, hb2⟩)
    go_ret
    exact ⟨rfl, hb1.trans (hb2.mono (by simp))⟩
  · have hD2 : Calls Tryd.prog 30 #[.agg #[.int .i64 4, .int .i64 n]] (w.alloc (.cells #[.int .i64 4, .int .i64 n] 37)) fun r w' => r = .returned (.iface 73 (.agg #[.int .i64 4, .int .i64 n])) ∧ Below (w.alloc (.cells #[.int .i64 4, .int .i64 n] 37)).heap.size (w.alloc (.cells #[.int .i64 4, .int .i64 n] 37)) w' := hD
    have e1 := fun w => lv_makeOp_makeOp 4 n w
    have e2 := fun w => lv_makeOp_ifOp 4 n w
    have e3 := fun w => lv_makeOp_caseOp 4 n w
    have e4 := fun w => lv_makeOp_goOp 4 n w
    clear hD
    go_enter Tryd.func27, Tryd.ntmps27
    go_wp2_with (go_at_call 30; refine hD2.mono ?_; rintro r w2 ⟨rfl, hb2⟩)
    go_ret
    exact ⟨rfl, hb1.trans (hb2.mono (by simp))⟩
  · have hD2 : Calls Tryd.prog 30 #[.agg #[.int .i64 5, .int .i64 n]] (w.alloc (.cells #[.int .i64 5, .int .i64 n] 37)) fun r w' => r = .returned (.iface 73 (.agg #[.int .i64 5, .int .i64 n])) ∧ Below (w.alloc (.cells #[.int .i64 5, .int .i64 n] 37)).heap.size (w.alloc (.cells #[.int .i64 5, .int .i64 n] 37)) w' := hD
    have e1 := fun w => lv_makeOp_makeOp 5 n w
    have e2 := fun w => lv_makeOp_ifOp 5 n w
    have e3 := fun w => lv_makeOp_caseOp 5 n w
    have e4 := fun w => lv_makeOp_goOp 5 n w
    clear hD
    go_enter Tryd.func27, Tryd.ntmps27
    go_wp2_with (go_at_call 30; refine hD2.mono ?_; rintro r w2 ⟨rfl, hb2⟩)
    go_ret
    exact ⟨rfl, hb1.trans (hb2.mono (by simp))⟩
  · have hD2 : Calls Tryd.prog 30 #[.agg #[.int .i64 6, .int .i64 n]] (w.alloc (.cells #[.int .i64 6, .int .i64 n] 37)) fun r w' => r = .returned (.iface 85 (.agg #[.int .i64 6, .int .i64 n])) ∧ Below (w.alloc (.cells #[.int .i64 6, .int .i64 n] 37)).heap.size (w.alloc (.cells #[.int .i64 6, .int .i64 n] 37)) w' := hD
    have e1 := fun w => lv_workOp_makeOp 6 n w
    have e2 := fun w => lv_workOp_ifOp 6 n w
    have e3 := fun w => lv_workOp_caseOp 6 n w
    have e4 := fun w => lv_workOp_goOp 6 n w
    clear hD
    go_enter Tryd.func27, Tryd.ntmps27
    go_wp2_with (go_at_call 30; refine hD2.mono ?_; rintro r w2 ⟨rfl, hb2⟩)
    go_ret
    exact ⟨rfl, hb1.trans (hb2.mono (by simp))⟩
  · have hD2 : Calls Tryd.prog 30 #[.agg #[.int .i64 7, .int .i64 n]] (w.alloc (.cells #[.int .i64 7, .int .i64 n] 37)) fun r w' => r = .returned (.iface 81 (.agg #[.int .i64 7, .int .i64 n])) ∧ Below (w.alloc (.cells #[.int .i64 7, .int .i64 n] 37)).heap.size (w.alloc (.cells #[.int .i64 7, .int .i64 n] 37)) w' := hD
    have e1 := fun w => lv_bindOp_makeOp 7 n w
    have e2 := fun w => lv_bindOp_ifOp 7 n w
    have e3 := fun w => lv_bindOp_caseOp 7 n w
    have e4 := fun w => lv_bindOp_goOp 7 n w
    clear hD
    go_enter Tryd.func27, Tryd.ntmps27
    go_wp2_with (go_at_call 30; refine hD2.mono ?_; rintro r w2 ⟨rfl, hb2⟩)
    go_ret
    exact ⟨rfl, hb1.trans (hb2.mono (by simp))⟩
  · have hD2 : Calls Tryd.prog 30 #[.agg #[.int .i64 8, .int .i64 n]] (w.alloc (.cells #[.int .i64 8, .int .i64 n] 37)) fun r w' => r = .returned (.iface 82 (.agg #[.int .i64 8, .int .i64 n])) ∧ Below (w.alloc (.cells #[.int .i64 8, .int .i64 n] 37)).heap.size (w.alloc (.cells #[.int .i64 8, .int .i64 n] 37)) w' := hD
    have e1 := fun w => lv_dropOp_makeOp 8 n w
    have e2 := fun w => lv_dropOp_ifOp 8 n w
    have e3 := fun w => lv_dropOp_caseOp 8 n w
    have e4 := fun w => lv_dropOp_goOp 8 n w
    clear hD
    go_enter Tryd.func27, Tryd.ntmps27
    go_wp2_with (go_at_call 30; refine hD2.mono ?_; rintro r w2 ⟨rfl, hb2⟩)
    go_ret
    exact ⟨rfl, hb1.trans (hb2.mono (by simp))⟩
  · have hD2 : Calls Tryd.prog 30 #[.agg #[.int .i64 9, .int .i64 n]] (w.alloc (.cells #[.int .i64 9, .int .i64 n] 37)) fun r w' => r = .returned (.iface 74 (.agg #[.int .i64 9, .int .i64 n])) ∧ Below (w.alloc (.cells #[.int .i64 9, .int .i64 n] 37)).heap.size (w.alloc (.cells #[.int .i64 9, .int .i64 n] 37)) w' := hD
    have e1 := fun w => lv_ifOp_makeOp 9 n w
    have e2 := fun w => lv_ifOp_ifOp 9 n w
    have e3 := fun w => lv_ifOp_caseOp 9 n w
    have e4 := fun w => lv_ifOp_goOp 9 n w
    clear hD
    go_enter Tryd.func27, Tryd.ntmps27
    go_wp2_with (go_at_call 30; refine hD2.mono ?_; rintro r w2 ⟨rfl, hb2⟩)
    go_ret
    exact ⟨rfl, hb1.trans (hb2.mono (by simp))⟩
  · have hD2 : Calls Tryd.prog 30 #[.agg #[.int .i64 10, .int .i64 n]] (w.alloc (.cells #[.int .i64 10, .int .i64 n] 37)) fun r w' => r = .returned (.iface 76 (.agg #[.int .i64 10, .int .i64 n])) ∧ Below (w.alloc (.cells #[.int .i64 10, .int .i64 n] 37)).heap.size (w.alloc (.cells #[.int .i64 10, .int .i64 n] 37)) w' := hD
    have e1 := fun w => lv_goOp_makeOp 10 n w
    have e2 := fun w => lv_goOp_ifOp 10 n w
    have e3 := fun w => lv_goOp_caseOp 10 n w
    have e4 := fun w => lv_goOp_goOp 10 n w
    clear hD
    go_enter Tryd.func27, Tryd.ntmps27
    go_wp2_with (go_at_call 30; refine hD2.mono ?_; rintro r w2 ⟨rfl, hb2⟩)
    go_ret
    exact ⟨rfl, hb1.trans (hb2.mono (by simp))⟩
  · have hD2 : Calls Tryd.prog 30 #[.agg #[.int .i64 11, .int .i64 n]] (w.alloc (.cells #[.int .i64 11, .int .i64 n] 37)) fun r w' => r = .returned (.iface 85 (.agg #[.int .i64 11, .int .i64 n])) ∧ Below (w.alloc (.cells #[.int .i64 11, .int .i64 n] 37)).heap.size (w.alloc (.cells #[.int .i64 11, .int .i64 n] 37)) w' := hD
    have e1 := fun w => lv_workOp_makeOp 11 n w
    have e2 := fun w => lv_workOp_ifOp 11 n w
    have e3 := fun w => lv_workOp_caseOp 11 n w
    have e4 := fun w => lv_workOp_goOp 11 n w
    clear hD
    go_enter Tryd.func27, Tryd.ntmps27
    go_wp2_with (go_at_call 30; refine hD2.mono ?_; rintro r w2 ⟨rfl, hb2⟩)
    go_ret
    exact ⟨rfl, hb1.trans (hb2.mono (by simp))⟩
  · have hD2 : Calls Tryd.prog 30 #[.agg #[.int .i64 12, .int .i64 n]] (w.alloc (.cells #[.int .i64 12, .int .i64 n] 37)) fun r w' => r = .returned (.iface 85 (.agg #[.int .i64 12, .int .i64 n])) ∧ Below (w.alloc (.cells #[.int .i64 12, .int .i64 n] 37)).heap.size (w.alloc (.cells #[.int .i64 12, .int .i64 n] 37)) w' := hD
    have e1 := fun w => lv_workOp_makeOp 12 n w
    have e2 := fun w => lv_workOp_ifOp 12 n w
    have e3 := fun w => lv_workOp_caseOp 12 n w
    have e4 := fun w => lv_workOp_goOp 12 n w
    clear hD
    go_enter Tryd.func27, Tryd.ntmps27
    go_wp2_with (go_at_call 30; refine hD2.mono ?_; rintro r w2 ⟨rfl, hb2⟩)
    go_ret
    exact ⟨rfl, hb1.trans (hb2.mono (by simp))⟩
  · have hD2 : Calls Tryd.prog 30 #[.agg #[.int .i64 13, .int .i64 n]] (w.alloc (.cells #[.int .i64 13, .int .i64 n] 37)) fun r w' => r = .returned (.iface 85 (.agg #[.int .i64 13, .int .i64 n])) ∧ Below (w.alloc (.cells #[.int .i64 13, .int .i64 n] 37)).heap.size (w.alloc (.cells #[.int .i64 13, .int .i64 n] 37)) w' := hD
    have e1 := fun w => lv_workOp_makeOp 13 n w
    have e2 := fun w => lv_workOp_ifOp 13 n w
    have e3 := fun w => lv_workOp_caseOp 13 n w
    have e4 := fun w => lv_workOp_goOp 13 n w
    clear hD
    go_enter Tryd.func27, Tryd.ntmps27
    go_wp2_with (go_at_call 30; refine hD2.mono ?_; rintro r w2 ⟨rfl, hb2⟩)
    go_ret
    exact ⟨rfl, hb1.trans (hb2.mono (by simp))⟩
  · have hD2 : Calls Tryd.prog 30 #[.agg #[.int .i64 14, .int .i64 n]] (w.alloc (.cells #[.int .i64 14, .int .i64 n] 37)) fun r w' => r = .returned (.iface 85 (.agg #[.int .i64 14, .int .i64 n])) ∧ Below (w.alloc (.cells #[.int .i64 14, .int .i64 n] 37)).heap.size (w.alloc (.cells #[.int .i64 14, .int .i64 n] 37)) w' := hD
    have e1 := fun w => lv_workOp_makeOp 14 n w
    have e2 := fun w => lv_workOp_ifOp 14 n w
    have e3 := fun w => lv_workOp_caseOp 14 n w
    have e4 := fun w => lv_workOp_goOp 14 n w
    clear hD
    go_enter Tryd.func27, Tryd.ntmps27
    go_wp2_with (go_at_call 30; refine hD2.mono ?_; rintro r w2 ⟨rfl, hb2⟩)
    go_ret
    exact ⟨rfl, hb1.trans (hb2.mono (by simp))⟩
  · have hD2 : Calls Tryd.prog 30 #[.agg #[.int .i64 15, .int .i64 n]] (w.alloc (.cells #[.int .i64 15, .int .i64 n] 37)) fun r w' => r = .returned (.iface 85 (.agg #[.int .i64 15, .int .i64 n])) ∧ Below (w.alloc (.cells #[.int .i64 15, .int .i64 n] 37)).heap.size (w.alloc (.cells #[.int .i64 15, .int .i64 n] 37)) w' := hD
    have e1 := fun w => lv_workOp_makeOp 15 n w
    have e2 := fun w => lv_workOp_ifOp 15 n w
    have e3 := fun w => lv_workOp_caseOp 15 n w
    have e4 := fun w => lv_workOp_goOp 15 n w
    clear hD
    go_enter Tryd.func27, Tryd.ntmps27
    go_wp2_with (go_at_call 30; refine hD2.mono ?_; rintro r w2 ⟨rfl, hb2⟩)
    go_ret
    exact ⟨rfl, hb1.trans (hb2.mono (by simp))⟩
  · have hD2 : Calls Tryd.prog 30 #[.agg #[.int .i64 16, .int .i64 n]] (w.alloc (.cells #[.int .i64 16, .int .i64 n] 37)) fun r w' => r = .returned (.iface 75 (.agg #[.int .i64 16, .int .i64 n])) ∧ Below (w.alloc (.cells #[.int .i64 16, .int .i64 n] 37)).heap.size (w.alloc (.cells #[.int .i64 16, .int .i64 n] 37)) w' := hD
    have e1 := fun w => lv_caseOp_makeOp 16 n w
    have e2 := fun w => lv_caseOp_ifOp 16 n w
    have e3 := fun w => lv_caseOp_caseOp 16 n w
    have e4 := fun w => lv_caseOp_goOp 16 n w
    clear hD
    go_enter Tryd.func27, Tryd.ntmps27
    go_wp2_with (go_at_call 30; refine hD2.mono ?_; rintro r w2 ⟨rfl, hb2⟩)
    go_ret
    exact ⟨rfl, hb1.trans (hb2.mono (by simp))⟩
  · have hD2 : Calls Tryd.prog 30 #[.agg #[.int .i64 17, .int .i64 n]] (w.alloc (.cells #[.int .i64 17, .int .i64 n] 37)) fun r w' => r = .returned (.iface 83 (.agg #[.int .i64 17, .int .i64 n])) ∧ Below (w.alloc (.cells #[.int .i64 17, .int .i64 n] 37)).heap.size (w.alloc (.cells #[.int .i64 17, .int .i64 n] 37)) w' := hD
    have e1 := fun w => lv_signOp_makeOp 17 n w
    have e2 := fun w => lv_signOp_ifOp 17 n w
    have e3 := fun w => lv_signOp_caseOp 17 n w
    have e4 := fun w => lv_signOp_goOp 17 n w
    clear hD
    go_enter Tryd.func27, Tryd.ntmps27
    go_wp2_with (go_at_call 30; refine hD2.mono ?_; rintro r w2 ⟨rfl, hb2⟩)
    go_ret
    exact ⟨rfl, hb1.trans (hb2.mono (by simp))⟩
  · have hD2 : Calls Tryd.prog 30 #[.agg #[.int .i64 18, .int .i64 n]] (w.alloc (.cells #[.int .i64 18, .int .i64 n] 37)) fun r w' => r = .returned (.iface 85 (.agg #[.int .i64 18, .int .i64 n])) ∧ Below (w.alloc (.cells #[.int .i64 18, .int .i64 n] 37)).heap.size (w.alloc (.cells #[.int .i64 18, .int .i64 n] 37)) w' := hD
    have e1 := fun w => lv_workOp_makeOp 18 n w
    have e2 := fun w => lv_workOp_ifOp 18 n w
    have e3 := fun w => lv_workOp_caseOp 18 n w
    have e4 := fun w => lv_workOp_goOp 18 n w
    clear hD
    go_enter Tryd.func27, Tryd.ntmps27
    go_wp2_with (go_at_call 30; refine hD2.mono ?_; rintro r w2 ⟨rfl, hb2⟩)
    go_ret
    exact ⟨rfl, hb1.trans (hb2.mono (by simp))⟩
  · have hD2 : Calls Tryd.prog 30 #[.agg #[.int .i64 19, .int .i64 n]] (w.alloc (.cells #[.int .i64 19, .int .i64 n] 37)) fun r w' => r = .returned (.iface 85 (.agg #[.int .i64 19, .int .i64 n])) ∧ Below (w.alloc (.cells #[.int .i64 19, .int .i64 n] 37)).heap.size (w.alloc (.cells #[.int .i64 19, .int .i64 n] 37)) w' := hD
    have e1 := fun w => lv_workOp_makeOp 19 n w
    have e2 := fun w => lv_workOp_ifOp 19 n w
    have e3 := fun w => lv_workOp_caseOp 19 n w
    have e4 := fun w => lv_workOp_goOp 19 n w
    clear hD
    go_enter Tryd.func27, Tryd.ntmps27
    go_wp2_with (go_at_call 30; refine hD2.mono ?_; rintro r w2 ⟨rfl, hb2⟩)
    go_ret
    exact ⟨rfl, hb1.trans (hb2.mono (by simp))⟩
  · have hD2 : Calls Tryd.prog 30 #[.agg #[.int .i64 20, .int .i64 n]] (w.alloc (.cells #[.int .i64 20, .int .i64 n] 37)) fun r w' => r = .returned (.iface 85 (.agg #[.int .i64 20, .int .i64 n])) ∧ Below (w.alloc (.cells #[.int .i64 20, .int .i64 n] 37)).heap.size (w.alloc (.cells #[.int .i64 20, .int .i64 n] 37)) w' := hD
    have e1 := fun w => lv_workOp_makeOp 20 n w
    have e2 := fun w => lv_workOp_ifOp 20 n w
    have e3 := fun w => lv_workOp_caseOp 20 n w
    have e4 := fun w => lv_workOp_goOp 20 n w
    clear hD
    go_enter Tryd.func27, Tryd.ntmps27
    go_wp2_with (go_at_call 30; refine hD2.mono ?_; rintro r w2 ⟨rfl, hb2⟩)
    go_ret
    exact ⟨rfl, hb1.trans (hb2.mono (by simp))⟩
  · have hD2 : Calls Tryd.prog 30 #[.agg #[.int .i64 21, .int .i64 n]] (w.alloc (.cells #[.int .i64 21, .int .i64 n] 37)) fun r w' => r = .returned (.iface 85 (.agg #[.int .i64 21, .int .i64 n])) ∧ Below (w.alloc (.cells #[.int .i64 21, .int .i64 n] 37)).heap.size (w.alloc (.cells #[.int .i64 21, .int .i64 n] 37)) w' := hD
    have e1 := fun w => lv_workOp_makeOp 21 n w
    have e2 := fun w => lv_workOp_ifOp 21 n w
    have e3 := fun w => lv_workOp_caseOp 21 n w
    have e4 := fun w => lv_workOp_goOp 21 n w
    clear hD
    go_enter Tryd.func27, Tryd.ntmps27
    go_wp2_with (go_at_call 30; refine hD2.mono ?_; rintro r w2 ⟨rfl, hb2⟩)
    go_ret
    exact ⟨rfl, hb1.trans (hb2.mono (by simp))⟩
  · have hD2 : Calls Tryd.prog 30 #[.agg #[.int .i64 22, .int .i64 n]] (w.alloc (.cells #[.int .i64 22, .int .i64 n] 37)) fun r w' => r = .returned (.iface 85 (.agg #[.int .i64 22, .int .i64 n])) ∧ Below (w.alloc (.cells #[.int .i64 22, .int .i64 n] 37)).heap.size (w.alloc (.cells #[.int .i64 22, .int .i64 n] 37)) w' := hD
    have e1 := fun w => lv_workOp_makeOp 22 n w
    have e2 := fun w => lv_workOp_ifOp 22 n w
    have e3 := fun w => lv_workOp_caseOp 22 n w
    have e4 := fun w => lv_workOp_goOp 22 n w
    clear hD
    go_enter Tryd.func27, Tryd.ntmps27
    go_wp2_with (go_at_call 30; refine hD2.mono ?_; rintro r w2 ⟨rfl, hb2⟩)
    go_ret
    exact ⟨rfl, hb1.trans (hb2.mono (by simp))⟩
  · have hD2 : Calls Tryd.prog 30 #[.agg #[.int .i64 23, .int .i64 n]] (w.alloc (.cells #[.int .i64 23, .int .i64 n] 37)) fun r w' => r = .returned (.iface 85 (.agg #[.int .i64 23, .int .i64 n])) ∧ Below (w.alloc (.cells #[.int .i64 23, .int .i64 n] 37)).heap.size (w.alloc (.cells #[.int .i64 23, .int .i64 n] 37)) w' := hD
    have e1 := fun w => lv_workOp_makeOp 23 n w
    have e2 := fun w => lv_workOp_ifOp 23 n w
    have e3 := fun w => lv_workOp_caseOp 23 n w
    have e4 := fun w => lv_workOp_goOp 23 n w
    clear hD
    go_enter Tryd.func27, Tryd.ntmps27
    go_wp2_with (go_at_call 30; refine hD2.mono ?_; rintro r w2 ⟨rfl, hb2⟩)
    go_ret
    exact ⟨rfl, hb1.trans (hb2.mono (by simp))⟩
  · have hD2 : Calls Tryd.prog 30 #[.agg #[.int .i64 24, .int .i64 n]] (w.alloc (.cells #[.int .i64 24, .int .i64 n] 37)) fun r w' => r = .returned (.iface 84 (.agg #[.int .i64 24, .int .i64 n])) ∧ Below (w.alloc (.cells #[.int .i64 24, .int .i64 n] 37)).heap.size (w.alloc (.cells #[.int .i64 24, .int .i64 n] 37)) w' := hD
    have e1 := fun w => lv_giveOp_makeOp 24 n w
    have e2 := fun w => lv_giveOp_ifOp 24 n w
    have e3 := fun w => lv_giveOp_caseOp 24 n w
    have e4 := fun w => lv_giveOp_goOp 24 n w
    clear hD
    go_enter Tryd.func27, Tryd.ntmps27
    go_wp2_with (go_at_call 30; refine hD2.mono ?_; rintro r w2 ⟨rfl, hb2⟩)
    go_ret
    exact ⟨rfl, hb1.trans (hb2.mono (by simp))⟩
end Go.Proofs.YtlkbgmgnjkkfgaaDoor

