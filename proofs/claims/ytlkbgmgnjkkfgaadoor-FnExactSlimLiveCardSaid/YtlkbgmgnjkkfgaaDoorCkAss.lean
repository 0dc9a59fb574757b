/-
  What a deed is, asked of its type.
-/
import Derived.Test.YtlkbgmgnjkkfgaaDoorLvAll6
namespace Go.Proofs.YtlkbgmgnjkkfgaaDoor
open Go.RowKit

theorem as_figureOp_nameOp (k n : Int) (w : World) : (Instr.typeAssert (.iface 79 (.agg #[.int .i64 k, .int .i64 n])) 62 80 true).run Tryd.prog w = .ok (.tuple #[.agg #[.int .i64 0, .int .i64 0], .bool false]) w := by kernel_rfl
theorem as_figureOp_makeOp (k n : Int) (w : World) : (Instr.typeAssert (.iface 79 (.agg #[.int .i64 k, .int .i64 n])) 62 73 true).run Tryd.prog w = .ok (.tuple #[.agg #[.int .i64 0, .int .i64 0], .bool false]) w := by kernel_rfl
theorem as_figureOp_bindOp (k n : Int) (w : World) : (Instr.typeAssert (.iface 79 (.agg #[.int .i64 k, .int .i64 n])) 62 81 true).run Tryd.prog w = .ok (.tuple #[.agg #[.int .i64 0, .int .i64 0], .bool false]) w := by kernel_rfl
theorem as_figureOp_dropOp (k n : Int) (w : World) : (Instr.typeAssert (.iface 79 (.agg #[.int .i64 k, .int .i64 n])) 62 82 true).run Tryd.prog w = .ok (.tuple #[.agg #[.int .i64 0, .int .i64 0], .bool false]) w := by kernel_rfl
theorem as_figureOp_ifOp (k n : Int) (w : World) : (Instr.typeAssert (.iface 79 (.agg #[.int .i64 k, .int .i64 n])) 62 74 true).run Tryd.prog w = .ok (.tuple #[.agg #[.int .i64 0, .int .i64 0], .bool false]) w := by kernel_rfl
theorem as_figureOp_caseOp (k n : Int) (w : World) : (Instr.typeAssert (.iface 79 (.agg #[.int .i64 k, .int .i64 n])) 62 75 true).run Tryd.prog w = .ok (.tuple #[.agg #[.int .i64 0, .int .i64 0], .bool false]) w := by kernel_rfl
theorem as_figureOp_goOp (k n : Int) (w : World) : (Instr.typeAssert (.iface 79 (.agg #[.int .i64 k, .int .i64 n])) 62 76 true).run Tryd.prog w = .ok (.tuple #[.agg #[.int .i64 0, .int .i64 0], .bool false]) w := by kernel_rfl
theorem as_figureOp_giveOp (k n : Int) (w : World) : (Instr.typeAssert (.iface 79 (.agg #[.int .i64 k, .int .i64 n])) 62 84 true).run Tryd.prog w = .ok (.tuple #[.agg #[.int .i64 0, .int .i64 0], .bool false]) w := by kernel_rfl
theorem as_nameOp_nameOp (k n : Int) (w : World) : (Instr.typeAssert (.iface 80 (.agg #[.int .i64 k, .int .i64 n])) 62 80 true).run Tryd.prog w = .ok (.tuple #[.agg #[.int .i64 k, .int .i64 n], .bool true]) w := by kernel_rfl
theorem as_makeOp_nameOp (k n : Int) (w : World) : (Instr.typeAssert (.iface 73 (.agg #[.int .i64 k, .int .i64 n])) 62 80 true).run Tryd.prog w = .ok (.tuple #[.agg #[.int .i64 0, .int .i64 0], .bool false]) w := by kernel_rfl
theorem as_makeOp_makeOp (k n : Int) (w : World) : (Instr.typeAssert (.iface 73 (.agg #[.int .i64 k, .int .i64 n])) 62 73 true).run Tryd.prog w = .ok (.tuple #[.agg #[.int .i64 k, .int .i64 n], .bool true]) w := by kernel_rfl
theorem as_bindOp_nameOp (k n : Int) (w : World) : (Instr.typeAssert (.iface 81 (.agg #[.int .i64 k, .int .i64 n])) 62 80 true).run Tryd.prog w = .ok (.tuple #[.agg #[.int .i64 0, .int .i64 0], .bool false]) w := by kernel_rfl
theorem as_bindOp_makeOp (k n : Int) (w : World) : (Instr.typeAssert (.iface 81 (.agg #[.int .i64 k, .int .i64 n])) 62 73 true).run Tryd.prog w = .ok (.tuple #[.agg #[.int .i64 0, .int .i64 0], .bool false]) w := by kernel_rfl
theorem as_bindOp_bindOp (k n : Int) (w : World) : (Instr.typeAssert (.iface 81 (.agg #[.int .i64 k, .int .i64 n])) 62 81 true).run Tryd.prog w = .ok (.tuple #[.agg #[.int .i64 k, .int .i64 n], .bool true]) w := by kernel_rfl
theorem as_dropOp_nameOp (k n : Int) (w : World) : (Instr.typeAssert (.iface 82 (.agg #[.int .i64 k, .int .i64 n])) 62 80 true).run Tryd.prog w = .ok (.tuple #[.agg #[.int .i64 0, .int .i64 0], .bool false]) w := by kernel_rfl
theorem as_dropOp_makeOp (k n : Int) (w : World) : (Instr.typeAssert (.iface 82 (.agg #[.int .i64 k, .int .i64 n])) 62 73 true).run Tryd.prog w = .ok (.tuple #[.agg #[.int .i64 0, .int .i64 0], .bool false]) w := by kernel_rfl
theorem as_dropOp_bindOp (k n : Int) (w : World) : (Instr.typeAssert (.iface 82 (.agg #[.int .i64 k, .int .i64 n])) 62 81 true).run Tryd.prog w = .ok (.tuple #[.agg #[.int .i64 0, .int .i64 0], .bool false]) w := by kernel_rfl
theorem as_dropOp_dropOp (k n : Int) (w : World) : (Instr.typeAssert (.iface 82 (.agg #[.int .i64 k, .int .i64 n])) 62 82 true).run Tryd.prog w = .ok (.tuple #[.agg #[.int .i64 k, .int .i64 n], .bool true]) w := by kernel_rfl
theorem as_ifOp_nameOp (k n : Int) (w : World) : (Instr.typeAssert (.iface 74 (.agg #[.int .i64 k, .int .i64 n])) 62 80 true).run Tryd.prog w = .ok (.tuple #[.agg #[.int .i64 0, .int .i64 0], .bool false]) w := by kernel_rfl
theorem as_ifOp_makeOp (k n : Int) (w : World) : (Instr.typeAssert (.iface 74 (.agg #[.int .i64 k, .int .i64 n])) 62 73 true).run Tryd.prog w = .ok (.tuple #[.agg #[.int .i64 0, .int .i64 0], .bool false]) w := by kernel_rfl
theorem as_ifOp_bindOp (k n : Int) (w : World) : (Instr.typeAssert (.iface 74 (.agg #[.int .i64 k, .int .i64 n])) 62 81 true).run Tryd.prog w = .ok (.tuple #[.agg #[.int .i64 0, .int .i64 0], .bool false]) w := by kernel_rfl
theorem as_ifOp_dropOp (k n : Int) (w : World) : (Instr.typeAssert (.iface 74 (.agg #[.int .i64 k, .int .i64 n])) 62 82 true).run Tryd.prog w = .ok (.tuple #[.agg #[.int .i64 0, .int .i64 0], .bool false]) w := by kernel_rfl
theorem as_ifOp_ifOp (k n : Int) (w : World) : (Instr.typeAssert (.iface 74 (.agg #[.int .i64 k, .int .i64 n])) 62 74 true).run Tryd.prog w = .ok (.tuple #[.agg #[.int .i64 k, .int .i64 n], .bool true]) w := by kernel_rfl
theorem as_caseOp_nameOp (k n : Int) (w : World) : (Instr.typeAssert (.iface 75 (.agg #[.int .i64 k, .int .i64 n])) 62 80 true).run Tryd.prog w = .ok (.tuple #[.agg #[.int .i64 0, .int .i64 0], .bool false]) w := by kernel_rfl
theorem as_caseOp_makeOp (k n : Int) (w : World) : (Instr.typeAssert (.iface 75 (.agg #[.int .i64 k, .int .i64 n])) 62 73 true).run Tryd.prog w = .ok (.tuple #[.agg #[.int .i64 0, .int .i64 0], .bool false]) w := by kernel_rfl
theorem as_caseOp_bindOp (k n : Int) (w : World) : (Instr.typeAssert (.iface 75 (.agg #[.int .i64 k, .int .i64 n])) 62 81 true).run Tryd.prog w = .ok (.tuple #[.agg #[.int .i64 0, .int .i64 0], .bool false]) w := by kernel_rfl
theorem as_caseOp_dropOp (k n : Int) (w : World) : (Instr.typeAssert (.iface 75 (.agg #[.int .i64 k, .int .i64 n])) 62 82 true).run Tryd.prog w = .ok (.tuple #[.agg #[.int .i64 0, .int .i64 0], .bool false]) w := by kernel_rfl
theorem as_caseOp_ifOp (k n : Int) (w : World) : (Instr.typeAssert (.iface 75 (.agg #[.int .i64 k, .int .i64 n])) 62 74 true).run Tryd.prog w = .ok (.tuple #[.agg #[.int .i64 0, .int .i64 0], .bool false]) w := by kernel_rfl
theorem as_caseOp_caseOp (k n : Int) (w : World) : (Instr.typeAssert (.iface 75 (.agg #[.int .i64 k, .int .i64 n])) 62 75 true).run Tryd.prog w = .ok (.tuple #[.agg #[.int .i64 k, .int .i64 n], .bool true]) w := by kernel_rfl
theorem as_goOp_nameOp (k n : Int) (w : World) : (Instr.typeAssert (.iface 76 (.agg #[.int .i64 k, .int .i64 n])) 62 80 true).run Tryd.prog w = .ok (.tuple #[.agg #[.int .i64 0, .int .i64 0], .bool false]) w := by kernel_rfl
theorem as_goOp_makeOp (k n : Int) (w : World) : (Instr.typeAssert (.iface 76 (.agg #[.int .i64 k, .int .i64 n])) 62 73 true).run Tryd.prog w = .ok (.tuple #[.agg #[.int .i64 0, .int .i64 0], .bool false]) w := by kernel_rfl
theorem as_goOp_bindOp (k n : Int) (w : World) : (Instr.typeAssert (.iface 76 (.agg #[.int .i64 k, .int .i64 n])) 62 81 true).run Tryd.prog w = .ok (.tuple #[.agg #[.int .i64 0, .int .i64 0], .bool false]) w := by kernel_rfl
theorem as_goOp_dropOp (k n : Int) (w : World) : (Instr.typeAssert (.iface 76 (.agg #[.int .i64 k, .int .i64 n])) 62 82 true).run Tryd.prog w = .ok (.tuple #[.agg #[.int .i64 0, .int .i64 0], .bool false]) w := by kernel_rfl
theorem as_goOp_ifOp (k n : Int) (w : World) : (Instr.typeAssert (.iface 76 (.agg #[.int .i64 k, .int .i64 n])) 62 74 true).run Tryd.prog w = .ok (.tuple #[.agg #[.int .i64 0, .int .i64 0], .bool false]) w := by kernel_rfl
theorem as_goOp_caseOp (k n : Int) (w : World) : (Instr.typeAssert (.iface 76 (.agg #[.int .i64 k, .int .i64 n])) 62 75 true).run Tryd.prog w = .ok (.tuple #[.agg #[.int .i64 0, .int .i64 0], .bool false]) w := by kernel_rfl
theorem as_goOp_goOp (k n : Int) (w : World) : (Instr.typeAssert (.iface 76 (.agg #[.int .i64 k, .int .i64 n])) 62 76 true).run Tryd.prog w = .ok (.tuple #[.agg #[.int .i64 k, .int .i64 n], .bool true]) w := by kernel_rfl
theorem as_signOp_nameOp (k n : Int) (w : World) : (Instr.typeAssert (.iface 83 (.agg #[.int .i64 k, .int .i64 n])) 62 80 true).run Tryd.prog w = .ok (.tuple #[.agg #[.int .i64 0, .int .i64 0], .bool false]) w := by kernel_rfl
theorem as_signOp_makeOp (k n : Int) (w : World) : (Instr.typeAssert (.iface 83 (.agg #[.int .i64 k, .int .i64 n])) 62 73 true).run Tryd.prog w = .ok (.tuple #[.agg #[.int .i64 0, .int .i64 0], .bool false]) w := by kernel_rfl
theorem as_signOp_bindOp (k n : Int) (w : World) : (Instr.typeAssert (.iface 83 (.agg #[.int .i64 k, .int .i64 n])) 62 81 true).run Tryd.prog w = .ok (.tuple #[.agg #[.int .i64 0, .int .i64 0], .bool false]) w := by kernel_rfl
theorem as_signOp_dropOp (k n : Int) (w : World) : (Instr.typeAssert (.iface 83 (.agg #[.int .i64 k, .int .i64 n])) 62 82 true).run Tryd.prog w = .ok (.tuple #[.agg #[.int .i64 0, .int .i64 0], .bool false]) w := by kernel_rfl
theorem as_signOp_ifOp (k n : Int) (w : World) : (Instr.typeAssert (.iface 83 (.agg #[.int .i64 k, .int .i64 n])) 62 74 true).run Tryd.prog w = .ok (.tuple #[.agg #[.int .i64 0, .int .i64 0], .bool false]) w := by kernel_rfl
theorem as_signOp_caseOp (k n : Int) (w : World) : (Instr.typeAssert (.iface 83 (.agg #[.int .i64 k, .int .i64 n])) 62 75 true).run Tryd.prog w = .ok (.tuple #[.agg #[.int .i64 0, .int .i64 0], .bool false]) w := by kernel_rfl
theorem as_signOp_goOp (k n : Int) (w : World) : (Instr.typeAssert (.iface 83 (.agg #[.int .i64 k, .int .i64 n])) 62 76 true).run Tryd.prog w = .ok (.tuple #[.agg #[.int .i64 0, .int .i64 0], .bool false]) w := by kernel_rfl
theorem as_signOp_giveOp (k n : Int) (w : World) : (Instr.typeAssert (.iface 83 (.agg #[.int .i64 k, .int .i64 n])) 62 84 true).run Tryd.prog w = .ok (.tuple #[.agg #[.int .i64 0, .int .i64 0], .bool false]) w := by kernel_rfl
theorem as_giveOp_nameOp (k n : Int) (w : World) : (Instr.typeAssert (.iface 84 (.agg #[.int .i64 k, .int .i64 n])) 62 80 true).run Tryd.prog w = .ok (.tuple #[.agg #[.int .i64 0, .int .i64 0], .bool false]) w := by kernel_rfl
theorem as_giveOp_makeOp (k n : Int) (w : World) : (Instr.typeAssert (.iface 84 (.agg #[.int .i64 k, .int .i64 n])) 62 73 true).run Tryd.prog w = .ok (.tuple #[.agg #[.int .i64 0, .int .i64 0], .bool false]) w := by kernel_rfl
theorem as_giveOp_bindOp (k n : Int) (w : World) : (Instr.typeAssert (.iface 84 (.agg #[.int .i64 k, .int .i64 n])) 62 81 true).run Tryd.prog w = .ok (.tuple #[.agg #[.int .i64 0, .int .i64 0], .bool false]) w := by kernel_rfl
theorem as_giveOp_dropOp (k n : Int) (w : World) : (Instr.typeAssert (.iface 84 (.agg #[.int .i64 k, .int .i64 n])) 62 82 true).run Tryd.prog w = .ok (.tuple #[.agg #[.int .i64 0, .int .i64 0], .bool false]) w := by kernel_rfl
theorem as_giveOp_ifOp (k n : Int) (w : World) : (Instr.typeAssert (.iface 84 (.agg #[.int .i64 k, .int .i64 n])) 62 74 true).run Tryd.prog w = .ok (.tuple #[.agg #[.int .i64 0, .int .i64 0], .bool false]) w := by kernel_rfl
theorem as_giveOp_caseOp (k n : Int) (w : World) : (Instr.typeAssert (.iface 84 (.agg #[.int .i64 k, .int .i64 n])) 62 75 true).run Tryd.prog w = .ok (.tuple #[.agg #[.int .i64 0, .int .i64 0], .bool false]) w := by kernel_rfl
theorem as_giveOp_goOp (k n : Int) (w : World) : (Instr.typeAssert (.iface 84 (.agg #[.int .i64 k, .int .i64 n])) 62 76 true).run Tryd.prog w = .ok (.tuple #[.agg #[.int .i64 0, .int .i64 0], .bool false]) w := by kernel_rfl
theorem as_giveOp_giveOp (k n : Int) (w : World) : (Instr.typeAssert (.iface 84 (.agg #[.int .i64 k, .int .i64 n])) 62 84 true).run Tryd.prog w = .ok (.tuple #[.agg #[.int .i64 k, .int .i64 n], .bool true]) w := by kernel_rfl
theorem as_workOp_nameOp (k n : Int) (w : World) : (Instr.typeAssert (.iface 85 (.agg #[.int .i64 k, .int .i64 n])) 62 80 true).run Tryd.prog w = .ok (.tuple #[.agg #[.int .i64 0, .int .i64 0], .bool false]) w := by kernel_rfl
theorem as_workOp_makeOp (k n : Int) (w : World) : (Instr.typeAssert (.iface 85 (.agg #[.int .i64 k, .int .i64 n])) 62 73 true).run Tryd.prog w = .ok (.tuple #[.agg #[.int .i64 0, .int .i64 0], .bool false]) w := by kernel_rfl
theorem as_workOp_bindOp (k n : Int) (w : World) : (Instr.typeAssert (.iface 85 (.agg #[.int .i64 k, .int .i64 n])) 62 81 true).run Tryd.prog w = .ok (.tuple #[.agg #[.int .i64 0, .int .i64 0], .bool false]) w := by kernel_rfl
theorem as_workOp_dropOp (k n : Int) (w : World) : (Instr.typeAssert (.iface 85 (.agg #[.int .i64 k, .int .i64 n])) 62 82 true).run Tryd.prog w = .ok (.tuple #[.agg #[.int .i64 0, .int .i64 0], .bool false]) w := by kernel_rfl
theorem as_workOp_ifOp (k n : Int) (w : World) : (Instr.typeAssert (.iface 85 (.agg #[.int .i64 k, .int .i64 n])) 62 74 true).run Tryd.prog w = .ok (.tuple #[.agg #[.int .i64 0, .int .i64 0], .bool false]) w := by kernel_rfl
theorem as_workOp_caseOp (k n : Int) (w : World) : (Instr.typeAssert (.iface 85 (.agg #[.int .i64 k, .int .i64 n])) 62 75 true).run Tryd.prog w = .ok (.tuple #[.agg #[.int .i64 0, .int .i64 0], .bool false]) w := by kernel_rfl
theorem as_workOp_goOp (k n : Int) (w : World) : (Instr.typeAssert (.iface 85 (.agg #[.int .i64 k, .int .i64 n])) 62 76 true).run Tryd.prog w = .ok (.tuple #[.agg #[.int .i64 0, .int .i64 0], .bool false]) w := by kernel_rfl
theorem as_workOp_giveOp (k n : Int) (w : World) : (Instr.typeAssert (.iface 85 (.agg #[.int .i64 k, .int .i64 n])) 62 84 true).run Tryd.prog w = .ok (.tuple #[.agg #[.int .i64 0, .int .i64 0], .bool false]) w := by kernel_rfl
end Go.Proofs.YtlkbgmgnjkkfgaaDoor

