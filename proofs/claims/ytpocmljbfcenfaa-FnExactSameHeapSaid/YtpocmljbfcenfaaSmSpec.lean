/-
  Cells that say the same: the specification's l18Words.
-/
import Derived.Test.YtpocmljbfcenfaaSmMath
import Derived.Test.YtpocmljbfcenfaaWlRefs
namespace Go.Proofs.Ytpocmljbfcenfaa
open Go.RowKit

theorem sm_two (w : World) (a b : Obj) : Below w.heap.size w ((w.alloc a).alloc b) := ((Below.refl _ _).alloc (Nat.le_refl _) _).alloc (by simp) _
set_option maxRecDepth 100000 in
set_option maxHeartbeats 1000000 in
theorem spec_l18Words (d x : Wd) (w : World) : Calls Try.prog 21 #[.agg #[.int .i64 d.tag, .int .i64 d.num], .agg #[.int .i64 x.tag, .int .i64 x.num]] w fun r w' => r = .returned (.bool (wordsQ d x)) ∧ Below w.heap.size w w' := by
  unfold wordsQ
  cases h1 : (d.tag == x.tag)
  · go_enter Try.func21, Try.ntmps21
    go_wp2_with fail
    go_ret
    exact ⟨rfl, sm_two _ _ _⟩
  · cases h2 : (d.tag == 4)
    · cases h3 : (d.num == x.num)
      · go_enter Try.func21, Try.ntmps21
        go_wp2_with fail
        go_ret
        exact ⟨rfl, sm_two _ _ _⟩
      · go_enter Try.func21, Try.ntmps21
        go_wp2_with fail
        go_ret
        exact ⟨rfl, sm_two _ _ _⟩
    · go_enter Try.func21, Try.ntmps21
      go_wp2_with fail
      go_ret
      exact ⟨rfl, sm_two _ _ _⟩
end Go.Proofs.Ytpocmljbfcenfaa
