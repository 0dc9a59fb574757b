/-
  The reader of a code is made.
-/
import Derived.Test.YtndpioniobhbmaaRdPick
import Derived.Deep.QuietTactic
import Derived.BigQuiet
namespace Go.Proofs.Ytndpioniobhbmaa
open Go.RowKit

set_option maxHeartbeats 1000000 in
theorem spec_l20Open (w : World) (len : Nat) (v : Value) (hv : Bytes w w.heap.size len v) :
    Calls Try.prog 10 #[v] w fun r w' => ∃ v' len', r = .returned (.pointer (some ⟨w.heap.size, 0, none⟩)) ∧ Bytes w w.heap.size len' v' ∧ len' ≤ 2000 ∧ w' = w.alloc (.cells #[v', .int .i64 0] 49) := by
  have hv0 := hv
  obtain ⟨a, cap, rfl, h1, h2, h3⟩ := hv
  unfold maxLen at h2
  by_cases h : 2000 < len
  · have hi : (2000 : Int) < (len : Int) := by omega
    obtain ⟨b, off, x, rfl, _⟩ := h3 0 (by omega)
    have hcap : ¬ cap = 0 := by omega
    go_enter Try.func10, Try.ntmps10
    go_wp2_with fail
    go_ret
    exact ⟨_, 2000, rfl, ⟨_, cap, rfl, by omega, by unfold maxLen; omega, fun i hi => h3 i (by omega)⟩, Nat.le_refl _, rfl⟩
  · have hi : ¬ (2000 : Int) < (len : Int) := by omega
    go_enter Try.func10, Try.ntmps10
    go_wp2_with fail
    go_ret
    exact ⟨rfl, _, len, hv0, by omega, rfl⟩

end Go.Proofs.Ytndpioniobhbmaa
