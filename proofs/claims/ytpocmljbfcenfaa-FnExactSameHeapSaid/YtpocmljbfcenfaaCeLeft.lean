/-
  The law's own szCellS, whatever is left.
-/
import Derived.Test.YtpocmljbfcenfaaCeRow
namespace Go.Proofs.Ytpocmljbfcenfaa
open Go.RowKit

/-- How many are left: below 0, or no more than there were. -/
def Left (n l : Nat) (r : Ending) : Prop := ∃ m : Int, r = .returned (.int .i64 m) ∧ m ≤ n ∧ (0 ≤ m → l ≤ n)

set_option maxHeartbeats 400000 in
theorem law_szCellL (cs : List Ce) (hlen : cs.length ≤ maxLen) (w : World) (a : Option Addr) (cap n : Nat) (hn : n ≤ 1048576) :
    Calls Try.prog 4 #[.slice a cs.length cap, .int .i64 n] w fun r w' => Left n cs.length r ∧ w' = w := by
  unfold maxLen at hlen
  by_cases hneg : (n : Int) - (cs.length : Int) < 0
  · go_enter Try.func4, Try.ntmps4
    go_wp2_with fail
    go_ret
    exact ⟨⟨_, rfl, by omega, by omega⟩, rfl⟩
  · go_enter Try.func4, Try.ntmps4
    go_wp2_with fail
    go_ret
    exact ⟨⟨_, rfl, by omega, by omega⟩, rfl⟩
end Go.Proofs.Ytpocmljbfcenfaa
