/-
  The laws' own enInts.
-/
import Derived.Test.YtndpioniobhbmaaMkInt
namespace Go.Proofs.Ytndpioniobhbmaa
open Go.RowKit

set_option maxHeartbeats 1000000 in
theorem law_enInts (l : List Nat) (hl : l.length ≤ 1000000) (v1 v2 : Value) (w : World) (lo1 hi1 lo2 hi2 : Nat) (h1 : OwnI w lo1 hi1 l v1) (h2 : OwnI w lo2 hi2 l v2) :
    Calls Try.prog 6 #[v1, v2] w fun r w' => r = .returned (.bool true) ∧ Below w.heap.size w w' := by
  obtain ⟨a1, cap1, rfl, hc1⟩ := own_at h1.1
  obtain ⟨a2, cap2, rfl, hc2⟩ := own_at h2.1
  have hn := natsV_length l
  go_enter Try.func6, Try.ntmps6
  go_wp2_with fail
  go_loopg [5] l.length (fun g i wr => ∃ k : Nat, k + g = l.length ∧ i = .int .i64 k ∧ ∃ n, wr = w.drewN n)
  case atStart => exact ⟨0, by omega, rfl, 0, rfl⟩
  case round =>
    obtain ⟨k, hk, rfl, n, rfl⟩ := hrel
    by_cases hlt : k < l.length
    · obtain ⟨g1, rfl, d1⟩ := hc1 k (by omega)
      obtain ⟨g2, rfl, d2⟩ := hc2 k (by omega)
      have hi : (k : Int) < (l.length : Int) := by omega
      have e0 : (natsV l)[k]'(by omega) = .int .i64 (l[k] : Int) := by simp [natsV]
      rw [e0] at d1 d2
      clear e0
      generalize (l[k] : Int) = m at d1 d2
      have e1 : (w.drewN n).cell? ⟨g1, k, none⟩ = some (.int .i64 m) := d1
      have e2 : (w.drewN n).cell? ⟨g2, k, none⟩ = some (.int .i64 m) := d2
      go_wp2_with fail
      go_quiet (fail)
      go_wp2_with fail
      go_roundg (l.length - (k + 1))
      case measure => omega
      case rel => exact ⟨k + 1, by omega, by go_num, n + _, rfl⟩
    · obtain rfl : k = l.length := by omega
      have hi : ¬ (l.length : Int) < (l.length : Int) := by omega
      go_wp2_with fail
      go_ret
      exact ⟨rfl, ⟨rfl, rfl, rfl, Nat.le_refl _, fun _ _ => rfl⟩⟩
end Go.Proofs.Ytndpioniobhbmaa
