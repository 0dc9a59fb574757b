/-
  The law's own held of rows: words.
-/
import Derived.Test.YtdgfmjakbemhgaaRows
import Derived.Test.YtdgfmjakbemhgaaOwRow
import Derived.WalkKit
import Derived.WalkSpells
import Derived.WalkLawsBesides
import Derived.RowKit3
namespace Go.Proofs.Ytdgfmjakbemhgaa
open Go.RowKit

set_option maxHeartbeats 2000000 in
theorem law_heldWordS (n k : Nat) (v : Value) (w : World) (B : Nat) (hn : n ≤ 1100000) (hk : k ≤ 10000000) (h : w.ownsRow B 41 2 v n (marksI (n * 2) k)) :
    Calls Try.prog 15 #[v, .int .i64 k] w fun r w' => r = .returned (.int .i64 ((k + n * 2 : Nat) : Int)) ∧ w' = w := by
  obtain ⟨a, cap, rfl, hc⟩ : ∃ a cap, v = .slice a n cap ∧ ∀ j, j < n * 2 → ∃ g, a = some ⟨g, 0, none⟩ ∧ w.cell? ⟨g, j, none⟩ = some (.int .i64 ((k + j : Nat) : Int)) := by
    rcases h.2 with ⟨rfl, rfl⟩ | ⟨g, cap, cur, rfl, hg, hh, _⟩
    · exact ⟨none, 0, rfl, fun j hj => by omega⟩
    · refine ⟨_, cap, rfl, fun j hj => ⟨g, rfl, ?_⟩⟩
      have := h.cells (g := g) rfl j _ (marksI_get hj)
      rw [Addr.add_mid] at this
      simpa using this
  clear h
  go_enter Try.func15, Try.ntmps15
  go_wp2_with fail
  go_loopw [1, 5] (fun u i wr => ∃ j : Nat, j ≤ n ∧ i = .int .i64 j ∧ u = .int .i64 ((k : Int) + j * 2) ∧ wr = w) (fun _ i _ => n - (intOf i).toNat)
  case atStart => exact ⟨0, by omega, rfl, by simp, rfl⟩
  case round =>
    obtain ⟨j, hj, rfl, rfl, rfl⟩ := hrel
    by_cases hlt : j < n
    · obtain ⟨g, rfl, d0⟩ := hc (j * 2) (by omega)
      obtain ⟨g1, hg1, d1⟩ := hc (j * 2 + 1) (by omega)
      obtain rfl : g = g1 := by simpa using hg1
      have hij : (j : Int) < (n : Int) := by omega
      clear hg1
      rw [show ((k + j * 2 : Nat) : Int) = (k : Int) + j * 2 by omega] at d0
      rw [show ((k + (j * 2 + 1) : Nat) : Int) = (k : Int) + j * 2 + 1 by omega] at d1
      go_wp2_with fail
      go_roundw
      case rel => exact ⟨j + 1, by omega, by go_num, by go_num, trivial⟩
      case measure => simp [intOf]; omega
    · obtain rfl : j = n := by omega
      go_wp2_with fail
      go_ret
      exact ⟨by congr 1, rfl⟩
end Go.Proofs.Ytdgfmjakbemhgaa
