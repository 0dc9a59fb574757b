/-
  The law's own mark and held of rows: words.
-/
import Derived.Test.YtdgfmjakbemhgaaRows
import Derived.Test.YtdgfmjakbemhgaaOwRow
import Derived.WalkKit
import Derived.WalkSpells
import Derived.WalkLawsBesides
import Derived.RowKit3
namespace Go.Proofs.Ytdgfmjakbemhgaa
open Go.RowKit

set_option maxHeartbeats 2000000 in
theorem law_markWordS (n : Nat) (xs : List Value) (v : Value) (w : World) (B k : Nat) (hn : n ≤ 1100000) (hk : k ≤ 10000000) (h : w.ownsRow B 41 2 v n xs) :
    Calls Try.prog 13 #[v, .int .i64 k] w fun r w' => MarkedI 41 2 w w' B n k v r := by
  have hx := h.1
  rcases h.2 with ⟨rfl, rfl⟩ | ⟨g, cap, cur, rfl, hg, hh, _⟩
  · have hx0 : xs = [] := List.length_eq_zero_iff.1 (by simpa using hx)
    subst hx0
    go_enter Try.func13, Try.ntmps13
    go_wp2_with fail
    go_loopw [1, 5] (fun u i wr => i = .int .i64 0 ∧ u = .int .i64 k ∧ wr = w) (fun _ _ _ => 0)
    case atStart => exact ⟨rfl, rfl, rfl⟩
    case round =>
      obtain ⟨rfl, rfl, rfl⟩ := hrel
      go_wp2_with fail
      go_ret
      exact ⟨by simp, by simpa [marksI] using h, World.grownBy.refl _ _⟩
  · go_enter Try.func13, Try.ntmps13
    go_wp2_with fail
    go_loopw [1, 5] (fun u i wr => ∃ j : Nat, j ≤ n ∧ i = .int .i64 j ∧ u = .int .i64 ((k : Int) + j * 2) ∧ wr.ownsRow B 41 2 (.slice (some ⟨g, 0, none⟩) n cap) n (marksIn xs k (j * 2)) ∧ w.grownBy wr (some g)) (fun _ i _ => n - (intOf i).toNat)
    case atStart => exact ⟨0, by omega, rfl, by simp, by rw [Nat.zero_mul, marksIn_zero]; exact h, World.grownBy.refl _ _⟩
    case round =>
      obtain ⟨j, hj, rfl, rfl, hO, hG⟩ := hrel
      by_cases hlt : j < n
      · have H1 : Hid (((marksIn xs k (j * 2)).set (j * 2) (.int .i64 ((k : Int) + j * 2))).set (j * 2 + 1) (.int .i64 ((k : Int) + j * 2 + 1)) = marksIn xs k ((j + 1) * 2)) := by
          show _ = _
          rw [show (k : Int) + j * 2 = ((k + j * 2 : Nat) : Int) by omega, marksIn_next xs k _ (by omega), show ((k + j * 2 : Nat) : Int) + 1 = ((k + (j * 2 + 1) : Nat) : Int) by omega, marksIn_next xs k _ (by omega), Nat.succ_mul]
        have hij : (j : Int) < (n : Int) := by omega
        have hl := marksIn_length xs k (j * 2) (by omega)
        obtain ⟨c0, f0⟩ := ow_cell hO (j * 2) (by omega)
        generalize (marksIn xs k (j * 2))[j * 2] = u100 at c0
        obtain ⟨c1, f1⟩ := ow_cell hO (j * 2 + 1) (by omega)
        generalize (marksIn xs k (j * 2))[j * 2 + 1] = u101 at c1
        have hO' := fun a0 a1 => ow_set (ow_set (hO) (j * 2) a0) (j * 2 + 1) a1
        have hG' := fun a0 a1 => ow_grown_trans hG (ow_grown_trans (ow_but_set wr g (j * 2) a0) (ow_but_set _ g (j * 2 + 1) a1))
        clear hl
        go_wp2_with fail
        go_roundw
        case rel => exact ⟨j + 1, by omega, by go_num, by go_num, by rw [← H1.out]; exact hO' _ _, hG' _ _⟩
        case measure => simp [intOf]; omega
      · obtain rfl : j = n := by omega
        go_wp2_with fail
        go_ret
        exact ⟨by congr 1, by rw [← hx, ← marksIn_end, hx]; exact hO, hG⟩
end Go.Proofs.Ytdgfmjakbemhgaa
