/-
  The law's own mark and held of rows: cells.
-/
import Derived.Test.YtdgfmjakbemhgaaRows
import Derived.Test.YtdgfmjakbemhgaaOwRow
import Derived.WalkKit
import Derived.WalkSpells
import Derived.WalkLawsBesides
import Derived.RowKit3
namespace Go.Proofs.Ytdgfmjakbemhgaa
open Go.RowKit

set_option maxHeartbeats 2000000 in
theorem law_markCellS (n : Nat) (xs : List Value) (v : Value) (w : World) (B k : Nat) (hn : n ≤ 1100000) (hk : k ≤ 10000000) (h : w.ownsRow B 43 6 v n xs) :
    Calls Try.prog 12 #[v, .int .i64 k] w fun r w' => MarkedI 43 6 w w' B n k v r := by
  have hx := h.1
  rcases h.2 with ⟨rfl, rfl⟩ | ⟨g, cap, cur, rfl, hg, hh, _⟩
  · have hx0 : xs = [] := List.length_eq_zero_iff.1 (by simpa using hx)
    subst hx0
    go_enter Try.func12, Try.ntmps12
    go_wp2_with fail
    go_loopw [1, 5] (fun u i wr => i = .int .i64 0 ∧ u = .int .i64 k ∧ wr = w) (fun _ _ _ => 0)
    case atStart => exact ⟨rfl, rfl, rfl⟩
    case round =>
      obtain ⟨rfl, rfl, rfl⟩ := hrel
      go_wp2_with fail
      go_ret
      exact ⟨by simp, by simpa [marksI] using h, World.grownBy.refl _ _⟩
  · go_enter Try.func12, Try.ntmps12
    go_wp2_with fail
    go_loopw [1, 5] (fun u i wr => ∃ j : Nat, j ≤ n ∧ i = .int .i64 j ∧ u = .int .i64 ((k : Int) + j * 6) ∧ wr.ownsRow B 43 6 (.slice (some ⟨g, 0, none⟩) n cap) n (marksIn xs k (j * 6)) ∧ w.grownBy wr (some g)) (fun _ i _ => n - (intOf i).toNat)
    case atStart => exact ⟨0, by omega, rfl, by simp, by rw [Nat.zero_mul, marksIn_zero]; exact h, World.grownBy.refl _ _⟩
    case round =>
      obtain ⟨j, hj, rfl, rfl, hO, hG⟩ := hrel
      by_cases hlt : j < n
      · have H1 : Hid (((((((marksIn xs k (j * 6)).set (j * 6) (.int .i64 ((k : Int) + j * 6))).set (j * 6 + 1) (.int .i64 ((k : Int) + j * 6 + 1))).set (j * 6 + 2) (.int .i64 ((k : Int) + j * 6 + 1 + 1))).set (j * 6 + 3) (.int .i64 ((k : Int) + j * 6 + 1 + 1 + 1))).set (j * 6 + 4) (.int .i64 ((k : Int) + j * 6 + 1 + 1 + 1 + 1))).set (j * 6 + 5) (.int .i64 ((k : Int) + j * 6 + 1 + 1 + 1 + 1 + 1)) = marksIn xs k ((j + 1) * 6)) := by
          show _ = _
          rw [show (k : Int) + j * 6 = ((k + j * 6 : Nat) : Int) by omega, marksIn_next xs k _ (by omega), show ((k + j * 6 : Nat) : Int) + 1 = ((k + (j * 6 + 1) : Nat) : Int) by omega, marksIn_next xs k _ (by omega), show ((k + (j * 6 + 1) : Nat) : Int) + 1 = ((k + (j * 6 + 2) : Nat) : Int) by omega, marksIn_next xs k _ (by omega), show ((k + (j * 6 + 2) : Nat) : Int) + 1 = ((k + (j * 6 + 3) : Nat) : Int) by omega, marksIn_next xs k _ (by omega), show ((k + (j * 6 + 3) : Nat) : Int) + 1 = ((k + (j * 6 + 4) : Nat) : Int) by omega, marksIn_next xs k _ (by omega), show ((k + (j * 6 + 4) : Nat) : Int) + 1 = ((k + (j * 6 + 5) : Nat) : Int) by omega, marksIn_next xs k _ (by omega), Nat.succ_mul]
        have hij : (j : Int) < (n : Int) := by omega
        have hl := marksIn_length xs k (j * 6) (by omega)
        obtain ⟨c0, f0⟩ := ow_cell hO (j * 6) (by omega)
        generalize (marksIn xs k (j * 6))[j * 6] = u100 at c0
        obtain ⟨c1, f1⟩ := ow_cell hO (j * 6 + 1) (by omega)
        generalize (marksIn xs k (j * 6))[j * 6 + 1] = u101 at c1
        obtain ⟨c2, f2⟩ := ow_cell hO (j * 6 + 2) (by omega)
        generalize (marksIn xs k (j * 6))[j * 6 + 2] = u102 at c2
        obtain ⟨c3, f3⟩ := ow_cell hO (j * 6 + 3) (by omega)
        generalize (marksIn xs k (j * 6))[j * 6 + 3] = u103 at c3
        obtain ⟨c4, f4⟩ := ow_cell hO (j * 6 + 4) (by omega)
        generalize (marksIn xs k (j * 6))[j * 6 + 4] = u104 at c4
        obtain ⟨c5, f5⟩ := ow_cell hO (j * 6 + 5) (by omega)
        generalize (marksIn xs k (j * 6))[j * 6 + 5] = u105 at c5
        have hO' := fun a0 a1 a2 a3 a4 a5 => ow_set (ow_set (ow_set (ow_set (ow_set (ow_set (hO) (j * 6) a0) (j * 6 + 1) a1) (j * 6 + 2) a2) (j * 6 + 3) a3) (j * 6 + 4) a4) (j * 6 + 5) a5
        have hG' := fun a0 a1 a2 a3 a4 a5 => ow_grown_trans hG (ow_grown_trans (ow_grown_trans (ow_grown_trans (ow_grown_trans (ow_grown_trans (ow_but_set wr g (j * 6) a0) (ow_but_set _ g (j * 6 + 1) a1)) (ow_but_set _ g (j * 6 + 2) a2)) (ow_but_set _ g (j * 6 + 3) a3)) (ow_but_set _ g (j * 6 + 4) a4)) (ow_but_set _ g (j * 6 + 5) a5))
        clear hl
        go_wp2_with fail
        go_roundw
        case rel => exact ⟨j + 1, by omega, by go_num, by go_num, by rw [← H1.out]; exact hO' _ _ _ _ _ _, hG' _ _ _ _ _ _⟩
        case measure => simp [intOf]; omega
      · obtain rfl : j = n := by omega
        go_wp2_with fail
        go_ret
        exact ⟨by congr 1, by rw [← hx, ← marksIn_end, hx]; exact hO, hG⟩
end Go.Proofs.Ytdgfmjakbemhgaa
