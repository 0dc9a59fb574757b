/-
  The law's own szCellS, toCellS, eqCellS: a row of cells.
  The law's own mark and held of rows: cells.
  The law's own held of rows: cells.
-/
import Derived.Test.YtgplgbiddnealaaGreatDoorWgAll3
import Derived.Test.YtgplgbiddnealaaGreatDoorRows
import Derived.Test.YtgplgbiddnealaaGreatDoorOwRow
import Derived.WalkKit
import Derived.WalkSpells
import Derived.WalkLawsBesides
import Derived.RowKit3
namespace Go.Proofs.YtgplgbiddnealaaGreatDoor
open Go.RowKit

theorem make_cells (n : Nat) (hn : n ≤ 1048576) (w : World) : (Instr.makeSlice 22 (.int .i64 (n : Int)) (.int .i64 (n : Int))).run Tryz.prog w =
    .ok (.slice (some ⟨w.heap.size, 0, none⟩) n n) (w.alloc (.cells (madeCells #[.int .i64 0, .int .i64 0, .int .i64 0, .int .i64 0, .int .i64 0, .int .i64 0] (n * 6)) 36)) := by
  have hinfo : (Tryz.prog.info? 36).map (fun i => (i.zero, i.size, i.bytes)) = some (some (.agg #[.int .i64 0, .int .i64 0, .int .i64 0, .int .i64 0, .int .i64 0, .int .i64 0]), 6, 48) := by kernel_rfl
  obtain ⟨i, hi, hz⟩ := Option.map_eq_some_iff.1 hinfo
  simp only [Prod.mk.injEq] at hz
  obtain ⟨hz, hs, hb⟩ := hz
  have hr := run_make (P := Tryz.prog) w 22 36 i _ Tryz.underlying22 hi hz .i64 .i64 n n (by omega) (Int.le_refl _) (by rw [hb]; omega) (by omega)
  simpa [hs, Value.cells] using hr
theorem cellSize : (Tryz.prog.info? 36).map (·.size) = some 6 := by kernel_rfl
theorem Ce.len (c : Ce) : c.cells.length = 6 := rfl

set_option maxHeartbeats 400000 in
theorem law_eqCellS (cs : List Ce) (hlen : cs.length ≤ 1048576) (w : World) (v1 v2 : Value) (hv1 : Cells w (· < w.heap.size) cs v1) (hv2 : Cells w (· < w.heap.size) cs v2) :
    Calls Tryz.prog 6 #[v1, v2] w fun r w' => r = .returned (.bool true) ∧ Below w.heap.size w w' := by
  obtain ⟨a1, cap1, rfl⟩ := hv1.slice
  obtain ⟨a2, cap2, rfl⟩ := hv2.slice
  go_enter Tryz.func6, Tryz.ntmps6
  go_wp2_with fail
  go_loopw [5] (fun i wr => ∃ (k : Nat), k ≤ cs.length ∧ i = .int .i64 k ∧ Below w.heap.size w wr) (fun i _ => cs.length - (intOf i).toNat)
  case atStart => exact ⟨0, by omega, rfl, Below.refl _ _⟩
  case round =>
    obtain ⟨k, hk, rfl, hb⟩ := hrel
    by_cases hlt : k < cs.length
    · obtain ⟨b1, off1, hS1, rfl, hr1⟩ := hv1.at k hlt
      obtain ⟨b2, off2, hS2, rfl, hr2⟩ := hv2.at k hlt
      obtain ⟨c0, c1, c2, c3, c4, c5⟩ := Ce.six (rw_same (hb.block b1 hS1) hr1)
      obtain ⟨d0, d1, d2, d3, d4, d5⟩ := Ce.six (rw_same (hb.block b2 hS2) hr2)
      clear hr1 hr2
      have hi : (k : Int) < (cs.length : Int) := by omega
      go_wp2_with fail
      go_region_with (go_at_call 23; refine (law_eqCell cs[k] _).mono ?_; rintro r w2 ⟨rfl, hb2⟩)
      all_goals
        go_wp2_with fail
        go_roundw
        case rel => exact ⟨k + 1, by omega, by go_num, hb.drew.trans (hb2.mono hb.size)⟩
        case measure => simp [intOf]; omega
    · go_wp2_with fail
      go_ret
      exact ⟨rfl, hb⟩
end Go.Proofs.YtgplgbiddnealaaGreatDoor

namespace Go.Proofs.YtgplgbiddnealaaGreatDoor
open Go.RowKit

set_option maxHeartbeats 2000000 in
theorem law_markCellS (n : Nat) (xs : List Value) (v : Value) (w : World) (B k : Nat) (hn : n ≤ 1100000) (hk : k ≤ 10000000) (h : w.ownsRow B 36 6 v n xs) :
    Calls Tryz.prog 8 #[v, .int .i64 k] w fun r w' => MarkedI 36 6 w w' B n k v r := by
  have hx := h.1
  rcases h.2 with ⟨rfl, rfl⟩ | ⟨g, cap, cur, rfl, hg, hh, _⟩
  · have hx0 : xs = [] := List.length_eq_zero_iff.1 (by simpa using hx)
    subst hx0
    go_enter Tryz.func8, Tryz.ntmps8
    go_wp2_with fail
    go_loopw [1, 5] (fun u i wr => i = .int .i64 0 ∧ u = .int .i64 k ∧ wr = w) (fun _ _ _ => 0)
    case atStart => exact ⟨rfl, rfl, rfl⟩
    case round =>
      obtain ⟨rfl, rfl, rfl⟩ := hrel
      go_wp2_with fail
      go_ret
      exact ⟨by simp, by simpa [marksI] using h, World.grownBy.refl _ _⟩
  · go_enter Tryz.func8, Tryz.ntmps8
    go_wp2_with fail
    go_loopw [1, 5] (fun u i wr => ∃ j : Nat, j ≤ n ∧ i = .int .i64 j ∧ u = .int .i64 ((k : Int) + j * 6) ∧ wr.ownsRow B 36 6 (.slice (some ⟨g, 0, none⟩) n cap) n (marksIn xs k (j * 6)) ∧ w.grownBy wr (some g)) (fun _ i _ => n - (intOf i).toNat)
    case atStart => exact ⟨0, by omega, rfl, by simp, by rw [Nat.zero_mul, marksIn_zero]; exact h, World.grownBy.refl _ _⟩
    case round =>
      obtain ⟨j, hj, rfl, rfl, hO, hG⟩ := hrel
      by_cases hlt : j < n
      · have H1 : Hid (((((((marksIn xs k (j * 6)).set (j * 6) (.int .i64 ((k : Int) + j * 6))).set (j * 6 + 1) (.int .i64 ((k : Int) + j * 6 + 1))).set (j * 6 + 2) (.int .i64 ((k : Int) + j * 6 + 1 + 1))).set (j * 6 + 3) (.int .i64 ((k : Int) + j * 6 + 1 + 1 + 1))).set (j * 6 + 4) (.int .i64 ((k : Int) + j * 6 + 1 + 1 + 1 + 1))).set (j * 6 + 5) (.int .i64 ((k : Int) + j * 6 + 1 + 1 + 1 + 1 + 1)) = marksIn xs k ((j + 1) * 6)) := by
          show _ = _
          rw [show (k : Int) + j * 6 = ((k + j * 6 : Nat) : Int) by omega, marksIn_next xs k _ (by omega), show ((k + j * 6 : Nat) : Int) + 1 = ((k + (j * 6 + 1) : Nat) : Int) by omega, marksIn_next xs k _ (by omega), show ((k + (j * 6 + 1) : Nat) : Int) + 1 = ((k + (j * 6 + 2) : Nat) : Int) by omega, marksIn_next xs k _ (by omega), show ((k + (j * 6 + 2) : Nat) : Int) + 1 = ((k + (j * 6 + 3) : Nat) : Int) by omega, marksIn_next xs k _ (by omega), show ((k + (j * 6 + 3) : Nat) : Int) + 1 = ((k + (j * 6 + 4) : Nat) : Int) by omega, marksIn_next xs k _ (by omega), show ((k + (j * 6 + 4) : Nat) : Int) + 1 = ((k + (j * 6 + 5) : Nat) : Int) by omega, marksIn_next xs k _ (by omega), Nat.succ_mul]
        have hij : (j : Int) < (n : Int) := by omega
        have hl := marksIn_length xs k (j * 6) (by omega)
        obtain ⟨c0, f0⟩ := ow_cell hO (j * 6) (by omega)
        generalize (marksIn xs k (j * 6))[j * 6] = u100 at c0
        obtain ⟨c1, f1⟩ := ow_cell hO (j * 6 + 1) (by omega)
        generalize (marksIn xs k (j * 6))[j * 6 + 1] = u101 at c1
        obtain ⟨c2, f2⟩ := ow_cell hO (j * 6 + 2) (by omega)
        generalize (marksIn xs k (j * 6))[j * 6 + 2] = u102 at c2
        obtain ⟨c3, f3⟩ := ow_cell hO (j * 6 + 3) (by omega)
        generalize (marksIn xs k (j * 6))[j * 6 + 3] = u103 at c3
        obtain ⟨c4, f4⟩ := ow_cell hO (j * 6 + 4) (by omega)
        generalize (marksIn xs k (j * 6))[j * 6 + 4] = u104 at c4
        obtain ⟨c5, f5⟩ := ow_cell hO (j * 6 + 5) (by omega)
        generalize (marksIn xs k (j * 6))[j * 6 + 5] = u105 at c5
        have hO' := fun a0 a1 a2 a3 a4 a5 => ow_set (ow_set (ow_set (ow_set (ow_set (ow_set (hO) (j * 6) a0) (j * 6 + 1) a1) (j * 6 + 2) a2) (j * 6 + 3) a3) (j * 6 + 4) a4) (j * 6 + 5) a5
        have hG' := fun a0 a1 a2 a3 a4 a5 => ow_grown_trans hG (ow_grown_trans (ow_grown_trans (ow_grown_trans (ow_grown_trans (ow_grown_trans (ow_but_set wr g (j * 6) a0) (ow_but_set _ g (j * 6 + 1) a1)) (ow_but_set _ g (j * 6 + 2) a2)) (ow_but_set _ g (j * 6 + 3) a3)) (ow_but_set _ g (j * 6 + 4) a4)) (ow_but_set _ g (j * 6 + 5) a5))
        clear hl
        go_wp2_with fail
        go_roundw
        case rel => exact ⟨j + 1, by omega, by go_num, by go_num, by rw [← H1.out]; exact hO' _ _ _ _ _ _, hG' _ _ _ _ _ _⟩
        case measure => simp [intOf]; omega
      · obtain rfl : j = n := by omega
        go_wp2_with fail
        go_ret
        exact ⟨by congr 1, by rw [← hx, ← marksIn_end, hx]; exact hO, hG⟩
end Go.Proofs.YtgplgbiddnealaaGreatDoor

namespace Go.Proofs.YtgplgbiddnealaaGreatDoor
open Go.RowKit

set_option maxHeartbeats 2000000 in
theorem law_heldCellS (n k : Nat) (v : Value) (w : World) (B : Nat) (hn : n ≤ 1100000) (hk : k ≤ 10000000) (h : w.ownsRow B 36 6 v n (marksI (n * 6) k)) :
    Calls Tryz.prog 9 #[v, .int .i64 k] w fun r w' => r = .returned (.int .i64 ((k + n * 6 : Nat) : Int)) ∧ w' = w := by
  obtain ⟨a, cap, rfl, hc⟩ : ∃ a cap, v = .slice a n cap ∧ ∀ j, j < n * 6 → ∃ g, a = some ⟨g, 0, none⟩ ∧ w.cell? ⟨g, j, none⟩ = some (.int .i64 ((k + j : Nat) : Int)) := by
    rcases h.2 with ⟨rfl, rfl⟩ | ⟨g, cap, cur, rfl, hg, hh, _⟩
    · exact ⟨none, 0, rfl, fun j hj => by omega⟩
    · refine ⟨_, cap, rfl, fun j hj => ⟨g, rfl, ?_⟩⟩
      have := h.cells (g := g) rfl j _ (marksI_get hj)
      rw [Addr.add_mid] at this
      simpa using this
  clear h
  go_enter Tryz.func9, Tryz.ntmps9
  go_wp2_with fail
  go_loopw [1, 5] (fun u i wr => ∃ j : Nat, j ≤ n ∧ i = .int .i64 j ∧ u = .int .i64 ((k : Int) + j * 6) ∧ wr = w) (fun _ i _ => n - (intOf i).toNat)
  case atStart => exact ⟨0, by omega, rfl, by simp, rfl⟩
  case round =>
    obtain ⟨j, hj, rfl, rfl, rfl⟩ := hrel
    by_cases hlt : j < n
    · obtain ⟨g, rfl, d0⟩ := hc (j * 6) (by omega)
      obtain ⟨g1, hg1, d1⟩ := hc (j * 6 + 1) (by omega)
      obtain rfl : g = g1 := by simpa using hg1
      obtain ⟨g2, hg2, d2⟩ := hc (j * 6 + 2) (by omega)
      obtain rfl : g = g2 := by simpa using hg2
      obtain ⟨g3, hg3, d3⟩ := hc (j * 6 + 3) (by omega)
      obtain rfl : g = g3 := by simpa using hg3
      obtain ⟨g4, hg4, d4⟩ := hc (j * 6 + 4) (by omega)
      obtain rfl : g = g4 := by simpa using hg4
      obtain ⟨g5, hg5, d5⟩ := hc (j * 6 + 5) (by omega)
      obtain rfl : g = g5 := by simpa using hg5
      have hij : (j : Int) < (n : Int) := by omega
      clear hg1 hg2 hg3 hg4 hg5
      rw [show ((k + j * 6 : Nat) : Int) = (k : Int) + j * 6 by omega] at d0
      rw [show ((k + (j * 6 + 1) : Nat) : Int) = (k : Int) + j * 6 + 1 by omega] at d1
      rw [show ((k + (j * 6 + 2) : Nat) : Int) = (k : Int) + j * 6 + 1 + 1 by omega] at d2
      rw [show ((k + (j * 6 + 3) : Nat) : Int) = (k : Int) + j * 6 + 1 + 1 + 1 by omega] at d3
      rw [show ((k + (j * 6 + 4) : Nat) : Int) = (k : Int) + j * 6 + 1 + 1 + 1 + 1 by omega] at d4
      rw [show ((k + (j * 6 + 5) : Nat) : Int) = (k : Int) + j * 6 + 1 + 1 + 1 + 1 + 1 by omega] at d5
      go_wp2_with fail
      go_roundw
      case rel => exact ⟨j + 1, by omega, by go_num, by go_num, trivial⟩
      case measure => simp [intOf]; omega
    · obtain rfl : j = n := by omega
      go_wp2_with fail
      go_ret
      exact ⟨by congr 1, rfl⟩
end Go.Proofs.YtgplgbiddnealaaGreatDoor

