/-
  The law's own szOpS, toOpS, eqOpS, and toOp, eqOp: a row of ops (two numbers each, as a word).
  The law's own markOpS, heldOpS.
-/
import Derived.Test.YtaagnifagahgfaaDoorLgAll3
import Derived.Test.YtaagnifagahgfaaDoorRows
import Derived.WalkKit
import Derived.WalkSpells
import Derived.WalkLawsBesides
import Derived.RowKit3
import Derived.Deep.RegionWith
import Derived.Test.YtaagnifagahgfaaDoorLgAll2
namespace Go.Proofs.YtaagnifagahgfaaDoor
open Go.RowKit

/-- How many are left: below 0, or no more than there were. -/
def LeftO (n l : Nat) (r : Ending) : Prop := ∃ m : Int, r = .returned (.int .i64 m) ∧ m ≤ n ∧ (0 ≤ m → m = (n : Int) - l)

set_option maxHeartbeats 400000 in
theorem law_eqOp (t n : Int) (w : World) : Calls Tryd.prog 20 #[.agg #[.int .i64 t, .int .i64 n], .agg #[.int .i64 t, .int .i64 n]] w fun r w' => r = .returned (.bool true) ∧ Below w.heap.size w w' := by
  go_enter Tryd.func20, Tryd.ntmps20
  go_wp2_with fail
  go_ret
  exact ⟨rfl, ((Below.refl _ _).alloc (Nat.le_refl _) _).alloc (by simp) _⟩

set_option maxHeartbeats 400000 in
theorem law_eqOpS (cs : List Wd) (hlen : cs.length ≤ 1048576) (w : World) (v1 v2 : Value) (hv1 : Words w (· < w.heap.size) cs v1) (hv2 : Words w (· < w.heap.size) cs v2) :
    Calls Tryd.prog 6 #[v1, v2] w fun r w' => r = .returned (.bool true) ∧ Below w.heap.size w w' := by
  obtain ⟨a1, cap1, rfl⟩ := hv1.slice
  obtain ⟨a2, cap2, rfl⟩ := hv2.slice
  go_enter Tryd.func6, Tryd.ntmps6
  go_wp2_with fail
  go_loopw [5] (fun i wr => ∃ (k : Nat), k ≤ cs.length ∧ i = .int .i64 k ∧ Below w.heap.size w wr) (fun i _ => cs.length - (intOf i).toNat)
  case atStart => exact ⟨0, by omega, rfl, Below.refl _ _⟩
  case round =>
    obtain ⟨k, hk, rfl, hb⟩ := hrel
    by_cases hlt : k < cs.length
    · obtain ⟨b1, off1, hS1, rfl, hr1⟩ := hv1.at k hlt
      obtain ⟨b2, off2, hS2, rfl, hr2⟩ := hv2.at k hlt
      obtain ⟨c0, c1⟩ := Wd.two (rw_same (hb.block b1 hS1) hr1)
      obtain ⟨d0, d1⟩ := Wd.two (rw_same (hb.block b2 hS2) hr2)
      clear hr1 hr2
      have hi : (k : Int) < (cs.length : Int) := by omega
      go_wp2_with fail
      go_region_with (go_at_call 20; refine (law_eqOp cs[k].tag cs[k].num _).mono ?_; rintro r w2 ⟨rfl, hb2⟩)
      all_goals
        go_wp2_with fail
        go_roundw
        case rel => exact ⟨k + 1, by omega, by go_num, hb.drew.trans (hb2.mono hb.size)⟩
        case measure => simp [intOf]; omega
    · go_wp2_with fail
      go_ret
      exact ⟨rfl, hb⟩
end Go.Proofs.YtaagnifagahgfaaDoor

namespace Go.Proofs.YtaagnifagahgfaaDoor
open Go.RowKit

set_option maxHeartbeats 1000000 in
theorem law_markOpS (n : Nat) (xs : List Value) (v : Value) (w : World) (B k : Nat) (hn : n ≤ 1000000) (hk : k ≤ 1000000) (h : w.ownsRow B 33 2 v n xs) :
    Calls Tryd.prog 7 #[v, .int .i64 k] w fun r w' => MarkedI 33 2 w w' B n k v r := by
  have hx := h.1
  rcases h.2 with ⟨rfl, rfl⟩ | ⟨g, cap, cur, rfl, hg, hh, _⟩
  · have hx0 : xs = [] := List.length_eq_zero_iff.1 (by simpa using hx)
    subst hx0
    go_enter Tryd.func7, Tryd.ntmps7
    go_wp2_with fail
    go_loopw [1, 5] (fun u i wr => i = .int .i64 0 ∧ u = .int .i64 k ∧ wr = w) (fun _ _ _ => 0)
    case atStart => exact ⟨rfl, rfl, rfl⟩
    case round =>
      obtain ⟨rfl, rfl, rfl⟩ := hrel
      go_wp2_with fail
      go_ret
      exact ⟨by simp, by simpa [marksI] using h, World.grownBy.refl _ _⟩
  · go_enter Tryd.func7, Tryd.ntmps7
    go_wp2_with fail
    go_loopw [1, 5] (fun u i wr => ∃ j : Nat, j ≤ n ∧ i = .int .i64 j ∧ u = .int .i64 ((k : Int) + j * 2) ∧ wr.ownsRow B 33 2 (.slice (some ⟨g, 0, none⟩) n cap) n (marksIn xs k (j * 2)) ∧ w.grownBy wr (some g)) (fun _ i _ => n - (intOf i).toNat)
    case atStart => exact ⟨0, by omega, rfl, by simp, by rw [Nat.zero_mul, marksIn_zero]; exact h, World.grownBy.refl _ _⟩
    case round =>
      obtain ⟨j, hj, rfl, rfl, hO, hG⟩ := hrel
      by_cases hlt : j < n
      · have H1 : Hid (((marksIn xs k (j * 2)).set (j * 2) (.int .i64 ((k : Int) + j * 2))).set (j * 2 + 1) (.int .i64 ((k : Int) + j * 2 + 1)) = marksIn xs k ((j + 1) * 2)) := by
          show _ = _
          rw [show (k : Int) + j * 2 = ((k + j * 2 : Nat) : Int) by omega, marksIn_next xs k _ (by omega), show ((k + j * 2 : Nat) : Int) + 1 = ((k + (j * 2 + 1) : Nat) : Int) by omega, marksIn_next xs k _ (by omega), Nat.succ_mul]
        have hij : (j : Int) < (n : Int) := by omega
        have hl := marksIn_length xs k (j * 2) (by omega)
        obtain ⟨c1, f1⟩ := ow_cell hO (j * 2) (by omega)
        obtain ⟨c2, f2⟩ := ow_cell hO (j * 2 + 1) (by omega)
        generalize (marksIn xs k (j * 2))[j * 2] = u1 at c1
        generalize (marksIn xs k (j * 2))[j * 2 + 1] = u2 at c2
        have hO' := fun a b => ow_set (ow_set hO (j * 2) a) (j * 2 + 1) b
        have hG' := fun a b => ow_grown_trans hG (ow_grown_trans (ow_but_set wr g (j * 2) a) (ow_but_set _ g (j * 2 + 1) b))
        clear hl
        go_wp2_with fail
        go_roundw
        case rel => exact ⟨j + 1, by omega, by go_num, by go_num, by rw [← H1.out]; exact hO' _ _, hG' _ _⟩
        case measure => simp [intOf]; omega
      · obtain rfl : j = n := by omega
        go_wp2_with fail
        go_ret
        exact ⟨by congr 1, by rw [← hx, ← marksIn_end, hx]; exact hO, hG⟩

set_option maxHeartbeats 1000000 in
theorem law_heldOpS (n k : Nat) (v : Value) (w : World) (B : Nat) (hn : n ≤ 1000000) (hk : k ≤ 1000000) (h : w.ownsRow B 33 2 v n (marksI (n * 2) k)) :
    Calls Tryd.prog 8 #[v, .int .i64 k] w fun r w' => r = .returned (.int .i64 ((k + n * 2 : Nat) : Int)) ∧ Below w.heap.size w w' := by
  obtain ⟨a, cap, rfl, hc⟩ : ∃ a cap, v = .slice a n cap ∧ ∀ j, j < n * 2 → ∃ g, a = some ⟨g, 0, none⟩ ∧ w.cell? ⟨g, j, none⟩ = some (.int .i64 ((k + j : Nat) : Int)) := by
    rcases h.2 with ⟨rfl, rfl⟩ | ⟨g, cap, cur, rfl, hg, hh, _⟩
    · exact ⟨none, 0, rfl, fun j hj => by omega⟩
    · refine ⟨_, cap, rfl, fun j hj => ⟨g, rfl, ?_⟩⟩
      have := h.cells (g := g) rfl j _ (marksI_get hj)
      rw [Addr.add_mid] at this
      simpa using this
  clear h
  go_enter Tryd.func8, Tryd.ntmps8
  go_wp2_with fail
  go_loopw [1, 5] (fun u i wr => ∃ j : Nat, j ≤ n ∧ i = .int .i64 j ∧ u = .int .i64 ((k : Int) + j * 2) ∧ wr = w) (fun _ i _ => n - (intOf i).toNat)
  case atStart => exact ⟨0, by omega, rfl, by simp, rfl⟩
  case round =>
    obtain ⟨j, hj, rfl, rfl, rfl⟩ := hrel
    by_cases hlt : j < n
    · obtain ⟨g, rfl, d1⟩ := hc (j * 2) (by omega)
      obtain ⟨g', hg', d2⟩ := hc (j * 2 + 1) (by omega)
      obtain rfl : g = g' := by simpa using hg'
      have hij : (j : Int) < (n : Int) := by omega
      clear hg'
      rw [show ((k + j * 2 : Nat) : Int) = (k : Int) + j * 2 by omega] at d1
      rw [show ((k + (j * 2 + 1) : Nat) : Int) = (k : Int) + j * 2 + 1 by omega] at d2
      go_wp2_with fail
      go_roundw
      case rel => exact ⟨j + 1, by omega, by go_num, by go_num, trivial⟩
      case measure => simp [intOf]; omega
    · obtain rfl : j = n := by omega
      go_wp2_with fail
      go_ret
      exact ⟨by congr 1, Below.refl _ _⟩
end Go.Proofs.YtaagnifagahgfaaDoor

