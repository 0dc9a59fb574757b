/-
  RunTurns: the program's, the specification's.
-/
import Derived.Test.YtdfgimmnmfdegaaEvData
import Derived.Deep.Cut
import Derived.Deep.LoopGhost
namespace Go.Proofs.Ytdfgimmnmfdegaa
open Go.RowKit

/-- The first n picks of all processes in turn. -/
def turnL (n : Nat) : List Ev := (List.range n).map fun i => ⟨1, ((i % 6 : Nat) : Int)⟩
theorem turnL_length (n : Nat) : (turnL n).length = n := by simp [turnL]
theorem turnL_next (k j : Nat) (h : j < 6) : turnL (k * 6 + j + 1) = turnL (k * 6 + j) ++ [⟨1, (j : Int)⟩] := by
  have h6 : (((k * 6 + j) % 6 : Nat) : Int) = (j : Int) := by omega
  rw [turnL, List.range_succ, List.map_append, List.map_singleton, h6]
  rfl
/-- How many picks so many rounds are. -/
def turnsM (r : Int) : Nat := if 0 ≤ r ∧ r ≤ 20 then r.toNat * 6 else 0
theorem turnsM_le (r : Int) : turnsM r ≤ 120 := by unfold turnsM; split <;> omega
/-- How RunTurns ends. -/
def Turned (w w' : World) (n : Nat) (r : Ending) : Prop := ∃ v, r = .returned v ∧ OwnR 2 Ev.cells 29 w' w.heap.size (turnL n) v ∧ Below w.heap.size w w'

theorem evInfo : (Try.prog.info? 29).map (fun i => (i.zero, i.size, i.bytes)) = some (some (.agg #[.int .i64 0, .int .i64 0]), 2, 16) := by kernel_rfl
theorem tu_snoc {w : World} {B k j : Nat} {v : Value} (hj : j < 6) (h : w.ownsRow B 29 2 v (k * 6 + j + 1) ((turnL (k * 6 + j)).flatMap Ev.cells ++ [.int .i64 1, .int .i64 (j : Int)])) : w.ownsRow B 29 2 v (k * 6 + (j + 1)) ((turnL (k * 6 + (j + 1))).flatMap Ev.cells) := by
  rw [show k * 6 + (j + 1) = k * 6 + j + 1 by omega, turnL_next k j hj, List.flatMap_append]
  simpa [Ev.cells] using h
theorem tu_own {w : World} {B n : Nat} {v : Value} (h : w.ownsRow B 29 2 v n ((turnL n).flatMap Ev.cells)) : OwnR 2 Ev.cells 29 w B (turnL n) v := by
  unfold OwnR; rw [turnL_length]; exact h
theorem tu_one (j : Int) : ∀ u ∈ [Value.int .i64 1, .int .i64 j], u.oneCell' = true := fun u hu => by
  simp only [List.mem_cons, List.not_mem_nil, or_false] at hu
  rcases hu with rfl | rfl <;> rfl

set_option maxHeartbeats 1000000 in
theorem impl_RunTurns (r : Int) (w : World) : Calls Try.prog 5 #[.int .i64 r] w fun e w' => Turned w w' (turnsM r) e := by
  obtain ⟨i0, hi, hz0, hz1, hz2⟩ := info_parts evInfo
  by_cases h0 : r < 0
  · have hm : turnsM r = 0 := by unfold turnsM; rw [if_neg (by omega)]
    rw [hm]
    go_enter Try.func5, Try.ntmps5
    go_wp2_with fail
    go_ret
    exact ⟨_, rfl, OwnR.nil, Below.refl _ _⟩
  by_cases h20 : 20 < r
  · have hm : turnsM r = 0 := by unfold turnsM; rw [if_neg (by omega)]
    rw [hm]
    go_enter Try.func5, Try.ntmps5
    go_wp2_with fail
    go_ret
    exact ⟨_, rfl, OwnR.nil, Below.refl _ _⟩
  obtain ⟨m, rfl⟩ : ∃ m : Nat, r = (m : Int) := ⟨r.toNat, by omega⟩
  have HM : Hid (turnsM (m : Int) = m * 6) := by show _ = _; unfold turnsM; rw [if_pos (by omega)]; simp
  have hm20 : m ≤ 20 := by omega
  clear h0 h20
  go_enter Try.func5, Try.ntmps5
  go_wp2_with fail
  go_loopg [3, 12] m (fun g v i wr => ∃ k : Nat, k + g = m ∧ i = .int .i64 k ∧ wr.ownsRow w.heap.size 29 2 v (k * 6) ((turnL (k * 6)).flatMap Ev.cells) ∧ Below w.heap.size w wr)
  case atStart => exact ⟨0, by omega, rfl, World.ownsRow_nil _ _ _ _, Below.refl _ _⟩
  case round =>
    obtain ⟨k, hk, rfl, hO, hB⟩ := hrel
    by_cases hlt : k < m
    · have hkm : (k : Int) < (m : Int) := by omega
      go_wp2_with fail
      go_loopg [3, 14] 6 (fun g v i wr => ∃ j : Nat, j + g = 6 ∧ i = .int .i64 j ∧ wr.ownsRow w.heap.size 29 2 v (k * 6 + j) ((turnL (k * 6 + j)).flatMap Ev.cells) ∧ Below w.heap.size w wr)
      case atStart => exact ⟨0, by omega, rfl, hO, hB⟩
      case round =>
        obtain ⟨j, hj, rfl, hO2, hB2⟩ := hrel
        have hz := hB2.size
        by_cases hlt2 : j < 6
        · have hj6 : (j : Int) < 6 := by omega
          go_wp2_with (at_builtin; refine wpList_append_own _ rfl _ _ 22 rfl w.heap.size 29 i0 (.agg #[.int .i64 0, .int .i64 0]) 2 16 Try.underlying22 hi hz0 hz1 hz2 rfl (by decide) _ _ _ rfl (hO2.alloc _) ⟨wr.heap.size, 0, none⟩ 1 1 [.int .i64 1, .int .i64 (j : Int)] rfl rfl (ow_cells_new _ _ _) (tu_one j) (by unfold maxLen; omega) (by omega) (by simp; omega) ?_; intro v5 w5 hown5 hgrow5 hnil5)
          go_roundg (6 - (j + 1))
          case measure => omega
          case rel => exact ⟨j + 1, by omega, by go_num, tu_snoc hlt2 hown5, (hB2.alloc hz _).grown hgrow5 (by simp; omega) (fun b hb => (hO2.lt b hb).1)⟩
        · obtain rfl : j = 6 := by omega
          go_wp2_with fail
          go_roundg (m - (k + 1))
          case measure => omega
          case rel => exact ⟨k + 1, by omega, by go_num, by rw [Nat.succ_mul]; exact hO2, hB2⟩
    · obtain rfl : k = m := by omega
      go_wp2_with fail
      go_ret
      exact ⟨_, rfl, by rw [HM.out]; exact tu_own hO, hB⟩

set_option maxHeartbeats 1000000 in
theorem spec_l9Turns (m : Nat) (hm20 : m ≤ 20) (w : World) : Calls Try.prog 10 #[.int .i64 m] w fun e w' => Turned w w' (m * 6) e := by
  obtain ⟨i0, hi, hz0, hz1, hz2⟩ := info_parts evInfo
  go_enter Try.func10, Try.ntmps10
  go_wp2_with fail
  go_loopg [3, 4] m (fun g v i wr => ∃ k : Nat, k + g = m ∧ i = .int .i64 k ∧ wr.ownsRow w.heap.size 29 2 v (k * 6) ((turnL (k * 6)).flatMap Ev.cells) ∧ Below w.heap.size w wr)
  case atStart => exact ⟨0, by omega, rfl, World.ownsRow_made _ _ _ (Nat.le_refl _) (Nat.zero_le _) rfl, (Below.refl _ _).alloc (Nat.le_refl _) _⟩
  case round =>
    obtain ⟨k, hk, rfl, hO, hB⟩ := hrel
    by_cases hlt : k < m
    · have hkm : (k : Int) < (m : Int) := by omega
      go_wp2_with fail
      go_loopg [3, 5] 6 (fun g v i wr => ∃ j : Nat, j + g = 6 ∧ i = .int .i64 j ∧ wr.ownsRow w.heap.size 29 2 v (k * 6 + j) ((turnL (k * 6 + j)).flatMap Ev.cells) ∧ Below w.heap.size w wr)
      case atStart => exact ⟨0, by omega, rfl, hO, hB⟩
      case round =>
        obtain ⟨j, hj, rfl, hO2, hB2⟩ := hrel
        have hz := hB2.size
        by_cases hlt2 : j < 6
        · have hj6 : (j : Int) < 6 := by omega
          go_wp2_with (at_builtin; refine wpList_append_own _ rfl _ _ 22 rfl w.heap.size 29 i0 (.agg #[.int .i64 0, .int .i64 0]) 2 16 Try.underlying22 hi hz0 hz1 hz2 rfl (by decide) _ _ _ rfl (hO2.alloc _) ⟨wr.heap.size, 0, none⟩ 1 1 [.int .i64 1, .int .i64 (j : Int)] rfl rfl (ow_cells_new _ _ _) (tu_one j) (by unfold maxLen; omega) (by omega) (by simp; omega) ?_; intro v5 w5 hown5 hgrow5 hnil5)
          go_roundg (6 - (j + 1))
          case measure => omega
          case rel => exact ⟨j + 1, by omega, by go_num, tu_snoc hlt2 hown5, (hB2.alloc hz _).grown hgrow5 (by simp; omega) (fun b hb => (hO2.lt b hb).1)⟩
        · obtain rfl : j = 6 := by omega
          go_wp2_with fail
          go_roundg (m - (k + 1))
          case measure => omega
          case rel => exact ⟨k + 1, by omega, by go_num, by rw [Nat.succ_mul]; exact hO2, hB2⟩
    · obtain rfl : k = m := by omega
      go_wp2_with fail
      go_ret
      exact ⟨_, rfl, tu_own hO, hB⟩

set_option maxHeartbeats 400000 in
theorem tu_l1In (n a b : Int) (w : World) : Calls Try.prog 9 #[.int .i64 n, .int .i64 a, .int .i64 b] w fun r w' => r = .returned (.bool (decide (a ≤ n) && decide (n ≤ b))) ∧ w' = w := by
  by_cases h1 : a ≤ n
  · by_cases h2 : n ≤ b
    all_goals
      go_enter Try.func9, Try.ntmps9
      go_wp2_with fail
      go_ret
      exact ⟨by simp [h1, h2], rfl⟩
  · go_enter Try.func9, Try.ntmps9
    go_wp2_with fail
    go_ret
    exact ⟨by rw [decide_eq_false (by omega : ¬ a ≤ n)]; rfl, rfl⟩

set_option maxHeartbeats 400000 in
theorem spec_RunTurns (r : Int) (w : World) : Calls Try.prog 4 #[.int .i64 r] w fun e w' => Turned w w' (turnsM r) e := by
  by_cases h : 0 ≤ r ∧ r ≤ 20
  · obtain ⟨m, rfl⟩ : ∃ m : Nat, r = (m : Int) := ⟨r.toNat, by omega⟩
    have HM : Hid (turnsM (m : Int) = m * 6) := by show _ = _; unfold turnsM; rw [if_pos (by omega)]; simp
    have hb : (decide ((0 : Int) ≤ (m : Int)) && decide ((m : Int) ≤ 20)) = true := by simp; omega
    have hm20 : m ≤ 20 := by omega
    go_enter Try.func4, Try.ntmps4
    go_wp2_with (first
      | (go_at_call 9; refine (tu_l1In _ _ _ _).mono ?_; rintro r w2 ⟨rfl, rfl⟩; rw [hb])
      | (go_at_call 10; refine (spec_l9Turns m hm20 _).mono ?_; rintro r w2 ⟨v, rfl, hO, hB⟩))
    go_ret
    exact ⟨_, rfl, by rw [HM.out]; exact hO, hB⟩
  · have hm : turnsM r = 0 := by unfold turnsM; rw [if_neg h]
    have hb : (decide (0 ≤ r) && decide (r ≤ 20)) = false := by simp; omega
    rw [hm]
    go_enter Try.func4, Try.ntmps4
    go_wp2_with (go_at_call 9; refine (tu_l1In _ _ _ _).mono ?_; rintro r w2 ⟨rfl, rfl⟩; rw [hb])
    go_ret
    exact ⟨_, rfl, OwnR.nil, Below.refl _ _⟩

theorem tu_next {w w2 w3 : World} (h1 : Below w.heap.size w w2) (h2 : Below w2.heap.size w2 w3) : Below w.heap.size w w3 := h1.trans (h2.mono h1.size)
theorem tu_row {w : World} {B : Nat} {l : List Ev} {v : Value} (h : OwnR 2 Ev.cells 29 w B l v) : RowOf 2 Ev.cells w (· < w.heap.size) l v := (h.row Ev.len).same fun _ hb => ⟨rfl, hb.2⟩
end Go.Proofs.Ytdfgimmnmfdegaa
