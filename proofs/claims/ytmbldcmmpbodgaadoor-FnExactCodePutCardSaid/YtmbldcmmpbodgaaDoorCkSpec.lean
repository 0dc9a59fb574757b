/-
  The specification's l1In, l6Fits, l6Moves.
-/
import Derived.Test.YtmbldcmmpbodgaaDoorCkDeed
import Derived.Deep.QuietTactic
import Derived.BigQuiet
namespace Go.Proofs.YtmbldcmmpbodgaaDoor
open Go.RowKit

theorem ck_l1In (x lo hi : Int) (w : World) : Calls Tryd.prog 16 #[.int .i64 x, .int .i64 lo, .int .i64 hi] w fun r w' => r = .returned (.bool (decide (lo ≤ x ∧ x ≤ hi))) ∧ w = w' := by
  by_cases h1 : lo ≤ x
  · rw [show decide (lo ≤ x ∧ x ≤ hi) = decide (x ≤ hi) from by simp [h1]]
    go_enter Tryd.func16, Tryd.ntmps16
    go_wp2_with fail
    go_ret
    exact ⟨rfl, rfl⟩
  · rw [decide_eq_false (fun h => h1 h.1)]
    go_enter Tryd.func16, Tryd.ntmps16
    go_wp2_with fail
    go_ret
    exact ⟨rfl, rfl⟩
theorem fits_some (k n size lo hi : Int) (hk : 1 ≤ k ∧ k ≤ 24) (h1 : leastM k = lo) (h2 : mostM k size = hi) : fitsM ⟨k, n⟩ size = (decide (lo ≤ n) && decide (n ≤ hi)) := by
  unfold fitsM
  show decide (1 ≤ k ∧ k ≤ 24 ∧ leastM k ≤ n ∧ n ≤ mostM k size) = _
  rw [h1, h2]
  simp [hk]
set_option maxHeartbeats 4000000 in
theorem spec_l6Fits (op : Wd) (size : Int) (hz : 1 ≤ size ∧ size ≤ 1048576) (w : World) :
    Calls Tryd.prog 15 #[.agg #[.int .i64 op.tag, .int .i64 op.num], .int .i64 size] w fun r w' => r = .returned (.bool (fitsM op size)) ∧ Below w.heap.size w w' := by
  obtain ⟨k, n⟩ := op
  have wr : IntKind.i64.wrap (size - 1) = size - 1 := ck_wr _ (by omega) (by omega)
  have hc : (k = 1 ∨ k = 2 ∨ k = 3 ∨ k = 4 ∨ k = 5 ∨ k = 9 ∨ k = 10 ∨ k = 16 ∨ k = 8 ∨ k = 17) ∨ ¬ (k = 1 ∨ k = 2 ∨ k = 3 ∨ k = 4 ∨ k = 5 ∨ k = 9 ∨ k = 10 ∨ k = 16 ∨ k = 8 ∨ k = 17) := Decidable.em _
  rcases hc with (rfl | rfl | rfl | rfl | rfl | rfl | rfl | rfl | rfl | rfl) | h
  case inr =>
    have n1 : k ≠ 1 := by omega
    have n2 : k ≠ 2 := by omega
    have n3 : k ≠ 3 := by omega
    have n4 : k ≠ 4 := by omega
    have n5 : k ≠ 5 := by omega
    have n9 : k ≠ 9 := by omega
    have n10 : k ≠ 10 := by omega
    have n16 : k ≠ 16 := by omega
    have n8 : k ≠ 8 := by omega
    have n17 : k ≠ 17 := by omega
    clear h
    by_cases hk : 1 ≤ k ∧ k ≤ 24
    · have hl : leastM k = 0 := by
        unfold leastM
        rw [if_neg (by omega), if_neg (by omega)]
      have hm : mostM k size = 0 := by
        unfold mostM
        rw [if_neg (by omega), if_neg (by omega), if_neg (by omega), if_neg (by omega), if_neg (by omega), if_neg (by omega)]
      have hI := fun w => ck_l1In k 1 24 w
      rw [decide_eq_true hk] at hI
      rw [fits_some k n size 0 0 hk hl hm]
      have hR : Hid ((decide ((0 : Int) ≤ n) && decide (n ≤ 0)) = (n == 0)) := by
        show _ = _
        by_cases e : n = 0
        · subst e; rfl
        · rw [← Bool.decide_and, decide_eq_false (by omega)]
          symm
          simpa using e
      clear hl hm hk
      go_enter Tryd.func15, Tryd.ntmps15
      go_wp2_with (go_at_call 16; refine (hI _).mono ?_; rintro r w2 ⟨rfl, rfl⟩)
      go_ret
      exact ⟨by rw [hR.out]; rfl, (Below.refl _ _).alloc (Nat.le_refl _) _⟩
    · have hI := fun w => ck_l1In k 1 24 w
      rw [decide_eq_false hk] at hI
      rw [show fitsM ⟨k, n⟩ size = false from by unfold fitsM; rw [decide_eq_false (fun h => hk ⟨h.1, h.2.1⟩)]]
      clear hk
      go_enter Tryd.func15, Tryd.ntmps15
      go_wp2_with (go_at_call 16; refine (hI _).mono ?_; rintro r w2 ⟨rfl, rfl⟩)
      go_ret
      exact ⟨rfl, (Below.refl _ _).alloc (Nat.le_refl _) _⟩
  all_goals
    rw [fits_some _ n size _ _ (by omega) rfl rfl]
    go_enter Tryd.func15, Tryd.ntmps15
    go_wp2_with (go_at_call 16; refine (ck_l1In _ _ _ _).mono ?_; rintro r w2 ⟨rfl, rfl⟩)
    go_ret
    exact ⟨rfl, (Below.refl _ _).alloc (Nat.le_refl _) _⟩
/-- How many names come or go. -/
def movesM (op : Wd) : Int := if op.tag = 7 then 1 else if op.tag = 8 then -op.num else 0
set_option maxHeartbeats 4000000 in
theorem spec_l6Moves (op : Wd) (hk : 1 ≤ op.tag ∧ op.tag ≤ 24) (hn : 0 ≤ op.num ∧ op.num ≤ 1048576) (w : World) :
    Calls Tryd.prog 28 #[.agg #[.int .i64 op.tag, .int .i64 op.num]] w fun r w' => r = .returned (.tuple #[.int .i64 (takesM op.tag), .int .i64 (putsM op.tag), .int .i64 (movesM op)]) ∧ Below w.heap.size w w' := by
  obtain ⟨k, n⟩ := op
  simp only at hk hn ⊢
  have wr : IntKind.i64.wrap (-n) = -n := ck_wr _ (by omega) (by omega)
  rcases code_cases k hk with (rfl | rfl | rfl | rfl | rfl | rfl | rfl | rfl | rfl | rfl | rfl | rfl | rfl | rfl | rfl | rfl | rfl | rfl | rfl | rfl | rfl | rfl | rfl | rfl)
  case inr.inr.inr.inr.inr.inr.inr.inl =>
    go_enter Tryd.func28, Tryd.ntmps28
    go_wp2_with fail
    go_quiet (fail)
    go_wp2_with fail
    have hM : Below w.heap.size w (w.alloc (.cells #[.int .i64 8, .int .i64 n] 31)) := (Below.refl _ _).alloc (Nat.le_refl _) _
    exact bodyPost_ret (v := .tuple #[.int .i64 (takesM 8), .int .i64 (putsM 8), .int .i64 (movesM ⟨8, n⟩)]) (by simp [results, Tryd.results28, go_sem, takesM, putsM, movesM]) rfl ⟨rfl, ⟨hM.os, hM.tape, hM.output, hM.size, hM.block⟩⟩
  all_goals
    go_enter Tryd.func28, Tryd.ntmps28
    go_wp2_with fail
    exact bodyPost_ret (v := .tuple #[.int .i64 (takesM _), .int .i64 (putsM _), .int .i64 (movesM ⟨_, n⟩)]) (by simp [results, Tryd.results28, go_sem, takesM, putsM, movesM]) rfl ⟨rfl, (Below.refl _ _).alloc (Nat.le_refl _) _⟩
end Go.Proofs.YtmbldcmmpbodgaaDoor
