/-
  The law's own eqIntS, markIntS, heldIntS.
-/
import Derived.Test.YtlochgcicoaaaaaRows
import Derived.Test.YtlochgcicoaaaaaOwRow
import Derived.Test.YtlochgcicoaaaaaHrMath
import Derived.WalkKit
import Derived.WalkSpells
import Derived.WalkLawsBesides
import Derived.RowKit3
import Derived.Deep.QuietTactic
import Derived.BigQuiet
import Derived.Deep.LoopGhost
namespace Go.Proofs.Ytlochgcicoaaaaa
open Go.RowKit

/-- Numbers lie in w as v, in a block of the law's own from lo to hi. -/
def OwnI (w : World) (lo hi : Nat) (l : List Nat) (v : Value) : Prop := w.ownsRow lo 3 1 v l.length (natsV l) ∧ ∀ k, v.ownBlock = some k → k < hi
theorem OwnI.keep {w w' : World} {lo hi : Nat} {l : List Nat} {v : Value} (h : OwnI w lo hi l v) (hb : Below w.heap.size w w') : OwnI w' lo hi l v := ⟨ow_keep h.1 hb, h.2⟩
theorem OwnI.but {w w' : World} {lo hi : Nat} {l : List Nat} {v u : Value} (h : OwnI w lo hi l v) (hg : w.grownBy w' u.ownBlock) (hu : ∀ k, u.ownBlock = some k → v.ownBlock ≠ some k) : OwnI w' lo hi l v := by
  refine ⟨h.1.kept hg ?_, h.2⟩
  cases hv : v.ownBlock with
  | none => exact Or.inl rfl
  | some k => exact Or.inr fun e => hu k e.symm hv
theorem own_at {w : World} {lo n : Nat} {e : TypeId} {v : Value} {xs : List Value} (h : w.ownsRow lo e 1 v n xs) : ∃ a cap, v = .slice a n cap ∧ ∀ j (hj : j < xs.length), ∃ g, a = some ⟨g, 0, none⟩ ∧ w.cell? ⟨g, j, none⟩ = some xs[j] := by
  have hx := h.1
  rcases h.2 with ⟨rfl, rfl⟩ | ⟨g, cap, cur, rfl, hg, hh, _⟩
  · exact ⟨none, 0, rfl, fun j hj => by omega⟩
  · refine ⟨_, cap, rfl, fun j hj => ⟨g, rfl, ?_⟩⟩
    exact (ow_cell h j hj).1

set_option maxHeartbeats 1000000 in
theorem law_eqIntS (l : List Nat) (hl : l.length ≤ 1000000) (v1 v2 : Value) (w : World) (lo1 hi1 lo2 hi2 : Nat) (h1 : OwnI w lo1 hi1 l v1) (h2 : OwnI w lo2 hi2 l v2) :
    Calls Try.prog 8 #[v1, v2] w fun r w' => r = .returned (.bool true) ∧ Below w.heap.size w w' := by
  obtain ⟨a1, cap1, rfl, hc1⟩ := own_at h1.1
  obtain ⟨a2, cap2, rfl, hc2⟩ := own_at h2.1
  have hn := natsV_length l
  go_enter Try.func8, Try.ntmps8
  go_wp2_with fail
  go_loopg [5] l.length (fun g i wr => ∃ k : Nat, k + g = l.length ∧ i = .int .i64 k ∧ ∃ n, wr = w.drewN n)
  case atStart => exact ⟨0, by omega, rfl, 0, rfl⟩
  case round =>
    obtain ⟨k, hk, rfl, n, rfl⟩ := hrel
    by_cases hlt : k < l.length
    · obtain ⟨g1, rfl, d1⟩ := hc1 k (by omega)
      obtain ⟨g2, rfl, d2⟩ := hc2 k (by omega)
      have hi : (k : Int) < (l.length : Int) := by omega
      have e0 : (natsV l)[k]'(by omega) = .int .i64 (l[k] : Int) := by simp [natsV]
      rw [e0] at d1 d2
      clear e0
      generalize (l[k] : Int) = m at d1 d2
      have e1 : (w.drewN n).cell? ⟨g1, k, none⟩ = some (.int .i64 m) := d1
      have e2 : (w.drewN n).cell? ⟨g2, k, none⟩ = some (.int .i64 m) := d2
      go_wp2_with fail
      go_quiet (fail)
      go_wp2_with fail
      go_roundg (l.length - (k + 1))
      case measure => omega
      case rel => exact ⟨k + 1, by omega, by go_num, n + _, rfl⟩
    · obtain rfl : k = l.length := by omega
      have hi : ¬ (l.length : Int) < (l.length : Int) := by omega
      go_wp2_with fail
      go_ret
      exact ⟨rfl, ⟨rfl, rfl, rfl, Nat.le_refl _, fun _ _ => rfl⟩⟩

set_option maxHeartbeats 2000000 in
theorem law_markIntS (n : Nat) (xs : List Value) (v : Value) (w : World) (B k : Nat) (hn : n ≤ 1100000) (hk : k ≤ 10000000) (h : w.ownsRow B 3 1 v n xs) :
    Calls Try.prog 11 #[v, .int .i64 k] w fun r w' => r = .returned (.int .i64 ((k + n : Nat) : Int)) ∧ w'.ownsRow B 3 1 v n (marksI n k) ∧ w.grownBy w' v.ownBlock := by
  have hx := h.1
  rw [Nat.mul_one] at hx
  rcases h.2 with ⟨rfl, rfl⟩ | ⟨g, cap, cur, rfl, hg, hh, _⟩
  · have hx0 : xs = [] := List.length_eq_zero_iff.1 (by simpa using hx)
    subst hx0
    go_enter Try.func11, Try.ntmps11
    go_wp2_with fail
    go_loopw [1, 5] (fun u i wr => i = .int .i64 0 ∧ u = .int .i64 k ∧ wr = w) (fun _ _ _ => 0)
    case atStart => exact ⟨rfl, rfl, rfl⟩
    case round =>
      obtain ⟨rfl, rfl, rfl⟩ := hrel
      go_wp2_with fail
      go_ret
      exact ⟨by simp, by simpa [marksI] using h, World.grownBy.refl _ _⟩
  · go_enter Try.func11, Try.ntmps11
    go_wp2_with fail
    go_loopw [1, 5] (fun u i wr => ∃ j : Nat, j ≤ n ∧ i = .int .i64 j ∧ u = .int .i64 ((k : Int) + j) ∧ wr.ownsRow B 3 1 (.slice (some ⟨g, 0, none⟩) n cap) n (marksIn xs k j) ∧ w.grownBy wr (some g)) (fun _ i _ => n - (intOf i).toNat)
    case atStart => exact ⟨0, by omega, rfl, by simp, by rw [marksIn_zero]; exact h, World.grownBy.refl _ _⟩
    case round =>
      obtain ⟨j, hj, rfl, rfl, hO, hG⟩ := hrel
      by_cases hlt : j < n
      · have H1 : Hid ((marksIn xs k j).set j (.int .i64 ((k : Int) + j)) = marksIn xs k (j + 1)) := by
          show _ = _
          rw [show (k : Int) + j = ((k + j : Nat) : Int) by omega, marksIn_next xs k _ (by omega)]
        have hij : (j : Int) < (n : Int) := by omega
        have hl := marksIn_length xs k j (by omega)
        obtain ⟨c0, f0⟩ := ow_cell hO j (by omega)
        generalize (marksIn xs k j)[j] = u100 at c0
        have hO' := fun a0 => ow_set hO j a0
        have hG' := fun a0 => ow_grown_trans hG (ow_but_set wr g j a0)
        clear hl
        go_wp2_with fail
        go_roundw
        case rel => exact ⟨j + 1, by omega, by go_num, by go_num, by rw [← H1.out]; exact hO' _, hG' _⟩
        case measure => simp [intOf]; omega
      · obtain rfl : j = n := by omega
        go_wp2_with fail
        go_ret
        exact ⟨by congr 1, by rw [← hx, ← marksIn_end, hx]; exact hO, hG⟩

set_option maxHeartbeats 2000000 in
theorem law_heldIntS (n k : Nat) (v : Value) (w : World) (B : Nat) (hn : n ≤ 1100000) (hk : k ≤ 10000000) (h : w.ownsRow B 3 1 v n (marksI n k)) :
    Calls Try.prog 12 #[v, .int .i64 k] w fun r w' => r = .returned (.int .i64 ((k + n : Nat) : Int)) ∧ w' = w := by
  obtain ⟨a, cap, rfl, hc0⟩ := own_at h
  have hc : ∀ j, j < n → ∃ g, a = some ⟨g, 0, none⟩ ∧ w.cell? ⟨g, j, none⟩ = some (.int .i64 ((k : Int) + j)) := fun j hj => by
    obtain ⟨g, hg, he⟩ := hc0 j (by rw [marksI_length]; exact hj)
    refine ⟨g, hg, ?_⟩
    rw [he]
    simp [marksI]
  clear h hc0
  go_enter Try.func12, Try.ntmps12
  go_wp2_with fail
  go_loopw [1, 5] (fun u i wr => ∃ j : Nat, j ≤ n ∧ i = .int .i64 j ∧ u = .int .i64 ((k : Int) + j) ∧ wr = w) (fun _ i _ => n - (intOf i).toNat)
  case atStart => exact ⟨0, by omega, rfl, by simp, rfl⟩
  case round =>
    obtain ⟨j, hj, rfl, rfl, rfl⟩ := hrel
    by_cases hlt : j < n
    · obtain ⟨g, rfl, d0⟩ := hc j hlt
      have hij : (j : Int) < (n : Int) := by omega
      go_wp2_with fail
      go_roundw
      case rel => exact ⟨j + 1, by omega, by go_num, by go_num, trivial⟩
      case measure => simp [intOf]; omega
    · obtain rfl : j = n := by omega
      go_wp2_with fail
      go_ret
      exact ⟨by congr 1, rfl⟩
end Go.Proofs.Ytlochgcicoaaaaa
