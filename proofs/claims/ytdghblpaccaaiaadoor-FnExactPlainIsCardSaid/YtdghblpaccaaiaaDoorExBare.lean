/-
  The specification's l1Bare.
-/
import Derived.Test.YtdghblpaccaaiaaDoorExSpec
namespace Go.Proofs.YtdghblpaccaaiaaDoor
open Go.RowKit

/-- The world behind the specification's NameOk: at most one block more. -/
theorem below_words {w w' : World} (h : w = w' ∨ w' = w.alloc (.cells wordVals 9)) : Below w.heap.size w w' := by
  rcases h with rfl | rfl
  · exact Below.refl _ _
  · exact (Below.refl _ _).alloc (Nat.le_refl _) _

theorem bare0_a (k : Int) (a b : ByteArray) (u : Int) (hk : namesN k = 0) (h : ¬ a.toList = []) : bareC k a b u = false := by
  simp [bareC, namesC, hk, h]
theorem bare0_b (k : Int) (a b : ByteArray) (u : Int) (hk : namesN k = 0) (h : ¬ b.toList = []) : bareC k a b u = false := by
  simp [bareC, namesC, hk, h]
theorem bare0 (k : Int) (a b : ByteArray) (u : Int) (hk : namesN k = 0) (ha : a.toList = []) (hb : b.toList = []) : bareC k a b u = decide (leastN k ≤ u ∧ u ≤ mostN k) := by
  simp [bareC, namesC, hk, ha, hb]
theorem bare1_a (k : Int) (a b : ByteArray) (u : Int) (hk : namesN k = 1) (h : nameB a = false) : bareC k a b u = false := by
  simp [bareC, namesC, hk, h]
theorem bare1_b (k : Int) (a b : ByteArray) (u : Int) (hk : namesN k = 1) (h : ¬ b.toList = []) : bareC k a b u = false := by
  simp [bareC, namesC, hk, h]
theorem bare1 (k : Int) (a b : ByteArray) (u : Int) (hk : namesN k = 1) (ha : nameB a = true) (hb : b.toList = []) : bareC k a b u = decide (leastN k ≤ u ∧ u ≤ mostN k) := by
  simp [bareC, namesC, hk, ha, hb]
theorem bare2_a (k : Int) (a b : ByteArray) (u : Int) (hk : namesN k = 2) (h : nameB a = false) : bareC k a b u = false := by
  simp [bareC, namesC, hk, h]
theorem bare2_b (k : Int) (a b : ByteArray) (u : Int) (hk : namesN k = 2) (h : nameB b = false) : bareC k a b u = false := by
  simp [bareC, namesC, hk, h]
theorem bare2_c (k : Int) (a b : ByteArray) (u : Int) (hk : namesN k = 2) (h : (a.toList == b.toList) = true) : bareC k a b u = false := by
  rw [bareC, namesC, hk, h]; simp
theorem bare2 (k : Int) (a b : ByteArray) (u : Int) (hk : namesN k = 2) (ha : nameB a = true) (hb : nameB b = true) (hc : (a.toList == b.toList) = false) : bareC k a b u = decide (leastN k ≤ u ∧ u ≤ mostN k) := by
  rw [bareC, namesC, hk, ha, hb, hc]; simp

theorem in_and (a b u : Int) : (decide (a ≤ u) && decide (u ≤ b)) = decide (a ≤ u ∧ u ≤ b) := by simp
theorem in_zero (u : Int) : (u == 0) = decide (0 ≤ u ∧ u ≤ 0) := by
  rw [Bool.eq_iff_iff]; simp; omega

set_option maxHeartbeats 1000000 in
/-- Kinds with a number of their own. -/
theorem bare_num (k : Int) (hk : k = 1 ∨ k = 2 ∨ k = 15) (a b : ByteArray) (u : Int) (s : Value) (w : World) :
    Calls Tryd.prog 23 #[.agg #[.int .i64 k, .string a, .string b, .int .i64 u, s]] w fun r w' => r = .returned (.bool (bareC k a b u)) ∧ Below w.heap.size w w' := by
  rcases hk with rfl | rfl | rfl
  all_goals
    go_enter Tryd.func23, Tryd.ntmps23
    go_wp2_with (go_at_call 26; refine (spec_l1In _ _ _ _).mono ?_; rintro e w' ⟨rfl, rfl⟩)
    · go_ret
      exact ⟨ret_bool (by rw [bare0 _ a b u rfl ‹a.toList = []› ‹b.toList = []›]; exact in_and _ _ _), (Below.refl _ _).alloc (Nat.le_refl _) _⟩
    · go_ret
      exact ⟨ret_bool (bare0_b _ a b u rfl ‹¬ b.toList = []›).symm, (Below.refl _ _).alloc (Nat.le_refl _) _⟩
    · go_ret
      exact ⟨ret_bool (bare0_a _ a b u rfl ‹¬ a.toList = []›).symm, (Below.refl _ _).alloc (Nat.le_refl _) _⟩

set_option maxHeartbeats 1000000 in
/-- Kinds with neither names nor a number. -/
theorem bare_none (k : Int) (h1 : (k == 1) = false) (h2 : (k == 2) = false) (h3 : (k == 3) = false) (h4 : (k == 4) = false) (h6 : (k == 6) = false) (h7 : (k == 7) = false) (h14 : (k == 14) = false) (h15 : (k == 15) = false)
    (a b : ByteArray) (u : Int) (s : Value) (w : World) (hn : Hid (namesN k = 0 ∧ leastN k = 0 ∧ mostN k = 0)) :
    Calls Tryd.prog 23 #[.agg #[.int .i64 k, .string a, .string b, .int .i64 u, s]] w fun r w' => r = .returned (.bool (bareC k a b u)) ∧ Below w.heap.size w w' := by
  go_enter Tryd.func23, Tryd.ntmps23
  go_wp2_with fail
  · go_ret
    exact ⟨ret_bool (by rw [bare0 k a b u hn.out.1 ‹a.toList = []› ‹b.toList = []›, hn.out.2.1, hn.out.2.2]; exact in_zero u), (Below.refl _ _).alloc (Nat.le_refl _) _⟩
  · go_ret
    exact ⟨ret_bool (bare0_b k a b u hn.out.1 ‹¬ b.toList = []›).symm, (Below.refl _ _).alloc (Nat.le_refl _) _⟩
  · go_ret
    exact ⟨ret_bool (bare0_a k a b u hn.out.1 ‹¬ a.toList = []›).symm, (Below.refl _ _).alloc (Nat.le_refl _) _⟩

set_option maxHeartbeats 1000000 in
/-- Kinds with one name. -/
theorem bare_one (k : Int) (hk : k = 3 ∨ k = 4 ∨ k = 6) (a b : ByteArray) (u : Int) (s : Value) (w : World) (ha : a.size ≤ maxLen) :
    Calls Tryd.prog 23 #[.agg #[.int .i64 k, .string a, .string b, .int .i64 u, s]] w fun r w' => r = .returned (.bool (bareC k a b u)) ∧ Below w.heap.size w w' := by
  rcases hk with rfl | rfl | rfl
  all_goals
    go_enter Tryd.func23, Tryd.ntmps23
    go_wp2_with (go_at_call 27; refine (spec_l1Name _ _ ha).mono ?_; rintro e w' ⟨rfl, hw⟩; have hb := below_words hw; clear hw; obtain ⟨hc, hf⟩ := bcell hb)
    · go_ret
      exact ⟨ret_bool (by rw [bare1 _ a b u rfl ‹nameB a = true› ‹b.toList = []›]; exact in_zero u), ((Below.refl _ _).alloc (Nat.le_refl _) _).trans (hb.mono (by simp))⟩
    · go_ret
      exact ⟨ret_bool (bare1_b _ a b u rfl ‹¬ b.toList = []›).symm, ((Below.refl _ _).alloc (Nat.le_refl _) _).trans (hb.mono (by simp))⟩
    · go_ret
      exact ⟨ret_bool (bare1_a _ a b u rfl (by simpa using ‹¬ nameB a = true›)).symm, ((Below.refl _ _).alloc (Nat.le_refl _) _).trans (hb.mono (by simp))⟩

set_option maxHeartbeats 1000000 in
/-- Kinds with two names. -/
theorem bare_two (k : Int) (hk : k = 7 ∨ k = 14) (a b : ByteArray) (u : Int) (s : Value) (w : World) (ha : a.size ≤ maxLen) (hb : b.size ≤ maxLen) :
    Calls Tryd.prog 23 #[.agg #[.int .i64 k, .string a, .string b, .int .i64 u, s]] w fun r w' => r = .returned (.bool (bareC k a b u)) ∧ Below w.heap.size w w' := by
  rcases hk with rfl | rfl
  all_goals
    cases hna : nameB a
    · go_enter Tryd.func23, Tryd.ntmps23
      go_wp2_with (go_at_call 27; refine (spec_l1Name _ _ ha).mono ?_; rintro e w' ⟨rfl, hw⟩; have hb1 := below_words hw; clear hw; obtain ⟨hc, hf⟩ := bcell hb1; rw [hna])
      go_ret
      exact ⟨ret_bool (bare2_a _ a b u rfl hna).symm, ((Below.refl _ _).alloc (Nat.le_refl _) _).trans (hb1.mono (by simp))⟩
    · cases hnb : nameB b
      · go_enter Tryd.func23, Tryd.ntmps23
        go_wp2_with (go_at_call 27; refine (spec_l1Name _ _ (by first | exact ha | exact hb)).mono ?_; rintro e w2 ⟨rfl, hw⟩; first | (have hb2 := hb1.trans ((below_words hw).mono hb1.size); clear hw; obtain ⟨hc2, hf2⟩ := bcell hb2; rw [hnb]) | (have hb1 := below_words hw; clear hw; obtain ⟨hc, hf⟩ := bcell hb1; rw [hna]))
        go_ret
        exact ⟨ret_bool (bare2_b _ a b u rfl hnb).symm, ((Below.refl _ _).alloc (Nat.le_refl _) _).trans (hb2.mono (by simp))⟩
      · cases hne : (a.toList == b.toList)
        all_goals
          go_enter Tryd.func23, Tryd.ntmps23
          go_wp2_with (go_at_call 27; refine (spec_l1Name _ _ (by first | exact ha | exact hb)).mono ?_; rintro e w2 ⟨rfl, hw⟩; first | (have hb2 := hb1.trans ((below_words hw).mono hb1.size); clear hw; obtain ⟨hc2, hf2⟩ := bcell hb2; rw [hnb]) | (have hb1 := below_words hw; clear hw; obtain ⟨hc, hf⟩ := bcell hb1; rw [hna]))
          go_ret
          exact ⟨ret_bool (by first | (rw [bare2 _ a b u rfl hna hnb hne]; exact in_zero u) | exact (bare2_c _ a b u rfl hne).symm), ((Below.refl _ _).alloc (Nat.le_refl _) _).trans (hb2.mono (by simp))⟩
end Go.Proofs.YtdghblpaccaaiaaDoor
