/-
  The program's cellOk, HeapOk.
-/
import Derived.Test.YtpocmljbfcenfaaHoImpl
namespace Go.Proofs.Ytpocmljbfcenfaa
open Go.RowKit

set_option maxHeartbeats 2000000 in
theorem impl_cellOk (cs : List Ce) (hn : cs.length ≤ 9223372036854775807) (v : Value) (k n at' an bt bn : Int) (w : World) (hv : Cells w (· < w.heap.size) cs v) :
    Calls Try.prog 23 #[v, .agg #[.int .i64 k, .int .i64 n, .int .i64 at', .int .i64 an, .int .i64 bt, .int .i64 bn]] w fun r w' => r = .returned (.bool (decide (cellQ cs k n at' an bt bn))) ∧ Below w.heap.size w w' := by
  obtain ⟨a, cap, rfl⟩ := hv.slice
  by_cases ha : wordP cs.length at' an
  case neg =>
    go_enter Try.func23, Try.ntmps23
    go_wp2_with (go_at_call 15; refine (impl_wordOk_no a cs.length cap hn at' an _ ha).mono ?_; rintro r w2 ⟨rfl, hb2⟩)
    go_ret
    exact ⟨ret_of (by simp [cellQ, ha]), (BoxC.start hb2).below⟩
  by_cases hb : wordP cs.length bt bn
  case neg =>
    go_enter Try.func23, Try.ntmps23
    go_wp2_with (first
      | (go_at_call_of 15 at'; refine (impl_wordOk_yes a cs.length cap hn at' an _ ha).mono ?_; rintro r w2 ⟨rfl, hb2⟩; have hB2 := BoxC.start hb2; clear hb2; obtain ⟨p0, p1, p2, p3, p4, p5⟩ := hB2.six)
      | (go_at_call_of 15 bt; refine (impl_wordOk_no a cs.length cap hn bt bn _ hb).mono ?_; rintro r w3 ⟨rfl, hb3⟩))
    go_ret
    exact ⟨ret_of (by simp [cellQ, hb]), (hB2.next hb3).below⟩
  have hI : ∀ (z : Int) {w' : World}, BoxC w w' 36 k n at' an bt bn → Calls Try.prog 26 #[.slice a cs.length cap, .agg #[.int .i64 bt, .int .i64 bn], .int .i64 z] w' fun r w2 => r = .returned (.bool (decide (isP cs bt bn z))) ∧ BoxC w w2 36 k n at' an bt bn :=
    fun z w' hB => (impl_isNoneOr cs hn _ bt bn z w' (hB.row hv) hb).mono fun r w2 ⟨h1, h2⟩ => ⟨h1, hB.next h2⟩
  rcases (by omega : (k = 1 ∧ n = 0) ∨ (k = 1 ∧ n ≠ 0) ∨ (k = 2 ∧ n = 0) ∨ (k = 2 ∧ n ≠ 0) ∨ (k = 3 ∧ n = 0) ∨ (k = 3 ∧ n ≠ 0) ∨ k = 4 ∨ k = 5 ∨ k < 1 ∨ 5 < k) with ⟨rfl, rfl⟩ | ⟨rfl, h⟩ | ⟨rfl, rfl⟩ | ⟨rfl, h⟩ | ⟨rfl, rfl⟩ | ⟨rfl, h⟩ | rfl | rfl | h | h
  · go_enter Try.func23, Try.ntmps23
    go_wp2_with (first
      | (go_at_call_of 15 at'; refine (impl_wordOk_yes a cs.length cap hn at' an _ ha).mono ?_; rintro r w2 ⟨rfl, hb2⟩; have hB2 := BoxC.start hb2; clear hb2; obtain ⟨p0, p1, p2, p3, p4, p5⟩ := hB2.six)
      | (go_at_call_of 15 bt; refine (impl_wordOk_yes a cs.length cap hn bt bn _ hb).mono ?_; rintro r w3 ⟨rfl, hb3⟩; have hB3 := hB2.next hb3; clear hb3 p0 p1 p2 p3 p4 p5; obtain ⟨p0, p1, p2, p3, p4, p5⟩ := hB3.six)
      | (go_at_call 26; refine (hI _ hB3).mono ?_; rintro r w4 ⟨rfl, hB4⟩))
    go_ret
    exact ⟨ret_of (by simp [cellQ, ha, hb]), hB3.below⟩
  · go_enter Try.func23, Try.ntmps23
    go_wp2_with (first
      | (go_at_call_of 15 at'; refine (impl_wordOk_yes a cs.length cap hn at' an _ ha).mono ?_; rintro r w2 ⟨rfl, hb2⟩; have hB2 := BoxC.start hb2; clear hb2; obtain ⟨p0, p1, p2, p3, p4, p5⟩ := hB2.six)
      | (go_at_call_of 15 bt; refine (impl_wordOk_yes a cs.length cap hn bt bn _ hb).mono ?_; rintro r w3 ⟨rfl, hb3⟩; have hB3 := hB2.next hb3; clear hb3 p0 p1 p2 p3 p4 p5; obtain ⟨p0, p1, p2, p3, p4, p5⟩ := hB3.six)
      | (go_at_call 26; refine (hI _ hB3).mono ?_; rintro r w4 ⟨rfl, hB4⟩))
    go_ret
    exact ⟨ret_of (by simp [cellQ, ha, hb, h]), hB3.below⟩
  · go_enter Try.func23, Try.ntmps23
    go_wp2_with (first
      | (go_at_call_of 15 at'; refine (impl_wordOk_yes a cs.length cap hn at' an _ ha).mono ?_; rintro r w2 ⟨rfl, hb2⟩; have hB2 := BoxC.start hb2; clear hb2; obtain ⟨p0, p1, p2, p3, p4, p5⟩ := hB2.six)
      | (go_at_call_of 15 bt; refine (impl_wordOk_yes a cs.length cap hn bt bn _ hb).mono ?_; rintro r w3 ⟨rfl, hb3⟩; have hB3 := hB2.next hb3; clear hb3 p0 p1 p2 p3 p4 p5; obtain ⟨p0, p1, p2, p3, p4, p5⟩ := hB3.six)
      | (go_at_call 26; refine (hI _ hB3).mono ?_; rintro r w4 ⟨rfl, hB4⟩))
    go_ret
    exact ⟨ret_of (by simp [cellQ, ha, hb]), hB4.below⟩
  · go_enter Try.func23, Try.ntmps23
    go_wp2_with (first
      | (go_at_call_of 15 at'; refine (impl_wordOk_yes a cs.length cap hn at' an _ ha).mono ?_; rintro r w2 ⟨rfl, hb2⟩; have hB2 := BoxC.start hb2; clear hb2; obtain ⟨p0, p1, p2, p3, p4, p5⟩ := hB2.six)
      | (go_at_call_of 15 bt; refine (impl_wordOk_yes a cs.length cap hn bt bn _ hb).mono ?_; rintro r w3 ⟨rfl, hb3⟩; have hB3 := hB2.next hb3; clear hb3 p0 p1 p2 p3 p4 p5; obtain ⟨p0, p1, p2, p3, p4, p5⟩ := hB3.six)
      | (go_at_call 26; refine (hI _ hB3).mono ?_; rintro r w4 ⟨rfl, hB4⟩))
    go_ret
    exact ⟨ret_of (by simp [cellQ, ha, hb, h]), hB3.below⟩
  · go_enter Try.func23, Try.ntmps23
    go_wp2_with (first
      | (go_at_call_of 15 at'; refine (impl_wordOk_yes a cs.length cap hn at' an _ ha).mono ?_; rintro r w2 ⟨rfl, hb2⟩; have hB2 := BoxC.start hb2; clear hb2; obtain ⟨p0, p1, p2, p3, p4, p5⟩ := hB2.six)
      | (go_at_call_of 15 bt; refine (impl_wordOk_yes a cs.length cap hn bt bn _ hb).mono ?_; rintro r w3 ⟨rfl, hb3⟩; have hB3 := hB2.next hb3; clear hb3 p0 p1 p2 p3 p4 p5; obtain ⟨p0, p1, p2, p3, p4, p5⟩ := hB3.six)
      | (go_at_call 26; refine (hI _ hB3).mono ?_; rintro r w4 ⟨rfl, hB4⟩))
    go_ret
    exact ⟨ret_of (by simp [cellQ, ha, hb]), hB4.below⟩
  · go_enter Try.func23, Try.ntmps23
    go_wp2_with (first
      | (go_at_call_of 15 at'; refine (impl_wordOk_yes a cs.length cap hn at' an _ ha).mono ?_; rintro r w2 ⟨rfl, hb2⟩; have hB2 := BoxC.start hb2; clear hb2; obtain ⟨p0, p1, p2, p3, p4, p5⟩ := hB2.six)
      | (go_at_call_of 15 bt; refine (impl_wordOk_yes a cs.length cap hn bt bn _ hb).mono ?_; rintro r w3 ⟨rfl, hb3⟩; have hB3 := hB2.next hb3; clear hb3 p0 p1 p2 p3 p4 p5; obtain ⟨p0, p1, p2, p3, p4, p5⟩ := hB3.six)
      | (go_at_call 26; refine (hI _ hB3).mono ?_; rintro r w4 ⟨rfl, hB4⟩))
    go_ret
    exact ⟨ret_of (by simp [cellQ, ha, hb, h]), hB3.below⟩
  · rcases (by omega : n < 0 ∨ 200 ≤ n ∨ (0 ≤ n ∧ n < 200)) with h | h | ⟨h, h'⟩
    · go_enter Try.func23, Try.ntmps23
      go_wp2_with (first
        | (go_at_call_of 15 at'; refine (impl_wordOk_yes a cs.length cap hn at' an _ ha).mono ?_; rintro r w2 ⟨rfl, hb2⟩; have hB2 := BoxC.start hb2; clear hb2; obtain ⟨p0, p1, p2, p3, p4, p5⟩ := hB2.six)
        | (go_at_call_of 15 bt; refine (impl_wordOk_yes a cs.length cap hn bt bn _ hb).mono ?_; rintro r w3 ⟨rfl, hb3⟩; have hB3 := hB2.next hb3; clear hb3 p0 p1 p2 p3 p4 p5; obtain ⟨p0, p1, p2, p3, p4, p5⟩ := hB3.six)
        | (go_at_call 26; refine (hI _ hB3).mono ?_; rintro r w4 ⟨rfl, hB4⟩))
      go_ret
      exact ⟨ret_of (decide_eq_false (fun ⟨_, _, h2⟩ => by rcases h2 with ⟨h3, _⟩ | ⟨h3, _⟩ | ⟨h3, _⟩ | ⟨_, h3, _⟩ <;> omega)).symm, hB3.below⟩
    · go_enter Try.func23, Try.ntmps23
      go_wp2_with (first
        | (go_at_call_of 15 at'; refine (impl_wordOk_yes a cs.length cap hn at' an _ ha).mono ?_; rintro r w2 ⟨rfl, hb2⟩; have hB2 := BoxC.start hb2; clear hb2; obtain ⟨p0, p1, p2, p3, p4, p5⟩ := hB2.six)
        | (go_at_call_of 15 bt; refine (impl_wordOk_yes a cs.length cap hn bt bn _ hb).mono ?_; rintro r w3 ⟨rfl, hb3⟩; have hB3 := hB2.next hb3; clear hb3 p0 p1 p2 p3 p4 p5; obtain ⟨p0, p1, p2, p3, p4, p5⟩ := hB3.six)
        | (go_at_call 26; refine (hI _ hB3).mono ?_; rintro r w4 ⟨rfl, hB4⟩))
      go_ret
      exact ⟨ret_of (decide_eq_false (fun ⟨_, _, h2⟩ => by rcases h2 with ⟨h3, _⟩ | ⟨h3, _⟩ | ⟨h3, _⟩ | ⟨_, h3, _⟩ <;> omega)).symm, hB3.below⟩
    · by_cases h0 : at' = 0 ∧ an = 0
      · obtain ⟨rfl, rfl⟩ := h0
        go_enter Try.func23, Try.ntmps23
        go_wp2_with (first
          | (go_at_call_of 15 (Value.agg #[Value.int IntKind.i64 0, Value.int IntKind.i64 0]); refine (impl_wordOk_yes a cs.length cap hn 0 0 _ ha).mono ?_; rintro r w2 ⟨rfl, hb2⟩; have hB2 := BoxC.start hb2; clear hb2; obtain ⟨p0, p1, p2, p3, p4, p5⟩ := hB2.six)
          | (go_at_call_of 15 bt; refine (impl_wordOk_yes a cs.length cap hn bt bn _ hb).mono ?_; rintro r w3 ⟨rfl, hb3⟩; have hB3 := hB2.next hb3; clear hb3 p0 p1 p2 p3 p4 p5; obtain ⟨p0, p1, p2, p3, p4, p5⟩ := hB3.six)
          | (go_at_call 26; refine (hI _ hB3).mono ?_; rintro r w4 ⟨rfl, hB4⟩))
        go_ret
        exact ⟨ret_of (by simp [cellQ, ha, hb, h, h']), hB4.below⟩
      · go_enter Try.func23, Try.ntmps23
        go_wp2_with (first
          | (go_at_call_of 15 at'; refine (impl_wordOk_yes a cs.length cap hn at' an _ ha).mono ?_; rintro r w2 ⟨rfl, hb2⟩; have hB2 := BoxC.start hb2; clear hb2; obtain ⟨p0, p1, p2, p3, p4, p5⟩ := hB2.six)
          | (go_at_call_of 15 bt; refine (impl_wordOk_yes a cs.length cap hn bt bn _ hb).mono ?_; rintro r w3 ⟨rfl, hb3⟩; have hB3 := hB2.next hb3; clear hb3 p0 p1 p2 p3 p4 p5; obtain ⟨p0, p1, p2, p3, p4, p5⟩ := hB3.six)
          | (go_at_call 26; refine (hI _ hB3).mono ?_; rintro r w4 ⟨rfl, hB4⟩))
        all_goals go_ret
        all_goals exact ⟨ret_of (by simp [cellQ, ha, hb, h0]), hB3.below⟩
  · rcases (by omega : n < 0 ∨ 200 ≤ n ∨ (0 ≤ n ∧ n < 200)) with h | h | ⟨h, h'⟩
    · go_enter Try.func23, Try.ntmps23
      go_wp2_with (first
        | (go_at_call_of 15 at'; refine (impl_wordOk_yes a cs.length cap hn at' an _ ha).mono ?_; rintro r w2 ⟨rfl, hb2⟩; have hB2 := BoxC.start hb2; clear hb2; obtain ⟨p0, p1, p2, p3, p4, p5⟩ := hB2.six)
        | (go_at_call_of 15 bt; refine (impl_wordOk_yes a cs.length cap hn bt bn _ hb).mono ?_; rintro r w3 ⟨rfl, hb3⟩; have hB3 := hB2.next hb3; clear hb3 p0 p1 p2 p3 p4 p5; obtain ⟨p0, p1, p2, p3, p4, p5⟩ := hB3.six)
        | (go_at_call 26; refine (hI _ hB3).mono ?_; rintro r w4 ⟨rfl, hB4⟩))
      go_ret
      exact ⟨ret_of (decide_eq_false (fun ⟨_, _, h2⟩ => by rcases h2 with ⟨h3, _⟩ | ⟨h3, _⟩ | ⟨h3, _⟩ | ⟨_, h3, _⟩ <;> omega)).symm, hB3.below⟩
    · go_enter Try.func23, Try.ntmps23
      go_wp2_with (first
        | (go_at_call_of 15 at'; refine (impl_wordOk_yes a cs.length cap hn at' an _ ha).mono ?_; rintro r w2 ⟨rfl, hb2⟩; have hB2 := BoxC.start hb2; clear hb2; obtain ⟨p0, p1, p2, p3, p4, p5⟩ := hB2.six)
        | (go_at_call_of 15 bt; refine (impl_wordOk_yes a cs.length cap hn bt bn _ hb).mono ?_; rintro r w3 ⟨rfl, hb3⟩; have hB3 := hB2.next hb3; clear hb3 p0 p1 p2 p3 p4 p5; obtain ⟨p0, p1, p2, p3, p4, p5⟩ := hB3.six)
        | (go_at_call 26; refine (hI _ hB3).mono ?_; rintro r w4 ⟨rfl, hB4⟩))
      go_ret
      exact ⟨ret_of (decide_eq_false (fun ⟨_, _, h2⟩ => by rcases h2 with ⟨h3, _⟩ | ⟨h3, _⟩ | ⟨h3, _⟩ | ⟨_, h3, _⟩ <;> omega)).symm, hB3.below⟩
    · by_cases h0 : at' = 0 ∧ an = 0
      · obtain ⟨rfl, rfl⟩ := h0
        go_enter Try.func23, Try.ntmps23
        go_wp2_with (first
          | (go_at_call_of 15 (Value.agg #[Value.int IntKind.i64 0, Value.int IntKind.i64 0]); refine (impl_wordOk_yes a cs.length cap hn 0 0 _ ha).mono ?_; rintro r w2 ⟨rfl, hb2⟩; have hB2 := BoxC.start hb2; clear hb2; obtain ⟨p0, p1, p2, p3, p4, p5⟩ := hB2.six)
          | (go_at_call_of 15 bt; refine (impl_wordOk_yes a cs.length cap hn bt bn _ hb).mono ?_; rintro r w3 ⟨rfl, hb3⟩; have hB3 := hB2.next hb3; clear hb3 p0 p1 p2 p3 p4 p5; obtain ⟨p0, p1, p2, p3, p4, p5⟩ := hB3.six)
          | (go_at_call 26; refine (hI _ hB3).mono ?_; rintro r w4 ⟨rfl, hB4⟩))
        go_ret
        exact ⟨ret_of (by simp [cellQ, ha, hb, h, h']), hB4.below⟩
      · go_enter Try.func23, Try.ntmps23
        go_wp2_with (first
          | (go_at_call_of 15 at'; refine (impl_wordOk_yes a cs.length cap hn at' an _ ha).mono ?_; rintro r w2 ⟨rfl, hb2⟩; have hB2 := BoxC.start hb2; clear hb2; obtain ⟨p0, p1, p2, p3, p4, p5⟩ := hB2.six)
          | (go_at_call_of 15 bt; refine (impl_wordOk_yes a cs.length cap hn bt bn _ hb).mono ?_; rintro r w3 ⟨rfl, hb3⟩; have hB3 := hB2.next hb3; clear hb3 p0 p1 p2 p3 p4 p5; obtain ⟨p0, p1, p2, p3, p4, p5⟩ := hB3.six)
          | (go_at_call 26; refine (hI _ hB3).mono ?_; rintro r w4 ⟨rfl, hB4⟩))
        all_goals go_ret
        all_goals exact ⟨ret_of (by simp [cellQ, ha, hb, h0]), hB3.below⟩
  · go_enter Try.func23, Try.ntmps23
    go_wp2_with (first
      | (go_at_call_of 15 at'; refine (impl_wordOk_yes a cs.length cap hn at' an _ ha).mono ?_; rintro r w2 ⟨rfl, hb2⟩; have hB2 := BoxC.start hb2; clear hb2; obtain ⟨p0, p1, p2, p3, p4, p5⟩ := hB2.six)
      | (go_at_call_of 15 bt; refine (impl_wordOk_yes a cs.length cap hn bt bn _ hb).mono ?_; rintro r w3 ⟨rfl, hb3⟩; have hB3 := hB2.next hb3; clear hb3 p0 p1 p2 p3 p4 p5; obtain ⟨p0, p1, p2, p3, p4, p5⟩ := hB3.six)
      | (go_at_call 26; refine (hI _ hB3).mono ?_; rintro r w4 ⟨rfl, hB4⟩))
    go_ret
    exact ⟨ret_of (decide_eq_false (fun ⟨_, _, h2⟩ => by rcases h2 with ⟨h3, _⟩ | ⟨h3, _⟩ | ⟨h3, _⟩ | ⟨h3, _⟩ <;> omega)).symm, hB3.below⟩
  · go_enter Try.func23, Try.ntmps23
    go_wp2_with (first
      | (go_at_call_of 15 at'; refine (impl_wordOk_yes a cs.length cap hn at' an _ ha).mono ?_; rintro r w2 ⟨rfl, hb2⟩; have hB2 := BoxC.start hb2; clear hb2; obtain ⟨p0, p1, p2, p3, p4, p5⟩ := hB2.six)
      | (go_at_call_of 15 bt; refine (impl_wordOk_yes a cs.length cap hn bt bn _ hb).mono ?_; rintro r w3 ⟨rfl, hb3⟩; have hB3 := hB2.next hb3; clear hb3 p0 p1 p2 p3 p4 p5; obtain ⟨p0, p1, p2, p3, p4, p5⟩ := hB3.six)
      | (go_at_call 26; refine (hI _ hB3).mono ?_; rintro r w4 ⟨rfl, hB4⟩))
    go_ret
    exact ⟨ret_of (decide_eq_false (fun ⟨_, _, h2⟩ => by rcases h2 with ⟨h3, _⟩ | ⟨h3, _⟩ | ⟨h3, _⟩ | ⟨h3, _⟩ <;> omega)).symm, hB3.below⟩

theorem heap_no {cs : List Ce} {k : Nat} (hk : k < cs.length) (h : ¬ cellP cs cs[k]) : heapM cs = false := by
  unfold heapM
  rw [Bool.and_eq_false_iff]
  right
  rw [List.all_eq_false]
  exact ⟨cs[k], List.getElem_mem hk, by simpa using h⟩
theorem heap_yes {cs : List Ce} (hl : cs.length ≤ 120) (h : ∀ k (hk : k < cs.length), cellP cs cs[k]) : heapM cs = true := by
  unfold heapM
  rw [Bool.and_eq_true, List.all_eq_true]
  refine ⟨decide_eq_true hl, fun c hc => ?_⟩
  obtain ⟨i, hi, rfl⟩ := List.getElem_of_mem hc
  exact decide_eq_true (h i hi)
theorem heap_long {cs : List Ce} (hl : ¬ cs.length ≤ 120) : heapM cs = false := by
  unfold heapM
  rw [decide_eq_false hl, Bool.false_and]
theorem all_next {cs : List Ce} {k : Nat} (hk : k < cs.length) (h : Hid (∀ j (hj : j < cs.length), j < k → cellP cs cs[j])) (hc : cellP cs cs[k]) : Hid (∀ j (hj : j < cs.length), j < k + 1 → cellP cs cs[j]) := by
  intro j hj hjk
  by_cases e : j = k
  · subst e; exact hc
  · exact h.out j hj (by omega)

set_option maxHeartbeats 1000000 in
theorem impl_HeapOk (cs : List Ce) (hn : cs.length ≤ 1048576) (v : Value) (w : World) (hv : Cells w (· < w.heap.size) cs v) :
    Calls Try.prog 14 #[v] w fun r w' => r = .returned (.bool (heapM cs)) ∧ Below w.heap.size w w' := by
  obtain ⟨a, cap, rfl⟩ := hv.slice
  by_cases hl : cs.length ≤ 120
  case neg =>
    rw [heap_long hl]
    go_enter Try.func14, Try.ntmps14
    go_wp2_with fail
    go_ret
    exact ⟨rfl, Below.refl _ _⟩
  go_enter Try.func14, Try.ntmps14
  go_wp2_with fail
  go_loopw [10] (fun i wr => ∃ (k : Nat), k ≤ cs.length ∧ i = .int .i64 k ∧ Hid (∀ j (hj : j < cs.length), j < k → cellP cs cs[j]) ∧ Below w.heap.size w wr) (fun i _ => cs.length - (intOf i).toNat)
  case atStart => exact ⟨0, by omega, rfl, fun _ _ h => absurd h (by omega), Below.refl _ _⟩
  case round =>
    obtain ⟨k, hk, rfl, hall, hb⟩ := hrel
    by_cases hlt : k < cs.length
    · obtain ⟨b, off, hS, rfl, hr⟩ := hv.at k hlt
      obtain ⟨c0, c1, c2, c3, c4, c5⟩ := Ce.six (rw_same (hb.block b hS) hr)
      clear hr
      have hO := fun o => impl_cellOk cs (by omega) _ cs[k].kind cs[k].num cs[k].a.tag cs[k].a.num cs[k].b.tag cs[k].b.num (wr.alloc o) ((hv.keep hb hb.size).keep ((Below.refl _ _).alloc (Nat.le_refl _) o) (by simp))
      by_cases hcell : cellP cs cs[k]
      · go_wp2_with (go_at_call 23; refine (hO _).mono ?_; rintro r w2 ⟨rfl, hb2⟩; rw [decide_eq_true hcell])
        go_roundw
        case rel => exact ⟨k + 1, by omega, by go_num, all_next hlt hall hcell, hb.trans ((((Below.refl _ _).alloc (Nat.le_refl _) _).trans (hb2.mono (by simp))).mono hb.size)⟩
        case measure => simp [intOf]; omega
      · go_wp2_with (go_at_call 23; refine (hO _).mono ?_; rintro r w2 ⟨rfl, hb2⟩; rw [decide_eq_false hcell])
        go_ret
        exact ⟨ret_of (heap_no hlt hcell).symm, hb.trans ((((Below.refl _ _).alloc (Nat.le_refl _) _).trans (hb2.mono (by simp))).mono hb.size)⟩
    · go_wp2_with fail
      go_ret
      exact ⟨ret_of (heap_yes hl (fun j hj => hall.out j hj (by omega))).symm, hb⟩
end Go.Proofs.Ytpocmljbfcenfaa
