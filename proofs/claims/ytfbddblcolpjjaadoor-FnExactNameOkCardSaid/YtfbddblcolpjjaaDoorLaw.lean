/-
  The specification's NameOk, and the law FnExactNameOk itself: it answers true, and writes nothing that was there.
-/
import Derived.Test.YtfbddblcolpjjaaDoorWalks
namespace Go.Proofs.YtfbddblcolpjjaaDoor
open Go.RowKit

theorem word_cells (w : World) (k : Nat) (hk : k < 20) : (w.alloc (.cells wordVals 9)).cell? ⟨w.heap.size, k, none⟩ = some (.string (word k)) := by
  have := get_word k hk
  unfold World.cell?
  rw [heap_alloc_new]
  exact this

theorem fit_no (k : Nat) (x : Int) (hl : letB x = false) (hf : k = 0 ∨ figB x = false) : fitB k x = false := by
  rcases hf with rfl | hf
  · simp [fitB, hl]
  · simp [fitB, hl, hf]
theorem fit_fig (k : Nat) (x : Int) (hk : k ≠ 0) (hf : figB x = true) : fitB k x = true := by
  simp [fitB, hk, hf]

theorem name_of_find (s : ByteArray) (n : Int) (hin : 1 ≤ s.size ∧ s.size ≤ 4) (hok : okTo s s.size = true) (hn : hitTo s 20 = true ↔ 0 ≤ n) : nameB s = decide (n < 0) := by
  by_cases h : 0 ≤ n
  · rw [nameB_hit s 20 (hn.2 h) (by omega)]; simp; omega
  · have hh : hitTo s 20 = false := by
      cases e : hitTo s 20
      · rfl
      · exact absurd (hn.1 e) h
    rw [nameB_yes s hin.1 hin.2 hok hh]; simp; omega
set_option maxHeartbeats 1000000 in
theorem c6 (s : ByteArray) (w : World) (hs : s.size ≤ maxLen) :
    Calls Tryd.prog 6 #[.string s] w fun e w' => e = .returned (.bool (nameB s)) ∧ (w = w' ∨ w' = w.alloc (.cells wordVals 9)) := by
  unfold maxLen at hs
  go_enter Tryd.func6, Tryd.ntmps6
  go_wp2
  go_loop [3] (fun i => ∃ k : Nat, k ≤ s.size ∧ i = .int .i64 k ∧ okTo s k = true) (fun i => s.size - (intOf i).toNat)
  case atStart => exact ⟨0, by omega, rfl, rfl⟩
  case round =>
    obtain ⟨k, hk, rfl, hok⟩ := hrel
    have HK : Hid (okTo s k = true) := hok
    clear hok
    by_cases hlt : k < s.size
    · have hbk := bAt_eq s k hlt
      have hbd2 := bAt_bd s k
      rw [hbk] at hbd2
      have HB : Hid (bAt s k = (s[k].toNat : Int)) := hbk
      clear hbk
      cases hl : letB (s[k].toNat : Int)
      · by_cases hk0 : k = 0
        · have HF : Hid (okTo s (k + 1) = false) := okTo_no s k (by rw [HB.out]; exact fit_no k _ hl (Or.inl hk0))
          have hk1 : ((k : Int) == 0) = true := by simp; omega
          clear hk0
          go_wp2_with (go_at_call 9; refine (c9 _ _ (by omega) (by omega)).mono ?_; rintro e w' ⟨rfl, rfl⟩)
          go_ret
          exact ⟨ret_bool (nameB_ok s (k + 1) HF.out hlt).symm, Or.inl rfl⟩
        · have hk1 : ((k : Int) == 0) = false := by simp; omega
          cases hf : figB (s[k].toNat : Int)
          · have HF : Hid (okTo s (k + 1) = false) := okTo_no s k (by rw [HB.out]; exact fit_no k _ hl (Or.inr hf))
            go_wp2_with (first | (go_at_call 9; refine (c9 _ _ (by omega) (by omega)).mono ?_; rintro e w' ⟨rfl, rfl⟩) | (go_at_call 10; refine (c10 _ _ (by omega) (by omega)).mono ?_; rintro e w' ⟨rfl, rfl⟩))
            go_ret
            exact ⟨ret_bool (nameB_ok s (k + 1) HF.out hlt).symm, Or.inl rfl⟩
          · have HF : Hid (okTo s (k + 1) = true) := okTo_yes s k HK.out (by rw [HB.out]; exact fit_fig k _ hk0 hf)
            go_wp2_with (first | (go_at_call 9; refine (c9 _ _ (by omega) (by omega)).mono ?_; rintro e w' ⟨rfl, rfl⟩) | (go_at_call 10; refine (c10 _ _ (by omega) (by omega)).mono ?_; rintro e w' ⟨rfl, rfl⟩))
            go_round
            case rel => exact ⟨k + 1, by omega, by go_num, HF.out⟩
            case measure => simp [intOf]; omega
      · have HF : Hid (okTo s (k + 1) = true) := okTo_yes s k HK.out (by rw [HB.out]; exact fit_let k _ hl)
        go_wp2_with (go_at_call 9; refine (c9 _ _ (by omega) (by omega)).mono ?_; rintro e w' ⟨rfl, rfl⟩)
        go_round
        case rel => exact ⟨k + 1, by omega, by go_num, HF.out⟩
        case measure => simp [intOf]; omega
    · obtain rfl : k = s.size := by omega
      by_cases hin : 1 ≤ s.size ∧ s.size ≤ 4
      · have hin1 : decide (1 ≤ (s.size : Int) ∧ (s.size : Int) ≤ 4) = true := by simp; omega
        go_wp2_with (first | (go_at_call 11; refine (c11 _ _ _ _).mono ?_; rintro e w' ⟨rfl, rfl⟩; rw [hin1]) | (go_at_call 13; refine (c13 _).mono ?_; rintro e w' ⟨rfl, rfl⟩) | (go_at_call 12; refine (c12 _ s _ (word_cells _)).mono ?_; rintro e w' ⟨⟨n, rfl, hn⟩, rfl⟩))
        go_ret
        exact ⟨ret_bool (name_of_find s n hin HK.out hn).symm, Or.inr rfl⟩
      · have hin1 : decide (1 ≤ (s.size : Int) ∧ (s.size : Int) ≤ 4) = false := by simp; omega
        go_wp2_with (go_at_call 11; refine (c11 _ _ _ _).mono ?_; rintro e w' ⟨rfl, rfl⟩; rw [hin1])
        go_ret
        exact ⟨ret_bool (nameB_size s hin).symm, Or.inl rfl⟩

set_option maxHeartbeats 400000 in
theorem c4 (s : ByteArray) (w : World) (hs : s.size ≤ maxLen) :
    Calls Tryd.prog 4 #[.string s] w fun e w' => e = .returned (.bool (nameB s)) ∧ (w = w' ∨ w' = w.alloc (.cells wordVals 9)) := by
  go_enter Tryd.func4, Tryd.ntmps4
  go_wp2_with (go_at_call 6; refine (c6 s _ hs).mono ?_; rintro e w' ⟨rfl, hw⟩)
  go_ret
  exact ⟨rfl, hw⟩

set_option maxHeartbeats 400000 in
/-- THE LAW: true, whatever the text; at most one new block is made. -/
theorem c3 (s : ByteArray) (w : World) (hs : s.size ≤ maxLen) (t : TypeId) (fr : Nat × Nat) (hg : w.heap[0]? = some (.cells wordVals t fr)) :
    Calls Tryd.prog 3 #[.string s] w fun e w' => e = .returned (.bool true) ∧ (w = w' ∨ w' = w.alloc (.cells wordVals 9)) := by
  have hmax : s.size ≤ 9223372036854775807 := by unfold maxLen at hs; omega
  by_cases hbig : 1048576 < s.size
  · go_enter Tryd.func3, Tryd.ntmps3
    go_wp2
    go_ret
    exact ⟨rfl, Or.inl rfl⟩
  · have h0 : 0 < w.heap.size := by
      rcases Nat.eq_zero_or_pos w.heap.size with h | h
      · rw [Array.getElem?_eq_none (by omega)] at hg; cases hg
      · exact h
    have key : ∀ w' : World, (w = w' ∨ w' = w.alloc (.cells wordVals 9)) → w'.heap[0]? = some (.cells wordVals t fr) := by
      rintro w' (rfl | rfl)
      · exact hg
      · rw [heap_alloc_old _ _ h0]; exact hg
    go_enter Tryd.func3, Tryd.ntmps3
    go_wp2_with (first | (go_at_call 4; refine (c4 s _ hs).mono ?_; rintro e w' ⟨rfl, hw⟩) | (go_at_call 5; refine (c5 s _ hs t fr (key _ hw)).mono ?_; rintro e w' ⟨rfl, rfl⟩))
    go_ret
    exact ⟨rfl, hw⟩
end Go.Proofs.YtfbddblcolpjjaaDoor
