/-
  What each function on the road of FnExactNameOk does, for every argument: contracts, callees first.
-/
import Derived.Test.YtdghblpaccaaiaaDoorRows
import Derived.Test.YtdghblpaccaaiaaDoorNmMath
import Derived.WalkKit
import Derived.WalkSpells
import Derived.WalkLawsBesides
namespace Go.Proofs.YtdghblpaccaaiaaDoor
open Go.RowKit

theorem ret_bool {a b : Bool} (h : a = b) : Ending.returned (.bool a) = .returned (.bool b) := by rw [h]

set_option maxHeartbeats 400000 in
theorem impl_isLetter (x : Int) (w : World) (h0 : 0 ≤ x) (h1 : x ≤ 255) :
    Calls Tryd.prog 35 #[.int .u8 x] w fun e w' => e = .returned (.bool (letB x)) ∧ w = w' := by
  go_enter Tryd.func35, Tryd.ntmps35
  go_wp2
  all_goals
    go_ret
    exact ⟨ret_bool (by rw [Bool.eq_iff_iff]; simp [letB]; omega), rfl⟩

set_option maxHeartbeats 400000 in
theorem spec_l1Letter (x : Int) (w : World) (h0 : 0 ≤ x) (h1 : x ≤ 255) :
    Calls Tryd.prog 30 #[.int .u8 x] w fun e w' => e = .returned (.bool (letB x)) ∧ w = w' := by
  go_enter Tryd.func30, Tryd.ntmps30
  go_wp2
  all_goals
    go_ret
    exact ⟨ret_bool (by rw [Bool.eq_iff_iff]; simp [letB]; omega), rfl⟩

set_option maxHeartbeats 400000 in
theorem impl_isFigure (x : Int) (w : World) (h0 : 0 ≤ x) (h1 : x ≤ 255) :
    Calls Tryd.prog 37 #[.int .u8 x] w fun e w' => e = .returned (.bool (figB x)) ∧ w = w' := by
  go_enter Tryd.func37, Tryd.ntmps37
  go_wp2
  all_goals
    go_ret
    exact ⟨ret_bool (by rw [Bool.eq_iff_iff]; simp [figB]; omega), rfl⟩

set_option maxHeartbeats 400000 in
theorem spec_l1Figure (x : Int) (w : World) (h0 : 0 ≤ x) (h1 : x ≤ 255) :
    Calls Tryd.prog 31 #[.int .u8 x] w fun e w' => e = .returned (.bool (figB x)) ∧ w = w' := by
  go_enter Tryd.func31, Tryd.ntmps31
  go_wp2
  all_goals
    go_ret
    exact ⟨ret_bool (by rw [Bool.eq_iff_iff]; simp [figB]; omega), rfl⟩

set_option maxHeartbeats 400000 in
theorem impl_isWordByte (x : Int) (w : World) (h0 : 0 ≤ x) (h1 : x ≤ 255) :
    Calls Tryd.prog 36 #[.int .u8 x] w fun e w' => e = .returned (.bool (wordB x)) ∧ w = w' := by
  go_enter Tryd.func36, Tryd.ntmps36
  go_wp2_with (first | (go_at_call 35; refine (impl_isLetter _ _ (by assumption) (by assumption)).mono ?_; rintro e w' ⟨rfl, rfl⟩) | (go_at_call 37; refine (impl_isFigure _ _ (by assumption) (by assumption)).mono ?_; rintro e w' ⟨rfl, rfl⟩))
  all_goals
    go_ret
    exact ⟨ret_bool (by simp [wordB, *]), rfl⟩

set_option maxHeartbeats 400000 in
theorem spec_l1In (n a b : Int) (w : World) :
    Calls Tryd.prog 26 #[.int .i64 n, .int .i64 a, .int .i64 b] w fun e w' => e = .returned (.bool (decide (a ≤ n ∧ n ≤ b))) ∧ w = w' := by
  go_enter Tryd.func26, Tryd.ntmps26
  go_wp2
  all_goals
    go_ret
    exact ⟨ret_bool (by rw [Bool.eq_iff_iff]; simp; omega), rfl⟩

/-- The words as values. -/
def wordVals : Array Value := (words.map fun z => Value.string z).toArray

set_option maxHeartbeats 400000 in
theorem spec_l1Words (w : World) :
    Calls Tryd.prog 33 #[] w fun e w' => e = .returned (.slice (some ⟨w.heap.size, 0, none⟩) 20 20) ∧ w' = w.alloc (.cells wordVals 9) := by
  go_enter Tryd.func33, Tryd.ntmps33
  go_wp2
  go_ret
  exact ⟨rfl, rfl⟩

theorem ret_int {k : IntKind} {a b : Int} (h : a = b) : Ending.returned (.int k a) = .returned (.int k b) := by rw [h]

theorem hit_yes (s : ByteArray) (k : Nat) (h : ((word k).toList == s.toList) = true) : hitTo s (k + 1) = true := by
  rw [hitTo, h, Bool.or_true]
theorem hit_no (s : ByteArray) (k : Nat) (h0 : hitTo s k = false) (h : ((word k).toList == s.toList) = false) : hitTo s (k + 1) = false := by
  rw [hitTo, h0, h]; rfl
set_option maxHeartbeats 400000 in
/-- A place at which the words have the text; -1 if none. -/
theorem spec_l1Find (b : Nat) (s : ByteArray) (w : World) (hc : ∀ k, k < 20 → w.cell? ⟨b, k, none⟩ = some (.string (word k))) :
    Calls Tryd.prog 32 #[.slice (some ⟨b, 0, none⟩) 20 20, .string s] w fun e w' => (∃ n : Int, e = .returned (.int .i64 n) ∧ (hitTo s 20 = true ↔ 0 ≤ n)) ∧ w = w' := by
  go_enter Tryd.func32, Tryd.ntmps32
  go_wp2
  go_loop [5] (fun i => ∃ k : Nat, k ≤ 20 ∧ i = .int .i64 k ∧ hitTo s k = false) (fun i => 20 - (intOf i).toNat)
  case atStart => exact ⟨0, by omega, rfl, rfl⟩
  case round =>
    obtain ⟨k, hk, rfl, hh⟩ := hrel
    by_cases hlt : k < 20
    · have hcell := hc k hlt
      clear hc
      have HH : Hid (hitTo s k = false) := hh
      clear hh
      go_wp2
      · go_ret
        exact ⟨⟨_, rfl, by
          have := hitTo_true s (k + 1) 20 (hit_yes s k ‹_›) (by omega)
          simp [this]⟩, rfl⟩
      · go_round
        case rel => exact ⟨k + 1, by omega, by go_num, hit_no s k HH.out ‹_›⟩
        case measure => simp [intOf]; omega
    · go_wp2
      go_ret
      exact ⟨⟨-1, rfl, by obtain rfl : k = 20 := by omega
                          simp [hh]⟩, rfl⟩

theorem below20 (k : Nat) (h : k < 20) : k = 0 ∨ k = 1 ∨ k = 2 ∨ k = 3 ∨ k = 4 ∨ k = 5 ∨ k = 6 ∨ k = 7 ∨ k = 8 ∨ k = 9 ∨ k = 10 ∨ k = 11 ∨ k = 12 ∨ k = 13 ∨ k = 14 ∨ k = 15 ∨ k = 16 ∨ k = 17 ∨ k = 18 ∨ k = 19 := by omega
theorem get_word (k : Nat) (hk : k < 20) : wordVals[k]? = some (.string (word k)) := by
  rcases below20 k hk with rfl | rfl | rfl | rfl | rfl | rfl | rfl | rfl | rfl | rfl | rfl | rfl | rfl | rfl | rfl | rfl | rfl | rfl | rfl | rfl <;> rfl
theorem index_word (k : Nat) (hk : k < 20) (w : World) : (Instr.index 71 (.agg wordVals) (.int .i64 (k : Int))).run Tryd.prog w = .ok (.string (word k)) w := by
  rcases below20 k hk with rfl | rfl | rfl | rfl | rfl | rfl | rfl | rfl | rfl | rfl | rfl | rfl | rfl | rfl | rfl | rfl | rfl | rfl | rfl | rfl <;> kernel_rfl

theorem fit_let (k : Nat) (x : Int) (h : letB x = true) : fitB k x = true := by simp [fitB, h]
theorem fit_word (k : Nat) (x : Int) (hk : 1 ≤ k) : fitB k x = wordB x := by
  have : decide (k ≠ 0) = true := by simp; omega
  rw [fitB, this, wordB]; rfl
theorem fit_first (x : Int) : fitB 0 x = letB x := by simp [fitB]
theorem okTo_yes (s : ByteArray) (k : Nat) (h : okTo s k = true) (hf : fitB k (bAt s k) = true) : okTo s (k + 1) = true := by simp [okTo, h, hf]
theorem okTo_no (s : ByteArray) (k : Nat) (hf : fitB k (bAt s k) = false) : okTo s (k + 1) = false := by simp [okTo, hf]

set_option maxHeartbeats 1000000 in
/-- THE PROGRAM's NameOk: whether a text is a name; the table (block 0) is read, nothing is written. -/
theorem impl_NameOk (s : ByteArray) (w : World) (hs : s.size ≤ maxLen) (t : TypeId) (fr : Nat × Nat) (hg : w.heap[0]? = some (.cells wordVals t fr)) :
    Calls Tryd.prog 34 #[.string s] w fun e w' => e = .returned (.bool (nameB s)) ∧ w = w' := by
  unfold maxLen at hs
  by_cases h1 : s.size < 1
  · go_enter Tryd.func34, Tryd.ntmps34
    go_wp2
    all_goals
      go_ret
      exact ⟨ret_bool (nameB_size s (by omega)).symm, rfl⟩
  by_cases h4 : 4 < s.size
  · go_enter Tryd.func34, Tryd.ntmps34
    go_wp2
    all_goals
      go_ret
      exact ⟨ret_bool (nameB_size s (by omega)).symm, rfl⟩
  have h0s : 0 < s.size := by omega
  have hb0 := bAt_eq s 0 h0s
  have hbd := bAt_bd s 0
  rw [hb0] at hbd
  have HB0 : Hid (bAt s 0 = (s[0].toNat : Int)) := hb0
  clear hb0
  cases hl : letB (s[0].toNat : Int)
  · go_enter Tryd.func34, Tryd.ntmps34
    go_wp2_with (go_at_call 35; refine (impl_isLetter _ _ (by omega) (by omega)).mono ?_; rintro e w' ⟨rfl, rfl⟩)
    go_ret
    exact ⟨ret_bool (nameB_ok s 1 (okTo_no s 0 (by rw [fit_first, HB0.out]; exact hl)) h0s).symm, rfl⟩
  · have HO : Hid (okTo s 1 = true) := okTo_yes s 0 rfl (by rw [fit_first, HB0.out]; exact hl)
    go_enter Tryd.func34, Tryd.ntmps34
    go_wp2_with (go_at_call 35; refine (impl_isLetter _ _ (by omega) (by omega)).mono ?_; rintro e w' ⟨rfl, rfl⟩)
    go_loop [3] (fun i => ∃ k : Nat, 1 ≤ k ∧ k ≤ s.size ∧ i = .int .i64 k ∧ okTo s k = true) (fun i => s.size - (intOf i).toNat)
    case atStart => exact ⟨1, by omega, by omega, rfl, HO.out⟩
    case round =>
      obtain ⟨k, hk1, hk, rfl, hok⟩ := hrel
      have HK : Hid (okTo s k = true) := hok
      clear hok
      by_cases hlt : k < s.size
      · have hbk := bAt_eq s k hlt
        have hbd2 := bAt_bd s k
        rw [hbk] at hbd2
        have HB : Hid (bAt s k = (s[k].toNat : Int)) := hbk
        clear hbk
        cases hw : wordB (s[k].toNat : Int)
        · go_wp2_with (go_at_call 36; refine (impl_isWordByte _ _ (by omega) (by omega)).mono ?_; rintro e w' ⟨rfl, rfl⟩)
          go_ret
          exact ⟨ret_bool (nameB_ok s (k + 1) (okTo_no s k (by rw [fit_word k _ hk1, HB.out]; exact hw)) hlt).symm, rfl⟩
        · go_wp2_with (go_at_call 36; refine (impl_isWordByte _ _ (by omega) (by omega)).mono ?_; rintro e w' ⟨rfl, rfl⟩)
          go_round
          case rel => exact ⟨k + 1, by omega, by omega, by go_num, okTo_yes s k HK.out (by rw [fit_word k _ hk1, HB.out]; exact hw)⟩
          case measure => simp [intOf]; omega
      · obtain rfl : k = s.size := by omega
        go_wp2_with (refine wpList_load_row rfl 71 _ rfl 0 rfl t _ fr _ hg Tryd.underlying71 rfl (by kernel_rfl) ?_)
        go_loop [32] (fun i => ∃ j : Nat, j ≤ 20 ∧ i = .int .i64 j ∧ hitTo s j = false) (fun i => 20 - (intOf i).toNat)
        case atStart => exact ⟨0, by omega, rfl, rfl⟩
        case round =>
          obtain ⟨j, hj, rfl, hh⟩ := hrel
          have HH : Hid (hitTo s j = false) := hh
          clear hh
          by_cases hlt2 : j < 20
          · have hix := index_word j hlt2
            go_wp2
            · go_ret
              exact ⟨ret_bool (nameB_hit s (j + 1) (hit_yes s j ‹_›) (by omega)).symm, rfl⟩
            · go_round
              case rel => exact ⟨j + 1, by omega, by go_num, hit_no s j HH.out ‹_›⟩
              case measure => simp [intOf]; omega
          · obtain rfl : j = 20 := by omega
            go_wp2
            go_ret
            exact ⟨ret_bool (nameB_yes s (by omega) (by omega) HK.out HH.out).symm, rfl⟩
theorem word_cells (w : World) (k : Nat) (hk : k < 20) : (w.alloc (.cells wordVals 9)).cell? ⟨w.heap.size, k, none⟩ = some (.string (word k)) := by
  have := get_word k hk
  unfold World.cell?
  rw [heap_alloc_new]
  exact this

theorem fit_no (k : Nat) (x : Int) (hl : letB x = false) (hf : k = 0 ∨ figB x = false) : fitB k x = false := by
  rcases hf with rfl | hf
  · simp [fitB, hl]
  · simp [fitB, hl, hf]
theorem fit_fig (k : Nat) (x : Int) (hk : k ≠ 0) (hf : figB x = true) : fitB k x = true := by
  simp [fitB, hk, hf]

theorem name_of_find (s : ByteArray) (n : Int) (hin : 1 ≤ s.size ∧ s.size ≤ 4) (hok : okTo s s.size = true) (hn : hitTo s 20 = true ↔ 0 ≤ n) : nameB s = decide (n < 0) := by
  by_cases h : 0 ≤ n
  · rw [nameB_hit s 20 (hn.2 h) (by omega)]; simp; omega
  · have hh : hitTo s 20 = false := by
      cases e : hitTo s 20
      · rfl
      · exact absurd (hn.1 e) h
    rw [nameB_yes s hin.1 hin.2 hok hh]; simp; omega
set_option maxHeartbeats 1000000 in
theorem spec_l1Name (s : ByteArray) (w : World) (hs : s.size ≤ maxLen) :
    Calls Tryd.prog 27 #[.string s] w fun e w' => e = .returned (.bool (nameB s)) ∧ (w = w' ∨ w' = w.alloc (.cells wordVals 9)) := by
  unfold maxLen at hs
  go_enter Tryd.func27, Tryd.ntmps27
  go_wp2
  go_loop [3] (fun i => ∃ k : Nat, k ≤ s.size ∧ i = .int .i64 k ∧ okTo s k = true) (fun i => s.size - (intOf i).toNat)
  case atStart => exact ⟨0, by omega, rfl, rfl⟩
  case round =>
    obtain ⟨k, hk, rfl, hok⟩ := hrel
    have HK : Hid (okTo s k = true) := hok
    clear hok
    by_cases hlt : k < s.size
    · have hbk := bAt_eq s k hlt
      have hbd2 := bAt_bd s k
      rw [hbk] at hbd2
      have HB : Hid (bAt s k = (s[k].toNat : Int)) := hbk
      clear hbk
      cases hl : letB (s[k].toNat : Int)
      · by_cases hk0 : k = 0
        · have HF : Hid (okTo s (k + 1) = false) := okTo_no s k (by rw [HB.out]; exact fit_no k _ hl (Or.inl hk0))
          have hk1 : ((k : Int) == 0) = true := by simp; omega
          clear hk0
          go_wp2_with (go_at_call 30; refine (spec_l1Letter _ _ (by omega) (by omega)).mono ?_; rintro e w' ⟨rfl, rfl⟩)
          go_ret
          exact ⟨ret_bool (nameB_ok s (k + 1) HF.out hlt).symm, Or.inl rfl⟩
        · have hk1 : ((k : Int) == 0) = false := by simp; omega
          cases hf : figB (s[k].toNat : Int)
          · have HF : Hid (okTo s (k + 1) = false) := okTo_no s k (by rw [HB.out]; exact fit_no k _ hl (Or.inr hf))
            go_wp2_with (first | (go_at_call 30; refine (spec_l1Letter _ _ (by omega) (by omega)).mono ?_; rintro e w' ⟨rfl, rfl⟩) | (go_at_call 31; refine (spec_l1Figure _ _ (by omega) (by omega)).mono ?_; rintro e w' ⟨rfl, rfl⟩))
            go_ret
            exact ⟨ret_bool (nameB_ok s (k + 1) HF.out hlt).symm, Or.inl rfl⟩
          · have HF : Hid (okTo s (k + 1) = true) := okTo_yes s k HK.out (by rw [HB.out]; exact fit_fig k _ hk0 hf)
            go_wp2_with (first | (go_at_call 30; refine (spec_l1Letter _ _ (by omega) (by omega)).mono ?_; rintro e w' ⟨rfl, rfl⟩) | (go_at_call 31; refine (spec_l1Figure _ _ (by omega) (by omega)).mono ?_; rintro e w' ⟨rfl, rfl⟩))
            go_round
            case rel => exact ⟨k + 1, by omega, by go_num, HF.out⟩
            case measure => simp [intOf]; omega
      · have HF : Hid (okTo s (k + 1) = true) := okTo_yes s k HK.out (by rw [HB.out]; exact fit_let k _ hl)
        go_wp2_with (go_at_call 30; refine (spec_l1Letter _ _ (by omega) (by omega)).mono ?_; rintro e w' ⟨rfl, rfl⟩)
        go_round
        case rel => exact ⟨k + 1, by omega, by go_num, HF.out⟩
        case measure => simp [intOf]; omega
    · obtain rfl : k = s.size := by omega
      by_cases hin : 1 ≤ s.size ∧ s.size ≤ 4
      · have hin1 : decide (1 ≤ (s.size : Int) ∧ (s.size : Int) ≤ 4) = true := by simp; omega
        go_wp2_with (first | (go_at_call 26; refine (spec_l1In _ _ _ _).mono ?_; rintro e w' ⟨rfl, rfl⟩; rw [hin1]) | (go_at_call 33; refine (spec_l1Words _).mono ?_; rintro e w' ⟨rfl, rfl⟩) | (go_at_call 32; refine (spec_l1Find _ s _ (word_cells _)).mono ?_; rintro e w' ⟨⟨n, rfl, hn⟩, rfl⟩))
        go_ret
        exact ⟨ret_bool (name_of_find s n hin HK.out hn).symm, Or.inr rfl⟩
      · have hin1 : decide (1 ≤ (s.size : Int) ∧ (s.size : Int) ≤ 4) = false := by simp; omega
        go_wp2_with (go_at_call 26; refine (spec_l1In _ _ _ _).mono ?_; rintro e w' ⟨rfl, rfl⟩; rw [hin1])
        go_ret
        exact ⟨ret_bool (nameB_size s hin).symm, Or.inl rfl⟩

end Go.Proofs.YtdghblpaccaaiaaDoor
