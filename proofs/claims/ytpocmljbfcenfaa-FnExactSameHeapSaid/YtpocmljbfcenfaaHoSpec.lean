/-
  The specification's l1In, l5Wrap, l7WordOk, l7Is, l7CellOk, l7Ok, HeapOk.
-/
import Derived.Test.YtpocmljbfcenfaaHoImplB
import Derived.Deep.QuietTactic
import Derived.BigQuiet
namespace Go.Proofs.Ytpocmljbfcenfaa
open Go.RowKit

set_option maxHeartbeats 400000 in
theorem ho_l1In (x lo hi : Int) (w : World) : Calls Try.prog 20 #[.int .i64 x, .int .i64 lo, .int .i64 hi] w fun r w' => r = .returned (.bool (decide (lo ≤ x ∧ x ≤ hi))) ∧ w = w' := by
  by_cases h : lo ≤ x
  · go_enter Try.func20, Try.ntmps20
    go_wp2_with fail
    go_ret
    exact ⟨ret_of (by simp [h]), rfl⟩
  · go_enter Try.func20, Try.ntmps20
    go_wp2_with fail
    go_ret
    exact ⟨ret_of (by simp; omega), rfl⟩

/-- A number in 32 bits. -/
def wrapM (x : Int) : Int := if x.tmod 4294967296 < -2147483648 then x.tmod 4294967296 + 4294967296 else if 2147483647 < x.tmod 4294967296 then x.tmod 4294967296 - 4294967296 else x.tmod 4294967296
theorem tmod_in (x : Int) : -4294967296 < x.tmod 4294967296 ∧ x.tmod 4294967296 < 4294967296 :=
  ⟨by have := Int.lt_tmod_of_pos x (b := 4294967296) (by omega); simpa using this, Int.tmod_lt_of_pos x (by omega)⟩
theorem wrap_is (x : Int) : wrapM x = x ↔ (-2147483648 ≤ x ∧ x ≤ 2147483647) := by
  have h := tmod_in x
  constructor
  · intro he
    unfold wrapM at he
    split at he
    · omega
    · split at he <;> omega
  · rintro ⟨h1, h2⟩
    have hx : x.tmod 4294967296 = x := by
      by_cases h0 : 0 ≤ x
      · exact Int.tmod_eq_of_lt h0 (by omega)
      · have := Int.tmod_eq_of_lt (a := -x) (b := 4294967296) (by omega) (by omega)
        rw [Int.neg_tmod] at this
        omega
    unfold wrapM
    rw [hx, if_neg (by omega), if_neg (by omega)]
set_option maxHeartbeats 400000 in
theorem ho_l5Wrap (x : Int) (w : World) : Calls Try.prog 19 #[.int .i64 x] w fun r w' => r = .returned (.int .i64 (wrapM x)) ∧ w' = w := by
  have h := tmod_in x
  obtain ⟨m, hm⟩ : ∃ m, m = x.tmod 4294967296 := ⟨_, rfl⟩
  have hW : wrapM x = if m < -2147483648 then m + 4294967296 else if 2147483647 < m then m - 4294967296 else m := by rw [hm]; rfl
  rw [← hm] at h
  rw [hW]
  obtain ⟨h1, h2⟩ := h
  by_cases h3 : m < -2147483648
  · rw [if_pos h3]
    go_enter Try.func19, Try.ntmps19
    go_wp2_with fail
    rw [← hm]
    go_wp2_with fail
    go_ret
    exact ⟨rfl, rfl⟩
  · rw [if_neg h3]
    by_cases h4 : 2147483647 < m
    · rw [if_pos h4]
      go_enter Try.func19, Try.ntmps19
      go_wp2_with fail
      rw [← hm]
      go_wp2_with fail
      go_ret
      exact ⟨rfl, rfl⟩
    · rw [if_neg h4]
      go_enter Try.func19, Try.ntmps19
      go_wp2_with fail
      rw [← hm]
      go_wp2_with fail
      go_ret
      exact ⟨rfl, rfl⟩

theorem ho_drewN {B : Nat} {w w' : World} (h : Below B w w') (n : Nat) : Below B w (w'.drewN n) := ⟨h.os, h.tape, h.output, h.size, h.block⟩
theorem wrap_eq (x : Int) : (wrapM x == x) = decide (-2147483648 ≤ x ∧ x ≤ 2147483647) := by
  rw [Bool.eq_iff_iff, beq_iff_eq, wrap_is, decide_eq_true_iff]
set_option maxHeartbeats 1000000 in
theorem ho_l7WordOk (n : Nat) (hn : n ≤ 9223372036854775807) (t u : Int) (w : World) :
    Calls Try.prog 11 #[.agg #[.int .i64 t, .int .i64 u], .int .i64 n] w fun r w' => r = .returned (.bool (decide (wordP n t u))) ∧ Below w.heap.size w w' := by
  rcases tag_ways t with rfl | rfl | rfl | rfl | rfl | h | h
  · go_enter Try.func11, Try.ntmps11
    go_wp2_with (go_at_call 20; refine (ho_l1In _ _ _ _).mono ?_; rintro r w2 ⟨rfl, rfl⟩)
    go_ret
    exact ⟨ret_dec (fun hp => by unfold wordP at hp; first | rfl | (simp; omega) | (exfalso; omega)) (fun hp => by unfold wordP at hp; first | rfl | (simp; omega) | (exfalso; omega)), (Below.refl _ _).alloc (Nat.le_refl _) _⟩
  · go_enter Try.func11, Try.ntmps11
    go_wp2_with fail
    go_quiet ((go_at_call 19; exact Calls.quiet_of_same (ho_l5Wrap _ _)))
    go_wp2_with fail
    go_ret
    exact ⟨ret_of (by rw [wrap_eq]; unfold wordP; simp), ho_drewN ((Below.refl _ _).alloc (Nat.le_refl _) _) _⟩
  · go_enter Try.func11, Try.ntmps11
    go_wp2_with (go_at_call 20; refine (ho_l1In _ _ _ _).mono ?_; rintro r w2 ⟨rfl, rfl⟩)
    go_ret
    exact ⟨ret_dec (fun hp => by unfold wordP at hp; first | rfl | (simp; omega) | (exfalso; omega)) (fun hp => by unfold wordP at hp; first | rfl | (simp; omega) | (exfalso; omega)), (Below.refl _ _).alloc (Nat.le_refl _) _⟩
  · go_enter Try.func11, Try.ntmps11
    go_wp2_with (go_at_call 20; refine (ho_l1In _ _ _ _).mono ?_; rintro r w2 ⟨rfl, rfl⟩)
    go_ret
    exact ⟨ret_dec (fun hp => by unfold wordP at hp; first | rfl | (simp; omega) | (exfalso; omega)) (fun hp => by unfold wordP at hp; first | rfl | (simp; omega) | (exfalso; omega)), (Below.refl _ _).alloc (Nat.le_refl _) _⟩
  · go_enter Try.func11, Try.ntmps11
    go_wp2_with (go_at_call 20; refine (ho_l1In _ _ _ _).mono ?_; rintro r w2 ⟨rfl, rfl⟩)
    go_ret
    exact ⟨ret_dec (fun hp => by unfold wordP at hp; first | rfl | (simp; omega) | (exfalso; omega)) (fun hp => by unfold wordP at hp; first | rfl | (simp; omega) | (exfalso; omega)), (Below.refl _ _).alloc (Nat.le_refl _) _⟩
  · go_enter Try.func11, Try.ntmps11
    go_wp2_with (go_at_call 20; refine (ho_l1In _ _ _ _).mono ?_; rintro r w2 ⟨rfl, rfl⟩)
    go_ret
    exact ⟨ret_dec (fun hp => by unfold wordP at hp; first | rfl | (simp; omega) | (exfalso; omega)) (fun hp => by unfold wordP at hp; first | rfl | (simp; omega) | (exfalso; omega)), (Below.refl _ _).alloc (Nat.le_refl _) _⟩
  · go_enter Try.func11, Try.ntmps11
    go_wp2_with (go_at_call 20; refine (ho_l1In _ _ _ _).mono ?_; rintro r w2 ⟨rfl, rfl⟩)
    go_ret
    exact ⟨ret_dec (fun hp => by unfold wordP at hp; first | rfl | (simp; omega) | (exfalso; omega)) (fun hp => by unfold wordP at hp; first | rfl | (simp; omega) | (exfalso; omega)), (Below.refl _ _).alloc (Nat.le_refl _) _⟩
theorem ho_word_yes (n : Nat) (hn : n ≤ 9223372036854775807) (t u : Int) (w : World) (h : wordP n t u) :
    Calls Try.prog 11 #[.agg #[.int .i64 t, .int .i64 u], .int .i64 n] w fun r w' => r = .returned (.bool true) ∧ Below w.heap.size w w' :=
  (ho_l7WordOk n hn t u w).mono fun r w' ⟨h1, h2⟩ => ⟨by rw [h1, decide_eq_true h], h2⟩
theorem ho_word_no (n : Nat) (hn : n ≤ 9223372036854775807) (t u : Int) (w : World) (h : ¬ wordP n t u) :
    Calls Try.prog 11 #[.agg #[.int .i64 t, .int .i64 u], .int .i64 n] w fun r w' => r = .returned (.bool false) ∧ Below w.heap.size w w' :=
  (ho_l7WordOk n hn t u w).mono fun r w' ⟨h1, h2⟩ => ⟨by rw [h1, decide_eq_false h], h2⟩

set_option maxHeartbeats 1000000 in
theorem ho_l7Is (cs : List Ce) (_hn : cs.length ≤ 9223372036854775807) (v : Value) (t u k : Int) (w : World) (hv : Cells w (· < w.heap.size) cs v) (ho : wordP cs.length t u) :
    Calls Try.prog 25 #[v, .agg #[.int .i64 t, .int .i64 u], .int .i64 k] w fun r w' => r = .returned (.bool (decide (isP cs t u k))) ∧ Below w.heap.size w w' := by
  obtain ⟨a, cap, rfl⟩ := hv.slice
  by_cases ht : t = 4
  · subst ht
    obtain ⟨i, b, off, k', rfl, hi, hS, rfl, hk, hc⟩ := kind_at hv (u := u) (by unfold wordP at ho; omega) (by unfold wordP at ho; omega)
    clear ho
    have hneb : b ≠ w.heap.size := by omega
    have hii : (i : Int) < (cs.length : Int) := by omega
    by_cases hkk : k' = k
    · subst hkk
      go_enter Try.func25, Try.ntmps25
      go_wp2_with fail
      go_ret
      exact ⟨ret_of (by simp [isP, hk]), (Below.refl _ _).alloc (Nat.le_refl _) _⟩
    · go_enter Try.func25, Try.ntmps25
      go_wp2_with fail
      go_ret
      exact ⟨ret_of (by simp [isP, hk, hkk]), (Below.refl _ _).alloc (Nat.le_refl _) _⟩
  · by_cases h0 : t = 0
    · subst h0
      go_enter Try.func25, Try.ntmps25
      go_wp2_with fail
      go_ret
      exact ⟨ret_of (by simp [isP]), (Below.refl _ _).alloc (Nat.le_refl _) _⟩
    · go_enter Try.func25, Try.ntmps25
      go_wp2_with fail
      go_ret
      exact ⟨ret_of (by simp [isP, ht, h0]), (Below.refl _ _).alloc (Nat.le_refl _) _⟩

set_option maxHeartbeats 2000000 in
theorem ho_l7CellOk (cs : List Ce) (hn : cs.length ≤ 9223372036854775807) (v : Value) (k n at' an bt bn : Int) (w : World) (hv : Cells w (· < w.heap.size) cs v) :
    Calls Try.prog 18 #[v, .agg #[.int .i64 k, .int .i64 n, .int .i64 at', .int .i64 an, .int .i64 bt, .int .i64 bn]] w fun r w' => r = .returned (.bool (decide (cellQ cs k n at' an bt bn))) ∧ Below w.heap.size w w' := by
  obtain ⟨a, cap, rfl⟩ := hv.slice
  by_cases ha : wordP cs.length at' an
  case neg =>
    go_enter Try.func18, Try.ntmps18
    go_wp2_with (go_at_call 11; refine (ho_word_no cs.length hn at' an _ ha).mono ?_; rintro r w2 ⟨rfl, hb2⟩)
    go_ret
    exact ⟨ret_of (by simp [cellQ, ha]), (BoxC.start hb2).below⟩
  by_cases hb : wordP cs.length bt bn
  case neg =>
    go_enter Try.func18, Try.ntmps18
    go_wp2_with (first
      | (go_at_call_of 11 at'; refine (ho_word_yes cs.length hn at' an _ ha).mono ?_; rintro r w2 ⟨rfl, hb2⟩; have hB2 := BoxC.start hb2; clear hb2; obtain ⟨p0, p1, p2, p3, p4, p5⟩ := hB2.six)
      | (go_at_call_of 11 bt; refine (ho_word_no cs.length hn bt bn _ hb).mono ?_; rintro r w3 ⟨rfl, hb3⟩))
    go_ret
    exact ⟨ret_of (by simp [cellQ, hb]), (hB2.next hb3).below⟩
  have hI : ∀ (z : Int) {w' : World}, BoxC w w' 36 k n at' an bt bn → Calls Try.prog 25 #[.slice a cs.length cap, .agg #[.int .i64 bt, .int .i64 bn], .int .i64 z] w' fun r w2 => r = .returned (.bool (decide (isP cs bt bn z))) ∧ BoxC w w2 36 k n at' an bt bn :=
    fun z w' hB => (ho_l7Is cs hn _ bt bn z w' (hB.row hv) hb).mono fun r w2 ⟨h1, h2⟩ => ⟨h1, hB.next h2⟩
  rcases (by omega : (k = 1 ∧ n = 0) ∨ (k = 1 ∧ n ≠ 0) ∨ (k = 2 ∧ n = 0) ∨ (k = 2 ∧ n ≠ 0) ∨ (k = 3 ∧ n = 0) ∨ (k = 3 ∧ n ≠ 0) ∨ k = 4 ∨ k = 5 ∨ k < 1 ∨ 5 < k) with ⟨rfl, rfl⟩ | ⟨rfl, h⟩ | ⟨rfl, rfl⟩ | ⟨rfl, h⟩ | ⟨rfl, rfl⟩ | ⟨rfl, h⟩ | rfl | rfl | h | h
  · go_enter Try.func18, Try.ntmps18
    go_wp2_with (first
      | (go_at_call_of 11 at'; refine (ho_word_yes cs.length hn at' an _ ha).mono ?_; rintro r w2 ⟨rfl, hb2⟩; have hB2 := BoxC.start hb2; clear hb2; obtain ⟨p0, p1, p2, p3, p4, p5⟩ := hB2.six)
      | (go_at_call_of 11 bt; refine (ho_word_yes cs.length hn bt bn _ hb).mono ?_; rintro r w3 ⟨rfl, hb3⟩; have hB3 := hB2.next hb3; clear hb3 p0 p1 p2 p3 p4 p5; obtain ⟨p0, p1, p2, p3, p4, p5⟩ := hB3.six)
      | (go_at_call 25; refine (hI _ hB3).mono ?_; rintro r w4 ⟨rfl, hB4⟩))
    go_ret
    exact ⟨ret_of (by simp [cellQ, ha, hb]), hB3.below⟩
  · go_enter Try.func18, Try.ntmps18
    go_wp2_with (first
      | (go_at_call_of 11 at'; refine (ho_word_yes cs.length hn at' an _ ha).mono ?_; rintro r w2 ⟨rfl, hb2⟩; have hB2 := BoxC.start hb2; clear hb2; obtain ⟨p0, p1, p2, p3, p4, p5⟩ := hB2.six)
      | (go_at_call_of 11 bt; refine (ho_word_yes cs.length hn bt bn _ hb).mono ?_; rintro r w3 ⟨rfl, hb3⟩; have hB3 := hB2.next hb3; clear hb3 p0 p1 p2 p3 p4 p5; obtain ⟨p0, p1, p2, p3, p4, p5⟩ := hB3.six)
      | (go_at_call 25; refine (hI _ hB3).mono ?_; rintro r w4 ⟨rfl, hB4⟩))
    go_ret
    exact ⟨ret_of (by simp [cellQ, ha, hb, h]), hB3.below⟩
  · go_enter Try.func18, Try.ntmps18
    go_wp2_with (first
      | (go_at_call_of 11 at'; refine (ho_word_yes cs.length hn at' an _ ha).mono ?_; rintro r w2 ⟨rfl, hb2⟩; have hB2 := BoxC.start hb2; clear hb2; obtain ⟨p0, p1, p2, p3, p4, p5⟩ := hB2.six)
      | (go_at_call_of 11 bt; refine (ho_word_yes cs.length hn bt bn _ hb).mono ?_; rintro r w3 ⟨rfl, hb3⟩; have hB3 := hB2.next hb3; clear hb3 p0 p1 p2 p3 p4 p5; obtain ⟨p0, p1, p2, p3, p4, p5⟩ := hB3.six)
      | (go_at_call 25; refine (hI _ hB3).mono ?_; rintro r w4 ⟨rfl, hB4⟩))
    go_ret
    exact ⟨ret_of (by simp [cellQ, ha, hb]), hB4.below⟩
  · go_enter Try.func18, Try.ntmps18
    go_wp2_with (first
      | (go_at_call_of 11 at'; refine (ho_word_yes cs.length hn at' an _ ha).mono ?_; rintro r w2 ⟨rfl, hb2⟩; have hB2 := BoxC.start hb2; clear hb2; obtain ⟨p0, p1, p2, p3, p4, p5⟩ := hB2.six)
      | (go_at_call_of 11 bt; refine (ho_word_yes cs.length hn bt bn _ hb).mono ?_; rintro r w3 ⟨rfl, hb3⟩; have hB3 := hB2.next hb3; clear hb3 p0 p1 p2 p3 p4 p5; obtain ⟨p0, p1, p2, p3, p4, p5⟩ := hB3.six)
      | (go_at_call 25; refine (hI _ hB3).mono ?_; rintro r w4 ⟨rfl, hB4⟩))
    go_ret
    exact ⟨ret_of (by simp [cellQ, ha, hb, h]), hB3.below⟩
  · go_enter Try.func18, Try.ntmps18
    go_wp2_with (first
      | (go_at_call_of 11 at'; refine (ho_word_yes cs.length hn at' an _ ha).mono ?_; rintro r w2 ⟨rfl, hb2⟩; have hB2 := BoxC.start hb2; clear hb2; obtain ⟨p0, p1, p2, p3, p4, p5⟩ := hB2.six)
      | (go_at_call_of 11 bt; refine (ho_word_yes cs.length hn bt bn _ hb).mono ?_; rintro r w3 ⟨rfl, hb3⟩; have hB3 := hB2.next hb3; clear hb3 p0 p1 p2 p3 p4 p5; obtain ⟨p0, p1, p2, p3, p4, p5⟩ := hB3.six)
      | (go_at_call 25; refine (hI _ hB3).mono ?_; rintro r w4 ⟨rfl, hB4⟩))
    go_ret
    exact ⟨ret_of (by simp [cellQ, ha, hb]), hB4.below⟩
  · go_enter Try.func18, Try.ntmps18
    go_wp2_with (first
      | (go_at_call_of 11 at'; refine (ho_word_yes cs.length hn at' an _ ha).mono ?_; rintro r w2 ⟨rfl, hb2⟩; have hB2 := BoxC.start hb2; clear hb2; obtain ⟨p0, p1, p2, p3, p4, p5⟩ := hB2.six)
      | (go_at_call_of 11 bt; refine (ho_word_yes cs.length hn bt bn _ hb).mono ?_; rintro r w3 ⟨rfl, hb3⟩; have hB3 := hB2.next hb3; clear hb3 p0 p1 p2 p3 p4 p5; obtain ⟨p0, p1, p2, p3, p4, p5⟩ := hB3.six)
      | (go_at_call 25; refine (hI _ hB3).mono ?_; rintro r w4 ⟨rfl, hB4⟩))
    go_ret
    exact ⟨ret_of (by simp [cellQ, ha, hb, h]), hB3.below⟩
  · have hin : ∀ (w' : World) (b : Bool), decide (0 ≤ n ∧ n ≤ 199) = b → Calls Try.prog 20 #[.int .i64 n, .int .i64 0, .int .i64 199] w' fun r w2 => r = .returned (.bool b) ∧ w' = w2 := fun w' b h => by rw [← h]; exact ho_l1In _ _ _ _
    by_cases h : 0 ≤ n ∧ n ≤ 199
    · replace hin := fun w' => hin w' true (decide_eq_true h)
      obtain ⟨h, h'⟩ := h
      by_cases h0 : at' = 0 ∧ an = 0
      · obtain ⟨rfl, rfl⟩ := h0
        go_enter Try.func18, Try.ntmps18
        go_wp2_with (first
          | (go_at_call_of 11 (Value.agg #[Value.int IntKind.i64 0, Value.int IntKind.i64 0]); refine (ho_word_yes cs.length hn 0 0 _ ha).mono ?_; rintro r w2 ⟨rfl, hb2⟩; have hB2 := BoxC.start hb2; clear hb2; obtain ⟨p0, p1, p2, p3, p4, p5⟩ := hB2.six)
          | (go_at_call_of 11 bt; refine (ho_word_yes cs.length hn bt bn _ hb).mono ?_; rintro r w3 ⟨rfl, hb3⟩; have hB3 := hB2.next hb3; clear hb3 p0 p1 p2 p3 p4 p5; obtain ⟨p0, p1, p2, p3, p4, p5⟩ := hB3.six)
          | (go_at_call 20; refine (hin _).mono ?_; rintro r w5 ⟨rfl, rfl⟩)
          | (go_at_call 25; refine (hI _ hB3).mono ?_; rintro r w4 ⟨rfl, hB4⟩))
        go_ret
        exact ⟨ret_of (by simp [cellQ, ha, hb, h, (by omega : n < 200)]), hB4.below⟩
      · go_enter Try.func18, Try.ntmps18
        go_wp2_with (first
          | (go_at_call_of 11 at'; refine (ho_word_yes cs.length hn at' an _ ha).mono ?_; rintro r w2 ⟨rfl, hb2⟩; have hB2 := BoxC.start hb2; clear hb2; obtain ⟨p0, p1, p2, p3, p4, p5⟩ := hB2.six)
          | (go_at_call_of 11 bt; refine (ho_word_yes cs.length hn bt bn _ hb).mono ?_; rintro r w3 ⟨rfl, hb3⟩; have hB3 := hB2.next hb3; clear hb3 p0 p1 p2 p3 p4 p5; obtain ⟨p0, p1, p2, p3, p4, p5⟩ := hB3.six)
          | (go_at_call 20; refine (hin _).mono ?_; rintro r w5 ⟨rfl, rfl⟩)
          | (go_at_call 25; refine (hI _ hB3).mono ?_; rintro r w4 ⟨rfl, hB4⟩))
        all_goals go_ret
        all_goals exact ⟨ret_of (by simp [cellQ, ha, hb, h0]), hB3.below⟩
    · replace hin := fun w' => hin w' false (decide_eq_false h)
      go_enter Try.func18, Try.ntmps18
      go_wp2_with (first
        | (go_at_call_of 11 at'; refine (ho_word_yes cs.length hn at' an _ ha).mono ?_; rintro r w2 ⟨rfl, hb2⟩; have hB2 := BoxC.start hb2; clear hb2; obtain ⟨p0, p1, p2, p3, p4, p5⟩ := hB2.six)
        | (go_at_call_of 11 bt; refine (ho_word_yes cs.length hn bt bn _ hb).mono ?_; rintro r w3 ⟨rfl, hb3⟩; have hB3 := hB2.next hb3; clear hb3 p0 p1 p2 p3 p4 p5; obtain ⟨p0, p1, p2, p3, p4, p5⟩ := hB3.six)
        | (go_at_call 20; refine (hin _).mono ?_; rintro r w5 ⟨rfl, rfl⟩)
        | (go_at_call 25; refine (hI _ hB3).mono ?_; rintro r w4 ⟨rfl, hB4⟩))
      go_ret
      exact ⟨ret_of (decide_eq_false (fun ⟨_, _, h2⟩ => by rcases h2 with ⟨h3, _⟩ | ⟨h3, _⟩ | ⟨h3, _⟩ | ⟨_, h3, _⟩ <;> omega)).symm, hB3.below⟩
  · have hin : ∀ (w' : World) (b : Bool), decide (0 ≤ n ∧ n ≤ 199) = b → Calls Try.prog 20 #[.int .i64 n, .int .i64 0, .int .i64 199] w' fun r w2 => r = .returned (.bool b) ∧ w' = w2 := fun w' b h => by rw [← h]; exact ho_l1In _ _ _ _
    by_cases h : 0 ≤ n ∧ n ≤ 199
    · replace hin := fun w' => hin w' true (decide_eq_true h)
      obtain ⟨h, h'⟩ := h
      by_cases h0 : at' = 0 ∧ an = 0
      · obtain ⟨rfl, rfl⟩ := h0
        go_enter Try.func18, Try.ntmps18
        go_wp2_with (first
          | (go_at_call_of 11 (Value.agg #[Value.int IntKind.i64 0, Value.int IntKind.i64 0]); refine (ho_word_yes cs.length hn 0 0 _ ha).mono ?_; rintro r w2 ⟨rfl, hb2⟩; have hB2 := BoxC.start hb2; clear hb2; obtain ⟨p0, p1, p2, p3, p4, p5⟩ := hB2.six)
          | (go_at_call_of 11 bt; refine (ho_word_yes cs.length hn bt bn _ hb).mono ?_; rintro r w3 ⟨rfl, hb3⟩; have hB3 := hB2.next hb3; clear hb3 p0 p1 p2 p3 p4 p5; obtain ⟨p0, p1, p2, p3, p4, p5⟩ := hB3.six)
          | (go_at_call 20; refine (hin _).mono ?_; rintro r w5 ⟨rfl, rfl⟩)
          | (go_at_call 25; refine (hI _ hB3).mono ?_; rintro r w4 ⟨rfl, hB4⟩))
        go_ret
        exact ⟨ret_of (by simp [cellQ, ha, hb, h, (by omega : n < 200)]), hB4.below⟩
      · go_enter Try.func18, Try.ntmps18
        go_wp2_with (first
          | (go_at_call_of 11 at'; refine (ho_word_yes cs.length hn at' an _ ha).mono ?_; rintro r w2 ⟨rfl, hb2⟩; have hB2 := BoxC.start hb2; clear hb2; obtain ⟨p0, p1, p2, p3, p4, p5⟩ := hB2.six)
          | (go_at_call_of 11 bt; refine (ho_word_yes cs.length hn bt bn _ hb).mono ?_; rintro r w3 ⟨rfl, hb3⟩; have hB3 := hB2.next hb3; clear hb3 p0 p1 p2 p3 p4 p5; obtain ⟨p0, p1, p2, p3, p4, p5⟩ := hB3.six)
          | (go_at_call 20; refine (hin _).mono ?_; rintro r w5 ⟨rfl, rfl⟩)
          | (go_at_call 25; refine (hI _ hB3).mono ?_; rintro r w4 ⟨rfl, hB4⟩))
        all_goals go_ret
        all_goals exact ⟨ret_of (by simp [cellQ, ha, hb, h0]), hB3.below⟩
    · replace hin := fun w' => hin w' false (decide_eq_false h)
      go_enter Try.func18, Try.ntmps18
      go_wp2_with (first
        | (go_at_call_of 11 at'; refine (ho_word_yes cs.length hn at' an _ ha).mono ?_; rintro r w2 ⟨rfl, hb2⟩; have hB2 := BoxC.start hb2; clear hb2; obtain ⟨p0, p1, p2, p3, p4, p5⟩ := hB2.six)
        | (go_at_call_of 11 bt; refine (ho_word_yes cs.length hn bt bn _ hb).mono ?_; rintro r w3 ⟨rfl, hb3⟩; have hB3 := hB2.next hb3; clear hb3 p0 p1 p2 p3 p4 p5; obtain ⟨p0, p1, p2, p3, p4, p5⟩ := hB3.six)
        | (go_at_call 20; refine (hin _).mono ?_; rintro r w5 ⟨rfl, rfl⟩)
        | (go_at_call 25; refine (hI _ hB3).mono ?_; rintro r w4 ⟨rfl, hB4⟩))
      go_ret
      exact ⟨ret_of (decide_eq_false (fun ⟨_, _, h2⟩ => by rcases h2 with ⟨h3, _⟩ | ⟨h3, _⟩ | ⟨h3, _⟩ | ⟨_, h3, _⟩ <;> omega)).symm, hB3.below⟩
  · go_enter Try.func18, Try.ntmps18
    go_wp2_with (first
      | (go_at_call_of 11 at'; refine (ho_word_yes cs.length hn at' an _ ha).mono ?_; rintro r w2 ⟨rfl, hb2⟩; have hB2 := BoxC.start hb2; clear hb2; obtain ⟨p0, p1, p2, p3, p4, p5⟩ := hB2.six)
      | (go_at_call_of 11 bt; refine (ho_word_yes cs.length hn bt bn _ hb).mono ?_; rintro r w3 ⟨rfl, hb3⟩; have hB3 := hB2.next hb3; clear hb3 p0 p1 p2 p3 p4 p5; obtain ⟨p0, p1, p2, p3, p4, p5⟩ := hB3.six)
      | (go_at_call 25; refine (hI _ hB3).mono ?_; rintro r w4 ⟨rfl, hB4⟩))
    go_ret
    exact ⟨ret_of (decide_eq_false (fun ⟨_, _, h2⟩ => by rcases h2 with ⟨h3, _⟩ | ⟨h3, _⟩ | ⟨h3, _⟩ | ⟨h3, _⟩ <;> omega)).symm, hB3.below⟩
  · go_enter Try.func18, Try.ntmps18
    go_wp2_with (first
      | (go_at_call_of 11 at'; refine (ho_word_yes cs.length hn at' an _ ha).mono ?_; rintro r w2 ⟨rfl, hb2⟩; have hB2 := BoxC.start hb2; clear hb2; obtain ⟨p0, p1, p2, p3, p4, p5⟩ := hB2.six)
      | (go_at_call_of 11 bt; refine (ho_word_yes cs.length hn bt bn _ hb).mono ?_; rintro r w3 ⟨rfl, hb3⟩; have hB3 := hB2.next hb3; clear hb3 p0 p1 p2 p3 p4 p5; obtain ⟨p0, p1, p2, p3, p4, p5⟩ := hB3.six)
      | (go_at_call 25; refine (hI _ hB3).mono ?_; rintro r w4 ⟨rfl, hB4⟩))
    go_ret
    exact ⟨ret_of (decide_eq_false (fun ⟨_, _, h2⟩ => by rcases h2 with ⟨h3, _⟩ | ⟨h3, _⟩ | ⟨h3, _⟩ | ⟨h3, _⟩ <;> omega)).symm, hB3.below⟩

set_option maxHeartbeats 1000000 in
theorem ho_l7Ok (cs : List Ce) (hn : cs.length ≤ 1048576) (v : Value) (w : World) (hv : Cells w (· < w.heap.size) cs v) :
    Calls Try.prog 10 #[v] w fun r w' => r = .returned (.bool (heapM cs)) ∧ Below w.heap.size w w' := by
  obtain ⟨a, cap, rfl⟩ := hv.slice
  go_enter Try.func10, Try.ntmps10
  go_wp2_with fail
  go_loopw [3] (fun i wr => ∃ (k : Nat), k ≤ cs.length ∧ i = .int .i64 k ∧ Hid (∀ j (hj : j < cs.length), j < k → cellP cs cs[j]) ∧ Below w.heap.size w wr) (fun i _ => cs.length - (intOf i).toNat)
  case atStart => exact ⟨0, by omega, rfl, fun _ _ h => absurd h (by omega), Below.refl _ _⟩
  case round =>
    obtain ⟨k, hk, rfl, hall, hb⟩ := hrel
    by_cases hlt : k < cs.length
    · obtain ⟨b, off, hS, rfl, hr⟩ := hv.at k hlt
      obtain ⟨c0, c1, c2, c3, c4, c5⟩ := Ce.six (rw_same (hb.block b hS) hr)
      clear hr
      have hO := ho_l7CellOk cs (by omega) _ cs[k].kind cs[k].num cs[k].a.tag cs[k].a.num cs[k].b.tag cs[k].b.num wr (hv.keep hb hb.size)
      by_cases hcell : cellP cs cs[k]
      · go_wp2_with (go_at_call 18; refine hO.mono ?_; rintro r w2 ⟨rfl, hb2⟩; rw [decide_eq_true hcell])
        go_roundw
        case rel => exact ⟨k + 1, by omega, by go_num, all_next hlt hall hcell, hb.trans (hb2.mono hb.size)⟩
        case measure => simp [intOf]; omega
      · go_wp2_with (go_at_call 18; refine hO.mono ?_; rintro r w2 ⟨rfl, hb2⟩; rw [decide_eq_false hcell])
        go_ret
        exact ⟨ret_of (heap_no hlt hcell).symm, hb.trans (hb2.mono hb.size)⟩
    · go_wp2_with fail
      go_ret
      by_cases hl : cs.length ≤ 120
      · exact ⟨ret_of ((decide_eq_true (by omega)).trans (heap_yes hl (fun j hj => hall.out j hj (by omega))).symm), hb⟩
      · exact ⟨ret_of ((decide_eq_false (by omega)).trans (heap_long hl).symm), hb⟩
end Go.Proofs.Ytpocmljbfcenfaa
