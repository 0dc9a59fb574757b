/-
  The program's hasItsOwn, kind by kind (1 to 3).
-/
import Derived.Test.YtdghblpaccaaiaaDoorExOwnP
namespace Go.Proofs.YtdghblpaccaaiaaDoor
open Go.RowKit

theorem meth_1 (a b : ByteArray) (u : Int) (s : Value) (w : World) : (method 198 57 (.agg #[.int .i64 1, .string a, .string b, .int .i64 u, s]) "loop.example/ensemble/impl.rule").run Tryd.prog w = .ok (53, .agg #[.int .i64 1, .string a, .string b, .int .i64 u, s]) w := by kernel_rfl
set_option maxHeartbeats 2000000 in
theorem own_1 (a b : ByteArray) (u : Int) (al : Option Addr) (n cap : Nat) (w : World) (hn : n ≤ 9223372036854775807) (_ha : a.size ≤ maxLen) (_hb : b.size ≤ maxLen) (hT : Tab w) :
    Calls Tryd.prog 25 #[.agg #[.int .i64 1, .string a, .string b, .int .i64 u, .slice al n cap]] w fun r w' => r = .returned (.bool (ownC 1 n a b u)) ∧ Below w.heap.size w w' := by
  have hm := meth_1 a b u (.slice al n cap)
  have hTT : ∀ {w2 o o2}, Below (w.alloc o).heap.size (w.alloc o) w2 → Tab (w2.alloc o2) := fun h => ((hT.alloc _).below h (hT.alloc _).pos).alloc _
  by_cases hk : n = 0
  · subst hk
    by_cases h1 : 0 ≤ u
    · by_cases h2 : u ≤ 999999
      · have HC : Hid (ownC 1 0 a b u = namesC 0 a b) := own_all 1 0 a b u rfl h1 h2
        go_enter Tryd.func25, Tryd.ntmps25
        go_wp2_with (first | (go_at_call 28; refine (formOf_kind _ _ _ _ _ _ (by omega)).mono ?_; rintro r w2 ⟨rfl, hb2⟩; rw [show formT 1 = 57 from rfl]) | (go_at_call 53; refine (rule_numForm _ _ _ _ _ _).mono ?_; rintro r w3 ⟨rfl, hb3⟩; have hb4 := hb2.trans (hb3.mono hb2.size); clear hb2 hb3; obtain ⟨hc, hf⟩ := bcell hb4; have hz : w.heap.size < w3.heap.size := (by have h := hb4.size; simp at h; omega)) | (go_at_call 29; refine (namesFit0 _ _ _ _ _ _).mono ?_; rintro r w5 ⟨rfl, hb5⟩))
        go_ret
        exact ⟨ret_bool HC.out.symm, below_own hb4 hb5⟩
      · have HC : Hid (ownC 1 0 a b u = false) := own_most 1 0 a b u h2
        go_enter Tryd.func25, Tryd.ntmps25
        go_wp2_with (first | (go_at_call 28; refine (formOf_kind _ _ _ _ _ _ (by omega)).mono ?_; rintro r w2 ⟨rfl, hb2⟩; rw [show formT 1 = 57 from rfl]) | (go_at_call 53; refine (rule_numForm _ _ _ _ _ _).mono ?_; rintro r w3 ⟨rfl, hb3⟩; have hb4 := hb2.trans (hb3.mono hb2.size); clear hb2 hb3; obtain ⟨hc, hf⟩ := bcell hb4; have hz : w.heap.size < w3.heap.size := (by have h := hb4.size; simp at h; omega)))
        go_ret
        exact ⟨ret_bool HC.out.symm, below_own0 hb4⟩
    · have HC : Hid (ownC 1 0 a b u = false) := own_least 1 0 a b u h1
      go_enter Tryd.func25, Tryd.ntmps25
      go_wp2_with (first | (go_at_call 28; refine (formOf_kind _ _ _ _ _ _ (by omega)).mono ?_; rintro r w2 ⟨rfl, hb2⟩; rw [show formT 1 = 57 from rfl]) | (go_at_call 53; refine (rule_numForm _ _ _ _ _ _).mono ?_; rintro r w3 ⟨rfl, hb3⟩; have hb4 := hb2.trans (hb3.mono hb2.size); clear hb2 hb3; obtain ⟨hc, hf⟩ := bcell hb4; have hz : w.heap.size < w3.heap.size := (by have h := hb4.size; simp at h; omega)))
      go_ret
      exact ⟨ret_bool HC.out.symm, below_own0 hb4⟩
  · have HC : Hid (ownC 1 n a b u = false) := own_kids 1 n a b u (by show ¬ (n : Int) = 0; omega)
    have hne : ((n : Int) == 0) = false := by simp; omega
    clear hk
    go_enter Tryd.func25, Tryd.ntmps25
    go_wp2_with (first | (go_at_call 28; refine (formOf_kind _ _ _ _ _ _ (by omega)).mono ?_; rintro r w2 ⟨rfl, hb2⟩; rw [show formT 1 = 57 from rfl]) | (go_at_call 53; refine (rule_numForm _ _ _ _ _ _).mono ?_; rintro r w3 ⟨rfl, hb3⟩; have hb4 := hb2.trans (hb3.mono hb2.size); clear hb2 hb3; obtain ⟨hc, hf⟩ := bcell hb4; have hz : w.heap.size < w3.heap.size := (by have h := hb4.size; simp at h; omega)))
    go_ret
    exact ⟨ret_bool HC.out.symm, below_own0 hb4⟩

theorem meth_2 (a b : ByteArray) (u : Int) (s : Value) (w : World) : (method 198 58 (.agg #[.int .i64 2, .string a, .string b, .int .i64 u, s]) "loop.example/ensemble/impl.rule").run Tryd.prog w = .ok (55, .agg #[.int .i64 2, .string a, .string b, .int .i64 u, s]) w := by kernel_rfl
set_option maxHeartbeats 2000000 in
theorem own_2 (a b : ByteArray) (u : Int) (al : Option Addr) (n cap : Nat) (w : World) (hn : n ≤ 9223372036854775807) (_ha : a.size ≤ maxLen) (_hb : b.size ≤ maxLen) (hT : Tab w) :
    Calls Tryd.prog 25 #[.agg #[.int .i64 2, .string a, .string b, .int .i64 u, .slice al n cap]] w fun r w' => r = .returned (.bool (ownC 2 n a b u)) ∧ Below w.heap.size w w' := by
  have hm := meth_2 a b u (.slice al n cap)
  have hTT : ∀ {w2 o o2}, Below (w.alloc o).heap.size (w.alloc o) w2 → Tab (w2.alloc o2) := fun h => ((hT.alloc _).below h (hT.alloc _).pos).alloc _
  by_cases hk : n = 0
  · subst hk
    by_cases h1 : 0 ≤ u
    · by_cases h2 : u ≤ 1
      · have HC : Hid (ownC 2 0 a b u = namesC 0 a b) := own_all 2 0 a b u rfl h1 h2
        go_enter Tryd.func25, Tryd.ntmps25
        go_wp2_with (first | (go_at_call 28; refine (formOf_kind _ _ _ _ _ _ (by omega)).mono ?_; rintro r w2 ⟨rfl, hb2⟩; rw [show formT 2 = 58 from rfl]) | (go_at_call 55; refine (rule_boolForm _ _ _ _ _ _).mono ?_; rintro r w3 ⟨rfl, hb3⟩; have hb4 := hb2.trans (hb3.mono hb2.size); clear hb2 hb3; obtain ⟨hc, hf⟩ := bcell hb4; have hz : w.heap.size < w3.heap.size := (by have h := hb4.size; simp at h; omega)) | (go_at_call 29; refine (namesFit0 _ _ _ _ _ _).mono ?_; rintro r w5 ⟨rfl, hb5⟩))
        go_ret
        exact ⟨ret_bool HC.out.symm, below_own hb4 hb5⟩
      · have HC : Hid (ownC 2 0 a b u = false) := own_most 2 0 a b u h2
        go_enter Tryd.func25, Tryd.ntmps25
        go_wp2_with (first | (go_at_call 28; refine (formOf_kind _ _ _ _ _ _ (by omega)).mono ?_; rintro r w2 ⟨rfl, hb2⟩; rw [show formT 2 = 58 from rfl]) | (go_at_call 55; refine (rule_boolForm _ _ _ _ _ _).mono ?_; rintro r w3 ⟨rfl, hb3⟩; have hb4 := hb2.trans (hb3.mono hb2.size); clear hb2 hb3; obtain ⟨hc, hf⟩ := bcell hb4; have hz : w.heap.size < w3.heap.size := (by have h := hb4.size; simp at h; omega)))
        go_ret
        exact ⟨ret_bool HC.out.symm, below_own0 hb4⟩
    · have HC : Hid (ownC 2 0 a b u = false) := own_least 2 0 a b u h1
      go_enter Tryd.func25, Tryd.ntmps25
      go_wp2_with (first | (go_at_call 28; refine (formOf_kind _ _ _ _ _ _ (by omega)).mono ?_; rintro r w2 ⟨rfl, hb2⟩; rw [show formT 2 = 58 from rfl]) | (go_at_call 55; refine (rule_boolForm _ _ _ _ _ _).mono ?_; rintro r w3 ⟨rfl, hb3⟩; have hb4 := hb2.trans (hb3.mono hb2.size); clear hb2 hb3; obtain ⟨hc, hf⟩ := bcell hb4; have hz : w.heap.size < w3.heap.size := (by have h := hb4.size; simp at h; omega)))
      go_ret
      exact ⟨ret_bool HC.out.symm, below_own0 hb4⟩
  · have HC : Hid (ownC 2 n a b u = false) := own_kids 2 n a b u (by show ¬ (n : Int) = 0; omega)
    have hne : ((n : Int) == 0) = false := by simp; omega
    clear hk
    go_enter Tryd.func25, Tryd.ntmps25
    go_wp2_with (first | (go_at_call 28; refine (formOf_kind _ _ _ _ _ _ (by omega)).mono ?_; rintro r w2 ⟨rfl, hb2⟩; rw [show formT 2 = 58 from rfl]) | (go_at_call 55; refine (rule_boolForm _ _ _ _ _ _).mono ?_; rintro r w3 ⟨rfl, hb3⟩; have hb4 := hb2.trans (hb3.mono hb2.size); clear hb2 hb3; obtain ⟨hc, hf⟩ := bcell hb4; have hz : w.heap.size < w3.heap.size := (by have h := hb4.size; simp at h; omega)))
    go_ret
    exact ⟨ret_bool HC.out.symm, below_own0 hb4⟩

theorem meth_3 (a b : ByteArray) (u : Int) (s : Value) (w : World) : (method 198 59 (.agg #[.int .i64 3, .string a, .string b, .int .i64 u, s]) "loop.example/ensemble/impl.rule").run Tryd.prog w = .ok (57, .agg #[.int .i64 3, .string a, .string b, .int .i64 u, s]) w := by kernel_rfl
set_option maxHeartbeats 2000000 in
theorem own_3 (a b : ByteArray) (u : Int) (al : Option Addr) (n cap : Nat) (w : World) (hn : n ≤ 9223372036854775807) (ha : a.size ≤ maxLen) (_hb : b.size ≤ maxLen) (hT : Tab w) :
    Calls Tryd.prog 25 #[.agg #[.int .i64 3, .string a, .string b, .int .i64 u, .slice al n cap]] w fun r w' => r = .returned (.bool (ownC 3 n a b u)) ∧ Below w.heap.size w w' := by
  have hm := meth_3 a b u (.slice al n cap)
  have hTT : ∀ {w2 o o2}, Below (w.alloc o).heap.size (w.alloc o) w2 → Tab (w2.alloc o2) := fun h => ((hT.alloc _).below h (hT.alloc _).pos).alloc _
  by_cases hk : n = 0
  · subst hk
    by_cases h1 : 0 ≤ u
    · by_cases h2 : u ≤ 0
      · have HC : Hid (ownC 3 0 a b u = namesC 1 a b) := own_all 3 0 a b u rfl h1 h2
        go_enter Tryd.func25, Tryd.ntmps25
        go_wp2_with (first | (go_at_call 28; refine (formOf_kind _ _ _ _ _ _ (by omega)).mono ?_; rintro r w2 ⟨rfl, hb2⟩; rw [show formT 3 = 59 from rfl]) | (go_at_call 57; refine (rule_varForm _ _ _ _ _ _).mono ?_; rintro r w3 ⟨rfl, hb3⟩; have hb4 := hb2.trans (hb3.mono hb2.size); clear hb2 hb3; obtain ⟨hc, hf⟩ := bcell hb4; have hz : w.heap.size < w3.heap.size := (by have h := hb4.size; simp at h; omega)) | (go_at_call 29; refine (namesFit1 _ _ _ _ _ _ ha (hTT hb4)).mono ?_; rintro r w5 ⟨rfl, hb5⟩))
        go_ret
        exact ⟨ret_bool HC.out.symm, below_own hb4 hb5⟩
      · have HC : Hid (ownC 3 0 a b u = false) := own_most 3 0 a b u h2
        go_enter Tryd.func25, Tryd.ntmps25
        go_wp2_with (first | (go_at_call 28; refine (formOf_kind _ _ _ _ _ _ (by omega)).mono ?_; rintro r w2 ⟨rfl, hb2⟩; rw [show formT 3 = 59 from rfl]) | (go_at_call 57; refine (rule_varForm _ _ _ _ _ _).mono ?_; rintro r w3 ⟨rfl, hb3⟩; have hb4 := hb2.trans (hb3.mono hb2.size); clear hb2 hb3; obtain ⟨hc, hf⟩ := bcell hb4; have hz : w.heap.size < w3.heap.size := (by have h := hb4.size; simp at h; omega)))
        go_ret
        exact ⟨ret_bool HC.out.symm, below_own0 hb4⟩
    · have HC : Hid (ownC 3 0 a b u = false) := own_least 3 0 a b u h1
      go_enter Tryd.func25, Tryd.ntmps25
      go_wp2_with (first | (go_at_call 28; refine (formOf_kind _ _ _ _ _ _ (by omega)).mono ?_; rintro r w2 ⟨rfl, hb2⟩; rw [show formT 3 = 59 from rfl]) | (go_at_call 57; refine (rule_varForm _ _ _ _ _ _).mono ?_; rintro r w3 ⟨rfl, hb3⟩; have hb4 := hb2.trans (hb3.mono hb2.size); clear hb2 hb3; obtain ⟨hc, hf⟩ := bcell hb4; have hz : w.heap.size < w3.heap.size := (by have h := hb4.size; simp at h; omega)))
      go_ret
      exact ⟨ret_bool HC.out.symm, below_own0 hb4⟩
  · have HC : Hid (ownC 3 n a b u = false) := own_kids 3 n a b u (by show ¬ (n : Int) = 0; omega)
    have hne : ((n : Int) == 0) = false := by simp; omega
    clear hk
    go_enter Tryd.func25, Tryd.ntmps25
    go_wp2_with (first | (go_at_call 28; refine (formOf_kind _ _ _ _ _ _ (by omega)).mono ?_; rintro r w2 ⟨rfl, hb2⟩; rw [show formT 3 = 59 from rfl]) | (go_at_call 57; refine (rule_varForm _ _ _ _ _ _).mono ?_; rintro r w3 ⟨rfl, hb3⟩; have hb4 := hb2.trans (hb3.mono hb2.size); clear hb2 hb3; obtain ⟨hc, hf⟩ := bcell hb4; have hz : w.heap.size < w3.heap.size := (by have h := hb4.size; simp at h; omega)))
    go_ret
    exact ⟨ret_bool HC.out.symm, below_own0 hb4⟩

end Go.Proofs.YtdghblpaccaaiaaDoor
