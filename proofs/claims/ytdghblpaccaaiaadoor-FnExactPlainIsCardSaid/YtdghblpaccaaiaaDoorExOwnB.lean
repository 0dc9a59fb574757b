/-
  The program's hasItsOwn, kind by kind (4 to 9).
-/
import Derived.Test.YtdghblpaccaaiaaDoorExOwnP
namespace Go.Proofs.YtdghblpaccaaiaaDoor
open Go.RowKit

theorem meth_4 (a b : ByteArray) (u : Int) (s : Value) (w : World) : (method 198 60 (.agg #[.int .i64 4, .string a, .string b, .int .i64 u, s]) "loop.example/ensemble/impl.rule").run Tryd.prog w = .ok (59, .agg #[.int .i64 4, .string a, .string b, .int .i64 u, s]) w := by kernel_rfl
set_option maxHeartbeats 2000000 in
theorem own_4 (a b : ByteArray) (u : Int) (al : Option Addr) (n cap : Nat) (w : World) (hn : n ≤ 9223372036854775807) (ha : a.size ≤ maxLen) (_hb : b.size ≤ maxLen) (hT : Tab w) :
    Calls Tryd.prog 25 #[.agg #[.int .i64 4, .string a, .string b, .int .i64 u, .slice al n cap]] w fun r w' => r = .returned (.bool (ownC 4 n a b u)) ∧ Below w.heap.size w w' := by
  have hm := meth_4 a b u (.slice al n cap)
  have hTT : ∀ {w2 o o2}, Below (w.alloc o).heap.size (w.alloc o) w2 → Tab (w2.alloc o2) := fun h => ((hT.alloc _).below h (hT.alloc _).pos).alloc _
  by_cases hk : n = 1
  · subst hk
    by_cases h1 : 0 ≤ u
    · by_cases h2 : u ≤ 0
      · have HC : Hid (ownC 4 1 a b u = namesC 1 a b) := own_all 4 1 a b u rfl h1 h2
        go_enter Tryd.func25, Tryd.ntmps25
        go_wp2_with (first | (go_at_call 28; refine (formOf_kind _ _ _ _ _ _ (by omega)).mono ?_; rintro r w2 ⟨rfl, hb2⟩; rw [show formT 4 = 60 from rfl]) | (go_at_call 59; refine (rule_funForm _ _ _ _ _ _).mono ?_; rintro r w3 ⟨rfl, hb3⟩; have hb4 := hb2.trans (hb3.mono hb2.size); clear hb2 hb3; obtain ⟨hc, hf⟩ := bcell hb4; have hz : w.heap.size < w3.heap.size := (by have h := hb4.size; simp at h; omega)) | (go_at_call 29; refine (namesFit1 _ _ _ _ _ _ ha (hTT hb4)).mono ?_; rintro r w5 ⟨rfl, hb5⟩))
        go_ret
        exact ⟨ret_bool HC.out.symm, below_own hb4 hb5⟩
      · have HC : Hid (ownC 4 1 a b u = false) := own_most 4 1 a b u h2
        go_enter Tryd.func25, Tryd.ntmps25
        go_wp2_with (first | (go_at_call 28; refine (formOf_kind _ _ _ _ _ _ (by omega)).mono ?_; rintro r w2 ⟨rfl, hb2⟩; rw [show formT 4 = 60 from rfl]) | (go_at_call 59; refine (rule_funForm _ _ _ _ _ _).mono ?_; rintro r w3 ⟨rfl, hb3⟩; have hb4 := hb2.trans (hb3.mono hb2.size); clear hb2 hb3; obtain ⟨hc, hf⟩ := bcell hb4; have hz : w.heap.size < w3.heap.size := (by have h := hb4.size; simp at h; omega)))
        go_ret
        exact ⟨ret_bool HC.out.symm, below_own0 hb4⟩
    · have HC : Hid (ownC 4 1 a b u = false) := own_least 4 1 a b u h1
      go_enter Tryd.func25, Tryd.ntmps25
      go_wp2_with (first | (go_at_call 28; refine (formOf_kind _ _ _ _ _ _ (by omega)).mono ?_; rintro r w2 ⟨rfl, hb2⟩; rw [show formT 4 = 60 from rfl]) | (go_at_call 59; refine (rule_funForm _ _ _ _ _ _).mono ?_; rintro r w3 ⟨rfl, hb3⟩; have hb4 := hb2.trans (hb3.mono hb2.size); clear hb2 hb3; obtain ⟨hc, hf⟩ := bcell hb4; have hz : w.heap.size < w3.heap.size := (by have h := hb4.size; simp at h; omega)))
      go_ret
      exact ⟨ret_bool HC.out.symm, below_own0 hb4⟩
  · have HC : Hid (ownC 4 n a b u = false) := own_kids 4 n a b u (by show ¬ (n : Int) = 1; omega)
    have hne : ((n : Int) == 1) = false := by simp; omega
    clear hk
    go_enter Tryd.func25, Tryd.ntmps25
    go_wp2_with (first | (go_at_call 28; refine (formOf_kind _ _ _ _ _ _ (by omega)).mono ?_; rintro r w2 ⟨rfl, hb2⟩; rw [show formT 4 = 60 from rfl]) | (go_at_call 59; refine (rule_funForm _ _ _ _ _ _).mono ?_; rintro r w3 ⟨rfl, hb3⟩; have hb4 := hb2.trans (hb3.mono hb2.size); clear hb2 hb3; obtain ⟨hc, hf⟩ := bcell hb4; have hz : w.heap.size < w3.heap.size := (by have h := hb4.size; simp at h; omega)))
    go_ret
    exact ⟨ret_bool HC.out.symm, below_own0 hb4⟩

theorem meth_5 (a b : ByteArray) (u : Int) (s : Value) (w : World) : (method 198 61 (.agg #[.int .i64 5, .string a, .string b, .int .i64 u, s]) "loop.example/ensemble/impl.rule").run Tryd.prog w = .ok (61, .agg #[.int .i64 5, .string a, .string b, .int .i64 u, s]) w := by kernel_rfl
set_option maxHeartbeats 2000000 in
theorem own_5 (a b : ByteArray) (u : Int) (al : Option Addr) (n cap : Nat) (w : World) (hn : n ≤ 9223372036854775807) (_ha : a.size ≤ maxLen) (_hb : b.size ≤ maxLen) (hT : Tab w) :
    Calls Tryd.prog 25 #[.agg #[.int .i64 5, .string a, .string b, .int .i64 u, .slice al n cap]] w fun r w' => r = .returned (.bool (ownC 5 n a b u)) ∧ Below w.heap.size w w' := by
  have hm := meth_5 a b u (.slice al n cap)
  have hTT : ∀ {w2 o o2}, Below (w.alloc o).heap.size (w.alloc o) w2 → Tab (w2.alloc o2) := fun h => ((hT.alloc _).below h (hT.alloc _).pos).alloc _
  by_cases hk : n = 2
  · subst hk
    by_cases h1 : 0 ≤ u
    · by_cases h2 : u ≤ 0
      · have HC : Hid (ownC 5 2 a b u = namesC 0 a b) := own_all 5 2 a b u rfl h1 h2
        go_enter Tryd.func25, Tryd.ntmps25
        go_wp2_with (first | (go_at_call 28; refine (formOf_kind _ _ _ _ _ _ (by omega)).mono ?_; rintro r w2 ⟨rfl, hb2⟩; rw [show formT 5 = 61 from rfl]) | (go_at_call 61; refine (rule_appForm _ _ _ _ _ _).mono ?_; rintro r w3 ⟨rfl, hb3⟩; have hb4 := hb2.trans (hb3.mono hb2.size); clear hb2 hb3; obtain ⟨hc, hf⟩ := bcell hb4; have hz : w.heap.size < w3.heap.size := (by have h := hb4.size; simp at h; omega)) | (go_at_call 29; refine (namesFit0 _ _ _ _ _ _).mono ?_; rintro r w5 ⟨rfl, hb5⟩))
        go_ret
        exact ⟨ret_bool HC.out.symm, below_own hb4 hb5⟩
      · have HC : Hid (ownC 5 2 a b u = false) := own_most 5 2 a b u h2
        go_enter Tryd.func25, Tryd.ntmps25
        go_wp2_with (first | (go_at_call 28; refine (formOf_kind _ _ _ _ _ _ (by omega)).mono ?_; rintro r w2 ⟨rfl, hb2⟩; rw [show formT 5 = 61 from rfl]) | (go_at_call 61; refine (rule_appForm _ _ _ _ _ _).mono ?_; rintro r w3 ⟨rfl, hb3⟩; have hb4 := hb2.trans (hb3.mono hb2.size); clear hb2 hb3; obtain ⟨hc, hf⟩ := bcell hb4; have hz : w.heap.size < w3.heap.size := (by have h := hb4.size; simp at h; omega)))
        go_ret
        exact ⟨ret_bool HC.out.symm, below_own0 hb4⟩
    · have HC : Hid (ownC 5 2 a b u = false) := own_least 5 2 a b u h1
      go_enter Tryd.func25, Tryd.ntmps25
      go_wp2_with (first | (go_at_call 28; refine (formOf_kind _ _ _ _ _ _ (by omega)).mono ?_; rintro r w2 ⟨rfl, hb2⟩; rw [show formT 5 = 61 from rfl]) | (go_at_call 61; refine (rule_appForm _ _ _ _ _ _).mono ?_; rintro r w3 ⟨rfl, hb3⟩; have hb4 := hb2.trans (hb3.mono hb2.size); clear hb2 hb3; obtain ⟨hc, hf⟩ := bcell hb4; have hz : w.heap.size < w3.heap.size := (by have h := hb4.size; simp at h; omega)))
      go_ret
      exact ⟨ret_bool HC.out.symm, below_own0 hb4⟩
  · have HC : Hid (ownC 5 n a b u = false) := own_kids 5 n a b u (by show ¬ (n : Int) = 2; omega)
    have hne : ((n : Int) == 2) = false := by simp; omega
    clear hk
    go_enter Tryd.func25, Tryd.ntmps25
    go_wp2_with (first | (go_at_call 28; refine (formOf_kind _ _ _ _ _ _ (by omega)).mono ?_; rintro r w2 ⟨rfl, hb2⟩; rw [show formT 5 = 61 from rfl]) | (go_at_call 61; refine (rule_appForm _ _ _ _ _ _).mono ?_; rintro r w3 ⟨rfl, hb3⟩; have hb4 := hb2.trans (hb3.mono hb2.size); clear hb2 hb3; obtain ⟨hc, hf⟩ := bcell hb4; have hz : w.heap.size < w3.heap.size := (by have h := hb4.size; simp at h; omega)))
    go_ret
    exact ⟨ret_bool HC.out.symm, below_own0 hb4⟩

theorem meth_6 (a b : ByteArray) (u : Int) (s : Value) (w : World) : (method 198 62 (.agg #[.int .i64 6, .string a, .string b, .int .i64 u, s]) "loop.example/ensemble/impl.rule").run Tryd.prog w = .ok (63, .agg #[.int .i64 6, .string a, .string b, .int .i64 u, s]) w := by kernel_rfl
set_option maxHeartbeats 2000000 in
theorem own_6 (a b : ByteArray) (u : Int) (al : Option Addr) (n cap : Nat) (w : World) (hn : n ≤ 9223372036854775807) (ha : a.size ≤ maxLen) (_hb : b.size ≤ maxLen) (hT : Tab w) :
    Calls Tryd.prog 25 #[.agg #[.int .i64 6, .string a, .string b, .int .i64 u, .slice al n cap]] w fun r w' => r = .returned (.bool (ownC 6 n a b u)) ∧ Below w.heap.size w w' := by
  have hm := meth_6 a b u (.slice al n cap)
  have hTT : ∀ {w2 o o2}, Below (w.alloc o).heap.size (w.alloc o) w2 → Tab (w2.alloc o2) := fun h => ((hT.alloc _).below h (hT.alloc _).pos).alloc _
  by_cases hk : n = 2
  · subst hk
    by_cases h1 : 0 ≤ u
    · by_cases h2 : u ≤ 0
      · have HC : Hid (ownC 6 2 a b u = namesC 1 a b) := own_all 6 2 a b u rfl h1 h2
        go_enter Tryd.func25, Tryd.ntmps25
        go_wp2_with (first | (go_at_call 28; refine (formOf_kind _ _ _ _ _ _ (by omega)).mono ?_; rintro r w2 ⟨rfl, hb2⟩; rw [show formT 6 = 62 from rfl]) | (go_at_call 63; refine (rule_letForm _ _ _ _ _ _).mono ?_; rintro r w3 ⟨rfl, hb3⟩; have hb4 := hb2.trans (hb3.mono hb2.size); clear hb2 hb3; obtain ⟨hc, hf⟩ := bcell hb4; have hz : w.heap.size < w3.heap.size := (by have h := hb4.size; simp at h; omega)) | (go_at_call 29; refine (namesFit1 _ _ _ _ _ _ ha (hTT hb4)).mono ?_; rintro r w5 ⟨rfl, hb5⟩))
        go_ret
        exact ⟨ret_bool HC.out.symm, below_own hb4 hb5⟩
      · have HC : Hid (ownC 6 2 a b u = false) := own_most 6 2 a b u h2
        go_enter Tryd.func25, Tryd.ntmps25
        go_wp2_with (first | (go_at_call 28; refine (formOf_kind _ _ _ _ _ _ (by omega)).mono ?_; rintro r w2 ⟨rfl, hb2⟩; rw [show formT 6 = 62 from rfl]) | (go_at_call 63; refine (rule_letForm _ _ _ _ _ _).mono ?_; rintro r w3 ⟨rfl, hb3⟩; have hb4 := hb2.trans (hb3.mono hb2.size); clear hb2 hb3; obtain ⟨hc, hf⟩ := bcell hb4; have hz : w.heap.size < w3.heap.size := (by have h := hb4.size; simp at h; omega)))
        go_ret
        exact ⟨ret_bool HC.out.symm, below_own0 hb4⟩
    · have HC : Hid (ownC 6 2 a b u = false) := own_least 6 2 a b u h1
      go_enter Tryd.func25, Tryd.ntmps25
      go_wp2_with (first | (go_at_call 28; refine (formOf_kind _ _ _ _ _ _ (by omega)).mono ?_; rintro r w2 ⟨rfl, hb2⟩; rw [show formT 6 = 62 from rfl]) | (go_at_call 63; refine (rule_letForm _ _ _ _ _ _).mono ?_; rintro r w3 ⟨rfl, hb3⟩; have hb4 := hb2.trans (hb3.mono hb2.size); clear hb2 hb3; obtain ⟨hc, hf⟩ := bcell hb4; have hz : w.heap.size < w3.heap.size := (by have h := hb4.size; simp at h; omega)))
      go_ret
      exact ⟨ret_bool HC.out.symm, below_own0 hb4⟩
  · have HC : Hid (ownC 6 n a b u = false) := own_kids 6 n a b u (by show ¬ (n : Int) = 2; omega)
    have hne : ((n : Int) == 2) = false := by simp; omega
    clear hk
    go_enter Tryd.func25, Tryd.ntmps25
    go_wp2_with (first | (go_at_call 28; refine (formOf_kind _ _ _ _ _ _ (by omega)).mono ?_; rintro r w2 ⟨rfl, hb2⟩; rw [show formT 6 = 62 from rfl]) | (go_at_call 63; refine (rule_letForm _ _ _ _ _ _).mono ?_; rintro r w3 ⟨rfl, hb3⟩; have hb4 := hb2.trans (hb3.mono hb2.size); clear hb2 hb3; obtain ⟨hc, hf⟩ := bcell hb4; have hz : w.heap.size < w3.heap.size := (by have h := hb4.size; simp at h; omega)))
    go_ret
    exact ⟨ret_bool HC.out.symm, below_own0 hb4⟩

theorem meth_7 (a b : ByteArray) (u : Int) (s : Value) (w : World) : (method 198 63 (.agg #[.int .i64 7, .string a, .string b, .int .i64 u, s]) "loop.example/ensemble/impl.rule").run Tryd.prog w = .ok (65, .agg #[.int .i64 7, .string a, .string b, .int .i64 u, s]) w := by kernel_rfl
set_option maxHeartbeats 2000000 in
theorem own_7 (a b : ByteArray) (u : Int) (al : Option Addr) (n cap : Nat) (w : World) (hn : n ≤ 9223372036854775807) (ha : a.size ≤ maxLen) (hb : b.size ≤ maxLen) (hT : Tab w) :
    Calls Tryd.prog 25 #[.agg #[.int .i64 7, .string a, .string b, .int .i64 u, .slice al n cap]] w fun r w' => r = .returned (.bool (ownC 7 n a b u)) ∧ Below w.heap.size w w' := by
  have hm := meth_7 a b u (.slice al n cap)
  have hTT : ∀ {w2 o o2}, Below (w.alloc o).heap.size (w.alloc o) w2 → Tab (w2.alloc o2) := fun h => ((hT.alloc _).below h (hT.alloc _).pos).alloc _
  by_cases hk : n = 2
  · subst hk
    by_cases h1 : 0 ≤ u
    · by_cases h2 : u ≤ 0
      · have HC : Hid (ownC 7 2 a b u = namesC 2 a b) := own_all 7 2 a b u rfl h1 h2
        go_enter Tryd.func25, Tryd.ntmps25
        go_wp2_with (first | (go_at_call 28; refine (formOf_kind _ _ _ _ _ _ (by omega)).mono ?_; rintro r w2 ⟨rfl, hb2⟩; rw [show formT 7 = 63 from rfl]) | (go_at_call 65; refine (rule_recForm _ _ _ _ _ _).mono ?_; rintro r w3 ⟨rfl, hb3⟩; have hb4 := hb2.trans (hb3.mono hb2.size); clear hb2 hb3; obtain ⟨hc, hf⟩ := bcell hb4; have hz : w.heap.size < w3.heap.size := (by have h := hb4.size; simp at h; omega)) | (go_at_call 29; refine (namesFit2 _ _ _ _ _ _ ha hb (hTT hb4)).mono ?_; rintro r w5 ⟨rfl, hb5⟩))
        go_ret
        exact ⟨ret_bool HC.out.symm, below_own hb4 hb5⟩
      · have HC : Hid (ownC 7 2 a b u = false) := own_most 7 2 a b u h2
        go_enter Tryd.func25, Tryd.ntmps25
        go_wp2_with (first | (go_at_call 28; refine (formOf_kind _ _ _ _ _ _ (by omega)).mono ?_; rintro r w2 ⟨rfl, hb2⟩; rw [show formT 7 = 63 from rfl]) | (go_at_call 65; refine (rule_recForm _ _ _ _ _ _).mono ?_; rintro r w3 ⟨rfl, hb3⟩; have hb4 := hb2.trans (hb3.mono hb2.size); clear hb2 hb3; obtain ⟨hc, hf⟩ := bcell hb4; have hz : w.heap.size < w3.heap.size := (by have h := hb4.size; simp at h; omega)))
        go_ret
        exact ⟨ret_bool HC.out.symm, below_own0 hb4⟩
    · have HC : Hid (ownC 7 2 a b u = false) := own_least 7 2 a b u h1
      go_enter Tryd.func25, Tryd.ntmps25
      go_wp2_with (first | (go_at_call 28; refine (formOf_kind _ _ _ _ _ _ (by omega)).mono ?_; rintro r w2 ⟨rfl, hb2⟩; rw [show formT 7 = 63 from rfl]) | (go_at_call 65; refine (rule_recForm _ _ _ _ _ _).mono ?_; rintro r w3 ⟨rfl, hb3⟩; have hb4 := hb2.trans (hb3.mono hb2.size); clear hb2 hb3; obtain ⟨hc, hf⟩ := bcell hb4; have hz : w.heap.size < w3.heap.size := (by have h := hb4.size; simp at h; omega)))
      go_ret
      exact ⟨ret_bool HC.out.symm, below_own0 hb4⟩
  · have HC : Hid (ownC 7 n a b u = false) := own_kids 7 n a b u (by show ¬ (n : Int) = 2; omega)
    have hne : ((n : Int) == 2) = false := by simp; omega
    clear hk
    go_enter Tryd.func25, Tryd.ntmps25
    go_wp2_with (first | (go_at_call 28; refine (formOf_kind _ _ _ _ _ _ (by omega)).mono ?_; rintro r w2 ⟨rfl, hb2⟩; rw [show formT 7 = 63 from rfl]) | (go_at_call 65; refine (rule_recForm _ _ _ _ _ _).mono ?_; rintro r w3 ⟨rfl, hb3⟩; have hb4 := hb2.trans (hb3.mono hb2.size); clear hb2 hb3; obtain ⟨hc, hf⟩ := bcell hb4; have hz : w.heap.size < w3.heap.size := (by have h := hb4.size; simp at h; omega)))
    go_ret
    exact ⟨ret_bool HC.out.symm, below_own0 hb4⟩

theorem meth_8 (a b : ByteArray) (u : Int) (s : Value) (w : World) : (method 198 64 (.agg #[.int .i64 8, .string a, .string b, .int .i64 u, s]) "loop.example/ensemble/impl.rule").run Tryd.prog w = .ok (67, .agg #[.int .i64 8, .string a, .string b, .int .i64 u, s]) w := by kernel_rfl
set_option maxHeartbeats 2000000 in
theorem own_8 (a b : ByteArray) (u : Int) (al : Option Addr) (n cap : Nat) (w : World) (hn : n ≤ 9223372036854775807) (_ha : a.size ≤ maxLen) (_hb : b.size ≤ maxLen) (hT : Tab w) :
    Calls Tryd.prog 25 #[.agg #[.int .i64 8, .string a, .string b, .int .i64 u, .slice al n cap]] w fun r w' => r = .returned (.bool (ownC 8 n a b u)) ∧ Below w.heap.size w w' := by
  have hm := meth_8 a b u (.slice al n cap)
  have hTT : ∀ {w2 o o2}, Below (w.alloc o).heap.size (w.alloc o) w2 → Tab (w2.alloc o2) := fun h => ((hT.alloc _).below h (hT.alloc _).pos).alloc _
  by_cases hk : n = 3
  · subst hk
    by_cases h1 : 0 ≤ u
    · by_cases h2 : u ≤ 0
      · have HC : Hid (ownC 8 3 a b u = namesC 0 a b) := own_all 8 3 a b u rfl h1 h2
        go_enter Tryd.func25, Tryd.ntmps25
        go_wp2_with (first | (go_at_call 28; refine (formOf_kind _ _ _ _ _ _ (by omega)).mono ?_; rintro r w2 ⟨rfl, hb2⟩; rw [show formT 8 = 64 from rfl]) | (go_at_call 67; refine (rule_ifForm _ _ _ _ _ _).mono ?_; rintro r w3 ⟨rfl, hb3⟩; have hb4 := hb2.trans (hb3.mono hb2.size); clear hb2 hb3; obtain ⟨hc, hf⟩ := bcell hb4; have hz : w.heap.size < w3.heap.size := (by have h := hb4.size; simp at h; omega)) | (go_at_call 29; refine (namesFit0 _ _ _ _ _ _).mono ?_; rintro r w5 ⟨rfl, hb5⟩))
        go_ret
        exact ⟨ret_bool HC.out.symm, below_own hb4 hb5⟩
      · have HC : Hid (ownC 8 3 a b u = false) := own_most 8 3 a b u h2
        go_enter Tryd.func25, Tryd.ntmps25
        go_wp2_with (first | (go_at_call 28; refine (formOf_kind _ _ _ _ _ _ (by omega)).mono ?_; rintro r w2 ⟨rfl, hb2⟩; rw [show formT 8 = 64 from rfl]) | (go_at_call 67; refine (rule_ifForm _ _ _ _ _ _).mono ?_; rintro r w3 ⟨rfl, hb3⟩; have hb4 := hb2.trans (hb3.mono hb2.size); clear hb2 hb3; obtain ⟨hc, hf⟩ := bcell hb4; have hz : w.heap.size < w3.heap.size := (by have h := hb4.size; simp at h; omega)))
        go_ret
        exact ⟨ret_bool HC.out.symm, below_own0 hb4⟩
    · have HC : Hid (ownC 8 3 a b u = false) := own_least 8 3 a b u h1
      go_enter Tryd.func25, Tryd.ntmps25
      go_wp2_with (first | (go_at_call 28; refine (formOf_kind _ _ _ _ _ _ (by omega)).mono ?_; rintro r w2 ⟨rfl, hb2⟩; rw [show formT 8 = 64 from rfl]) | (go_at_call 67; refine (rule_ifForm _ _ _ _ _ _).mono ?_; rintro r w3 ⟨rfl, hb3⟩; have hb4 := hb2.trans (hb3.mono hb2.size); clear hb2 hb3; obtain ⟨hc, hf⟩ := bcell hb4; have hz : w.heap.size < w3.heap.size := (by have h := hb4.size; simp at h; omega)))
      go_ret
      exact ⟨ret_bool HC.out.symm, below_own0 hb4⟩
  · have HC : Hid (ownC 8 n a b u = false) := own_kids 8 n a b u (by show ¬ (n : Int) = 3; omega)
    have hne : ((n : Int) == 3) = false := by simp; omega
    clear hk
    go_enter Tryd.func25, Tryd.ntmps25
    go_wp2_with (first | (go_at_call 28; refine (formOf_kind _ _ _ _ _ _ (by omega)).mono ?_; rintro r w2 ⟨rfl, hb2⟩; rw [show formT 8 = 64 from rfl]) | (go_at_call 67; refine (rule_ifForm _ _ _ _ _ _).mono ?_; rintro r w3 ⟨rfl, hb3⟩; have hb4 := hb2.trans (hb3.mono hb2.size); clear hb2 hb3; obtain ⟨hc, hf⟩ := bcell hb4; have hz : w.heap.size < w3.heap.size := (by have h := hb4.size; simp at h; omega)))
    go_ret
    exact ⟨ret_bool HC.out.symm, below_own0 hb4⟩

theorem meth_9 (a b : ByteArray) (u : Int) (s : Value) (w : World) : (method 198 65 (.agg #[.int .i64 9, .string a, .string b, .int .i64 u, s]) "loop.example/ensemble/impl.rule").run Tryd.prog w = .ok (69, .agg #[.int .i64 9, .string a, .string b, .int .i64 u, s]) w := by kernel_rfl
set_option maxHeartbeats 2000000 in
theorem own_9 (a b : ByteArray) (u : Int) (al : Option Addr) (n cap : Nat) (w : World) (hn : n ≤ 9223372036854775807) (_ha : a.size ≤ maxLen) (_hb : b.size ≤ maxLen) (hT : Tab w) :
    Calls Tryd.prog 25 #[.agg #[.int .i64 9, .string a, .string b, .int .i64 u, .slice al n cap]] w fun r w' => r = .returned (.bool (ownC 9 n a b u)) ∧ Below w.heap.size w w' := by
  have hm := meth_9 a b u (.slice al n cap)
  have hTT : ∀ {w2 o o2}, Below (w.alloc o).heap.size (w.alloc o) w2 → Tab (w2.alloc o2) := fun h => ((hT.alloc _).below h (hT.alloc _).pos).alloc _
  by_cases hk : n = 2
  · subst hk
    by_cases h1 : 0 ≤ u
    · by_cases h2 : u ≤ 0
      · have HC : Hid (ownC 9 2 a b u = namesC 0 a b) := own_all 9 2 a b u rfl h1 h2
        go_enter Tryd.func25, Tryd.ntmps25
        go_wp2_with (first | (go_at_call 28; refine (formOf_kind _ _ _ _ _ _ (by omega)).mono ?_; rintro r w2 ⟨rfl, hb2⟩; rw [show formT 9 = 65 from rfl]) | (go_at_call 69; refine (rule_pairForm _ _ _ _ _ _).mono ?_; rintro r w3 ⟨rfl, hb3⟩; have hb4 := hb2.trans (hb3.mono hb2.size); clear hb2 hb3; obtain ⟨hc, hf⟩ := bcell hb4; have hz : w.heap.size < w3.heap.size := (by have h := hb4.size; simp at h; omega)) | (go_at_call 29; refine (namesFit0 _ _ _ _ _ _).mono ?_; rintro r w5 ⟨rfl, hb5⟩))
        go_ret
        exact ⟨ret_bool HC.out.symm, below_own hb4 hb5⟩
      · have HC : Hid (ownC 9 2 a b u = false) := own_most 9 2 a b u h2
        go_enter Tryd.func25, Tryd.ntmps25
        go_wp2_with (first | (go_at_call 28; refine (formOf_kind _ _ _ _ _ _ (by omega)).mono ?_; rintro r w2 ⟨rfl, hb2⟩; rw [show formT 9 = 65 from rfl]) | (go_at_call 69; refine (rule_pairForm _ _ _ _ _ _).mono ?_; rintro r w3 ⟨rfl, hb3⟩; have hb4 := hb2.trans (hb3.mono hb2.size); clear hb2 hb3; obtain ⟨hc, hf⟩ := bcell hb4; have hz : w.heap.size < w3.heap.size := (by have h := hb4.size; simp at h; omega)))
        go_ret
        exact ⟨ret_bool HC.out.symm, below_own0 hb4⟩
    · have HC : Hid (ownC 9 2 a b u = false) := own_least 9 2 a b u h1
      go_enter Tryd.func25, Tryd.ntmps25
      go_wp2_with (first | (go_at_call 28; refine (formOf_kind _ _ _ _ _ _ (by omega)).mono ?_; rintro r w2 ⟨rfl, hb2⟩; rw [show formT 9 = 65 from rfl]) | (go_at_call 69; refine (rule_pairForm _ _ _ _ _ _).mono ?_; rintro r w3 ⟨rfl, hb3⟩; have hb4 := hb2.trans (hb3.mono hb2.size); clear hb2 hb3; obtain ⟨hc, hf⟩ := bcell hb4; have hz : w.heap.size < w3.heap.size := (by have h := hb4.size; simp at h; omega)))
      go_ret
      exact ⟨ret_bool HC.out.symm, below_own0 hb4⟩
  · have HC : Hid (ownC 9 n a b u = false) := own_kids 9 n a b u (by show ¬ (n : Int) = 2; omega)
    have hne : ((n : Int) == 2) = false := by simp; omega
    clear hk
    go_enter Tryd.func25, Tryd.ntmps25
    go_wp2_with (first | (go_at_call 28; refine (formOf_kind _ _ _ _ _ _ (by omega)).mono ?_; rintro r w2 ⟨rfl, hb2⟩; rw [show formT 9 = 65 from rfl]) | (go_at_call 69; refine (rule_pairForm _ _ _ _ _ _).mono ?_; rintro r w3 ⟨rfl, hb3⟩; have hb4 := hb2.trans (hb3.mono hb2.size); clear hb2 hb3; obtain ⟨hc, hf⟩ := bcell hb4; have hz : w.heap.size < w3.heap.size := (by have h := hb4.size; simp at h; omega)))
    go_ret
    exact ⟨ret_bool HC.out.symm, below_own0 hb4⟩

end Go.Proofs.YtdghblpaccaaiaaDoor
