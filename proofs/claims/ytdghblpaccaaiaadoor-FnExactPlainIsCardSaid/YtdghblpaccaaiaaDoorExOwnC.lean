/-
  The program's hasItsOwn, kind by kind (10 to 15).
-/
import Derived.Test.YtdghblpaccaaiaaDoorExOwnP
namespace Go.Proofs.YtdghblpaccaaiaaDoor
open Go.RowKit

theorem meth_10 (a b : ByteArray) (u : Int) (s : Value) (w : World) : (method 198 70 (.agg #[.int .i64 10, .string a, .string b, .int .i64 u, s]) "loop.example/ensemble/impl.rule").run Tryd.prog w = .ok (80, .agg #[.int .i64 10, .string a, .string b, .int .i64 u, s]) w := by kernel_rfl
set_option maxHeartbeats 2000000 in
theorem own_10 (a b : ByteArray) (u : Int) (al : Option Addr) (n cap : Nat) (w : World) (hn : n ≤ 9223372036854775807) (_ha : a.size ≤ maxLen) (_hb : b.size ≤ maxLen) (hT : Tab w) :
    Calls Tryd.prog 25 #[.agg #[.int .i64 10, .string a, .string b, .int .i64 u, .slice al n cap]] w fun r w' => r = .returned (.bool (ownC 10 n a b u)) ∧ Below w.heap.size w w' := by
  have hm := meth_10 a b u (.slice al n cap)
  have hTT : ∀ {w2 o o2}, Below (w.alloc o).heap.size (w.alloc o) w2 → Tab (w2.alloc o2) := fun h => ((hT.alloc _).below h (hT.alloc _).pos).alloc _
  by_cases hk : n = 1
  · subst hk
    by_cases h1 : 0 ≤ u
    · by_cases h2 : u ≤ 0
      · have HC : Hid (ownC 10 1 a b u = namesC 0 a b) := own_all 10 1 a b u rfl h1 h2
        go_enter Tryd.func25, Tryd.ntmps25
        go_wp2_with (first | (go_at_call 28; refine (formOf_kind _ _ _ _ _ _ (by omega)).mono ?_; rintro r w2 ⟨rfl, hb2⟩; rw [show formT 10 = 70 from rfl]) | (go_at_call 80; refine (rule_headForm _ _ _ _ _ _ rfl).mono ?_; rintro r w3 ⟨rfl, hb3⟩; have hb4 := hb2.trans (hb3.mono hb2.size); clear hb2 hb3; obtain ⟨hc, hf⟩ := bcell hb4; have hz : w.heap.size < w3.heap.size := (by have h := hb4.size; simp at h; omega)) | (go_at_call 29; refine (namesFit0 _ _ _ _ _ _).mono ?_; rintro r w5 ⟨rfl, hb5⟩))
        go_ret
        exact ⟨ret_bool HC.out.symm, below_own hb4 hb5⟩
      · have HC : Hid (ownC 10 1 a b u = false) := own_most 10 1 a b u h2
        go_enter Tryd.func25, Tryd.ntmps25
        go_wp2_with (first | (go_at_call 28; refine (formOf_kind _ _ _ _ _ _ (by omega)).mono ?_; rintro r w2 ⟨rfl, hb2⟩; rw [show formT 10 = 70 from rfl]) | (go_at_call 80; refine (rule_headForm _ _ _ _ _ _ rfl).mono ?_; rintro r w3 ⟨rfl, hb3⟩; have hb4 := hb2.trans (hb3.mono hb2.size); clear hb2 hb3; obtain ⟨hc, hf⟩ := bcell hb4; have hz : w.heap.size < w3.heap.size := (by have h := hb4.size; simp at h; omega)))
        go_ret
        exact ⟨ret_bool HC.out.symm, below_own0 hb4⟩
    · have HC : Hid (ownC 10 1 a b u = false) := own_least 10 1 a b u h1
      go_enter Tryd.func25, Tryd.ntmps25
      go_wp2_with (first | (go_at_call 28; refine (formOf_kind _ _ _ _ _ _ (by omega)).mono ?_; rintro r w2 ⟨rfl, hb2⟩; rw [show formT 10 = 70 from rfl]) | (go_at_call 80; refine (rule_headForm _ _ _ _ _ _ rfl).mono ?_; rintro r w3 ⟨rfl, hb3⟩; have hb4 := hb2.trans (hb3.mono hb2.size); clear hb2 hb3; obtain ⟨hc, hf⟩ := bcell hb4; have hz : w.heap.size < w3.heap.size := (by have h := hb4.size; simp at h; omega)))
      go_ret
      exact ⟨ret_bool HC.out.symm, below_own0 hb4⟩
  · have HC : Hid (ownC 10 n a b u = false) := own_kids 10 n a b u (by show ¬ (n : Int) = 1; omega)
    have hne : ((n : Int) == 1) = false := by simp; omega
    clear hk
    go_enter Tryd.func25, Tryd.ntmps25
    go_wp2_with (first | (go_at_call 28; refine (formOf_kind _ _ _ _ _ _ (by omega)).mono ?_; rintro r w2 ⟨rfl, hb2⟩; rw [show formT 10 = 70 from rfl]) | (go_at_call 80; refine (rule_headForm _ _ _ _ _ _ rfl).mono ?_; rintro r w3 ⟨rfl, hb3⟩; have hb4 := hb2.trans (hb3.mono hb2.size); clear hb2 hb3; obtain ⟨hc, hf⟩ := bcell hb4; have hz : w.heap.size < w3.heap.size := (by have h := hb4.size; simp at h; omega)))
    go_ret
    exact ⟨ret_bool HC.out.symm, below_own0 hb4⟩

theorem meth_11 (a b : ByteArray) (u : Int) (s : Value) (w : World) : (method 198 70 (.agg #[.int .i64 11, .string a, .string b, .int .i64 u, s]) "loop.example/ensemble/impl.rule").run Tryd.prog w = .ok (80, .agg #[.int .i64 11, .string a, .string b, .int .i64 u, s]) w := by kernel_rfl
set_option maxHeartbeats 2000000 in
theorem own_11 (a b : ByteArray) (u : Int) (al : Option Addr) (n cap : Nat) (w : World) (hn : n ≤ 9223372036854775807) (_ha : a.size ≤ maxLen) (_hb : b.size ≤ maxLen) (hT : Tab w) :
    Calls Tryd.prog 25 #[.agg #[.int .i64 11, .string a, .string b, .int .i64 u, .slice al n cap]] w fun r w' => r = .returned (.bool (ownC 11 n a b u)) ∧ Below w.heap.size w w' := by
  have hm := meth_11 a b u (.slice al n cap)
  have hTT : ∀ {w2 o o2}, Below (w.alloc o).heap.size (w.alloc o) w2 → Tab (w2.alloc o2) := fun h => ((hT.alloc _).below h (hT.alloc _).pos).alloc _
  by_cases hk : n = 1
  · subst hk
    by_cases h1 : 0 ≤ u
    · by_cases h2 : u ≤ 0
      · have HC : Hid (ownC 11 1 a b u = namesC 0 a b) := own_all 11 1 a b u rfl h1 h2
        go_enter Tryd.func25, Tryd.ntmps25
        go_wp2_with (first | (go_at_call 28; refine (formOf_kind _ _ _ _ _ _ (by omega)).mono ?_; rintro r w2 ⟨rfl, hb2⟩; rw [show formT 11 = 70 from rfl]) | (go_at_call 80; refine (rule_headForm _ _ _ _ _ _ rfl).mono ?_; rintro r w3 ⟨rfl, hb3⟩; have hb4 := hb2.trans (hb3.mono hb2.size); clear hb2 hb3; obtain ⟨hc, hf⟩ := bcell hb4; have hz : w.heap.size < w3.heap.size := (by have h := hb4.size; simp at h; omega)) | (go_at_call 29; refine (namesFit0 _ _ _ _ _ _).mono ?_; rintro r w5 ⟨rfl, hb5⟩))
        go_ret
        exact ⟨ret_bool HC.out.symm, below_own hb4 hb5⟩
      · have HC : Hid (ownC 11 1 a b u = false) := own_most 11 1 a b u h2
        go_enter Tryd.func25, Tryd.ntmps25
        go_wp2_with (first | (go_at_call 28; refine (formOf_kind _ _ _ _ _ _ (by omega)).mono ?_; rintro r w2 ⟨rfl, hb2⟩; rw [show formT 11 = 70 from rfl]) | (go_at_call 80; refine (rule_headForm _ _ _ _ _ _ rfl).mono ?_; rintro r w3 ⟨rfl, hb3⟩; have hb4 := hb2.trans (hb3.mono hb2.size); clear hb2 hb3; obtain ⟨hc, hf⟩ := bcell hb4; have hz : w.heap.size < w3.heap.size := (by have h := hb4.size; simp at h; omega)))
        go_ret
        exact ⟨ret_bool HC.out.symm, below_own0 hb4⟩
    · have HC : Hid (ownC 11 1 a b u = false) := own_least 11 1 a b u h1
      go_enter Tryd.func25, Tryd.ntmps25
      go_wp2_with (first | (go_at_call 28; refine (formOf_kind _ _ _ _ _ _ (by omega)).mono ?_; rintro r w2 ⟨rfl, hb2⟩; rw [show formT 11 = 70 from rfl]) | (go_at_call 80; refine (rule_headForm _ _ _ _ _ _ rfl).mono ?_; rintro r w3 ⟨rfl, hb3⟩; have hb4 := hb2.trans (hb3.mono hb2.size); clear hb2 hb3; obtain ⟨hc, hf⟩ := bcell hb4; have hz : w.heap.size < w3.heap.size := (by have h := hb4.size; simp at h; omega)))
      go_ret
      exact ⟨ret_bool HC.out.symm, below_own0 hb4⟩
  · have HC : Hid (ownC 11 n a b u = false) := own_kids 11 n a b u (by show ¬ (n : Int) = 1; omega)
    have hne : ((n : Int) == 1) = false := by simp; omega
    clear hk
    go_enter Tryd.func25, Tryd.ntmps25
    go_wp2_with (first | (go_at_call 28; refine (formOf_kind _ _ _ _ _ _ (by omega)).mono ?_; rintro r w2 ⟨rfl, hb2⟩; rw [show formT 11 = 70 from rfl]) | (go_at_call 80; refine (rule_headForm _ _ _ _ _ _ rfl).mono ?_; rintro r w3 ⟨rfl, hb3⟩; have hb4 := hb2.trans (hb3.mono hb2.size); clear hb2 hb3; obtain ⟨hc, hf⟩ := bcell hb4; have hz : w.heap.size < w3.heap.size := (by have h := hb4.size; simp at h; omega)))
    go_ret
    exact ⟨ret_bool HC.out.symm, below_own0 hb4⟩

theorem meth_12 (a b : ByteArray) (u : Int) (s : Value) (w : World) : (method 198 69 (.agg #[.int .i64 12, .string a, .string b, .int .i64 u, s]) "loop.example/ensemble/impl.rule").run Tryd.prog w = .ok (78, .agg #[.int .i64 12, .string a, .string b, .int .i64 u, s]) w := by kernel_rfl
set_option maxHeartbeats 2000000 in
theorem own_12 (a b : ByteArray) (u : Int) (al : Option Addr) (n cap : Nat) (w : World) (hn : n ≤ 9223372036854775807) (_ha : a.size ≤ maxLen) (_hb : b.size ≤ maxLen) (hT : Tab w) :
    Calls Tryd.prog 25 #[.agg #[.int .i64 12, .string a, .string b, .int .i64 u, .slice al n cap]] w fun r w' => r = .returned (.bool (ownC 12 n a b u)) ∧ Below w.heap.size w w' := by
  have hm := meth_12 a b u (.slice al n cap)
  have hTT : ∀ {w2 o o2}, Below (w.alloc o).heap.size (w.alloc o) w2 → Tab (w2.alloc o2) := fun h => ((hT.alloc _).below h (hT.alloc _).pos).alloc _
  by_cases hk : n = 0
  · subst hk
    by_cases h1 : 0 ≤ u
    · by_cases h2 : u ≤ 0
      · have HC : Hid (ownC 12 0 a b u = namesC 0 a b) := own_all 12 0 a b u rfl h1 h2
        go_enter Tryd.func25, Tryd.ntmps25
        go_wp2_with (first | (go_at_call 28; refine (formOf_kind _ _ _ _ _ _ (by omega)).mono ?_; rintro r w2 ⟨rfl, hb2⟩; rw [show formT 12 = 69 from rfl]) | (go_at_call 78; refine (rule_wordForm _ _ _ _ _ _).mono ?_; rintro r w3 ⟨rfl, hb3⟩; have hb4 := hb2.trans (hb3.mono hb2.size); clear hb2 hb3; obtain ⟨hc, hf⟩ := bcell hb4; have hz : w.heap.size < w3.heap.size := (by have h := hb4.size; simp at h; omega)) | (go_at_call 29; refine (namesFit0 _ _ _ _ _ _).mono ?_; rintro r w5 ⟨rfl, hb5⟩))
        go_ret
        exact ⟨ret_bool HC.out.symm, below_own hb4 hb5⟩
      · have HC : Hid (ownC 12 0 a b u = false) := own_most 12 0 a b u h2
        go_enter Tryd.func25, Tryd.ntmps25
        go_wp2_with (first | (go_at_call 28; refine (formOf_kind _ _ _ _ _ _ (by omega)).mono ?_; rintro r w2 ⟨rfl, hb2⟩; rw [show formT 12 = 69 from rfl]) | (go_at_call 78; refine (rule_wordForm _ _ _ _ _ _).mono ?_; rintro r w3 ⟨rfl, hb3⟩; have hb4 := hb2.trans (hb3.mono hb2.size); clear hb2 hb3; obtain ⟨hc, hf⟩ := bcell hb4; have hz : w.heap.size < w3.heap.size := (by have h := hb4.size; simp at h; omega)))
        go_ret
        exact ⟨ret_bool HC.out.symm, below_own0 hb4⟩
    · have HC : Hid (ownC 12 0 a b u = false) := own_least 12 0 a b u h1
      go_enter Tryd.func25, Tryd.ntmps25
      go_wp2_with (first | (go_at_call 28; refine (formOf_kind _ _ _ _ _ _ (by omega)).mono ?_; rintro r w2 ⟨rfl, hb2⟩; rw [show formT 12 = 69 from rfl]) | (go_at_call 78; refine (rule_wordForm _ _ _ _ _ _).mono ?_; rintro r w3 ⟨rfl, hb3⟩; have hb4 := hb2.trans (hb3.mono hb2.size); clear hb2 hb3; obtain ⟨hc, hf⟩ := bcell hb4; have hz : w.heap.size < w3.heap.size := (by have h := hb4.size; simp at h; omega)))
      go_ret
      exact ⟨ret_bool HC.out.symm, below_own0 hb4⟩
  · have HC : Hid (ownC 12 n a b u = false) := own_kids 12 n a b u (by show ¬ (n : Int) = 0; omega)
    have hne : ((n : Int) == 0) = false := by simp; omega
    clear hk
    go_enter Tryd.func25, Tryd.ntmps25
    go_wp2_with (first | (go_at_call 28; refine (formOf_kind _ _ _ _ _ _ (by omega)).mono ?_; rintro r w2 ⟨rfl, hb2⟩; rw [show formT 12 = 69 from rfl]) | (go_at_call 78; refine (rule_wordForm _ _ _ _ _ _).mono ?_; rintro r w3 ⟨rfl, hb3⟩; have hb4 := hb2.trans (hb3.mono hb2.size); clear hb2 hb3; obtain ⟨hc, hf⟩ := bcell hb4; have hz : w.heap.size < w3.heap.size := (by have h := hb4.size; simp at h; omega)))
    go_ret
    exact ⟨ret_bool HC.out.symm, below_own0 hb4⟩

theorem meth_13 (a b : ByteArray) (u : Int) (s : Value) (w : World) : (method 198 66 (.agg #[.int .i64 13, .string a, .string b, .int .i64 u, s]) "loop.example/ensemble/impl.rule").run Tryd.prog w = .ok (71, .agg #[.int .i64 13, .string a, .string b, .int .i64 u, s]) w := by kernel_rfl
set_option maxHeartbeats 2000000 in
theorem own_13 (a b : ByteArray) (u : Int) (al : Option Addr) (n cap : Nat) (w : World) (hn : n ≤ 9223372036854775807) (_ha : a.size ≤ maxLen) (_hb : b.size ≤ maxLen) (hT : Tab w) :
    Calls Tryd.prog 25 #[.agg #[.int .i64 13, .string a, .string b, .int .i64 u, .slice al n cap]] w fun r w' => r = .returned (.bool (ownC 13 n a b u)) ∧ Below w.heap.size w w' := by
  have hm := meth_13 a b u (.slice al n cap)
  have hTT : ∀ {w2 o o2}, Below (w.alloc o).heap.size (w.alloc o) w2 → Tab (w2.alloc o2) := fun h => ((hT.alloc _).below h (hT.alloc _).pos).alloc _
  by_cases hk : n = 2
  · subst hk
    by_cases h1 : 0 ≤ u
    · by_cases h2 : u ≤ 0
      · have HC : Hid (ownC 13 2 a b u = namesC 0 a b) := own_all 13 2 a b u rfl h1 h2
        go_enter Tryd.func25, Tryd.ntmps25
        go_wp2_with (first | (go_at_call 28; refine (formOf_kind _ _ _ _ _ _ (by omega)).mono ?_; rintro r w2 ⟨rfl, hb2⟩; rw [show formT 13 = 66 from rfl]) | (go_at_call 71; refine (rule_consForm _ _ _ _ _ _).mono ?_; rintro r w3 ⟨rfl, hb3⟩; have hb4 := hb2.trans (hb3.mono hb2.size); clear hb2 hb3; obtain ⟨hc, hf⟩ := bcell hb4; have hz : w.heap.size < w3.heap.size := (by have h := hb4.size; simp at h; omega)) | (go_at_call 29; refine (namesFit0 _ _ _ _ _ _).mono ?_; rintro r w5 ⟨rfl, hb5⟩))
        go_ret
        exact ⟨ret_bool HC.out.symm, below_own hb4 hb5⟩
      · have HC : Hid (ownC 13 2 a b u = false) := own_most 13 2 a b u h2
        go_enter Tryd.func25, Tryd.ntmps25
        go_wp2_with (first | (go_at_call 28; refine (formOf_kind _ _ _ _ _ _ (by omega)).mono ?_; rintro r w2 ⟨rfl, hb2⟩; rw [show formT 13 = 66 from rfl]) | (go_at_call 71; refine (rule_consForm _ _ _ _ _ _).mono ?_; rintro r w3 ⟨rfl, hb3⟩; have hb4 := hb2.trans (hb3.mono hb2.size); clear hb2 hb3; obtain ⟨hc, hf⟩ := bcell hb4; have hz : w.heap.size < w3.heap.size := (by have h := hb4.size; simp at h; omega)))
        go_ret
        exact ⟨ret_bool HC.out.symm, below_own0 hb4⟩
    · have HC : Hid (ownC 13 2 a b u = false) := own_least 13 2 a b u h1
      go_enter Tryd.func25, Tryd.ntmps25
      go_wp2_with (first | (go_at_call 28; refine (formOf_kind _ _ _ _ _ _ (by omega)).mono ?_; rintro r w2 ⟨rfl, hb2⟩; rw [show formT 13 = 66 from rfl]) | (go_at_call 71; refine (rule_consForm _ _ _ _ _ _).mono ?_; rintro r w3 ⟨rfl, hb3⟩; have hb4 := hb2.trans (hb3.mono hb2.size); clear hb2 hb3; obtain ⟨hc, hf⟩ := bcell hb4; have hz : w.heap.size < w3.heap.size := (by have h := hb4.size; simp at h; omega)))
      go_ret
      exact ⟨ret_bool HC.out.symm, below_own0 hb4⟩
  · have HC : Hid (ownC 13 n a b u = false) := own_kids 13 n a b u (by show ¬ (n : Int) = 2; omega)
    have hne : ((n : Int) == 2) = false := by simp; omega
    clear hk
    go_enter Tryd.func25, Tryd.ntmps25
    go_wp2_with (first | (go_at_call 28; refine (formOf_kind _ _ _ _ _ _ (by omega)).mono ?_; rintro r w2 ⟨rfl, hb2⟩; rw [show formT 13 = 66 from rfl]) | (go_at_call 71; refine (rule_consForm _ _ _ _ _ _).mono ?_; rintro r w3 ⟨rfl, hb3⟩; have hb4 := hb2.trans (hb3.mono hb2.size); clear hb2 hb3; obtain ⟨hc, hf⟩ := bcell hb4; have hz : w.heap.size < w3.heap.size := (by have h := hb4.size; simp at h; omega)))
    go_ret
    exact ⟨ret_bool HC.out.symm, below_own0 hb4⟩

theorem meth_14 (a b : ByteArray) (u : Int) (s : Value) (w : World) : (method 198 67 (.agg #[.int .i64 14, .string a, .string b, .int .i64 u, s]) "loop.example/ensemble/impl.rule").run Tryd.prog w = .ok (73, .agg #[.int .i64 14, .string a, .string b, .int .i64 u, s]) w := by kernel_rfl
set_option maxHeartbeats 2000000 in
theorem own_14 (a b : ByteArray) (u : Int) (al : Option Addr) (n cap : Nat) (w : World) (hn : n ≤ 9223372036854775807) (ha : a.size ≤ maxLen) (hb : b.size ≤ maxLen) (hT : Tab w) :
    Calls Tryd.prog 25 #[.agg #[.int .i64 14, .string a, .string b, .int .i64 u, .slice al n cap]] w fun r w' => r = .returned (.bool (ownC 14 n a b u)) ∧ Below w.heap.size w w' := by
  have hm := meth_14 a b u (.slice al n cap)
  have hTT : ∀ {w2 o o2}, Below (w.alloc o).heap.size (w.alloc o) w2 → Tab (w2.alloc o2) := fun h => ((hT.alloc _).below h (hT.alloc _).pos).alloc _
  by_cases hk : n = 3
  · subst hk
    by_cases h1 : 0 ≤ u
    · by_cases h2 : u ≤ 0
      · have HC : Hid (ownC 14 3 a b u = namesC 2 a b) := own_all 14 3 a b u rfl h1 h2
        go_enter Tryd.func25, Tryd.ntmps25
        go_wp2_with (first | (go_at_call 28; refine (formOf_kind _ _ _ _ _ _ (by omega)).mono ?_; rintro r w2 ⟨rfl, hb2⟩; rw [show formT 14 = 67 from rfl]) | (go_at_call 73; refine (rule_caseForm _ _ _ _ _ _).mono ?_; rintro r w3 ⟨rfl, hb3⟩; have hb4 := hb2.trans (hb3.mono hb2.size); clear hb2 hb3; obtain ⟨hc, hf⟩ := bcell hb4; have hz : w.heap.size < w3.heap.size := (by have h := hb4.size; simp at h; omega)) | (go_at_call 29; refine (namesFit2 _ _ _ _ _ _ ha hb (hTT hb4)).mono ?_; rintro r w5 ⟨rfl, hb5⟩))
        go_ret
        exact ⟨ret_bool HC.out.symm, below_own hb4 hb5⟩
      · have HC : Hid (ownC 14 3 a b u = false) := own_most 14 3 a b u h2
        go_enter Tryd.func25, Tryd.ntmps25
        go_wp2_with (first | (go_at_call 28; refine (formOf_kind _ _ _ _ _ _ (by omega)).mono ?_; rintro r w2 ⟨rfl, hb2⟩; rw [show formT 14 = 67 from rfl]) | (go_at_call 73; refine (rule_caseForm _ _ _ _ _ _).mono ?_; rintro r w3 ⟨rfl, hb3⟩; have hb4 := hb2.trans (hb3.mono hb2.size); clear hb2 hb3; obtain ⟨hc, hf⟩ := bcell hb4; have hz : w.heap.size < w3.heap.size := (by have h := hb4.size; simp at h; omega)))
        go_ret
        exact ⟨ret_bool HC.out.symm, below_own0 hb4⟩
    · have HC : Hid (ownC 14 3 a b u = false) := own_least 14 3 a b u h1
      go_enter Tryd.func25, Tryd.ntmps25
      go_wp2_with (first | (go_at_call 28; refine (formOf_kind _ _ _ _ _ _ (by omega)).mono ?_; rintro r w2 ⟨rfl, hb2⟩; rw [show formT 14 = 67 from rfl]) | (go_at_call 73; refine (rule_caseForm _ _ _ _ _ _).mono ?_; rintro r w3 ⟨rfl, hb3⟩; have hb4 := hb2.trans (hb3.mono hb2.size); clear hb2 hb3; obtain ⟨hc, hf⟩ := bcell hb4; have hz : w.heap.size < w3.heap.size := (by have h := hb4.size; simp at h; omega)))
      go_ret
      exact ⟨ret_bool HC.out.symm, below_own0 hb4⟩
  · have HC : Hid (ownC 14 n a b u = false) := own_kids 14 n a b u (by show ¬ (n : Int) = 3; omega)
    have hne : ((n : Int) == 3) = false := by simp; omega
    clear hk
    go_enter Tryd.func25, Tryd.ntmps25
    go_wp2_with (first | (go_at_call 28; refine (formOf_kind _ _ _ _ _ _ (by omega)).mono ?_; rintro r w2 ⟨rfl, hb2⟩; rw [show formT 14 = 67 from rfl]) | (go_at_call 73; refine (rule_caseForm _ _ _ _ _ _).mono ?_; rintro r w3 ⟨rfl, hb3⟩; have hb4 := hb2.trans (hb3.mono hb2.size); clear hb2 hb3; obtain ⟨hc, hf⟩ := bcell hb4; have hz : w.heap.size < w3.heap.size := (by have h := hb4.size; simp at h; omega)))
    go_ret
    exact ⟨ret_bool HC.out.symm, below_own0 hb4⟩

theorem meth_15 (a b : ByteArray) (u : Int) (s : Value) (w : World) : (method 198 68 (.agg #[.int .i64 15, .string a, .string b, .int .i64 u, s]) "loop.example/ensemble/impl.rule").run Tryd.prog w = .ok (75, .agg #[.int .i64 15, .string a, .string b, .int .i64 u, s]) w := by kernel_rfl
set_option maxHeartbeats 2000000 in
theorem own_15 (a b : ByteArray) (u : Int) (al : Option Addr) (n cap : Nat) (w : World) (hn : n ≤ 9223372036854775807) (_ha : a.size ≤ maxLen) (_hb : b.size ≤ maxLen) (hT : Tab w) :
    Calls Tryd.prog 25 #[.agg #[.int .i64 15, .string a, .string b, .int .i64 u, .slice al n cap]] w fun r w' => r = .returned (.bool (ownC 15 n a b u)) ∧ Below w.heap.size w w' := by
  have hm := meth_15 a b u (.slice al n cap)
  have hTT : ∀ {w2 o o2}, Below (w.alloc o).heap.size (w.alloc o) w2 → Tab (w2.alloc o2) := fun h => ((hT.alloc _).below h (hT.alloc _).pos).alloc _
  by_cases hk : n = 2
  · subst hk
    by_cases h1 : 1 ≤ u
    · by_cases h2 : u ≤ 6
      · have HC : Hid (ownC 15 2 a b u = namesC 0 a b) := own_all 15 2 a b u rfl h1 h2
        go_enter Tryd.func25, Tryd.ntmps25
        go_wp2_with (first | (go_at_call 28; refine (formOf_kind _ _ _ _ _ _ (by omega)).mono ?_; rintro r w2 ⟨rfl, hb2⟩; rw [show formT 15 = 68 from rfl]) | (go_at_call 75; refine (rule_opForm _ _ _ _ _ _).mono ?_; rintro r w3 ⟨rfl, hb3⟩; have hb4 := hb2.trans (hb3.mono hb2.size); clear hb2 hb3; obtain ⟨hc, hf⟩ := bcell hb4; have hz : w.heap.size < w3.heap.size := (by have h := hb4.size; simp at h; omega)) | (go_at_call 29; refine (namesFit0 _ _ _ _ _ _).mono ?_; rintro r w5 ⟨rfl, hb5⟩))
        go_ret
        exact ⟨ret_bool HC.out.symm, below_own hb4 hb5⟩
      · have HC : Hid (ownC 15 2 a b u = false) := own_most 15 2 a b u h2
        go_enter Tryd.func25, Tryd.ntmps25
        go_wp2_with (first | (go_at_call 28; refine (formOf_kind _ _ _ _ _ _ (by omega)).mono ?_; rintro r w2 ⟨rfl, hb2⟩; rw [show formT 15 = 68 from rfl]) | (go_at_call 75; refine (rule_opForm _ _ _ _ _ _).mono ?_; rintro r w3 ⟨rfl, hb3⟩; have hb4 := hb2.trans (hb3.mono hb2.size); clear hb2 hb3; obtain ⟨hc, hf⟩ := bcell hb4; have hz : w.heap.size < w3.heap.size := (by have h := hb4.size; simp at h; omega)))
        go_ret
        exact ⟨ret_bool HC.out.symm, below_own0 hb4⟩
    · have HC : Hid (ownC 15 2 a b u = false) := own_least 15 2 a b u h1
      go_enter Tryd.func25, Tryd.ntmps25
      go_wp2_with (first | (go_at_call 28; refine (formOf_kind _ _ _ _ _ _ (by omega)).mono ?_; rintro r w2 ⟨rfl, hb2⟩; rw [show formT 15 = 68 from rfl]) | (go_at_call 75; refine (rule_opForm _ _ _ _ _ _).mono ?_; rintro r w3 ⟨rfl, hb3⟩; have hb4 := hb2.trans (hb3.mono hb2.size); clear hb2 hb3; obtain ⟨hc, hf⟩ := bcell hb4; have hz : w.heap.size < w3.heap.size := (by have h := hb4.size; simp at h; omega)))
      go_ret
      exact ⟨ret_bool HC.out.symm, below_own0 hb4⟩
  · have HC : Hid (ownC 15 n a b u = false) := own_kids 15 n a b u (by show ¬ (n : Int) = 2; omega)
    have hne : ((n : Int) == 2) = false := by simp; omega
    clear hk
    go_enter Tryd.func25, Tryd.ntmps25
    go_wp2_with (first | (go_at_call 28; refine (formOf_kind _ _ _ _ _ _ (by omega)).mono ?_; rintro r w2 ⟨rfl, hb2⟩; rw [show formT 15 = 68 from rfl]) | (go_at_call 75; refine (rule_opForm _ _ _ _ _ _).mono ?_; rintro r w3 ⟨rfl, hb3⟩; have hb4 := hb2.trans (hb3.mono hb2.size); clear hb2 hb3; obtain ⟨hc, hf⟩ := bcell hb4; have hz : w.heap.size < w3.heap.size := (by have h := hb4.size; simp at h; omega)))
    go_ret
    exact ⟨ret_bool HC.out.symm, below_own0 hb4⟩

end Go.Proofs.YtdghblpaccaaiaaDoor
