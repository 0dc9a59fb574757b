/-
  The program's hasItsOwn, kind by kind (16 to 21).
-/
import Derived.Test.YtdghblpaccaaiaaDoorExOwnP
namespace Go.Proofs.YtdghblpaccaaiaaDoor
open Go.RowKit

theorem meth_16 (a b : ByteArray) (u : Int) (s : Value) (w : World) : (method 198 70 (.agg #[.int .i64 16, .string a, .string b, .int .i64 u, s]) "loop.example/ensemble/impl.rule").run Tryd.prog w = .ok (80, .agg #[.int .i64 16, .string a, .string b, .int .i64 u, s]) w := by kernel_rfl
set_option maxHeartbeats 2000000 in
theorem own_16 (a b : ByteArray) (u : Int) (al : Option Addr) (n cap : Nat) (w : World) (hn : n ≤ 9223372036854775807) (_ha : a.size ≤ maxLen) (_hb : b.size ≤ maxLen) (hT : Tab w) :
    Calls Tryd.prog 25 #[.agg #[.int .i64 16, .string a, .string b, .int .i64 u, .slice al n cap]] w fun r w' => r = .returned (.bool (ownC 16 n a b u)) ∧ Below w.heap.size w w' := by
  have hm := meth_16 a b u (.slice al n cap)
  have hTT : ∀ {w2 o o2}, Below (w.alloc o).heap.size (w.alloc o) w2 → Tab (w2.alloc o2) := fun h => ((hT.alloc _).below h (hT.alloc _).pos).alloc _
  by_cases hk : n = 1
  · subst hk
    by_cases h1 : 0 ≤ u
    · by_cases h2 : u ≤ 0
      · have HC : Hid (ownC 16 1 a b u = namesC 0 a b) := own_all 16 1 a b u rfl h1 h2
        go_enter Tryd.func25, Tryd.ntmps25
        go_wp2_with (first | (go_at_call 28; refine (formOf_kind _ _ _ _ _ _ (by omega)).mono ?_; rintro r w2 ⟨rfl, hb2⟩; rw [show formT 16 = 70 from rfl]) | (go_at_call 80; refine (rule_headForm _ _ _ _ _ _ rfl).mono ?_; rintro r w3 ⟨rfl, hb3⟩; have hb4 := hb2.trans (hb3.mono hb2.size); clear hb2 hb3; obtain ⟨hc, hf⟩ := bcell hb4; have hz : w.heap.size < w3.heap.size := (by have h := hb4.size; simp at h; omega)) | (go_at_call 29; refine (namesFit0 _ _ _ _ _ _).mono ?_; rintro r w5 ⟨rfl, hb5⟩))
        go_ret
        exact ⟨ret_bool HC.out.symm, below_own hb4 hb5⟩
      · have HC : Hid (ownC 16 1 a b u = false) := own_most 16 1 a b u h2
        go_enter Tryd.func25, Tryd.ntmps25
        go_wp2_with (first | (go_at_call 28; refine (formOf_kind _ _ _ _ _ _ (by omega)).mono ?_; rintro r w2 ⟨rfl, hb2⟩; rw [show formT 16 = 70 from rfl]) | (go_at_call 80; refine (rule_headForm _ _ _ _ _ _ rfl).mono ?_; rintro r w3 ⟨rfl, hb3⟩; have hb4 := hb2.trans (hb3.mono hb2.size); clear hb2 hb3; obtain ⟨hc, hf⟩ := bcell hb4; have hz : w.heap.size < w3.heap.size := (by have h := hb4.size; simp at h; omega)))
        go_ret
        exact ⟨ret_bool HC.out.symm, below_own0 hb4⟩
    · have HC : Hid (ownC 16 1 a b u = false) := own_least 16 1 a b u h1
      go_enter Tryd.func25, Tryd.ntmps25
      go_wp2_with (first | (go_at_call 28; refine (formOf_kind _ _ _ _ _ _ (by omega)).mono ?_; rintro r w2 ⟨rfl, hb2⟩; rw [show formT 16 = 70 from rfl]) | (go_at_call 80; refine (rule_headForm _ _ _ _ _ _ rfl).mono ?_; rintro r w3 ⟨rfl, hb3⟩; have hb4 := hb2.trans (hb3.mono hb2.size); clear hb2 hb3; obtain ⟨hc, hf⟩ := bcell hb4; have hz : w.heap.size < w3.heap.size := (by have h := hb4.size; simp at h; omega)))
      go_ret
      exact ⟨ret_bool HC.out.symm, below_own0 hb4⟩
  · have HC : Hid (ownC 16 n a b u = false) := own_kids 16 n a b u (by show ¬ (n : Int) = 1; omega)
    have hne : ((n : Int) == 1) = false := by simp; omega
    clear hk
    go_enter Tryd.func25, Tryd.ntmps25
    go_wp2_with (first | (go_at_call 28; refine (formOf_kind _ _ _ _ _ _ (by omega)).mono ?_; rintro r w2 ⟨rfl, hb2⟩; rw [show formT 16 = 70 from rfl]) | (go_at_call 80; refine (rule_headForm _ _ _ _ _ _ rfl).mono ?_; rintro r w3 ⟨rfl, hb3⟩; have hb4 := hb2.trans (hb3.mono hb2.size); clear hb2 hb3; obtain ⟨hc, hf⟩ := bcell hb4; have hz : w.heap.size < w3.heap.size := (by have h := hb4.size; simp at h; omega)))
    go_ret
    exact ⟨ret_bool HC.out.symm, below_own0 hb4⟩

theorem meth_17 (a b : ByteArray) (u : Int) (s : Value) (w : World) : (method 198 70 (.agg #[.int .i64 17, .string a, .string b, .int .i64 u, s]) "loop.example/ensemble/impl.rule").run Tryd.prog w = .ok (80, .agg #[.int .i64 17, .string a, .string b, .int .i64 u, s]) w := by kernel_rfl
set_option maxHeartbeats 2000000 in
theorem own_17 (a b : ByteArray) (u : Int) (al : Option Addr) (n cap : Nat) (w : World) (hn : n ≤ 9223372036854775807) (_ha : a.size ≤ maxLen) (_hb : b.size ≤ maxLen) (hT : Tab w) :
    Calls Tryd.prog 25 #[.agg #[.int .i64 17, .string a, .string b, .int .i64 u, .slice al n cap]] w fun r w' => r = .returned (.bool (ownC 17 n a b u)) ∧ Below w.heap.size w w' := by
  have hm := meth_17 a b u (.slice al n cap)
  have hTT : ∀ {w2 o o2}, Below (w.alloc o).heap.size (w.alloc o) w2 → Tab (w2.alloc o2) := fun h => ((hT.alloc _).below h (hT.alloc _).pos).alloc _
  by_cases hk : n = 2
  · subst hk
    by_cases h1 : 0 ≤ u
    · by_cases h2 : u ≤ 0
      · have HC : Hid (ownC 17 2 a b u = namesC 0 a b) := own_all 17 2 a b u rfl h1 h2
        go_enter Tryd.func25, Tryd.ntmps25
        go_wp2_with (first | (go_at_call 28; refine (formOf_kind _ _ _ _ _ _ (by omega)).mono ?_; rintro r w2 ⟨rfl, hb2⟩; rw [show formT 17 = 70 from rfl]) | (go_at_call 80; refine (rule_headForm2 _ _ _ _ _).mono ?_; rintro r w3 ⟨rfl, hb3⟩; have hb4 := hb2.trans (hb3.mono hb2.size); clear hb2 hb3; obtain ⟨hc, hf⟩ := bcell hb4; have hz : w.heap.size < w3.heap.size := (by have h := hb4.size; simp at h; omega)) | (go_at_call 29; refine (namesFit0 _ _ _ _ _ _).mono ?_; rintro r w5 ⟨rfl, hb5⟩))
        go_ret
        exact ⟨ret_bool HC.out.symm, below_own hb4 hb5⟩
      · have HC : Hid (ownC 17 2 a b u = false) := own_most 17 2 a b u h2
        go_enter Tryd.func25, Tryd.ntmps25
        go_wp2_with (first | (go_at_call 28; refine (formOf_kind _ _ _ _ _ _ (by omega)).mono ?_; rintro r w2 ⟨rfl, hb2⟩; rw [show formT 17 = 70 from rfl]) | (go_at_call 80; refine (rule_headForm2 _ _ _ _ _).mono ?_; rintro r w3 ⟨rfl, hb3⟩; have hb4 := hb2.trans (hb3.mono hb2.size); clear hb2 hb3; obtain ⟨hc, hf⟩ := bcell hb4; have hz : w.heap.size < w3.heap.size := (by have h := hb4.size; simp at h; omega)))
        go_ret
        exact ⟨ret_bool HC.out.symm, below_own0 hb4⟩
    · have HC : Hid (ownC 17 2 a b u = false) := own_least 17 2 a b u h1
      go_enter Tryd.func25, Tryd.ntmps25
      go_wp2_with (first | (go_at_call 28; refine (formOf_kind _ _ _ _ _ _ (by omega)).mono ?_; rintro r w2 ⟨rfl, hb2⟩; rw [show formT 17 = 70 from rfl]) | (go_at_call 80; refine (rule_headForm2 _ _ _ _ _).mono ?_; rintro r w3 ⟨rfl, hb3⟩; have hb4 := hb2.trans (hb3.mono hb2.size); clear hb2 hb3; obtain ⟨hc, hf⟩ := bcell hb4; have hz : w.heap.size < w3.heap.size := (by have h := hb4.size; simp at h; omega)))
      go_ret
      exact ⟨ret_bool HC.out.symm, below_own0 hb4⟩
  · have HC : Hid (ownC 17 n a b u = false) := own_kids 17 n a b u (by show ¬ (n : Int) = 2; omega)
    have hne : ((n : Int) == 2) = false := by simp; omega
    clear hk
    go_enter Tryd.func25, Tryd.ntmps25
    go_wp2_with (first | (go_at_call 28; refine (formOf_kind _ _ _ _ _ _ (by omega)).mono ?_; rintro r w2 ⟨rfl, hb2⟩; rw [show formT 17 = 70 from rfl]) | (go_at_call 80; refine (rule_headForm2 _ _ _ _ _).mono ?_; rintro r w3 ⟨rfl, hb3⟩; have hb4 := hb2.trans (hb3.mono hb2.size); clear hb2 hb3; obtain ⟨hc, hf⟩ := bcell hb4; have hz : w.heap.size < w3.heap.size := (by have h := hb4.size; simp at h; omega)))
    go_ret
    exact ⟨ret_bool HC.out.symm, below_own0 hb4⟩

theorem meth_18 (a b : ByteArray) (u : Int) (s : Value) (w : World) : (method 198 69 (.agg #[.int .i64 18, .string a, .string b, .int .i64 u, s]) "loop.example/ensemble/impl.rule").run Tryd.prog w = .ok (78, .agg #[.int .i64 18, .string a, .string b, .int .i64 u, s]) w := by kernel_rfl
set_option maxHeartbeats 2000000 in
theorem own_18 (a b : ByteArray) (u : Int) (al : Option Addr) (n cap : Nat) (w : World) (hn : n ≤ 9223372036854775807) (_ha : a.size ≤ maxLen) (_hb : b.size ≤ maxLen) (hT : Tab w) :
    Calls Tryd.prog 25 #[.agg #[.int .i64 18, .string a, .string b, .int .i64 u, .slice al n cap]] w fun r w' => r = .returned (.bool (ownC 18 n a b u)) ∧ Below w.heap.size w w' := by
  have hm := meth_18 a b u (.slice al n cap)
  have hTT : ∀ {w2 o o2}, Below (w.alloc o).heap.size (w.alloc o) w2 → Tab (w2.alloc o2) := fun h => ((hT.alloc _).below h (hT.alloc _).pos).alloc _
  by_cases hk : n = 0
  · subst hk
    by_cases h1 : 0 ≤ u
    · by_cases h2 : u ≤ 0
      · have HC : Hid (ownC 18 0 a b u = namesC 0 a b) := own_all 18 0 a b u rfl h1 h2
        go_enter Tryd.func25, Tryd.ntmps25
        go_wp2_with (first | (go_at_call 28; refine (formOf_kind _ _ _ _ _ _ (by omega)).mono ?_; rintro r w2 ⟨rfl, hb2⟩; rw [show formT 18 = 69 from rfl]) | (go_at_call 78; refine (rule_wordForm _ _ _ _ _ _).mono ?_; rintro r w3 ⟨rfl, hb3⟩; have hb4 := hb2.trans (hb3.mono hb2.size); clear hb2 hb3; obtain ⟨hc, hf⟩ := bcell hb4; have hz : w.heap.size < w3.heap.size := (by have h := hb4.size; simp at h; omega)) | (go_at_call 29; refine (namesFit0 _ _ _ _ _ _).mono ?_; rintro r w5 ⟨rfl, hb5⟩))
        go_ret
        exact ⟨ret_bool HC.out.symm, below_own hb4 hb5⟩
      · have HC : Hid (ownC 18 0 a b u = false) := own_most 18 0 a b u h2
        go_enter Tryd.func25, Tryd.ntmps25
        go_wp2_with (first | (go_at_call 28; refine (formOf_kind _ _ _ _ _ _ (by omega)).mono ?_; rintro r w2 ⟨rfl, hb2⟩; rw [show formT 18 = 69 from rfl]) | (go_at_call 78; refine (rule_wordForm _ _ _ _ _ _).mono ?_; rintro r w3 ⟨rfl, hb3⟩; have hb4 := hb2.trans (hb3.mono hb2.size); clear hb2 hb3; obtain ⟨hc, hf⟩ := bcell hb4; have hz : w.heap.size < w3.heap.size := (by have h := hb4.size; simp at h; omega)))
        go_ret
        exact ⟨ret_bool HC.out.symm, below_own0 hb4⟩
    · have HC : Hid (ownC 18 0 a b u = false) := own_least 18 0 a b u h1
      go_enter Tryd.func25, Tryd.ntmps25
      go_wp2_with (first | (go_at_call 28; refine (formOf_kind _ _ _ _ _ _ (by omega)).mono ?_; rintro r w2 ⟨rfl, hb2⟩; rw [show formT 18 = 69 from rfl]) | (go_at_call 78; refine (rule_wordForm _ _ _ _ _ _).mono ?_; rintro r w3 ⟨rfl, hb3⟩; have hb4 := hb2.trans (hb3.mono hb2.size); clear hb2 hb3; obtain ⟨hc, hf⟩ := bcell hb4; have hz : w.heap.size < w3.heap.size := (by have h := hb4.size; simp at h; omega)))
      go_ret
      exact ⟨ret_bool HC.out.symm, below_own0 hb4⟩
  · have HC : Hid (ownC 18 n a b u = false) := own_kids 18 n a b u (by show ¬ (n : Int) = 0; omega)
    have hne : ((n : Int) == 0) = false := by simp; omega
    clear hk
    go_enter Tryd.func25, Tryd.ntmps25
    go_wp2_with (first | (go_at_call 28; refine (formOf_kind _ _ _ _ _ _ (by omega)).mono ?_; rintro r w2 ⟨rfl, hb2⟩; rw [show formT 18 = 69 from rfl]) | (go_at_call 78; refine (rule_wordForm _ _ _ _ _ _).mono ?_; rintro r w3 ⟨rfl, hb3⟩; have hb4 := hb2.trans (hb3.mono hb2.size); clear hb2 hb3; obtain ⟨hc, hf⟩ := bcell hb4; have hz : w.heap.size < w3.heap.size := (by have h := hb4.size; simp at h; omega)))
    go_ret
    exact ⟨ret_bool HC.out.symm, below_own0 hb4⟩

theorem meth_19 (a b : ByteArray) (u : Int) (s : Value) (w : World) : (method 198 69 (.agg #[.int .i64 19, .string a, .string b, .int .i64 u, s]) "loop.example/ensemble/impl.rule").run Tryd.prog w = .ok (78, .agg #[.int .i64 19, .string a, .string b, .int .i64 u, s]) w := by kernel_rfl
set_option maxHeartbeats 2000000 in
theorem own_19 (a b : ByteArray) (u : Int) (al : Option Addr) (n cap : Nat) (w : World) (hn : n ≤ 9223372036854775807) (_ha : a.size ≤ maxLen) (_hb : b.size ≤ maxLen) (hT : Tab w) :
    Calls Tryd.prog 25 #[.agg #[.int .i64 19, .string a, .string b, .int .i64 u, .slice al n cap]] w fun r w' => r = .returned (.bool (ownC 19 n a b u)) ∧ Below w.heap.size w w' := by
  have hm := meth_19 a b u (.slice al n cap)
  have hTT : ∀ {w2 o o2}, Below (w.alloc o).heap.size (w.alloc o) w2 → Tab (w2.alloc o2) := fun h => ((hT.alloc _).below h (hT.alloc _).pos).alloc _
  by_cases hk : n = 0
  · subst hk
    by_cases h1 : 0 ≤ u
    · by_cases h2 : u ≤ 0
      · have HC : Hid (ownC 19 0 a b u = namesC 0 a b) := own_all 19 0 a b u rfl h1 h2
        go_enter Tryd.func25, Tryd.ntmps25
        go_wp2_with (first | (go_at_call 28; refine (formOf_kind _ _ _ _ _ _ (by omega)).mono ?_; rintro r w2 ⟨rfl, hb2⟩; rw [show formT 19 = 69 from rfl]) | (go_at_call 78; refine (rule_wordForm _ _ _ _ _ _).mono ?_; rintro r w3 ⟨rfl, hb3⟩; have hb4 := hb2.trans (hb3.mono hb2.size); clear hb2 hb3; obtain ⟨hc, hf⟩ := bcell hb4; have hz : w.heap.size < w3.heap.size := (by have h := hb4.size; simp at h; omega)) | (go_at_call 29; refine (namesFit0 _ _ _ _ _ _).mono ?_; rintro r w5 ⟨rfl, hb5⟩))
        go_ret
        exact ⟨ret_bool HC.out.symm, below_own hb4 hb5⟩
      · have HC : Hid (ownC 19 0 a b u = false) := own_most 19 0 a b u h2
        go_enter Tryd.func25, Tryd.ntmps25
        go_wp2_with (first | (go_at_call 28; refine (formOf_kind _ _ _ _ _ _ (by omega)).mono ?_; rintro r w2 ⟨rfl, hb2⟩; rw [show formT 19 = 69 from rfl]) | (go_at_call 78; refine (rule_wordForm _ _ _ _ _ _).mono ?_; rintro r w3 ⟨rfl, hb3⟩; have hb4 := hb2.trans (hb3.mono hb2.size); clear hb2 hb3; obtain ⟨hc, hf⟩ := bcell hb4; have hz : w.heap.size < w3.heap.size := (by have h := hb4.size; simp at h; omega)))
        go_ret
        exact ⟨ret_bool HC.out.symm, below_own0 hb4⟩
    · have HC : Hid (ownC 19 0 a b u = false) := own_least 19 0 a b u h1
      go_enter Tryd.func25, Tryd.ntmps25
      go_wp2_with (first | (go_at_call 28; refine (formOf_kind _ _ _ _ _ _ (by omega)).mono ?_; rintro r w2 ⟨rfl, hb2⟩; rw [show formT 19 = 69 from rfl]) | (go_at_call 78; refine (rule_wordForm _ _ _ _ _ _).mono ?_; rintro r w3 ⟨rfl, hb3⟩; have hb4 := hb2.trans (hb3.mono hb2.size); clear hb2 hb3; obtain ⟨hc, hf⟩ := bcell hb4; have hz : w.heap.size < w3.heap.size := (by have h := hb4.size; simp at h; omega)))
      go_ret
      exact ⟨ret_bool HC.out.symm, below_own0 hb4⟩
  · have HC : Hid (ownC 19 n a b u = false) := own_kids 19 n a b u (by show ¬ (n : Int) = 0; omega)
    have hne : ((n : Int) == 0) = false := by simp; omega
    clear hk
    go_enter Tryd.func25, Tryd.ntmps25
    go_wp2_with (first | (go_at_call 28; refine (formOf_kind _ _ _ _ _ _ (by omega)).mono ?_; rintro r w2 ⟨rfl, hb2⟩; rw [show formT 19 = 69 from rfl]) | (go_at_call 78; refine (rule_wordForm _ _ _ _ _ _).mono ?_; rintro r w3 ⟨rfl, hb3⟩; have hb4 := hb2.trans (hb3.mono hb2.size); clear hb2 hb3; obtain ⟨hc, hf⟩ := bcell hb4; have hz : w.heap.size < w3.heap.size := (by have h := hb4.size; simp at h; omega)))
    go_ret
    exact ⟨ret_bool HC.out.symm, below_own0 hb4⟩

theorem meth_20 (a b : ByteArray) (u : Int) (s : Value) (w : World) : (method 198 70 (.agg #[.int .i64 20, .string a, .string b, .int .i64 u, s]) "loop.example/ensemble/impl.rule").run Tryd.prog w = .ok (80, .agg #[.int .i64 20, .string a, .string b, .int .i64 u, s]) w := by kernel_rfl
set_option maxHeartbeats 2000000 in
theorem own_20 (a b : ByteArray) (u : Int) (al : Option Addr) (n cap : Nat) (w : World) (hn : n ≤ 9223372036854775807) (_ha : a.size ≤ maxLen) (_hb : b.size ≤ maxLen) (hT : Tab w) :
    Calls Tryd.prog 25 #[.agg #[.int .i64 20, .string a, .string b, .int .i64 u, .slice al n cap]] w fun r w' => r = .returned (.bool (ownC 20 n a b u)) ∧ Below w.heap.size w w' := by
  have hm := meth_20 a b u (.slice al n cap)
  have hTT : ∀ {w2 o o2}, Below (w.alloc o).heap.size (w.alloc o) w2 → Tab (w2.alloc o2) := fun h => ((hT.alloc _).below h (hT.alloc _).pos).alloc _
  by_cases hk : n = 1
  · subst hk
    by_cases h1 : 0 ≤ u
    · by_cases h2 : u ≤ 0
      · have HC : Hid (ownC 20 1 a b u = namesC 0 a b) := own_all 20 1 a b u rfl h1 h2
        go_enter Tryd.func25, Tryd.ntmps25
        go_wp2_with (first | (go_at_call 28; refine (formOf_kind _ _ _ _ _ _ (by omega)).mono ?_; rintro r w2 ⟨rfl, hb2⟩; rw [show formT 20 = 70 from rfl]) | (go_at_call 80; refine (rule_headForm _ _ _ _ _ _ rfl).mono ?_; rintro r w3 ⟨rfl, hb3⟩; have hb4 := hb2.trans (hb3.mono hb2.size); clear hb2 hb3; obtain ⟨hc, hf⟩ := bcell hb4; have hz : w.heap.size < w3.heap.size := (by have h := hb4.size; simp at h; omega)) | (go_at_call 29; refine (namesFit0 _ _ _ _ _ _).mono ?_; rintro r w5 ⟨rfl, hb5⟩))
        go_ret
        exact ⟨ret_bool HC.out.symm, below_own hb4 hb5⟩
      · have HC : Hid (ownC 20 1 a b u = false) := own_most 20 1 a b u h2
        go_enter Tryd.func25, Tryd.ntmps25
        go_wp2_with (first | (go_at_call 28; refine (formOf_kind _ _ _ _ _ _ (by omega)).mono ?_; rintro r w2 ⟨rfl, hb2⟩; rw [show formT 20 = 70 from rfl]) | (go_at_call 80; refine (rule_headForm _ _ _ _ _ _ rfl).mono ?_; rintro r w3 ⟨rfl, hb3⟩; have hb4 := hb2.trans (hb3.mono hb2.size); clear hb2 hb3; obtain ⟨hc, hf⟩ := bcell hb4; have hz : w.heap.size < w3.heap.size := (by have h := hb4.size; simp at h; omega)))
        go_ret
        exact ⟨ret_bool HC.out.symm, below_own0 hb4⟩
    · have HC : Hid (ownC 20 1 a b u = false) := own_least 20 1 a b u h1
      go_enter Tryd.func25, Tryd.ntmps25
      go_wp2_with (first | (go_at_call 28; refine (formOf_kind _ _ _ _ _ _ (by omega)).mono ?_; rintro r w2 ⟨rfl, hb2⟩; rw [show formT 20 = 70 from rfl]) | (go_at_call 80; refine (rule_headForm _ _ _ _ _ _ rfl).mono ?_; rintro r w3 ⟨rfl, hb3⟩; have hb4 := hb2.trans (hb3.mono hb2.size); clear hb2 hb3; obtain ⟨hc, hf⟩ := bcell hb4; have hz : w.heap.size < w3.heap.size := (by have h := hb4.size; simp at h; omega)))
      go_ret
      exact ⟨ret_bool HC.out.symm, below_own0 hb4⟩
  · have HC : Hid (ownC 20 n a b u = false) := own_kids 20 n a b u (by show ¬ (n : Int) = 1; omega)
    have hne : ((n : Int) == 1) = false := by simp; omega
    clear hk
    go_enter Tryd.func25, Tryd.ntmps25
    go_wp2_with (first | (go_at_call 28; refine (formOf_kind _ _ _ _ _ _ (by omega)).mono ?_; rintro r w2 ⟨rfl, hb2⟩; rw [show formT 20 = 70 from rfl]) | (go_at_call 80; refine (rule_headForm _ _ _ _ _ _ rfl).mono ?_; rintro r w3 ⟨rfl, hb3⟩; have hb4 := hb2.trans (hb3.mono hb2.size); clear hb2 hb3; obtain ⟨hc, hf⟩ := bcell hb4; have hz : w.heap.size < w3.heap.size := (by have h := hb4.size; simp at h; omega)))
    go_ret
    exact ⟨ret_bool HC.out.symm, below_own0 hb4⟩

theorem meth_21 (a b : ByteArray) (u : Int) (s : Value) (w : World) : (method 198 70 (.agg #[.int .i64 21, .string a, .string b, .int .i64 u, s]) "loop.example/ensemble/impl.rule").run Tryd.prog w = .ok (80, .agg #[.int .i64 21, .string a, .string b, .int .i64 u, s]) w := by kernel_rfl
set_option maxHeartbeats 2000000 in
theorem own_21 (a b : ByteArray) (u : Int) (al : Option Addr) (n cap : Nat) (w : World) (hn : n ≤ 9223372036854775807) (_ha : a.size ≤ maxLen) (_hb : b.size ≤ maxLen) (hT : Tab w) :
    Calls Tryd.prog 25 #[.agg #[.int .i64 21, .string a, .string b, .int .i64 u, .slice al n cap]] w fun r w' => r = .returned (.bool (ownC 21 n a b u)) ∧ Below w.heap.size w w' := by
  have hm := meth_21 a b u (.slice al n cap)
  have hTT : ∀ {w2 o o2}, Below (w.alloc o).heap.size (w.alloc o) w2 → Tab (w2.alloc o2) := fun h => ((hT.alloc _).below h (hT.alloc _).pos).alloc _
  by_cases hk : n = 1
  · subst hk
    by_cases h1 : 0 ≤ u
    · by_cases h2 : u ≤ 0
      · have HC : Hid (ownC 21 1 a b u = namesC 0 a b) := own_all 21 1 a b u rfl h1 h2
        go_enter Tryd.func25, Tryd.ntmps25
        go_wp2_with (first | (go_at_call 28; refine (formOf_kind _ _ _ _ _ _ (by omega)).mono ?_; rintro r w2 ⟨rfl, hb2⟩; rw [show formT 21 = 70 from rfl]) | (go_at_call 80; refine (rule_headForm _ _ _ _ _ _ rfl).mono ?_; rintro r w3 ⟨rfl, hb3⟩; have hb4 := hb2.trans (hb3.mono hb2.size); clear hb2 hb3; obtain ⟨hc, hf⟩ := bcell hb4; have hz : w.heap.size < w3.heap.size := (by have h := hb4.size; simp at h; omega)) | (go_at_call 29; refine (namesFit0 _ _ _ _ _ _).mono ?_; rintro r w5 ⟨rfl, hb5⟩))
        go_ret
        exact ⟨ret_bool HC.out.symm, below_own hb4 hb5⟩
      · have HC : Hid (ownC 21 1 a b u = false) := own_most 21 1 a b u h2
        go_enter Tryd.func25, Tryd.ntmps25
        go_wp2_with (first | (go_at_call 28; refine (formOf_kind _ _ _ _ _ _ (by omega)).mono ?_; rintro r w2 ⟨rfl, hb2⟩; rw [show formT 21 = 70 from rfl]) | (go_at_call 80; refine (rule_headForm _ _ _ _ _ _ rfl).mono ?_; rintro r w3 ⟨rfl, hb3⟩; have hb4 := hb2.trans (hb3.mono hb2.size); clear hb2 hb3; obtain ⟨hc, hf⟩ := bcell hb4; have hz : w.heap.size < w3.heap.size := (by have h := hb4.size; simp at h; omega)))
        go_ret
        exact ⟨ret_bool HC.out.symm, below_own0 hb4⟩
    · have HC : Hid (ownC 21 1 a b u = false) := own_least 21 1 a b u h1
      go_enter Tryd.func25, Tryd.ntmps25
      go_wp2_with (first | (go_at_call 28; refine (formOf_kind _ _ _ _ _ _ (by omega)).mono ?_; rintro r w2 ⟨rfl, hb2⟩; rw [show formT 21 = 70 from rfl]) | (go_at_call 80; refine (rule_headForm _ _ _ _ _ _ rfl).mono ?_; rintro r w3 ⟨rfl, hb3⟩; have hb4 := hb2.trans (hb3.mono hb2.size); clear hb2 hb3; obtain ⟨hc, hf⟩ := bcell hb4; have hz : w.heap.size < w3.heap.size := (by have h := hb4.size; simp at h; omega)))
      go_ret
      exact ⟨ret_bool HC.out.symm, below_own0 hb4⟩
  · have HC : Hid (ownC 21 n a b u = false) := own_kids 21 n a b u (by show ¬ (n : Int) = 1; omega)
    have hne : ((n : Int) == 1) = false := by simp; omega
    clear hk
    go_enter Tryd.func25, Tryd.ntmps25
    go_wp2_with (first | (go_at_call 28; refine (formOf_kind _ _ _ _ _ _ (by omega)).mono ?_; rintro r w2 ⟨rfl, hb2⟩; rw [show formT 21 = 70 from rfl]) | (go_at_call 80; refine (rule_headForm _ _ _ _ _ _ rfl).mono ?_; rintro r w3 ⟨rfl, hb3⟩; have hb4 := hb2.trans (hb3.mono hb2.size); clear hb2 hb3; obtain ⟨hc, hf⟩ := bcell hb4; have hz : w.heap.size < w3.heap.size := (by have h := hb4.size; simp at h; omega)))
    go_ret
    exact ⟨ret_bool HC.out.symm, below_own0 hb4⟩

end Go.Proofs.YtdghblpaccaaiaaDoor
