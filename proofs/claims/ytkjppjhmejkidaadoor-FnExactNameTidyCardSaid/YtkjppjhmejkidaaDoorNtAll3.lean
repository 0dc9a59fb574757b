/-
  The program's formOf: each kind has its form.
  What the program's hasItsOwn asks, as plain mathematics.
  The program's hasItsOwn, kind by kind (1 to 3).
-/
import Derived.Test.YtkjppjhmejkidaaDoorNtAll2
namespace Go.Proofs.YtkjppjhmejkidaaDoor
open Go.RowKit

/-- The type of a kind's form. -/
def formT (k : Int) : TypeId := if k = 1 then 73 else if k = 2 then 74 else if k = 3 then 75 else if k = 4 then 76 else if k = 5 then 77 else if k = 6 then 78 else if k = 7 then 79 else if k = 8 then 80 else if k = 9 then 81 else if k = 10 then 86 else if k = 11 then 86 else if k = 12 then 85 else if k = 13 then 82 else if k = 14 then 83 else if k = 15 then 84 else if k = 16 then 86 else if k = 17 then 86 else if k = 18 then 85 else if k = 19 then 85 else if k = 20 then 86 else if k = 21 then 86 else 0

set_option maxHeartbeats 4000000 in
theorem formOf_kind (k : Int) (a b : ByteArray) (u : Int) (s : Value) (w : World) (hk : 1 ≤ k ∧ k ≤ 21) :
    Calls Tryd.prog 50 #[.agg #[.int .i64 k, .string a, .string b, .int .i64 u, s]] w fun r w' => r = .returned (.iface (formT k) (.agg #[.int .i64 k, .string a, .string b, .int .i64 u, s])) ∧ Below w.heap.size w w' := by
  rcases kind_cases k with (rfl | rfl | rfl | rfl | rfl | rfl | rfl | rfl | rfl | rfl | rfl | rfl | rfl | rfl | rfl | rfl | rfl | rfl | rfl | rfl | rfl) | h | h
  case inr.inl => omega
  case inr.inr => omega
  all_goals
    go_enter Tryd.func50, Tryd.ntmps50
    go_wp2_with fail
    go_ret
    exact ⟨rfl, (Below.refl _ _).alloc (Nat.le_refl _) _⟩

set_option maxHeartbeats 400000 in
theorem formOf_none (k : Int) (a b : ByteArray) (u : Int) (s : Value) (w : World) (hk : k < 1 ∨ 21 < k) :
    Calls Tryd.prog 50 #[.agg #[.int .i64 k, .string a, .string b, .int .i64 u, s]] w fun r w' => r = .returned .nilIface ∧ Below w.heap.size w w' := by
  rcases hk with h | h
  all_goals
    go_enter Tryd.func50, Tryd.ntmps50
    go_wp2_with fail
    go_ret
    exact ⟨rfl, (Below.refl _ _).alloc (Nat.le_refl _) _⟩

set_option maxHeartbeats 400000 in
theorem own_none (k : Int) (a b : ByteArray) (u : Int) (s : Value) (w : World) (hk : k < 1 ∨ 21 < k) :
    Calls Tryd.prog 43 #[.agg #[.int .i64 k, .string a, .string b, .int .i64 u, s]] w fun r w' => r = .returned (.bool false) ∧ Below w.heap.size w w' := by
  go_enter Tryd.func43, Tryd.ntmps43
  go_wp2_with (go_at_call 50; refine (formOf_none _ _ _ _ _ _ hk).mono ?_; rintro r w2 ⟨rfl, hb2⟩)
  go_ret
  exact ⟨rfl, ((Below.refl _ _).alloc (Nat.le_refl _) _).trans (hb2.mono (by simp))⟩

end Go.Proofs.YtkjppjhmejkidaaDoor

namespace Go.Proofs.YtkjppjhmejkidaaDoor
open Go.RowKit

/-- Whether an expression of so many parts has what its kind has. -/
def ownC (k : Int) (n : Nat) (a b : ByteArray) (u : Int) : Bool := decide ((n : Int) = kidsN k) && bareC k a b u
theorem own_kids (k : Int) (n : Nat) (a b : ByteArray) (u : Int) (h : ¬ (n : Int) = kidsN k) : ownC k n a b u = false := by simp [ownC, h]
theorem own_least (k : Int) (n : Nat) (a b : ByteArray) (u : Int) (h : ¬ leastN k ≤ u) : ownC k n a b u = false := by simp [ownC, bareC, h]
theorem own_most (k : Int) (n : Nat) (a b : ByteArray) (u : Int) (h : ¬ u ≤ mostN k) : ownC k n a b u = false := by simp [ownC, bareC, h]
theorem own_all (k : Int) (n : Nat) (a b : ByteArray) (u : Int) (h : (n : Int) = kidsN k) (h1 : leastN k ≤ u) (h2 : u ≤ mostN k) : ownC k n a b u = namesC (namesN k) a b := by simp [ownC, bareC, h, h1, h2]
theorem below_own0 {w w2 : World} {o o2 : Obj} (h : Below (w.alloc o).heap.size (w.alloc o) w2) : Below w.heap.size w (w2.alloc o2) :=
  (((Below.refl _ _).alloc (Nat.le_refl _) o).trans (h.mono (by simp))).alloc (by have := h.size; simp at this; omega) o2
theorem below_own {w w2 w3 : World} {o o2 : Obj} (h : Below (w.alloc o).heap.size (w.alloc o) w2) (h3 : Below (w2.alloc o2).heap.size (w2.alloc o2) w3) : Below w.heap.size w w3 :=
  (below_own0 h).trans (h3.mono (by have := h.size; simp at this; simp; omega))

end Go.Proofs.YtkjppjhmejkidaaDoor

namespace Go.Proofs.YtkjppjhmejkidaaDoor
open Go.RowKit

theorem meth_1 (a b : ByteArray) (u : Int) (s : Value) (w : World) : (method 228 73 (.agg #[.int .i64 1, .string a, .string b, .int .i64 u, s]) "loop.example/ensemble/impl.rule").run Tryd.prog w = .ok (86, .agg #[.int .i64 1, .string a, .string b, .int .i64 u, s]) w := by kernel_rfl
set_option maxHeartbeats 2000000 in
theorem own_1 (a b : ByteArray) (u : Int) (al : Option Addr) (n cap : Nat) (w : World) (hn : n ≤ 9223372036854775807) (_ha : a.size ≤ maxLen) (_hb : b.size ≤ maxLen) (hT : Tab w) :
    Calls Tryd.prog 43 #[.agg #[.int .i64 1, .string a, .string b, .int .i64 u, .slice al n cap]] w fun r w' => r = .returned (.bool (ownC 1 n a b u)) ∧ Below w.heap.size w w' := by
  have hm := meth_1 a b u (.slice al n cap)
  have hTT : ∀ {w2 o o2}, Below (w.alloc o).heap.size (w.alloc o) w2 → Tab (w2.alloc o2) := fun h => ((hT.alloc _).below h (hT.alloc _).pos).alloc _
  by_cases hk : n = 0
  · subst hk
    by_cases h1 : 0 ≤ u
    · by_cases h2 : u ≤ 999999
      · have HC : Hid (ownC 1 0 a b u = namesC 0 a b) := own_all 1 0 a b u rfl h1 h2
        go_enter Tryd.func43, Tryd.ntmps43
        go_wp2_with (first | (go_at_call 50; refine (formOf_kind _ _ _ _ _ _ (by omega)).mono ?_; rintro r w2 ⟨rfl, hb2⟩; rw [show formT 1 = 73 from rfl]) | (go_at_call 86; refine (rule_numForm _ _ _ _ _ _).mono ?_; rintro r w3 ⟨rfl, hb3⟩; have hb4 := hb2.trans (hb3.mono hb2.size); clear hb2 hb3; obtain ⟨hc, hf⟩ := bcell hb4; have hz : w.heap.size < w3.heap.size := (by have h := hb4.size; simp at h; omega)) | (go_at_call 51; refine (namesFit0 _ _ _ _ _ _).mono ?_; rintro r w5 ⟨rfl, hb5⟩))
        go_ret
        exact ⟨ret_bool HC.out.symm, below_own hb4 hb5⟩
      · have HC : Hid (ownC 1 0 a b u = false) := own_most 1 0 a b u h2
        go_enter Tryd.func43, Tryd.ntmps43
        go_wp2_with (first | (go_at_call 50; refine (formOf_kind _ _ _ _ _ _ (by omega)).mono ?_; rintro r w2 ⟨rfl, hb2⟩; rw [show formT 1 = 73 from rfl]) | (go_at_call 86; refine (rule_numForm _ _ _ _ _ _).mono ?_; rintro r w3 ⟨rfl, hb3⟩; have hb4 := hb2.trans (hb3.mono hb2.size); clear hb2 hb3; obtain ⟨hc, hf⟩ := bcell hb4; have hz : w.heap.size < w3.heap.size := (by have h := hb4.size; simp at h; omega)))
        go_ret
        exact ⟨ret_bool HC.out.symm, below_own0 hb4⟩
    · have HC : Hid (ownC 1 0 a b u = false) := own_least 1 0 a b u h1
      go_enter Tryd.func43, Tryd.ntmps43
      go_wp2_with (first | (go_at_call 50; refine (formOf_kind _ _ _ _ _ _ (by omega)).mono ?_; rintro r w2 ⟨rfl, hb2⟩; rw [show formT 1 = 73 from rfl]) | (go_at_call 86; refine (rule_numForm _ _ _ _ _ _).mono ?_; rintro r w3 ⟨rfl, hb3⟩; have hb4 := hb2.trans (hb3.mono hb2.size); clear hb2 hb3; obtain ⟨hc, hf⟩ := bcell hb4; have hz : w.heap.size < w3.heap.size := (by have h := hb4.size; simp at h; omega)))
      go_ret
      exact ⟨ret_bool HC.out.symm, below_own0 hb4⟩
  · have HC : Hid (ownC 1 n a b u = false) := own_kids 1 n a b u (by show ¬ (n : Int) = 0; omega)
    have hne : ((n : Int) == 0) = false := by simp; omega
    clear hk
    go_enter Tryd.func43, Tryd.ntmps43
    go_wp2_with (first | (go_at_call 50; refine (formOf_kind _ _ _ _ _ _ (by omega)).mono ?_; rintro r w2 ⟨rfl, hb2⟩; rw [show formT 1 = 73 from rfl]) | (go_at_call 86; refine (rule_numForm _ _ _ _ _ _).mono ?_; rintro r w3 ⟨rfl, hb3⟩; have hb4 := hb2.trans (hb3.mono hb2.size); clear hb2 hb3; obtain ⟨hc, hf⟩ := bcell hb4; have hz : w.heap.size < w3.heap.size := (by have h := hb4.size; simp at h; omega)))
    go_ret
    exact ⟨ret_bool HC.out.symm, below_own0 hb4⟩

theorem meth_2 (a b : ByteArray) (u : Int) (s : Value) (w : World) : (method 228 74 (.agg #[.int .i64 2, .string a, .string b, .int .i64 u, s]) "loop.example/ensemble/impl.rule").run Tryd.prog w = .ok (88, .agg #[.int .i64 2, .string a, .string b, .int .i64 u, s]) w := by kernel_rfl
set_option maxHeartbeats 2000000 in
theorem own_2 (a b : ByteArray) (u : Int) (al : Option Addr) (n cap : Nat) (w : World) (hn : n ≤ 9223372036854775807) (_ha : a.size ≤ maxLen) (_hb : b.size ≤ maxLen) (hT : Tab w) :
    Calls Tryd.prog 43 #[.agg #[.int .i64 2, .string a, .string b, .int .i64 u, .slice al n cap]] w fun r w' => r = .returned (.bool (ownC 2 n a b u)) ∧ Below w.heap.size w w' := by
  have hm := meth_2 a b u (.slice al n cap)
  have hTT : ∀ {w2 o o2}, Below (w.alloc o).heap.size (w.alloc o) w2 → Tab (w2.alloc o2) := fun h => ((hT.alloc _).below h (hT.alloc _).pos).alloc _
  by_cases hk : n = 0
  · subst hk
    by_cases h1 : 0 ≤ u
    · by_cases h2 : u ≤ 1
      · have HC : Hid (ownC 2 0 a b u = namesC 0 a b) := own_all 2 0 a b u rfl h1 h2
        go_enter Tryd.func43, Tryd.ntmps43
        go_wp2_with (first | (go_at_call 50; refine (formOf_kind _ _ _ _ _ _ (by omega)).mono ?_; rintro r w2 ⟨rfl, hb2⟩; rw [show formT 2 = 74 from rfl]) | (go_at_call 88; refine (rule_boolForm _ _ _ _ _ _).mono ?_; rintro r w3 ⟨rfl, hb3⟩; have hb4 := hb2.trans (hb3.mono hb2.size); clear hb2 hb3; obtain ⟨hc, hf⟩ := bcell hb4; have hz : w.heap.size < w3.heap.size := (by have h := hb4.size; simp at h; omega)) | (go_at_call 51; refine (namesFit0 _ _ _ _ _ _).mono ?_; rintro r w5 ⟨rfl, hb5⟩))
        go_ret
        exact ⟨ret_bool HC.out.symm, below_own hb4 hb5⟩
      · have HC : Hid (ownC 2 0 a b u = false) := own_most 2 0 a b u h2
        go_enter Tryd.func43, Tryd.ntmps43
        go_wp2_with (first | (go_at_call 50; refine (formOf_kind _ _ _ _ _ _ (by omega)).mono ?_; rintro r w2 ⟨rfl, hb2⟩; rw [show formT 2 = 74 from rfl]) | (go_at_call 88; refine (rule_boolForm _ _ _ _ _ _).mono ?_; rintro r w3 ⟨rfl, hb3⟩; have hb4 := hb2.trans (hb3.mono hb2.size); clear hb2 hb3; obtain ⟨hc, hf⟩ := bcell hb4; have hz : w.heap.size < w3.heap.size := (by have h := hb4.size; simp at h; omega)))
        go_ret
        exact ⟨ret_bool HC.out.symm, below_own0 hb4⟩
    · have HC : Hid (ownC 2 0 a b u = false) := own_least 2 0 a b u h1
      go_enter Tryd.func43, Tryd.ntmps43
      go_wp2_with (first | (go_at_call 50; refine (formOf_kind _ _ _ _ _ _ (by omega)).mono ?_; rintro r w2 ⟨rfl, hb2⟩; rw [show formT 2 = 74 from rfl]) | (go_at_call 88; refine (rule_boolForm _ _ _ _ _ _).mono ?_; rintro r w3 ⟨rfl, hb3⟩; have hb4 := hb2.trans (hb3.mono hb2.size); clear hb2 hb3; obtain ⟨hc, hf⟩ := bcell hb4; have hz : w.heap.size < w3.heap.size := (by have h := hb4.size; simp at h; omega)))
      go_ret
      exact ⟨ret_bool HC.out.symm, below_own0 hb4⟩
  · have HC : Hid (ownC 2 n a b u = false) := own_kids 2 n a b u (by show ¬ (n : Int) = 0; omega)
    have hne : ((n : Int) == 0) = false := by simp; omega
    clear hk
    go_enter Tryd.func43, Tryd.ntmps43
    go_wp2_with (first | (go_at_call 50; refine (formOf_kind _ _ _ _ _ _ (by omega)).mono ?_; rintro r w2 ⟨rfl, hb2⟩; rw [show formT 2 = 74 from rfl]) | (go_at_call 88; refine (rule_boolForm _ _ _ _ _ _).mono ?_; rintro r w3 ⟨rfl, hb3⟩; have hb4 := hb2.trans (hb3.mono hb2.size); clear hb2 hb3; obtain ⟨hc, hf⟩ := bcell hb4; have hz : w.heap.size < w3.heap.size := (by have h := hb4.size; simp at h; omega)))
    go_ret
    exact ⟨ret_bool HC.out.symm, below_own0 hb4⟩

theorem meth_3 (a b : ByteArray) (u : Int) (s : Value) (w : World) : (method 228 75 (.agg #[.int .i64 3, .string a, .string b, .int .i64 u, s]) "loop.example/ensemble/impl.rule").run Tryd.prog w = .ok (90, .agg #[.int .i64 3, .string a, .string b, .int .i64 u, s]) w := by kernel_rfl
set_option maxHeartbeats 2000000 in
theorem own_3 (a b : ByteArray) (u : Int) (al : Option Addr) (n cap : Nat) (w : World) (hn : n ≤ 9223372036854775807) (ha : a.size ≤ maxLen) (_hb : b.size ≤ maxLen) (hT : Tab w) :
    Calls Tryd.prog 43 #[.agg #[.int .i64 3, .string a, .string b, .int .i64 u, .slice al n cap]] w fun r w' => r = .returned (.bool (ownC 3 n a b u)) ∧ Below w.heap.size w w' := by
  have hm := meth_3 a b u (.slice al n cap)
  have hTT : ∀ {w2 o o2}, Below (w.alloc o).heap.size (w.alloc o) w2 → Tab (w2.alloc o2) := fun h => ((hT.alloc _).below h (hT.alloc _).pos).alloc _
  by_cases hk : n = 0
  · subst hk
    by_cases h1 : 0 ≤ u
    · by_cases h2 : u ≤ 0
      · have HC : Hid (ownC 3 0 a b u = namesC 1 a b) := own_all 3 0 a b u rfl h1 h2
        go_enter Tryd.func43, Tryd.ntmps43
        go_wp2_with (first | (go_at_call 50; refine (formOf_kind _ _ _ _ _ _ (by omega)).mono ?_; rintro r w2 ⟨rfl, hb2⟩; rw [show formT 3 = 75 from rfl]) | (go_at_call 90; refine (rule_varForm _ _ _ _ _ _).mono ?_; rintro r w3 ⟨rfl, hb3⟩; have hb4 := hb2.trans (hb3.mono hb2.size); clear hb2 hb3; obtain ⟨hc, hf⟩ := bcell hb4; have hz : w.heap.size < w3.heap.size := (by have h := hb4.size; simp at h; omega)) | (go_at_call 51; refine (namesFit1 _ _ _ _ _ _ ha (hTT hb4)).mono ?_; rintro r w5 ⟨rfl, hb5⟩))
        go_ret
        exact ⟨ret_bool HC.out.symm, below_own hb4 hb5⟩
      · have HC : Hid (ownC 3 0 a b u = false) := own_most 3 0 a b u h2
        go_enter Tryd.func43, Tryd.ntmps43
        go_wp2_with (first | (go_at_call 50; refine (formOf_kind _ _ _ _ _ _ (by omega)).mono ?_; rintro r w2 ⟨rfl, hb2⟩; rw [show formT 3 = 75 from rfl]) | (go_at_call 90; refine (rule_varForm _ _ _ _ _ _).mono ?_; rintro r w3 ⟨rfl, hb3⟩; have hb4 := hb2.trans (hb3.mono hb2.size); clear hb2 hb3; obtain ⟨hc, hf⟩ := bcell hb4; have hz : w.heap.size < w3.heap.size := (by have h := hb4.size; simp at h; omega)))
        go_ret
        exact ⟨ret_bool HC.out.symm, below_own0 hb4⟩
    · have HC : Hid (ownC 3 0 a b u = false) := own_least 3 0 a b u h1
      go_enter Tryd.func43, Tryd.ntmps43
      go_wp2_with (first | (go_at_call 50; refine (formOf_kind _ _ _ _ _ _ (by omega)).mono ?_; rintro r w2 ⟨rfl, hb2⟩; rw [show formT 3 = 75 from rfl]) | (go_at_call 90; refine (rule_varForm _ _ _ _ _ _).mono ?_; rintro r w3 ⟨rfl, hb3⟩; have hb4 := hb2.trans (hb3.mono hb2.size); clear hb2 hb3; obtain ⟨hc, hf⟩ := bcell hb4; have hz : w.heap.size < w3.heap.size := (by have h := hb4.size; simp at h; omega)))
      go_ret
      exact ⟨ret_bool HC.out.symm, below_own0 hb4⟩
  · have HC : Hid (ownC 3 n a b u = false) := own_kids 3 n a b u (by show ¬ (n : Int) = 0; omega)
    have hne : ((n : Int) == 0) = false := by simp; omega
    clear hk
    go_enter Tryd.func43, Tryd.ntmps43
    go_wp2_with (first | (go_at_call 50; refine (formOf_kind _ _ _ _ _ _ (by omega)).mono ?_; rintro r w2 ⟨rfl, hb2⟩; rw [show formT 3 = 75 from rfl]) | (go_at_call 90; refine (rule_varForm _ _ _ _ _ _).mono ?_; rintro r w3 ⟨rfl, hb3⟩; have hb4 := hb2.trans (hb3.mono hb2.size); clear hb2 hb3; obtain ⟨hc, hf⟩ := bcell hb4; have hz : w.heap.size < w3.heap.size := (by have h := hb4.size; simp at h; omega)))
    go_ret
    exact ⟨ret_bool HC.out.symm, below_own0 hb4⟩

end Go.Proofs.YtkjppjhmejkidaaDoor

