/-
  Where a name is bound; the program's bindsNameIn, bindsTailIn, under.
-/
import Derived.Test.YtmjbfenjalmnlaaDoorNkEnv
import Derived.Test.YtmjbfenjalmnlaaDoorExSpec
namespace Go.Proofs.YtmjbfenjalmnlaaDoor
open Go.RowKit

/-- How many names were bound behind where a name was bound last; -1 if it is not bound. -/
def atB (l : List ByteArray) (s : ByteArray) : Int := if lastTo l s l.length = -1 then -1 else l.length - 1 - lastTo l s l.length

/-- What a kind binds in the part at a place. -/
def bindsL (k : Int) (a b : ByteArray) (i : Int) : List ByteArray :=
  if k = 4 then [a] else if k = 6 then (if i = 1 then [a] else []) else if k = 7 then (if i = 0 then [a, b] else [a]) else if k = 14 then (if i = 2 then [a, b] else []) else []
def nameIn (k i : Int) : Bool := decide (k = 4 ∨ k = 7 ∨ (k = 6 ∧ i = 1) ∨ (k = 14 ∧ i = 2))
def tailIn (k i : Int) : Bool := decide ((k = 7 ∧ i = 0) ∨ (k = 14 ∧ i = 2))

theorem bindsL_eq (k : Int) (a b : ByteArray) (i : Int) : bindsL k a b i = (if nameIn k i then [a] else []) ++ (if tailIn k i then [b] else []) := by
  unfold bindsL nameIn tailIn
  by_cases h4 : k = 4
  · subst h4; simp
  by_cases h6 : k = 6
  · subst h6; by_cases hi : i = 1 <;> simp [hi]
  by_cases h7 : k = 7
  · subst h7; by_cases hi : i = 0 <;> simp [hi]
  by_cases h14 : k = 14
  · subst h14; by_cases hi : i = 2 <;> simp [hi]
  simp [h4, h6, h7, h14]

theorem binder_cases (k : Int) : k = 4 ∨ k = 6 ∨ k = 7 ∨ k = 14 ∨ ((k == 4) = false ∧ (k == 6) = false ∧ (k == 7) = false ∧ (k == 14) = false) := by
  simp; omega
theorem nameIn_none (k i : Int) (h : (k == 4) = false ∧ (k == 6) = false ∧ (k == 7) = false ∧ (k == 14) = false) : nameIn k i = false := by
  simp at h; simp [nameIn]; omega
theorem tailIn_none (k i : Int) (h : (k == 4) = false ∧ (k == 6) = false ∧ (k == 7) = false ∧ (k == 14) = false) : tailIn k i = false := by
  simp at h; simp [tailIn]; omega
theorem bindsL_none (k : Int) (a b : ByteArray) (i : Int) (h : (k == 4) = false ∧ (k == 6) = false ∧ (k == 7) = false ∧ (k == 14) = false) : bindsL k a b i = [] := by
  rw [bindsL_eq, nameIn_none k i h, tailIn_none k i h]; rfl

set_option maxHeartbeats 1000000 in
theorem impl_bindsNameIn (k : Int) (a b : ByteArray) (u : Int) (s : Value) (i : Int) (w : World) :
    Calls Tryd.prog 26 #[.agg #[.int .i64 k, .string a, .string b, .int .i64 u, s], .int .i64 i] w fun r w' => r = .returned (.bool (nameIn k i)) ∧ Below w.heap.size w w' := by
  rcases binder_cases k with rfl | rfl | rfl | rfl | h
  case inr.inr.inr.inr =>
    have HN : Hid (nameIn k i = false) := nameIn_none k i h
    obtain ⟨h4, h6, h7, h14⟩ := h
    go_enter Tryd.func26, Tryd.ntmps26
    go_wp2_with fail
    go_ret
    exact ⟨ret_bool HN.out.symm, (Below.refl _ _).alloc (Nat.le_refl _) _⟩
  all_goals
    go_enter Tryd.func26, Tryd.ntmps26
    go_wp2_with fail
    go_ret
    exact ⟨ret_bool (by rw [Bool.eq_iff_iff]; simp [nameIn]), (Below.refl _ _).alloc (Nat.le_refl _) _⟩

set_option maxHeartbeats 1000000 in
theorem impl_bindsTailIn (k : Int) (a b : ByteArray) (u : Int) (s : Value) (i : Int) (w : World) :
    Calls Tryd.prog 27 #[.agg #[.int .i64 k, .string a, .string b, .int .i64 u, s], .int .i64 i] w fun r w' => r = .returned (.bool (tailIn k i)) ∧ Below w.heap.size w w' := by
  rcases binder_cases k with rfl | rfl | rfl | rfl | h
  case inr.inr.inr.inr =>
    have HN : Hid (tailIn k i = false) := tailIn_none k i h
    obtain ⟨h4, h6, h7, h14⟩ := h
    go_enter Tryd.func27, Tryd.ntmps27
    go_wp2_with fail
    go_ret
    exact ⟨ret_bool HN.out.symm, (Below.refl _ _).alloc (Nat.le_refl _) _⟩
  all_goals
    cases h0 : (i == 0)
    all_goals
      go_enter Tryd.func27, Tryd.ntmps27
      go_wp2_with fail
      go_ret
      exact ⟨ret_bool (by rw [Bool.eq_iff_iff]; simp at h0; simp [tailIn, h0]), (Below.refl _ _).alloc (Nat.le_refl _) _⟩
end Go.Proofs.YtmjbfenjalmnlaaDoor
