/-
  The program's formOf: each kind has its form.
-/
import Derived.Test.YtdghblpaccaaiaaDoorExOwn
namespace Go.Proofs.YtdghblpaccaaiaaDoor
open Go.RowKit

/-- The type of a kind's form. -/
def formT (k : Int) : TypeId := if k = 1 then 57 else if k = 2 then 58 else if k = 3 then 59 else if k = 4 then 60 else if k = 5 then 61 else if k = 6 then 62 else if k = 7 then 63 else if k = 8 then 64 else if k = 9 then 65 else if k = 10 then 70 else if k = 11 then 70 else if k = 12 then 69 else if k = 13 then 66 else if k = 14 then 67 else if k = 15 then 68 else if k = 16 then 70 else if k = 17 then 70 else if k = 18 then 69 else if k = 19 then 69 else if k = 20 then 70 else if k = 21 then 70 else 0

set_option maxHeartbeats 4000000 in
theorem formOf_kind (k : Int) (a b : ByteArray) (u : Int) (s : Value) (w : World) (hk : 1 ≤ k ∧ k ≤ 21) :
    Calls Tryd.prog 28 #[.agg #[.int .i64 k, .string a, .string b, .int .i64 u, s]] w fun r w' => r = .returned (.iface (formT k) (.agg #[.int .i64 k, .string a, .string b, .int .i64 u, s])) ∧ Below w.heap.size w w' := by
  rcases kind_cases k with (rfl | rfl | rfl | rfl | rfl | rfl | rfl | rfl | rfl | rfl | rfl | rfl | rfl | rfl | rfl | rfl | rfl | rfl | rfl | rfl | rfl) | h | h
  case inr.inl => omega
  case inr.inr => omega
  all_goals
    go_enter Tryd.func28, Tryd.ntmps28
    go_wp2_with fail
    go_ret
    exact ⟨rfl, (Below.refl _ _).alloc (Nat.le_refl _) _⟩

set_option maxHeartbeats 400000 in
theorem formOf_none (k : Int) (a b : ByteArray) (u : Int) (s : Value) (w : World) (hk : k < 1 ∨ 21 < k) :
    Calls Tryd.prog 28 #[.agg #[.int .i64 k, .string a, .string b, .int .i64 u, s]] w fun r w' => r = .returned .nilIface ∧ Below w.heap.size w w' := by
  rcases hk with h | h
  all_goals
    go_enter Tryd.func28, Tryd.ntmps28
    go_wp2_with fail
    go_ret
    exact ⟨rfl, (Below.refl _ _).alloc (Nat.le_refl _) _⟩

set_option maxHeartbeats 400000 in
theorem own_none (k : Int) (a b : ByteArray) (u : Int) (s : Value) (w : World) (hk : k < 1 ∨ 21 < k) :
    Calls Tryd.prog 25 #[.agg #[.int .i64 k, .string a, .string b, .int .i64 u, s]] w fun r w' => r = .returned (.bool false) ∧ Below w.heap.size w w' := by
  go_enter Tryd.func25, Tryd.ntmps25
  go_wp2_with (go_at_call 28; refine (formOf_none _ _ _ _ _ _ hk).mono ?_; rintro r w2 ⟨rfl, hb2⟩)
  go_ret
  exact ⟨rfl, ((Below.refl _ _).alloc (Nat.le_refl _) _).trans (hb2.mono (by simp))⟩

end Go.Proofs.YtdghblpaccaaiaaDoor
