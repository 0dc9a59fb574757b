/-
  The program's rules: what each kind has.
-/
import Derived.Test.YtkkjpiikilhobaaGreatDoorExSpec
namespace Go.Proofs.YtkkjpiikilhobaaGreatDoor
open Go.RowKit

/-- The level of an op. -/
def opLevel (u : Int) : Int := if u = 1 ∨ u = 2 then 3 else if u = 3 ∨ u = 4 then 4 else 1
/-- The level of an expression of a kind. -/
def levelN (k u : Int) : Int :=
  if k = 4 ∨ k = 6 ∨ k = 7 ∨ k = 8 ∨ k = 14 then 0
  else if k = 13 then 2
  else if k = 15 then opLevel u
  else if k = 5 ∨ k = 10 ∨ k = 11 ∨ k = 16 ∨ k = 17 ∨ k = 20 ∨ k = 21 then 5 else 6
/-- A rule as a value. -/
abbrev ruleV (n k l m v : Int) : Value := .agg #[.int .i64 n, .int .i64 k, .int .i64 l, .int .i64 m, .int .i64 v]

theorem below2 (w : World) (o1 o2 : Obj) : Below w.heap.size w ((w.alloc o1).alloc o2) := ((Below.refl _ _).alloc (Nat.le_refl _) o1).alloc (by simp) o2

set_option maxHeartbeats 400000 in
theorem impl_levelOfOp (u : Int) (w : World) :
    Calls Tryz.prog 115 #[.int .i64 u] w fun r w' => r = .returned (.int .i64 (opLevel u)) ∧ w = w' := by
  have hc : (u = 1 ∨ u = 2 ∨ u = 3 ∨ u = 4) ∨ u < 1 ∨ 4 < u := by omega
  have hlow : u < 1 ∨ 4 < u → opLevel u = 1 := fun h => by unfold opLevel; rw [if_neg (by omega), if_neg (by omega)]
  rcases hc with (rfl | rfl | rfl | rfl) | h | h
  case inr.inl =>
    rw [hlow (Or.inl h)]
    go_enter Tryz.func115, Tryz.ntmps115
    go_wp2_with fail
    go_ret
    exact ⟨rfl, rfl⟩
  case inr.inr =>
    rw [hlow (Or.inr h)]
    go_enter Tryz.func115, Tryz.ntmps115
    go_wp2_with fail
    go_ret
    exact ⟨rfl, rfl⟩
  all_goals
    go_enter Tryz.func115, Tryz.ntmps115
    go_wp2_with fail
    go_ret
    exact ⟨rfl, rfl⟩

set_option maxHeartbeats 400000 in
theorem rule_numForm (k : Int) (a b : ByteArray) (u : Int) (s : Value) (w : World) :
    Calls Tryz.prog 91 #[.agg #[.int .i64 k, .string a, .string b, .int .i64 u, s]] w fun r w' => r = .returned (ruleV 0 0 0 999999 6) ∧ Below w.heap.size w w' := by
  go_enter Tryz.func91, Tryz.ntmps91
  go_wp2_with fail
  exact bodyPost_ret (v := ruleV 0 0 0 999999 6) (by simp [results, Tryz.results91, go_sem]) rfl ⟨rfl, below2 _ _ _⟩

set_option maxHeartbeats 400000 in
theorem rule_boolForm (k : Int) (a b : ByteArray) (u : Int) (s : Value) (w : World) :
    Calls Tryz.prog 93 #[.agg #[.int .i64 k, .string a, .string b, .int .i64 u, s]] w fun r w' => r = .returned (ruleV 0 0 0 1 6) ∧ Below w.heap.size w w' := by
  go_enter Tryz.func93, Tryz.ntmps93
  go_wp2_with fail
  exact bodyPost_ret (v := ruleV 0 0 0 1 6) (by simp [results, Tryz.results93, go_sem]) rfl ⟨rfl, below2 _ _ _⟩

set_option maxHeartbeats 400000 in
theorem rule_varForm (k : Int) (a b : ByteArray) (u : Int) (s : Value) (w : World) :
    Calls Tryz.prog 95 #[.agg #[.int .i64 k, .string a, .string b, .int .i64 u, s]] w fun r w' => r = .returned (ruleV 1 0 0 0 6) ∧ Below w.heap.size w w' := by
  go_enter Tryz.func95, Tryz.ntmps95
  go_wp2_with fail
  exact bodyPost_ret (v := ruleV 1 0 0 0 6) (by simp [results, Tryz.results95, go_sem]) rfl ⟨rfl, below2 _ _ _⟩

set_option maxHeartbeats 400000 in
theorem rule_funForm (k : Int) (a b : ByteArray) (u : Int) (s : Value) (w : World) :
    Calls Tryz.prog 97 #[.agg #[.int .i64 k, .string a, .string b, .int .i64 u, s]] w fun r w' => r = .returned (ruleV 1 1 0 0 0) ∧ Below w.heap.size w w' := by
  go_enter Tryz.func97, Tryz.ntmps97
  go_wp2_with fail
  exact bodyPost_ret (v := ruleV 1 1 0 0 0) (by simp [results, Tryz.results97, go_sem]) rfl ⟨rfl, below2 _ _ _⟩

set_option maxHeartbeats 400000 in
theorem rule_appForm (k : Int) (a b : ByteArray) (u : Int) (s : Value) (w : World) :
    Calls Tryz.prog 99 #[.agg #[.int .i64 k, .string a, .string b, .int .i64 u, s]] w fun r w' => r = .returned (ruleV 0 2 0 0 5) ∧ Below w.heap.size w w' := by
  go_enter Tryz.func99, Tryz.ntmps99
  go_wp2_with fail
  exact bodyPost_ret (v := ruleV 0 2 0 0 5) (by simp [results, Tryz.results99, go_sem]) rfl ⟨rfl, below2 _ _ _⟩

set_option maxHeartbeats 400000 in
theorem rule_letForm (k : Int) (a b : ByteArray) (u : Int) (s : Value) (w : World) :
    Calls Tryz.prog 101 #[.agg #[.int .i64 k, .string a, .string b, .int .i64 u, s]] w fun r w' => r = .returned (ruleV 1 2 0 0 0) ∧ Below w.heap.size w w' := by
  go_enter Tryz.func101, Tryz.ntmps101
  go_wp2_with fail
  exact bodyPost_ret (v := ruleV 1 2 0 0 0) (by simp [results, Tryz.results101, go_sem]) rfl ⟨rfl, below2 _ _ _⟩

set_option maxHeartbeats 400000 in
theorem rule_recForm (k : Int) (a b : ByteArray) (u : Int) (s : Value) (w : World) :
    Calls Tryz.prog 103 #[.agg #[.int .i64 k, .string a, .string b, .int .i64 u, s]] w fun r w' => r = .returned (ruleV 2 2 0 0 0) ∧ Below w.heap.size w w' := by
  go_enter Tryz.func103, Tryz.ntmps103
  go_wp2_with fail
  exact bodyPost_ret (v := ruleV 2 2 0 0 0) (by simp [results, Tryz.results103, go_sem]) rfl ⟨rfl, below2 _ _ _⟩

set_option maxHeartbeats 400000 in
theorem rule_ifForm (k : Int) (a b : ByteArray) (u : Int) (s : Value) (w : World) :
    Calls Tryz.prog 105 #[.agg #[.int .i64 k, .string a, .string b, .int .i64 u, s]] w fun r w' => r = .returned (ruleV 0 3 0 0 0) ∧ Below w.heap.size w w' := by
  go_enter Tryz.func105, Tryz.ntmps105
  go_wp2_with fail
  exact bodyPost_ret (v := ruleV 0 3 0 0 0) (by simp [results, Tryz.results105, go_sem]) rfl ⟨rfl, below2 _ _ _⟩

set_option maxHeartbeats 400000 in
theorem rule_pairForm (k : Int) (a b : ByteArray) (u : Int) (s : Value) (w : World) :
    Calls Tryz.prog 107 #[.agg #[.int .i64 k, .string a, .string b, .int .i64 u, s]] w fun r w' => r = .returned (ruleV 0 2 0 0 6) ∧ Below w.heap.size w w' := by
  go_enter Tryz.func107, Tryz.ntmps107
  go_wp2_with fail
  exact bodyPost_ret (v := ruleV 0 2 0 0 6) (by simp [results, Tryz.results107, go_sem]) rfl ⟨rfl, below2 _ _ _⟩

set_option maxHeartbeats 400000 in
theorem rule_consForm (k : Int) (a b : ByteArray) (u : Int) (s : Value) (w : World) :
    Calls Tryz.prog 109 #[.agg #[.int .i64 k, .string a, .string b, .int .i64 u, s]] w fun r w' => r = .returned (ruleV 0 2 0 0 2) ∧ Below w.heap.size w w' := by
  go_enter Tryz.func109, Tryz.ntmps109
  go_wp2_with fail
  exact bodyPost_ret (v := ruleV 0 2 0 0 2) (by simp [results, Tryz.results109, go_sem]) rfl ⟨rfl, below2 _ _ _⟩

set_option maxHeartbeats 400000 in
theorem rule_caseForm (k : Int) (a b : ByteArray) (u : Int) (s : Value) (w : World) :
    Calls Tryz.prog 111 #[.agg #[.int .i64 k, .string a, .string b, .int .i64 u, s]] w fun r w' => r = .returned (ruleV 2 3 0 0 0) ∧ Below w.heap.size w w' := by
  go_enter Tryz.func111, Tryz.ntmps111
  go_wp2_with fail
  exact bodyPost_ret (v := ruleV 2 3 0 0 0) (by simp [results, Tryz.results111, go_sem]) rfl ⟨rfl, below2 _ _ _⟩

set_option maxHeartbeats 400000 in
theorem rule_wordForm (k : Int) (a b : ByteArray) (u : Int) (s : Value) (w : World) :
    Calls Tryz.prog 116 #[.agg #[.int .i64 k, .string a, .string b, .int .i64 u, s]] w fun r w' => r = .returned (ruleV 0 0 0 0 6) ∧ Below w.heap.size w w' := by
  go_enter Tryz.func116, Tryz.ntmps116
  go_wp2_with fail
  exact bodyPost_ret (v := ruleV 0 0 0 0 6) (by simp [results, Tryz.results116, go_sem]) rfl ⟨rfl, below2 _ _ _⟩

set_option maxHeartbeats 400000 in
theorem rule_opForm (k : Int) (a b : ByteArray) (u : Int) (s : Value) (w : World) :
    Calls Tryz.prog 113 #[.agg #[.int .i64 k, .string a, .string b, .int .i64 u, s]] w fun r w' => r = .returned (ruleV 0 2 1 6 (opLevel u)) ∧ Below w.heap.size w w' := by
  go_enter Tryz.func113, Tryz.ntmps113
  go_wp2_with (go_at_call 115; refine (impl_levelOfOp _ _).mono ?_; rintro r w' ⟨rfl, rfl⟩)
  exact bodyPost_ret (v := ruleV 0 2 1 6 (opLevel u)) (by simp [results, Tryz.results113, go_sem]) rfl ⟨rfl, below2 _ _ _⟩

set_option maxHeartbeats 400000 in
theorem rule_headForm (k : Int) (a b : ByteArray) (u : Int) (s : Value) (w : World) (hk : (k == 17) = false) :
    Calls Tryz.prog 118 #[.agg #[.int .i64 k, .string a, .string b, .int .i64 u, s]] w fun r w' => r = .returned (ruleV 0 1 0 0 5) ∧ Below w.heap.size w w' := by
  go_enter Tryz.func118, Tryz.ntmps118
  go_wp2_with fail
  exact bodyPost_ret (v := ruleV 0 1 0 0 5) (by simp [results, Tryz.results118, go_sem]) rfl ⟨rfl, below2 _ _ _⟩

set_option maxHeartbeats 400000 in
theorem rule_headForm2 (a b : ByteArray) (u : Int) (s : Value) (w : World) :
    Calls Tryz.prog 118 #[.agg #[.int .i64 17, .string a, .string b, .int .i64 u, s]] w fun r w' => r = .returned (ruleV 0 2 0 0 5) ∧ Below w.heap.size w w' := by
  go_enter Tryz.func118, Tryz.ntmps118
  go_wp2_with fail
  exact bodyPost_ret (v := ruleV 0 2 0 0 5) (by simp [results, Tryz.results118, go_sem]) rfl ⟨rfl, below2 _ _ _⟩
end Go.Proofs.YtkkjpiikilhobaaGreatDoor
