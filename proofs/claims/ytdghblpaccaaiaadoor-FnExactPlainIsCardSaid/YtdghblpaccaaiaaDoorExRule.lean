/-
  The program's rules: what each kind has.
-/
import Derived.Test.YtdghblpaccaaiaaDoorExSpec
namespace Go.Proofs.YtdghblpaccaaiaaDoor
open Go.RowKit

/-- The level of an op. -/
def opLevel (u : Int) : Int := if u = 1 ∨ u = 2 then 3 else if u = 3 ∨ u = 4 then 4 else 1
/-- The level of an expression of a kind. -/
def levelN (k u : Int) : Int :=
  if k = 4 ∨ k = 6 ∨ k = 7 ∨ k = 8 ∨ k = 14 then 0
  else if k = 13 then 2
  else if k = 15 then opLevel u
  else if k = 5 ∨ k = 10 ∨ k = 11 ∨ k = 16 ∨ k = 17 ∨ k = 20 ∨ k = 21 then 5 else 6
/-- A rule as a value. -/
abbrev ruleV (n k l m v : Int) : Value := .agg #[.int .i64 n, .int .i64 k, .int .i64 l, .int .i64 m, .int .i64 v]

theorem below2 (w : World) (o1 o2 : Obj) : Below w.heap.size w ((w.alloc o1).alloc o2) := ((Below.refl _ _).alloc (Nat.le_refl _) o1).alloc (by simp) o2

set_option maxHeartbeats 400000 in
theorem impl_levelOfOp (u : Int) (w : World) :
    Calls Tryd.prog 77 #[.int .i64 u] w fun r w' => r = .returned (.int .i64 (opLevel u)) ∧ w = w' := by
  have hc : (u = 1 ∨ u = 2 ∨ u = 3 ∨ u = 4) ∨ u < 1 ∨ 4 < u := by omega
  have hlow : u < 1 ∨ 4 < u → opLevel u = 1 := fun h => by unfold opLevel; rw [if_neg (by omega), if_neg (by omega)]
  rcases hc with (rfl | rfl | rfl | rfl) | h | h
  case inr.inl =>
    rw [hlow (Or.inl h)]
    go_enter Tryd.func77, Tryd.ntmps77
    go_wp2_with fail
    go_ret
    exact ⟨rfl, rfl⟩
  case inr.inr =>
    rw [hlow (Or.inr h)]
    go_enter Tryd.func77, Tryd.ntmps77
    go_wp2_with fail
    go_ret
    exact ⟨rfl, rfl⟩
  all_goals
    go_enter Tryd.func77, Tryd.ntmps77
    go_wp2_with fail
    go_ret
    exact ⟨rfl, rfl⟩

set_option maxHeartbeats 400000 in
theorem rule_numForm (k : Int) (a b : ByteArray) (u : Int) (s : Value) (w : World) :
    Calls Tryd.prog 53 #[.agg #[.int .i64 k, .string a, .string b, .int .i64 u, s]] w fun r w' => r = .returned (ruleV 0 0 0 999999 6) ∧ Below w.heap.size w w' := by
  go_enter Tryd.func53, Tryd.ntmps53
  go_wp2_with fail
  exact bodyPost_ret (v := ruleV 0 0 0 999999 6) (by simp [results, Tryd.results53, go_sem]) rfl ⟨rfl, below2 _ _ _⟩

set_option maxHeartbeats 400000 in
theorem rule_boolForm (k : Int) (a b : ByteArray) (u : Int) (s : Value) (w : World) :
    Calls Tryd.prog 55 #[.agg #[.int .i64 k, .string a, .string b, .int .i64 u, s]] w fun r w' => r = .returned (ruleV 0 0 0 1 6) ∧ Below w.heap.size w w' := by
  go_enter Tryd.func55, Tryd.ntmps55
  go_wp2_with fail
  exact bodyPost_ret (v := ruleV 0 0 0 1 6) (by simp [results, Tryd.results55, go_sem]) rfl ⟨rfl, below2 _ _ _⟩

set_option maxHeartbeats 400000 in
theorem rule_varForm (k : Int) (a b : ByteArray) (u : Int) (s : Value) (w : World) :
    Calls Tryd.prog 57 #[.agg #[.int .i64 k, .string a, .string b, .int .i64 u, s]] w fun r w' => r = .returned (ruleV 1 0 0 0 6) ∧ Below w.heap.size w w' := by
  go_enter Tryd.func57, Tryd.ntmps57
  go_wp2_with fail
  exact bodyPost_ret (v := ruleV 1 0 0 0 6) (by simp [results, Tryd.results57, go_sem]) rfl ⟨rfl, below2 _ _ _⟩

set_option maxHeartbeats 400000 in
theorem rule_funForm (k : Int) (a b : ByteArray) (u : Int) (s : Value) (w : World) :
    Calls Tryd.prog 59 #[.agg #[.int .i64 k, .string a, .string b, .int .i64 u, s]] w fun r w' => r = .returned (ruleV 1 1 0 0 0) ∧ Below w.heap.size w w' := by
  go_enter Tryd.func59, Tryd.ntmps59
  go_wp2_with fail
  exact bodyPost_ret (v := ruleV 1 1 0 0 0) (by simp [results, Tryd.results59, go_sem]) rfl ⟨rfl, below2 _ _ _⟩

set_option maxHeartbeats 400000 in
theorem rule_appForm (k : Int) (a b : ByteArray) (u : Int) (s : Value) (w : World) :
    Calls Tryd.prog 61 #[.agg #[.int .i64 k, .string a, .string b, .int .i64 u, s]] w fun r w' => r = .returned (ruleV 0 2 0 0 5) ∧ Below w.heap.size w w' := by
  go_enter Tryd.func61, Tryd.ntmps61
  go_wp2_with fail
  exact bodyPost_ret (v := ruleV 0 2 0 0 5) (by simp [results, Tryd.results61, go_sem]) rfl ⟨rfl, below2 _ _ _⟩

set_option maxHeartbeats 400000 in
theorem rule_letForm (k : Int) (a b : ByteArray) (u : Int) (s : Value) (w : World) :
    Calls Tryd.prog 63 #[.agg #[.int .i64 k, .string a, .string b, .int .i64 u, s]] w fun r w' => r = .returned (ruleV 1 2 0 0 0) ∧ Below w.heap.size w w' := by
  go_enter Tryd.func63, Tryd.ntmps63
  go_wp2_with fail
  exact bodyPost_ret (v := ruleV 1 2 0 0 0) (by simp [results, Tryd.results63, go_sem]) rfl ⟨rfl, below2 _ _ _⟩

set_option maxHeartbeats 400000 in
theorem rule_recForm (k : Int) (a b : ByteArray) (u : Int) (s : Value) (w : World) :
    Calls Tryd.prog 65 #[.agg #[.int .i64 k, .string a, .string b, .int .i64 u, s]] w fun r w' => r = .returned (ruleV 2 2 0 0 0) ∧ Below w.heap.size w w' := by
  go_enter Tryd.func65, Tryd.ntmps65
  go_wp2_with fail
  exact bodyPost_ret (v := ruleV 2 2 0 0 0) (by simp [results, Tryd.results65, go_sem]) rfl ⟨rfl, below2 _ _ _⟩

set_option maxHeartbeats 400000 in
theorem rule_ifForm (k : Int) (a b : ByteArray) (u : Int) (s : Value) (w : World) :
    Calls Tryd.prog 67 #[.agg #[.int .i64 k, .string a, .string b, .int .i64 u, s]] w fun r w' => r = .returned (ruleV 0 3 0 0 0) ∧ Below w.heap.size w w' := by
  go_enter Tryd.func67, Tryd.ntmps67
  go_wp2_with fail
  exact bodyPost_ret (v := ruleV 0 3 0 0 0) (by simp [results, Tryd.results67, go_sem]) rfl ⟨rfl, below2 _ _ _⟩

set_option maxHeartbeats 400000 in
theorem rule_pairForm (k : Int) (a b : ByteArray) (u : Int) (s : Value) (w : World) :
    Calls Tryd.prog 69 #[.agg #[.int .i64 k, .string a, .string b, .int .i64 u, s]] w fun r w' => r = .returned (ruleV 0 2 0 0 6) ∧ Below w.heap.size w w' := by
  go_enter Tryd.func69, Tryd.ntmps69
  go_wp2_with fail
  exact bodyPost_ret (v := ruleV 0 2 0 0 6) (by simp [results, Tryd.results69, go_sem]) rfl ⟨rfl, below2 _ _ _⟩

set_option maxHeartbeats 400000 in
theorem rule_consForm (k : Int) (a b : ByteArray) (u : Int) (s : Value) (w : World) :
    Calls Tryd.prog 71 #[.agg #[.int .i64 k, .string a, .string b, .int .i64 u, s]] w fun r w' => r = .returned (ruleV 0 2 0 0 2) ∧ Below w.heap.size w w' := by
  go_enter Tryd.func71, Tryd.ntmps71
  go_wp2_with fail
  exact bodyPost_ret (v := ruleV 0 2 0 0 2) (by simp [results, Tryd.results71, go_sem]) rfl ⟨rfl, below2 _ _ _⟩

set_option maxHeartbeats 400000 in
theorem rule_caseForm (k : Int) (a b : ByteArray) (u : Int) (s : Value) (w : World) :
    Calls Tryd.prog 73 #[.agg #[.int .i64 k, .string a, .string b, .int .i64 u, s]] w fun r w' => r = .returned (ruleV 2 3 0 0 0) ∧ Below w.heap.size w w' := by
  go_enter Tryd.func73, Tryd.ntmps73
  go_wp2_with fail
  exact bodyPost_ret (v := ruleV 2 3 0 0 0) (by simp [results, Tryd.results73, go_sem]) rfl ⟨rfl, below2 _ _ _⟩

set_option maxHeartbeats 400000 in
theorem rule_wordForm (k : Int) (a b : ByteArray) (u : Int) (s : Value) (w : World) :
    Calls Tryd.prog 78 #[.agg #[.int .i64 k, .string a, .string b, .int .i64 u, s]] w fun r w' => r = .returned (ruleV 0 0 0 0 6) ∧ Below w.heap.size w w' := by
  go_enter Tryd.func78, Tryd.ntmps78
  go_wp2_with fail
  exact bodyPost_ret (v := ruleV 0 0 0 0 6) (by simp [results, Tryd.results78, go_sem]) rfl ⟨rfl, below2 _ _ _⟩

set_option maxHeartbeats 400000 in
theorem rule_opForm (k : Int) (a b : ByteArray) (u : Int) (s : Value) (w : World) :
    Calls Tryd.prog 75 #[.agg #[.int .i64 k, .string a, .string b, .int .i64 u, s]] w fun r w' => r = .returned (ruleV 0 2 1 6 (opLevel u)) ∧ Below w.heap.size w w' := by
  go_enter Tryd.func75, Tryd.ntmps75
  go_wp2_with (go_at_call 77; refine (impl_levelOfOp _ _).mono ?_; rintro r w' ⟨rfl, rfl⟩)
  exact bodyPost_ret (v := ruleV 0 2 1 6 (opLevel u)) (by simp [results, Tryd.results75, go_sem]) rfl ⟨rfl, below2 _ _ _⟩

set_option maxHeartbeats 400000 in
theorem rule_headForm (k : Int) (a b : ByteArray) (u : Int) (s : Value) (w : World) (hk : (k == 17) = false) :
    Calls Tryd.prog 80 #[.agg #[.int .i64 k, .string a, .string b, .int .i64 u, s]] w fun r w' => r = .returned (ruleV 0 1 0 0 5) ∧ Below w.heap.size w w' := by
  go_enter Tryd.func80, Tryd.ntmps80
  go_wp2_with fail
  exact bodyPost_ret (v := ruleV 0 1 0 0 5) (by simp [results, Tryd.results80, go_sem]) rfl ⟨rfl, below2 _ _ _⟩

set_option maxHeartbeats 400000 in
theorem rule_headForm2 (a b : ByteArray) (u : Int) (s : Value) (w : World) :
    Calls Tryd.prog 80 #[.agg #[.int .i64 17, .string a, .string b, .int .i64 u, s]] w fun r w' => r = .returned (ruleV 0 2 0 0 5) ∧ Below w.heap.size w w' := by
  go_enter Tryd.func80, Tryd.ntmps80
  go_wp2_with fail
  exact bodyPost_ret (v := ruleV 0 2 0 0 5) (by simp [results, Tryd.results80, go_sem]) rfl ⟨rfl, below2 _ _ _⟩
end Go.Proofs.YtdghblpaccaaiaaDoor
