/-
  The program's deedOf: each kind has its deed; what an op takes and puts; what its number may be.
-/
import Derived.Test.YtihoembjglmaiaaCkMath
import Derived.Test.YtihoembjglmaiaaRows
import Derived.WalkKit
import Derived.WalkSpells
import Derived.WalkLawsBesides
namespace Go.Proofs.Ytihoembjglmaiaa
open Go.RowKit

theorem ck_wr (z : Int) (h1 : -9223372036854775808 ≤ z) (h2 : z < 9223372036854775808) : IntKind.i64.wrap z = z := by
  simp [IntKind.wrap, IntKind.bits, IntKind.signed]
  omega
/-- The type of a kind's deed. -/
def deedT (k : Int) : TypeId := if k = 1 then 60 else if k = 2 then 60 else if k = 3 then 61 else if k = 4 then 62 else if k = 5 then 62 else if k = 7 then 63 else if k = 8 then 64 else if k = 9 then 65 else if k = 16 then 66 else if k = 10 then 67 else if k = 17 then 68 else if k = 24 then 69 else 70
theorem code_cases (k : Int) (hk : 1 ≤ k ∧ k ≤ 24) : k = 1 ∨ k = 2 ∨ k = 3 ∨ k = 4 ∨ k = 5 ∨ k = 6 ∨ k = 7 ∨ k = 8 ∨ k = 9 ∨ k = 10 ∨ k = 11 ∨ k = 12 ∨ k = 13 ∨ k = 14 ∨ k = 15 ∨ k = 16 ∨ k = 17 ∨ k = 18 ∨ k = 19 ∨ k = 20 ∨ k = 21 ∨ k = 22 ∨ k = 23 ∨ k = 24 := by omega

set_option maxHeartbeats 4000000 in
theorem deed_kind (k n : Int) (w : World) (hk : 1 ≤ k ∧ k ≤ 24) :
    Calls Try.prog 18 #[.agg #[.int .i64 k, .int .i64 n]] w fun r w' => r = .returned (.iface (deedT k) (.agg #[.int .i64 k, .int .i64 n])) ∧ Below w.heap.size w w' := by
  rcases code_cases k hk with (rfl | rfl | rfl | rfl | rfl | rfl | rfl | rfl | rfl | rfl | rfl | rfl | rfl | rfl | rfl | rfl | rfl | rfl | rfl | rfl | rfl | rfl | rfl | rfl)
  all_goals
    go_enter Try.func18, Try.ntmps18
    go_wp2_with fail
    go_ret
    exact ⟨rfl, (Below.refl _ _).alloc (Nat.le_refl _) _⟩

set_option maxHeartbeats 4000000 in
theorem deed_none (k n : Int) (w : World) (hk : k < 1 ∨ 24 < k) :
    Calls Try.prog 18 #[.agg #[.int .i64 k, .int .i64 n]] w fun r w' => r = .returned .nilIface ∧ Below w.heap.size w w' := by
  rcases hk with h | h
  all_goals
    go_enter Try.func18, Try.ntmps18
    go_wp2_with fail
    go_ret
    exact ⟨rfl, (Below.refl _ _).alloc (Nat.le_refl _) _⟩

set_option maxHeartbeats 4000000 in
theorem trade_kind (k n : Int) (w : World) (hk : 1 ≤ k ∧ k ≤ 24) :
    Calls Try.prog 22 #[.agg #[.int .i64 k, .int .i64 n]] w fun r w' => r = .returned (.tuple #[.int .i64 (takesM k), .int .i64 (putsM k)]) ∧ Below w.heap.size w w' := by
  rcases code_cases k hk with (rfl | rfl | rfl | rfl | rfl | rfl | rfl | rfl | rfl | rfl | rfl | rfl | rfl | rfl | rfl | rfl | rfl | rfl | rfl | rfl | rfl | rfl | rfl | rfl)
  all_goals
    go_enter Try.func22, Try.ntmps22
    go_wp2_with fail
    exact bodyPost_ret (v := .tuple #[.int .i64 (takesM _), .int .i64 (putsM _)]) (by simp [results, Try.results22, go_sem, takesM, putsM]) rfl ⟨rfl, (Below.refl _ _).alloc (Nat.le_refl _) _⟩

theorem bodyNames_kind (k n : Int) (w : World) (hk : k = 4 ∨ k = 5) :
    Calls Try.prog 23 #[.agg #[.int .i64 k, .int .i64 n]] w fun r w' => r = .returned (.int .i64 (if k = 5 then 2 else 1)) ∧ Below w.heap.size w w' := by
  rcases hk with rfl | rfl
  all_goals
    go_enter Try.func23, Try.ntmps23
    go_wp2_with fail
    go_ret
    exact ⟨rfl, (Below.refl _ _).alloc (Nat.le_refl _) _⟩
/-- The least and the most that a kind's number may be. -/
def leastM (k : Int) : Int := if k = 8 then 1 else if k = 17 then 1 else 0
def mostM (k size : Int) : Int := if k = 1 then 999999 else if k = 2 then 1 else if k = 3 then 60 else if k = 4 ∨ k = 5 ∨ k = 9 ∨ k = 10 ∨ k = 16 then size - 1 else if k = 8 then 2 else if k = 17 then 6 else 0
/-- A number is one that an op may have. -/
def fitsM (op : Wd) (size : Int) : Bool := decide (1 ≤ op.tag ∧ op.tag ≤ 24 ∧ leastM op.tag ≤ op.num ∧ op.num ≤ mostM op.tag size)
set_option maxHeartbeats 4000000 in
theorem bounds_figureOp (k n size : Int) (w : World) (hk : k = 1 ∨ k = 2) :
    Calls Try.prog 39 #[.agg #[.int .i64 k, .int .i64 n], .int .i64 size] w fun r w' => r = .returned (.tuple #[.int .i64 (leastM k), .int .i64 (mostM k size)]) ∧ Below w.heap.size w w' := by
  rcases hk with (rfl | rfl)
  all_goals
    go_enter Try.func39, Try.ntmps39
    go_wp2_with fail
    exact bodyPost_ret (v := .tuple #[.int .i64 (leastM _), .int .i64 (mostM _ size)]) (by simp [results, Try.results39, go_sem, leastM, mostM]) rfl ⟨rfl, by first | exact Below.refl _ _ | exact (Below.refl _ _).alloc (Nat.le_refl _) _⟩
set_option maxHeartbeats 4000000 in
theorem bounds_nameOp (k n size : Int) (w : World) (hk : k = 3) :
    Calls Try.prog 40 #[.agg #[.int .i64 k, .int .i64 n], .int .i64 size] w fun r w' => r = .returned (.tuple #[.int .i64 (leastM k), .int .i64 (mostM k size)]) ∧ Below w.heap.size w w' := by
  subst hk
  go_enter Try.func40, Try.ntmps40
  go_wp2_with fail
  exact bodyPost_ret (v := .tuple #[.int .i64 (leastM _), .int .i64 (mostM _ size)]) (by simp [results, Try.results40, go_sem, leastM, mostM]) rfl ⟨rfl, by first | exact Below.refl _ _ | exact (Below.refl _ _).alloc (Nat.le_refl _) _⟩
set_option maxHeartbeats 4000000 in
theorem bounds_makeOp (k n size : Int) (w : World) (hk : k = 4 ∨ k = 5) (hz : 1 ≤ size ∧ size ≤ 200) :
    Calls Try.prog 41 #[.agg #[.int .i64 k, .int .i64 n], .int .i64 size] w fun r w' => r = .returned (.tuple #[.int .i64 (leastM k), .int .i64 (mostM k size)]) ∧ Below w.heap.size w w' := by
  have wr : IntKind.i64.wrap (size - 1) = size - 1 := ck_wr _ (by omega) (by omega)
  rcases hk with (rfl | rfl)
  all_goals
    go_enter Try.func41, Try.ntmps41
    go_wp2_with fail
    exact bodyPost_ret (v := .tuple #[.int .i64 (leastM _), .int .i64 (mostM _ size)]) (by simp [results, Try.results41, go_sem, leastM, mostM]) rfl ⟨rfl, by first | exact Below.refl _ _ | exact (Below.refl _ _).alloc (Nat.le_refl _) _⟩
set_option maxHeartbeats 4000000 in
theorem bounds_bindOp (k n size : Int) (w : World) (hk : k = 7) :
    Calls Try.prog 42 #[.agg #[.int .i64 k, .int .i64 n], .int .i64 size] w fun r w' => r = .returned (.tuple #[.int .i64 (leastM k), .int .i64 (mostM k size)]) ∧ Below w.heap.size w w' := by
  subst hk
  go_enter Try.func42, Try.ntmps42
  go_wp2_with fail
  exact bodyPost_ret (v := .tuple #[.int .i64 (leastM _), .int .i64 (mostM _ size)]) (by simp [results, Try.results42, go_sem, leastM, mostM]) rfl ⟨rfl, by first | exact Below.refl _ _ | exact (Below.refl _ _).alloc (Nat.le_refl _) _⟩
set_option maxHeartbeats 4000000 in
theorem bounds_dropOp (k n size : Int) (w : World) (hk : k = 8) :
    Calls Try.prog 43 #[.agg #[.int .i64 k, .int .i64 n], .int .i64 size] w fun r w' => r = .returned (.tuple #[.int .i64 (leastM k), .int .i64 (mostM k size)]) ∧ Below w.heap.size w w' := by
  subst hk
  go_enter Try.func43, Try.ntmps43
  go_wp2_with fail
  exact bodyPost_ret (v := .tuple #[.int .i64 (leastM _), .int .i64 (mostM _ size)]) (by simp [results, Try.results43, go_sem, leastM, mostM]) rfl ⟨rfl, by first | exact Below.refl _ _ | exact (Below.refl _ _).alloc (Nat.le_refl _) _⟩
set_option maxHeartbeats 4000000 in
theorem bounds_ifOp (k n size : Int) (w : World) (hk : k = 9) (hz : 1 ≤ size ∧ size ≤ 200) :
    Calls Try.prog 44 #[.agg #[.int .i64 k, .int .i64 n], .int .i64 size] w fun r w' => r = .returned (.tuple #[.int .i64 (leastM k), .int .i64 (mostM k size)]) ∧ Below w.heap.size w w' := by
  have wr : IntKind.i64.wrap (size - 1) = size - 1 := ck_wr _ (by omega) (by omega)
  subst hk
  go_enter Try.func44, Try.ntmps44
  go_wp2_with fail
  exact bodyPost_ret (v := .tuple #[.int .i64 (leastM _), .int .i64 (mostM _ size)]) (by simp [results, Try.results44, go_sem, leastM, mostM]) rfl ⟨rfl, by first | exact Below.refl _ _ | exact (Below.refl _ _).alloc (Nat.le_refl _) _⟩
set_option maxHeartbeats 4000000 in
theorem bounds_caseOp (k n size : Int) (w : World) (hk : k = 16) (hz : 1 ≤ size ∧ size ≤ 200) :
    Calls Try.prog 45 #[.agg #[.int .i64 k, .int .i64 n], .int .i64 size] w fun r w' => r = .returned (.tuple #[.int .i64 (leastM k), .int .i64 (mostM k size)]) ∧ Below w.heap.size w w' := by
  have wr : IntKind.i64.wrap (size - 1) = size - 1 := ck_wr _ (by omega) (by omega)
  subst hk
  go_enter Try.func45, Try.ntmps45
  go_wp2_with fail
  exact bodyPost_ret (v := .tuple #[.int .i64 (leastM _), .int .i64 (mostM _ size)]) (by simp [results, Try.results45, go_sem, leastM, mostM]) rfl ⟨rfl, by first | exact Below.refl _ _ | exact (Below.refl _ _).alloc (Nat.le_refl _) _⟩
set_option maxHeartbeats 4000000 in
theorem bounds_goOp (k n size : Int) (w : World) (hk : k = 10) (hz : 1 ≤ size ∧ size ≤ 200) :
    Calls Try.prog 46 #[.agg #[.int .i64 k, .int .i64 n], .int .i64 size] w fun r w' => r = .returned (.tuple #[.int .i64 (leastM k), .int .i64 (mostM k size)]) ∧ Below w.heap.size w w' := by
  have wr : IntKind.i64.wrap (size - 1) = size - 1 := ck_wr _ (by omega) (by omega)
  subst hk
  go_enter Try.func46, Try.ntmps46
  go_wp2_with fail
  exact bodyPost_ret (v := .tuple #[.int .i64 (leastM _), .int .i64 (mostM _ size)]) (by simp [results, Try.results46, go_sem, leastM, mostM]) rfl ⟨rfl, by first | exact Below.refl _ _ | exact (Below.refl _ _).alloc (Nat.le_refl _) _⟩
set_option maxHeartbeats 4000000 in
theorem bounds_signOp (k n size : Int) (w : World) (hk : k = 17) :
    Calls Try.prog 47 #[.agg #[.int .i64 k, .int .i64 n], .int .i64 size] w fun r w' => r = .returned (.tuple #[.int .i64 (leastM k), .int .i64 (mostM k size)]) ∧ Below w.heap.size w w' := by
  subst hk
  go_enter Try.func47, Try.ntmps47
  go_wp2_with fail
  exact bodyPost_ret (v := .tuple #[.int .i64 (leastM _), .int .i64 (mostM _ size)]) (by simp [results, Try.results47, go_sem, leastM, mostM]) rfl ⟨rfl, by first | exact Below.refl _ _ | exact (Below.refl _ _).alloc (Nat.le_refl _) _⟩
set_option maxHeartbeats 4000000 in
theorem bounds_giveOp (k n size : Int) (w : World) (hk : k = 24) :
    Calls Try.prog 48 #[.agg #[.int .i64 k, .int .i64 n], .int .i64 size] w fun r w' => r = .returned (.tuple #[.int .i64 (leastM k), .int .i64 (mostM k size)]) ∧ Below w.heap.size w w' := by
  subst hk
  go_enter Try.func48, Try.ntmps48
  go_wp2_with fail
  exact bodyPost_ret (v := .tuple #[.int .i64 (leastM _), .int .i64 (mostM _ size)]) (by simp [results, Try.results48, go_sem, leastM, mostM]) rfl ⟨rfl, by first | exact Below.refl _ _ | exact (Below.refl _ _).alloc (Nat.le_refl _) _⟩
set_option maxHeartbeats 4000000 in
theorem bounds_workOp (k n size : Int) (w : World) (h1 : leastM k = 0) (h2 : mostM k size = 0) :
    Calls Try.prog 49 #[.agg #[.int .i64 k, .int .i64 n], .int .i64 size] w fun r w' => r = .returned (.tuple #[.int .i64 (leastM k), .int .i64 (mostM k size)]) ∧ Below w.heap.size w w' := by
  rw [h1, h2]
  go_enter Try.func49, Try.ntmps49
  go_wp2_with fail
  exact bodyPost_ret (v := .tuple #[.int .i64 0, .int .i64 0]) (by simp [results, Try.results49, go_sem]) rfl ⟨rfl, by first | exact Below.refl _ _ | exact (Below.refl _ _).alloc (Nat.le_refl _) _⟩
end Go.Proofs.Ytihoembjglmaiaa
