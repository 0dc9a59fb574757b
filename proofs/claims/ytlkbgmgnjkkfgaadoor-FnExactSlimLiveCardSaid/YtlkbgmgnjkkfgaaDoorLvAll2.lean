/-
  Small things of numbers and texts.
  The program's deedOf: each kind has its deed; what an op takes and puts; what its number may be.
-/
import Derived.WalkKit
import Derived.WalkSpells
import Derived.Test.YtlkbgmgnjkkfgaaDoorCkMath
import Derived.Test.YtlkbgmgnjkkfgaaDoorRows
import Derived.WalkLawsBesides
namespace Go.Proofs.YtlkbgmgnjkkfgaaDoor
open Go.RowKit

theorem ck_wr (z : Int) (h1 : -9223372036854775808 ≤ z) (h2 : z < 9223372036854775808) : IntKind.i64.wrap z = z := by
  simp [IntKind.wrap, IntKind.bits, IntKind.signed]
  omega
end Go.Proofs.YtlkbgmgnjkkfgaaDoor

namespace Go.Proofs.YtlkbgmgnjkkfgaaDoor
open Go.RowKit

/-- The type of a kind's deed. -/
def deedT (k : Int) : TypeId := if k = 1 then 79 else if k = 2 then 79 else if k = 3 then 80 else if k = 4 then 73 else if k = 5 then 73 else if k = 7 then 81 else if k = 8 then 82 else if k = 9 then 74 else if k = 16 then 75 else if k = 10 then 76 else if k = 17 then 83 else if k = 24 then 84 else 85
theorem code_cases (k : Int) (hk : 1 ≤ k ∧ k ≤ 24) : k = 1 ∨ k = 2 ∨ k = 3 ∨ k = 4 ∨ k = 5 ∨ k = 6 ∨ k = 7 ∨ k = 8 ∨ k = 9 ∨ k = 10 ∨ k = 11 ∨ k = 12 ∨ k = 13 ∨ k = 14 ∨ k = 15 ∨ k = 16 ∨ k = 17 ∨ k = 18 ∨ k = 19 ∨ k = 20 ∨ k = 21 ∨ k = 22 ∨ k = 23 ∨ k = 24 := by omega

set_option maxHeartbeats 4000000 in
theorem deed_kind (k n : Int) (w : World) (hk : 1 ≤ k ∧ k ≤ 24) :
    Calls Tryd.prog 30 #[.agg #[.int .i64 k, .int .i64 n]] w fun r w' => r = .returned (.iface (deedT k) (.agg #[.int .i64 k, .int .i64 n])) ∧ Below w.heap.size w w' := by
  rcases code_cases k hk with (rfl | rfl | rfl | rfl | rfl | rfl | rfl | rfl | rfl | rfl | rfl | rfl | rfl | rfl | rfl | rfl | rfl | rfl | rfl | rfl | rfl | rfl | rfl | rfl)
  all_goals
    go_enter Tryd.func30, Tryd.ntmps30
    go_wp2_with fail
    go_ret
    exact ⟨rfl, (Below.refl _ _).alloc (Nat.le_refl _) _⟩

set_option maxHeartbeats 4000000 in
theorem deed_none (k n : Int) (w : World) (hk : k < 1 ∨ 24 < k) :
    Calls Tryd.prog 30 #[.agg #[.int .i64 k, .int .i64 n]] w fun r w' => r = .returned .nilIface ∧ Below w.heap.size w w' := by
  rcases hk with h | h
  all_goals
    go_enter Tryd.func30, Tryd.ntmps30
    go_wp2_with fail
    go_ret
    exact ⟨rfl, (Below.refl _ _).alloc (Nat.le_refl _) _⟩

set_option maxHeartbeats 4000000 in
theorem trade_kind (k n : Int) (w : World) (hk : 1 ≤ k ∧ k ≤ 24) :
    Calls Tryd.prog 33 #[.agg #[.int .i64 k, .int .i64 n]] w fun r w' => r = .returned (.tuple #[.int .i64 (takesM k), .int .i64 (putsM k)]) ∧ Below w.heap.size w w' := by
  rcases code_cases k hk with (rfl | rfl | rfl | rfl | rfl | rfl | rfl | rfl | rfl | rfl | rfl | rfl | rfl | rfl | rfl | rfl | rfl | rfl | rfl | rfl | rfl | rfl | rfl | rfl)
  all_goals
    go_enter Tryd.func33, Tryd.ntmps33
    go_wp2_with fail
    exact bodyPost_ret (v := .tuple #[.int .i64 (takesM _), .int .i64 (putsM _)]) (by simp [results, Tryd.results33, go_sem, takesM, putsM]) rfl ⟨rfl, (Below.refl _ _).alloc (Nat.le_refl _) _⟩

theorem bodyNames_kind (k n : Int) (w : World) (hk : k = 4 ∨ k = 5) :
    Calls Tryd.prog 34 #[.agg #[.int .i64 k, .int .i64 n]] w fun r w' => r = .returned (.int .i64 (if k = 5 then 2 else 1)) ∧ Below w.heap.size w w' := by
  rcases hk with rfl | rfl
  all_goals
    go_enter Tryd.func34, Tryd.ntmps34
    go_wp2_with fail
    go_ret
    exact ⟨rfl, (Below.refl _ _).alloc (Nat.le_refl _) _⟩
/-- The least and the most that a kind's number may be. -/
def leastM (k : Int) : Int := if k = 8 then 1 else if k = 17 then 1 else 0
def mostM (k size : Int) : Int := if k = 1 then 999999 else if k = 2 then 1 else if k = 3 then 60 else if k = 4 ∨ k = 5 ∨ k = 9 ∨ k = 10 ∨ k = 16 then size - 1 else if k = 8 then 2 else if k = 17 then 6 else 0
/-- A number is one that an op may have. -/
def fitsM (op : Wd) (size : Int) : Bool := decide (1 ≤ op.tag ∧ op.tag ≤ 24 ∧ leastM op.tag ≤ op.num ∧ op.num ≤ mostM op.tag size)
set_option maxHeartbeats 4000000 in
theorem bounds_figureOp (k n size : Int) (w : World) (hk : k = 1 ∨ k = 2) :
    Calls Tryd.prog 54 #[.agg #[.int .i64 k, .int .i64 n], .int .i64 size] w fun r w' => r = .returned (.tuple #[.int .i64 (leastM k), .int .i64 (mostM k size)]) ∧ Below w.heap.size w w' := by
  rcases hk with (rfl | rfl)
  all_goals
    go_enter Tryd.func54, Tryd.ntmps54
    go_wp2_with fail
    exact bodyPost_ret (v := .tuple #[.int .i64 (leastM _), .int .i64 (mostM _ size)]) (by simp [results, Tryd.results54, go_sem, leastM, mostM]) rfl ⟨rfl, by first | exact Below.refl _ _ | exact (Below.refl _ _).alloc (Nat.le_refl _) _⟩
set_option maxHeartbeats 4000000 in
theorem bounds_nameOp (k n size : Int) (w : World) (hk : k = 3) :
    Calls Tryd.prog 55 #[.agg #[.int .i64 k, .int .i64 n], .int .i64 size] w fun r w' => r = .returned (.tuple #[.int .i64 (leastM k), .int .i64 (mostM k size)]) ∧ Below w.heap.size w w' := by
  subst hk
  go_enter Tryd.func55, Tryd.ntmps55
  go_wp2_with fail
  exact bodyPost_ret (v := .tuple #[.int .i64 (leastM _), .int .i64 (mostM _ size)]) (by simp [results, Tryd.results55, go_sem, leastM, mostM]) rfl ⟨rfl, by first | exact Below.refl _ _ | exact (Below.refl _ _).alloc (Nat.le_refl _) _⟩
set_option maxHeartbeats 4000000 in
theorem bounds_makeOp (k n size : Int) (w : World) (hk : k = 4 ∨ k = 5) (hz : 1 ≤ size ∧ size ≤ 200) :
    Calls Tryd.prog 50 #[.agg #[.int .i64 k, .int .i64 n], .int .i64 size] w fun r w' => r = .returned (.tuple #[.int .i64 (leastM k), .int .i64 (mostM k size)]) ∧ Below w.heap.size w w' := by
  have wr : IntKind.i64.wrap (size - 1) = size - 1 := ck_wr _ (by omega) (by omega)
  rcases hk with (rfl | rfl)
  all_goals
    go_enter Tryd.func50, Tryd.ntmps50
    go_wp2_with fail
    exact bodyPost_ret (v := .tuple #[.int .i64 (leastM _), .int .i64 (mostM _ size)]) (by simp [results, Tryd.results50, go_sem, leastM, mostM]) rfl ⟨rfl, by first | exact Below.refl _ _ | exact (Below.refl _ _).alloc (Nat.le_refl _) _⟩
set_option maxHeartbeats 4000000 in
theorem bounds_bindOp (k n size : Int) (w : World) (hk : k = 7) :
    Calls Tryd.prog 56 #[.agg #[.int .i64 k, .int .i64 n], .int .i64 size] w fun r w' => r = .returned (.tuple #[.int .i64 (leastM k), .int .i64 (mostM k size)]) ∧ Below w.heap.size w w' := by
  subst hk
  go_enter Tryd.func56, Tryd.ntmps56
  go_wp2_with fail
  exact bodyPost_ret (v := .tuple #[.int .i64 (leastM _), .int .i64 (mostM _ size)]) (by simp [results, Tryd.results56, go_sem, leastM, mostM]) rfl ⟨rfl, by first | exact Below.refl _ _ | exact (Below.refl _ _).alloc (Nat.le_refl _) _⟩
set_option maxHeartbeats 4000000 in
theorem bounds_dropOp (k n size : Int) (w : World) (hk : k = 8) :
    Calls Tryd.prog 57 #[.agg #[.int .i64 k, .int .i64 n], .int .i64 size] w fun r w' => r = .returned (.tuple #[.int .i64 (leastM k), .int .i64 (mostM k size)]) ∧ Below w.heap.size w w' := by
  subst hk
  go_enter Tryd.func57, Tryd.ntmps57
  go_wp2_with fail
  exact bodyPost_ret (v := .tuple #[.int .i64 (leastM _), .int .i64 (mostM _ size)]) (by simp [results, Tryd.results57, go_sem, leastM, mostM]) rfl ⟨rfl, by first | exact Below.refl _ _ | exact (Below.refl _ _).alloc (Nat.le_refl _) _⟩
set_option maxHeartbeats 4000000 in
theorem bounds_ifOp (k n size : Int) (w : World) (hk : k = 9) (hz : 1 ≤ size ∧ size ≤ 200) :
    Calls Tryd.prog 51 #[.agg #[.int .i64 k, .int .i64 n], .int .i64 size] w fun r w' => r = .returned (.tuple #[.int .i64 (leastM k), .int .i64 (mostM k size)]) ∧ Below w.heap.size w w' := by
  have wr : IntKind.i64.wrap (size - 1) = size - 1 := ck_wr _ (by omega) (by omega)
  subst hk
  go_enter Tryd.func51, Tryd.ntmps51
  go_wp2_with fail
  exact bodyPost_ret (v := .tuple #[.int .i64 (leastM _), .int .i64 (mostM _ size)]) (by simp [results, Tryd.results51, go_sem, leastM, mostM]) rfl ⟨rfl, by first | exact Below.refl _ _ | exact (Below.refl _ _).alloc (Nat.le_refl _) _⟩
set_option maxHeartbeats 4000000 in
theorem bounds_caseOp (k n size : Int) (w : World) (hk : k = 16) (hz : 1 ≤ size ∧ size ≤ 200) :
    Calls Tryd.prog 52 #[.agg #[.int .i64 k, .int .i64 n], .int .i64 size] w fun r w' => r = .returned (.tuple #[.int .i64 (leastM k), .int .i64 (mostM k size)]) ∧ Below w.heap.size w w' := by
  have wr : IntKind.i64.wrap (size - 1) = size - 1 := ck_wr _ (by omega) (by omega)
  subst hk
  go_enter Tryd.func52, Tryd.ntmps52
  go_wp2_with fail
  exact bodyPost_ret (v := .tuple #[.int .i64 (leastM _), .int .i64 (mostM _ size)]) (by simp [results, Tryd.results52, go_sem, leastM, mostM]) rfl ⟨rfl, by first | exact Below.refl _ _ | exact (Below.refl _ _).alloc (Nat.le_refl _) _⟩
set_option maxHeartbeats 4000000 in
theorem bounds_goOp (k n size : Int) (w : World) (hk : k = 10) (hz : 1 ≤ size ∧ size ≤ 200) :
    Calls Tryd.prog 53 #[.agg #[.int .i64 k, .int .i64 n], .int .i64 size] w fun r w' => r = .returned (.tuple #[.int .i64 (leastM k), .int .i64 (mostM k size)]) ∧ Below w.heap.size w w' := by
  have wr : IntKind.i64.wrap (size - 1) = size - 1 := ck_wr _ (by omega) (by omega)
  subst hk
  go_enter Tryd.func53, Tryd.ntmps53
  go_wp2_with fail
  exact bodyPost_ret (v := .tuple #[.int .i64 (leastM _), .int .i64 (mostM _ size)]) (by simp [results, Tryd.results53, go_sem, leastM, mostM]) rfl ⟨rfl, by first | exact Below.refl _ _ | exact (Below.refl _ _).alloc (Nat.le_refl _) _⟩
set_option maxHeartbeats 4000000 in
theorem bounds_signOp (k n size : Int) (w : World) (hk : k = 17) :
    Calls Tryd.prog 58 #[.agg #[.int .i64 k, .int .i64 n], .int .i64 size] w fun r w' => r = .returned (.tuple #[.int .i64 (leastM k), .int .i64 (mostM k size)]) ∧ Below w.heap.size w w' := by
  subst hk
  go_enter Tryd.func58, Tryd.ntmps58
  go_wp2_with fail
  exact bodyPost_ret (v := .tuple #[.int .i64 (leastM _), .int .i64 (mostM _ size)]) (by simp [results, Tryd.results58, go_sem, leastM, mostM]) rfl ⟨rfl, by first | exact Below.refl _ _ | exact (Below.refl _ _).alloc (Nat.le_refl _) _⟩
set_option maxHeartbeats 4000000 in
theorem bounds_giveOp (k n size : Int) (w : World) (hk : k = 24) :
    Calls Tryd.prog 59 #[.agg #[.int .i64 k, .int .i64 n], .int .i64 size] w fun r w' => r = .returned (.tuple #[.int .i64 (leastM k), .int .i64 (mostM k size)]) ∧ Below w.heap.size w w' := by
  subst hk
  go_enter Tryd.func59, Tryd.ntmps59
  go_wp2_with fail
  exact bodyPost_ret (v := .tuple #[.int .i64 (leastM _), .int .i64 (mostM _ size)]) (by simp [results, Tryd.results59, go_sem, leastM, mostM]) rfl ⟨rfl, by first | exact Below.refl _ _ | exact (Below.refl _ _).alloc (Nat.le_refl _) _⟩
set_option maxHeartbeats 4000000 in
theorem bounds_workOp (k n size : Int) (w : World) (h1 : leastM k = 0) (h2 : mostM k size = 0) :
    Calls Tryd.prog 60 #[.agg #[.int .i64 k, .int .i64 n], .int .i64 size] w fun r w' => r = .returned (.tuple #[.int .i64 (leastM k), .int .i64 (mostM k size)]) ∧ Below w.heap.size w w' := by
  rw [h1, h2]
  go_enter Tryd.func60, Tryd.ntmps60
  go_wp2_with fail
  exact bodyPost_ret (v := .tuple #[.int .i64 0, .int .i64 0]) (by simp [results, Tryd.results60, go_sem]) rfl ⟨rfl, by first | exact Below.refl _ _ | exact (Below.refl _ _).alloc (Nat.le_refl _) _⟩
end Go.Proofs.YtlkbgmgnjkkfgaaDoor

