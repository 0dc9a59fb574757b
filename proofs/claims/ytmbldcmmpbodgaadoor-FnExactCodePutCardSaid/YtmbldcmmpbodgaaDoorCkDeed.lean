/-
  The program's deedOf: each kind has its deed; what an op takes and puts; what its number may be.
-/
import Derived.Test.YtmbldcmmpbodgaaDoorCkMath
import Derived.Test.YtmbldcmmpbodgaaDoorRows
import Derived.WalkKit
import Derived.WalkSpells
import Derived.WalkLawsBesides
namespace Go.Proofs.YtmbldcmmpbodgaaDoor
open Go.RowKit

theorem ck_wr (z : Int) (h1 : -9223372036854775808 ≤ z) (h2 : z < 9223372036854775808) : IntKind.i64.wrap z = z := by
  simp [IntKind.wrap, IntKind.bits, IntKind.signed]
  omega
/-- The type of a kind's deed. -/
def deedT (k : Int) : TypeId := if k = 1 then 79 else if k = 2 then 79 else if k = 3 then 80 else if k = 4 then 81 else if k = 5 then 81 else if k = 7 then 75 else if k = 8 then 82 else if k = 9 then 83 else if k = 16 then 84 else if k = 10 then 85 else if k = 17 then 86 else if k = 24 then 76 else 77
theorem code_cases (k : Int) (hk : 1 ≤ k ∧ k ≤ 24) : k = 1 ∨ k = 2 ∨ k = 3 ∨ k = 4 ∨ k = 5 ∨ k = 6 ∨ k = 7 ∨ k = 8 ∨ k = 9 ∨ k = 10 ∨ k = 11 ∨ k = 12 ∨ k = 13 ∨ k = 14 ∨ k = 15 ∨ k = 16 ∨ k = 17 ∨ k = 18 ∨ k = 19 ∨ k = 20 ∨ k = 21 ∨ k = 22 ∨ k = 23 ∨ k = 24 := by omega

set_option maxHeartbeats 4000000 in
theorem deed_kind (k n : Int) (w : World) (hk : 1 ≤ k ∧ k ≤ 24) :
    Calls Tryd.prog 29 #[.agg #[.int .i64 k, .int .i64 n]] w fun r w' => r = .returned (.iface (deedT k) (.agg #[.int .i64 k, .int .i64 n])) ∧ Below w.heap.size w w' := by
  rcases code_cases k hk with (rfl | rfl | rfl | rfl | rfl | rfl | rfl | rfl | rfl | rfl | rfl | rfl | rfl | rfl | rfl | rfl | rfl | rfl | rfl | rfl | rfl | rfl | rfl | rfl)
  all_goals
    go_enter Tryd.func29, Tryd.ntmps29
    go_wp2_with fail
    go_ret
    exact ⟨rfl, (Below.refl _ _).alloc (Nat.le_refl _) _⟩

set_option maxHeartbeats 4000000 in
theorem deed_none (k n : Int) (w : World) (hk : k < 1 ∨ 24 < k) :
    Calls Tryd.prog 29 #[.agg #[.int .i64 k, .int .i64 n]] w fun r w' => r = .returned .nilIface ∧ Below w.heap.size w w' := by
  rcases hk with h | h
  all_goals
    go_enter Tryd.func29, Tryd.ntmps29
    go_wp2_with fail
    go_ret
    exact ⟨rfl, (Below.refl _ _).alloc (Nat.le_refl _) _⟩

set_option maxHeartbeats 4000000 in
theorem trade_kind (k n : Int) (w : World) (hk : 1 ≤ k ∧ k ≤ 24) :
    Calls Tryd.prog 34 #[.agg #[.int .i64 k, .int .i64 n]] w fun r w' => r = .returned (.tuple #[.int .i64 (takesM k), .int .i64 (putsM k)]) ∧ Below w.heap.size w w' := by
  rcases code_cases k hk with (rfl | rfl | rfl | rfl | rfl | rfl | rfl | rfl | rfl | rfl | rfl | rfl | rfl | rfl | rfl | rfl | rfl | rfl | rfl | rfl | rfl | rfl | rfl | rfl)
  all_goals
    go_enter Tryd.func34, Tryd.ntmps34
    go_wp2_with fail
    exact bodyPost_ret (v := .tuple #[.int .i64 (takesM _), .int .i64 (putsM _)]) (by simp [results, Tryd.results34, go_sem, takesM, putsM]) rfl ⟨rfl, (Below.refl _ _).alloc (Nat.le_refl _) _⟩

theorem bodyNames_kind (k n : Int) (w : World) (hk : k = 4 ∨ k = 5) :
    Calls Tryd.prog 35 #[.agg #[.int .i64 k, .int .i64 n]] w fun r w' => r = .returned (.int .i64 (if k = 5 then 2 else 1)) ∧ Below w.heap.size w w' := by
  rcases hk with rfl | rfl
  all_goals
    go_enter Tryd.func35, Tryd.ntmps35
    go_wp2_with fail
    go_ret
    exact ⟨rfl, (Below.refl _ _).alloc (Nat.le_refl _) _⟩
/-- The least and the most that a kind's number may be. -/
def leastM (k : Int) : Int := if k = 8 then 1 else if k = 17 then 1 else 0
def mostM (k size : Int) : Int := if k = 1 then 999999 else if k = 2 then 1 else if k = 3 then 60 else if k = 4 ∨ k = 5 ∨ k = 9 ∨ k = 10 ∨ k = 16 then size - 1 else if k = 8 then 2 else if k = 17 then 6 else 0
/-- A number is one that an op may have. -/
def fitsM (op : Wd) (size : Int) : Bool := decide (1 ≤ op.tag ∧ op.tag ≤ 24 ∧ leastM op.tag ≤ op.num ∧ op.num ≤ mostM op.tag size)
set_option maxHeartbeats 4000000 in
theorem bounds_figureOp (k n size : Int) (w : World) (hk : k = 1 ∨ k = 2) :
    Calls Tryd.prog 68 #[.agg #[.int .i64 k, .int .i64 n], .int .i64 size] w fun r w' => r = .returned (.tuple #[.int .i64 (leastM k), .int .i64 (mostM k size)]) ∧ Below w.heap.size w w' := by
  rcases hk with (rfl | rfl)
  all_goals
    go_enter Tryd.func68, Tryd.ntmps68
    go_wp2_with fail
    exact bodyPost_ret (v := .tuple #[.int .i64 (leastM _), .int .i64 (mostM _ size)]) (by simp [results, Tryd.results68, go_sem, leastM, mostM]) rfl ⟨rfl, by first | exact Below.refl _ _ | exact (Below.refl _ _).alloc (Nat.le_refl _) _⟩
set_option maxHeartbeats 4000000 in
theorem bounds_nameOp (k n size : Int) (w : World) (hk : k = 3) :
    Calls Tryd.prog 69 #[.agg #[.int .i64 k, .int .i64 n], .int .i64 size] w fun r w' => r = .returned (.tuple #[.int .i64 (leastM k), .int .i64 (mostM k size)]) ∧ Below w.heap.size w w' := by
  subst hk
  go_enter Tryd.func69, Tryd.ntmps69
  go_wp2_with fail
  exact bodyPost_ret (v := .tuple #[.int .i64 (leastM _), .int .i64 (mostM _ size)]) (by simp [results, Tryd.results69, go_sem, leastM, mostM]) rfl ⟨rfl, by first | exact Below.refl _ _ | exact (Below.refl _ _).alloc (Nat.le_refl _) _⟩
set_option maxHeartbeats 4000000 in
theorem bounds_makeOp (k n size : Int) (w : World) (hk : k = 4 ∨ k = 5) (hz : 1 ≤ size ∧ size ≤ 200) :
    Calls Tryd.prog 70 #[.agg #[.int .i64 k, .int .i64 n], .int .i64 size] w fun r w' => r = .returned (.tuple #[.int .i64 (leastM k), .int .i64 (mostM k size)]) ∧ Below w.heap.size w w' := by
  have wr : IntKind.i64.wrap (size - 1) = size - 1 := ck_wr _ (by omega) (by omega)
  rcases hk with (rfl | rfl)
  all_goals
    go_enter Tryd.func70, Tryd.ntmps70
    go_wp2_with fail
    exact bodyPost_ret (v := .tuple #[.int .i64 (leastM _), .int .i64 (mostM _ size)]) (by simp [results, Tryd.results70, go_sem, leastM, mostM]) rfl ⟨rfl, by first | exact Below.refl _ _ | exact (Below.refl _ _).alloc (Nat.le_refl _) _⟩
set_option maxHeartbeats 4000000 in
theorem bounds_bindOp (k n size : Int) (w : World) (hk : k = 7) :
    Calls Tryd.prog 65 #[.agg #[.int .i64 k, .int .i64 n], .int .i64 size] w fun r w' => r = .returned (.tuple #[.int .i64 (leastM k), .int .i64 (mostM k size)]) ∧ Below w.heap.size w w' := by
  subst hk
  go_enter Tryd.func65, Tryd.ntmps65
  go_wp2_with fail
  exact bodyPost_ret (v := .tuple #[.int .i64 (leastM _), .int .i64 (mostM _ size)]) (by simp [results, Tryd.results65, go_sem, leastM, mostM]) rfl ⟨rfl, by first | exact Below.refl _ _ | exact (Below.refl _ _).alloc (Nat.le_refl _) _⟩
set_option maxHeartbeats 4000000 in
theorem bounds_dropOp (k n size : Int) (w : World) (hk : k = 8) :
    Calls Tryd.prog 71 #[.agg #[.int .i64 k, .int .i64 n], .int .i64 size] w fun r w' => r = .returned (.tuple #[.int .i64 (leastM k), .int .i64 (mostM k size)]) ∧ Below w.heap.size w w' := by
  subst hk
  go_enter Tryd.func71, Tryd.ntmps71
  go_wp2_with fail
  exact bodyPost_ret (v := .tuple #[.int .i64 (leastM _), .int .i64 (mostM _ size)]) (by simp [results, Tryd.results71, go_sem, leastM, mostM]) rfl ⟨rfl, by first | exact Below.refl _ _ | exact (Below.refl _ _).alloc (Nat.le_refl _) _⟩
set_option maxHeartbeats 4000000 in
theorem bounds_ifOp (k n size : Int) (w : World) (hk : k = 9) (hz : 1 ≤ size ∧ size ≤ 200) :
    Calls Tryd.prog 72 #[.agg #[.int .i64 k, .int .i64 n], .int .i64 size] w fun r w' => r = .returned (.tuple #[.int .i64 (leastM k), .int .i64 (mostM k size)]) ∧ Below w.heap.size w w' := by
  have wr : IntKind.i64.wrap (size - 1) = size - 1 := ck_wr _ (by omega) (by omega)
  subst hk
  go_enter Tryd.func72, Tryd.ntmps72
  go_wp2_with fail
  exact bodyPost_ret (v := .tuple #[.int .i64 (leastM _), .int .i64 (mostM _ size)]) (by simp [results, Tryd.results72, go_sem, leastM, mostM]) rfl ⟨rfl, by first | exact Below.refl _ _ | exact (Below.refl _ _).alloc (Nat.le_refl _) _⟩
set_option maxHeartbeats 4000000 in
theorem bounds_caseOp (k n size : Int) (w : World) (hk : k = 16) (hz : 1 ≤ size ∧ size ≤ 200) :
    Calls Tryd.prog 73 #[.agg #[.int .i64 k, .int .i64 n], .int .i64 size] w fun r w' => r = .returned (.tuple #[.int .i64 (leastM k), .int .i64 (mostM k size)]) ∧ Below w.heap.size w w' := by
  have wr : IntKind.i64.wrap (size - 1) = size - 1 := ck_wr _ (by omega) (by omega)
  subst hk
  go_enter Tryd.func73, Tryd.ntmps73
  go_wp2_with fail
  exact bodyPost_ret (v := .tuple #[.int .i64 (leastM _), .int .i64 (mostM _ size)]) (by simp [results, Tryd.results73, go_sem, leastM, mostM]) rfl ⟨rfl, by first | exact Below.refl _ _ | exact (Below.refl _ _).alloc (Nat.le_refl _) _⟩
set_option maxHeartbeats 4000000 in
theorem bounds_goOp (k n size : Int) (w : World) (hk : k = 10) (hz : 1 ≤ size ∧ size ≤ 200) :
    Calls Tryd.prog 74 #[.agg #[.int .i64 k, .int .i64 n], .int .i64 size] w fun r w' => r = .returned (.tuple #[.int .i64 (leastM k), .int .i64 (mostM k size)]) ∧ Below w.heap.size w w' := by
  have wr : IntKind.i64.wrap (size - 1) = size - 1 := ck_wr _ (by omega) (by omega)
  subst hk
  go_enter Tryd.func74, Tryd.ntmps74
  go_wp2_with fail
  exact bodyPost_ret (v := .tuple #[.int .i64 (leastM _), .int .i64 (mostM _ size)]) (by simp [results, Tryd.results74, go_sem, leastM, mostM]) rfl ⟨rfl, by first | exact Below.refl _ _ | exact (Below.refl _ _).alloc (Nat.le_refl _) _⟩
set_option maxHeartbeats 4000000 in
theorem bounds_signOp (k n size : Int) (w : World) (hk : k = 17) :
    Calls Tryd.prog 75 #[.agg #[.int .i64 k, .int .i64 n], .int .i64 size] w fun r w' => r = .returned (.tuple #[.int .i64 (leastM k), .int .i64 (mostM k size)]) ∧ Below w.heap.size w w' := by
  subst hk
  go_enter Tryd.func75, Tryd.ntmps75
  go_wp2_with fail
  exact bodyPost_ret (v := .tuple #[.int .i64 (leastM _), .int .i64 (mostM _ size)]) (by simp [results, Tryd.results75, go_sem, leastM, mostM]) rfl ⟨rfl, by first | exact Below.refl _ _ | exact (Below.refl _ _).alloc (Nat.le_refl _) _⟩
set_option maxHeartbeats 4000000 in
theorem bounds_giveOp (k n size : Int) (w : World) (hk : k = 24) :
    Calls Tryd.prog 66 #[.agg #[.int .i64 k, .int .i64 n], .int .i64 size] w fun r w' => r = .returned (.tuple #[.int .i64 (leastM k), .int .i64 (mostM k size)]) ∧ Below w.heap.size w w' := by
  subst hk
  go_enter Tryd.func66, Tryd.ntmps66
  go_wp2_with fail
  exact bodyPost_ret (v := .tuple #[.int .i64 (leastM _), .int .i64 (mostM _ size)]) (by simp [results, Tryd.results66, go_sem, leastM, mostM]) rfl ⟨rfl, by first | exact Below.refl _ _ | exact (Below.refl _ _).alloc (Nat.le_refl _) _⟩
set_option maxHeartbeats 4000000 in
theorem bounds_workOp (k n size : Int) (w : World) (h1 : leastM k = 0) (h2 : mostM k size = 0) :
    Calls Tryd.prog 67 #[.agg #[.int .i64 k, .int .i64 n], .int .i64 size] w fun r w' => r = .returned (.tuple #[.int .i64 (leastM k), .int .i64 (mostM k size)]) ∧ Below w.heap.size w w' := by
  rw [h1, h2]
  go_enter Tryd.func67, Tryd.ntmps67
  go_wp2_with fail
  exact bodyPost_ret (v := .tuple #[.int .i64 0, .int .i64 0]) (by simp [results, Tryd.results67, go_sem]) rfl ⟨rfl, by first | exact Below.refl _ _ | exact (Below.refl _ _).alloc (Nat.le_refl _) _⟩
end Go.Proofs.YtmbldcmmpbodgaaDoor
