/-
  The specification's l1Kids, l1Bare.
-/
import Derived.Test.YtdghblpaccaaiaaDoorRows
import Derived.Test.YtdghblpaccaaiaaDoorExLies
import Derived.Test.YtdghblpaccaaiaaDoorExSz
import Derived.Test.YtdghblpaccaaiaaDoorNmWalks
import Derived.WalkKit
import Derived.WalkSpells
import Derived.WalkLawsBesides
namespace Go.Proofs.YtdghblpaccaaiaaDoor
open Go.RowKit

/-- How many parts a kind has; -1 if there is no such kind. -/
def kidsN (k : Int) : Int :=
  if k = 1 ∨ k = 2 ∨ k = 3 ∨ k = 12 ∨ k = 18 ∨ k = 19 then 0
  else if k = 4 ∨ k = 10 ∨ k = 11 ∨ k = 16 ∨ k = 20 ∨ k = 21 then 1
  else if k = 5 ∨ k = 6 ∨ k = 7 ∨ k = 9 ∨ k = 13 ∨ k = 15 ∨ k = 17 then 2
  else if k = 8 ∨ k = 14 then 3 else -1
/-- How many names a kind has. -/
def namesN (k : Int) : Int := if k = 3 ∨ k = 4 ∨ k = 6 then 1 else if k = 7 ∨ k = 14 then 2 else 0
def leastN (k : Int) : Int := if k = 15 then 1 else 0
def mostN (k : Int) : Int := if k = 1 then 999999 else if k = 2 then 1 else if k = 15 then 6 else 0
/-- Whether there are just so many names. -/
def namesC (n : Int) (a b : ByteArray) : Bool :=
  if n = 0 then a.toList.isEmpty && b.toList.isEmpty
  else if n = 1 then nameB a && b.toList.isEmpty
  else nameB a && nameB b && !(a.toList == b.toList)
/-- Whether there are just the names and the number that a kind has. -/
def bareC (k : Int) (a b : ByteArray) (u : Int) : Bool := namesC (namesN k) a b && decide (leastN k ≤ u ∧ u ≤ mostN k)

theorem kind_cases (k : Int) : (k = 1 ∨ k = 2 ∨ k = 3 ∨ k = 4 ∨ k = 5 ∨ k = 6 ∨ k = 7 ∨ k = 8 ∨ k = 9 ∨ k = 10 ∨ k = 11 ∨ k = 12 ∨ k = 13 ∨ k = 14 ∨ k = 15 ∨ k = 16 ∨ k = 17 ∨ k = 18 ∨ k = 19 ∨ k = 20 ∨ k = 21) ∨ k < 1 ∨ 21 < k := by omega

theorem kidsN_low (k : Int) (h : k < 1) : kidsN k = -1 := by unfold kidsN; repeat (rw [if_neg (by omega)])
theorem kidsN_high (k : Int) (h : 21 < k) : kidsN k = -1 := by unfold kidsN; repeat (rw [if_neg (by omega)])

set_option maxHeartbeats 1000000 in
theorem spec_l1Kids (k : Int) (w : World) :
    Calls Tryd.prog 22 #[.int .i64 k] w fun e w' => e = .returned (.int .i64 (kidsN k)) ∧ w = w' := by
  rcases kind_cases k with (rfl | rfl | rfl | rfl | rfl | rfl | rfl | rfl | rfl | rfl | rfl | rfl | rfl | rfl | rfl | rfl | rfl | rfl | rfl | rfl | rfl) | h | h
  case inr.inl =>
    rw [kidsN_low k h]
    go_enter Tryd.func22, Tryd.ntmps22
    go_wp2_with fail
    go_ret
    exact ⟨rfl, rfl⟩
  case inr.inr =>
    rw [kidsN_high k h]
    go_enter Tryd.func22, Tryd.ntmps22
    go_wp2_with fail
    go_ret
    exact ⟨rfl, rfl⟩
  all_goals
    go_enter Tryd.func22, Tryd.ntmps22
    go_wp2_with fail
    go_ret
    exact ⟨rfl, rfl⟩
end Go.Proofs.YtdghblpaccaaiaaDoor
