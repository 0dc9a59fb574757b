/-
  The program's namesFit, formOf, hasItsOwn.
-/
import Derived.Test.YtdghblpaccaaiaaDoorExRule
import Derived.Test.YtdghblpaccaaiaaDoorExBare
namespace Go.Proofs.YtdghblpaccaaiaaDoor
open Go.RowKit

/-- The table of words lies where the program's text lays it. -/
def Tab (w : World) : Prop := ∃ t fr, w.heap[0]? = some (.cells wordVals t fr)
theorem Tab.pos {w : World} (h : Tab w) : 0 < w.heap.size := by
  obtain ⟨t, fr, h⟩ := h
  exact (Array.getElem?_eq_some_iff.1 h).1
theorem Tab.below {w w' : World} {B : Nat} (h : Tab w) (hb : Below B w w') (hB : 0 < B) : Tab w' := by
  obtain ⟨t, fr, h⟩ := h
  exact ⟨t, fr, (hb.block _ hB).trans h⟩
theorem Tab.alloc {w : World} (h : Tab w) (o : Obj) : Tab (w.alloc o) := h.below ((Below.refl w.heap.size w).alloc (Nat.le_refl _) o) h.pos
theorem nameOk_tab (s : ByteArray) (w : World) (hs : s.size ≤ maxLen) (h : Tab w) :
    Calls Tryd.prog 34 #[.string s] w fun e w' => e = .returned (.bool (nameB s)) ∧ w = w' := by
  obtain ⟨t, fr, h⟩ := h
  exact impl_NameOk s w hs t fr h

set_option maxHeartbeats 400000 in
theorem namesFit0 (k : Int) (a b : ByteArray) (u : Int) (s : Value) (w : World) :
    Calls Tryd.prog 29 #[.agg #[.int .i64 k, .string a, .string b, .int .i64 u, s], .int .i64 0] w fun r w' => r = .returned (.bool (namesC 0 a b)) ∧ Below w.heap.size w w' := by
  go_enter Tryd.func29, Tryd.ntmps29
  go_wp2_with fail
  · go_ret
    exact ⟨ret_bool (by simp [namesC, ‹a.toList = []›]), (Below.refl _ _).alloc (Nat.le_refl _) _⟩
  · go_ret
    exact ⟨ret_bool (by simp [namesC, ‹¬ a.toList = []›]), (Below.refl _ _).alloc (Nat.le_refl _) _⟩

set_option maxHeartbeats 400000 in
theorem namesFit1 (k : Int) (a b : ByteArray) (u : Int) (s : Value) (w : World) (ha : a.size ≤ maxLen) (hT : Tab w) :
    Calls Tryd.prog 29 #[.agg #[.int .i64 k, .string a, .string b, .int .i64 u, s], .int .i64 1] w fun r w' => r = .returned (.bool (namesC 1 a b)) ∧ Below w.heap.size w w' := by
  have hT' := hT.alloc
  cases hna : nameB a
  all_goals
    go_enter Tryd.func29, Tryd.ntmps29
    go_wp2_with (go_at_call 34; refine (nameOk_tab _ _ ha (hT' _)).mono ?_; rintro r w2 ⟨rfl, rfl⟩; rw [hna])
    go_ret
    exact ⟨ret_bool (by simp [namesC, hna]), (Below.refl _ _).alloc (Nat.le_refl _) _⟩

set_option maxHeartbeats 400000 in
theorem namesFit2 (k : Int) (a b : ByteArray) (u : Int) (s : Value) (w : World) (ha : a.size ≤ maxLen) (hb : b.size ≤ maxLen) (hT : Tab w) :
    Calls Tryd.prog 29 #[.agg #[.int .i64 k, .string a, .string b, .int .i64 u, s], .int .i64 2] w fun r w' => r = .returned (.bool (namesC 2 a b)) ∧ Below w.heap.size w w' := by
  have hT' := hT.alloc
  cases hna : nameB a
  · go_enter Tryd.func29, Tryd.ntmps29
    go_wp2_with (go_at_call 34; refine (nameOk_tab _ _ ha (hT' _)).mono ?_; rintro r w2 ⟨rfl, rfl⟩; rw [hna])
    go_ret
    exact ⟨ret_bool (by simp [namesC, hna]), (Below.refl _ _).alloc (Nat.le_refl _) _⟩
  cases hnb : nameB b
  all_goals
    go_enter Tryd.func29, Tryd.ntmps29
    go_wp2_with (go_at_call 34; refine (nameOk_tab _ _ (by first | exact ha | exact hb) (hT' _)).mono ?_; rintro r w2 ⟨rfl, rfl⟩; first | rw [hna] | rw [hnb])
    go_ret
    exact ⟨ret_bool (by rw [namesC, hna, hnb]; rfl), (Below.refl _ _).alloc (Nat.le_refl _) _⟩
end Go.Proofs.YtdghblpaccaaiaaDoor
