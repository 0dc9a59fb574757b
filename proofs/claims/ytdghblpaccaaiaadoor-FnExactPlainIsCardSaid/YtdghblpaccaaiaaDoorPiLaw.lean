/-
  PlainIs, both sides, and the law FnExactPlainIs: it answers true, whatever the expression.
-/
import Derived.Test.YtdghblpaccaaiaaDoorPiSpec
import Derived.Test.YtdghblpaccaaiaaDoorPiImpl
import Derived.Deep.RegionWith
namespace Go.Proofs.YtdghblpaccaaiaaDoor
open Go.RowKit

/-- Whether an expression is ok, and plain. -/
def plainB (e : Ex) : Bool := decide (sizeM e 1 ≤ 60) && plainM e

set_option maxHeartbeats 400000 in
theorem spec_PlainIs (e : Ex) (hf : e.Fit) (w : World) (s : Value) (hv : Lies w (· < w.heap.size) e.kids s) :
    Calls Tryd.prog 5 #[e.val s] w fun r w' => r = .returned (.bool (plainB e)) ∧ Below w.heap.size w w' := by
  by_cases hs : sizeM e 1 ≤ 60
  · have hd : decide (sizeM e 1 ≤ 60) = true := by simpa using hs
    have HM : Hid (plainB e = plainM e) := by show _ = _; unfold plainB; rw [hd, Bool.true_and]
    go_enter Tryd.func5, Tryd.ntmps5
    go_wp2_with (first
      | (go_at_call 10; refine (spec_l1Ok e hf _ _ (lies_alloc hv _)).mono ?_; rintro r w2 ⟨rfl, hb2⟩; rw [hd]; have hB2 := box_start hb2; clear hb2; obtain ⟨p0, p1, p2, p3, p4⟩ := box5 hB2)
      | (go_at_call 11; refine (spec_l15Is e _ _ _ (lies_box hv hB2) hs).mono ?_; rintro r w3 ⟨rfl, hb3⟩; have hB3 := below_box_trans hB2 hb3; clear hb3))
    go_ret
    exact ⟨ret_bool HM.out.symm, below_of_box hB3⟩
  · have hd : decide (sizeM e 1 ≤ 60) = false := by simpa using hs
    have HM : Hid (plainB e = false) := by show _ = _; unfold plainB; rw [hd, Bool.false_and]
    go_enter Tryd.func5, Tryd.ntmps5
    go_wp2_with (go_at_call 10; refine (spec_l1Ok e hf _ _ (lies_alloc hv _)).mono ?_; rintro r w2 ⟨rfl, hb2⟩; rw [hd]; have hB2 := box_start hb2; clear hb2)
    go_ret
    exact ⟨ret_bool HM.out.symm, below_of_box hB2⟩

set_option maxHeartbeats 400000 in
theorem impl_PlainIs (e : Ex) (hf : e.Fit) (w : World) (s : Value) (hv : Tight w (· < w.heap.size) e.kids s) (hT : Tab w) :
    Calls Tryd.prog 7 #[e.val s] w fun r w' => r = .returned (.bool (plainB e)) ∧ Below w.heap.size w w' := by
  have hT' : ∀ o, Tab (w.alloc o) := fun o => hT.below ((Below.refl _ _).alloc (Nat.le_refl _) o) hT.pos
  by_cases hs : sizeM e 1 ≤ 60
  · have hd : decide (sizeM e 1 ≤ 60) = true := by simpa using hs
    have HM : Hid (plainB e = plainM e) := by show _ = _; unfold plainB; rw [hd, Bool.true_and]
    go_enter Tryd.func7, Tryd.ntmps7
    go_wp2_with (first
      | (go_at_call 13; refine (impl_ExprOk e hf _ _ (lies_alloc hv.lies _) (hT' _)).mono ?_; rintro r w2 ⟨rfl, hb2⟩; rw [hd]; have hB2 := box_start hb2; clear hb2; obtain ⟨p0, p1, p2, p3, p4⟩ := box5 hB2)
      | (go_at_call 14; refine (impl_isPlain e _ _ _ (hv.keep (below_of_box hB2) (below_of_box hB2).size) hs).mono ?_; rintro r w3 ⟨rfl, hb3⟩; have hB3 := below_box_trans hB2 hb3; clear hb3))
    go_ret
    exact ⟨ret_bool HM.out.symm, below_of_box hB3⟩
  · have hd : decide (sizeM e 1 ≤ 60) = false := by simpa using hs
    have HM : Hid (plainB e = false) := by show _ = _; unfold plainB; rw [hd, Bool.false_and]
    go_enter Tryd.func7, Tryd.ntmps7
    go_wp2_with (go_at_call 13; refine (impl_ExprOk e hf _ _ (lies_alloc hv.lies _) (hT' _)).mono ?_; rintro r w2 ⟨rfl, hb2⟩; rw [hd]; have hB2 := box_start hb2; clear hb2)
    go_ret
    exact ⟨ret_bool HM.out.symm, below_of_box hB2⟩

set_option maxHeartbeats 1000000 in
theorem law_PlainIs (e : Ex) (hf : e.Fit) (w : World) (s : Value) (hv : Lies w (· < w.heap.size) e.kids s) (hT : Tab w) :
    Calls Tryd.prog 3 #[e.val s] w fun r w' => r = .returned (.bool true) ∧ Below w.heap.size w w' := by
  go_enter Tryd.func3, Tryd.ntmps3
  go_wp2_with (first
    | (go_at_call 4; refine (sz e hf _ _ _ (lies_alloc hv _) (by omega) (by omega)).mono ?_; rintro r w2 ⟨⟨n, rfl, _, hw⟩, hb2⟩; have hwee : Hid (0 ≤ n → e.Wee) := hw; clear hw; have hB2 := box_start hb2; clear hb2; obtain ⟨p0, p1, p2, p3, p4⟩ := box5 hB2)
    | (go_at_call 5; refine (spec_PlainIs e hf _ _ (lies_lt hl1)).mono ?_; rintro r w4 ⟨rfl, hb4⟩; have hB4 := below_box_trans hB3 hb4; clear hb4 hl1 ht1 p0 p1 p2 p3 p4; obtain ⟨p0, p1, p2, p3, p4⟩ := box5 hB4)
    | (go_at_call 6; refine (ti e (hwee.out (by omega)) _ _ (by first | exact lies_box hv hB4 | exact lies_box hv hB2)).mono ?_; rintro r w3 ⟨s1, rfl, ht1, hb3⟩; have hl1 := ht1.lies; first | (have hB5 := below_box_trans hB4 hb3; clear hb3; obtain ⟨a2, cap2, rfl⟩ := hl1.slice) | (have hB3 := below_box_trans hB2 hb3; clear hb3)))
  · go_ret
    exact ⟨rfl, below_of_box hB2⟩
  · have hwe := hwee.out (by omega)
    clear p0 p1 p2 p3 p4
    go_wp2_with (go_at_call 7; refine (impl_PlainIs e hf _ _ ((tight_lt ht1).keep ((Below.refl _ _).alloc (Nat.le_refl _) _) (by simp)) (tab_box hT (box_alloc hB5))).mono ?_; rintro r w7 ⟨rfl, hb7⟩; have hX7 := box_start hb7; have hB7 := below_box_trans (box_alloc hB5) hb7; have hl7 := lies_box (lies_lt hl1) hX7; have hlv7 := lies_box hv hB7; obtain ⟨p0, p1, p2, p3, p4⟩ := box5 hB7; obtain ⟨q0, q1, q2, q3, q4⟩ := box5 hX7; clear hb7)
    go_region_with (first
      | (go_at_call 6; refine (to e hwe _ _ hlv7.drew).mono ?_; rintro r w8 ⟨s3, rfl, hl3, hb8⟩; obtain ⟨r0, r1, r2, r3, r4⟩ := box5 (below_box_trans hX7.drew hb8))
      | (go_at_call 8; refine (eq e hwe _ _ _ (hl7.drew.keep hb8 hb8.size) (lies_lt hl3)).mono ?_; rintro r w9 ⟨rfl, hb9⟩))
    all_goals
      go_wp2_with fail
      go_ret
      exact ⟨rfl, below_chain (below_of_box hB7) hb8 hb9⟩
end Go.Proofs.YtdghblpaccaaiaaDoor
