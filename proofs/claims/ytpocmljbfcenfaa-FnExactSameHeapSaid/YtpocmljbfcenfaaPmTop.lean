/-
  The program's SameHeap, whole.
-/
import Derived.Test.YtpocmljbfcenfaaPmWalk
namespace Go.Proofs.Ytpocmljbfcenfaa
open Go.RowKit

set_option maxRecDepth 100000 in
set_option maxHeartbeats 2000000 in
theorem impl_SameHeap (x y : List Ce) (hxn : x.length ≤ 1048576) (hyn : y.length ≤ 1048576) (d u : Wd) (vx vy : Value) (w : World) (hvx : Cells w (· < w.heap.size) x vx) (hvy : Cells w (· < w.heap.size) y vy) :
    Calls Try.prog 8 #[vx, .agg #[.int .i64 d.tag, .int .i64 d.num], vy, .agg #[.int .i64 u.tag, .int .i64 u.num]] w fun r w' => SameR (Whole x y d u) w w' r := by
  by_cases hall : (heapM x = true ∧ wordP x.length d.tag d.num) ∧ (heapM y = true ∧ wordP y.length u.tag u.num)
  · exact (impl_same_yes x y d u hall.1.1 hall.1.2 hall.2.1 hall.2.2 vx vy w hvx hvy).mono (by
      rintro r w' ⟨b, rfl, hb, hbw⟩
      exact whole_of hall.1 hall.2 hb hbw)
  obtain ⟨xa, xcap, rfl⟩ := hvx.slice
  obtain ⟨ya, ycap, rfl⟩ := hvy.slice
  have hkx := fun w' (hv' : Cells w' (· < w'.heap.size) x (.slice xa x.length xcap)) => impl_HeapOk x hxn _ w' hv'
  have hky := fun w' (hv' : Cells w' (· < w'.heap.size) y (.slice ya y.length ycap)) => impl_HeapOk y hyn _ w' hv'
  have hWx := fun w' => impl_wordOk xa x.length xcap (by omega) d.tag d.num w'
  have hWy := fun w' => impl_wordOk ya y.length ycap (by omega) u.tag u.num w'
  have hK : Hid (∀ w', Below ((w.alloc (wdBox d)).alloc (wdBox u)).heap.size ((w.alloc (wdBox d)).alloc (wdBox u)) w' → ((w'.cell? ⟨w.heap.size, 0, none⟩ = some (.int .i64 d.tag) ∧ w'.cell? ⟨w.heap.size, 1, none⟩ = some (.int .i64 d.num)) ∧ (w'.cell? ⟨w.heap.size + 1, 0, none⟩ = some (.int .i64 u.tag) ∧ w'.cell? ⟨w.heap.size + 1, 1, none⟩ = some (.int .i64 u.num))) ∧ (Cells w' (· < w'.heap.size) x (.slice xa x.length xcap) ∧ Cells w' (· < w'.heap.size) y (.slice ya y.length ycap)) ∧ Below w.heap.size w w') := sm_boxes hvx hvy
  cases hhx : heapM x
  · rw [hhx] at hkx
    have hno : Hid (¬ Whole x y d u) := fun h => by rw [h.1.1] at hhx; cases hhx
    clear hhx hall hky hWx hWy hvx hvy
    go_enter Try.func8, Try.ntmps8
    go_upto_region 1 with fail
    change Code.wp _ _ _ _ ((w.alloc (wdBox d)).alloc (wdBox u))
    generalize (w.alloc (wdBox d)).alloc (wdBox u) = W1 at *
    have hr1 : Below W1.heap.size W1 W1 := Below.refl _ _
    obtain ⟨⟨⟨c0, c1⟩, ⟨c2, c3⟩⟩, _⟩ := hK.out W1 hr1
    go_wp2_with (first
      | (go_at_call_of 14 xcap; refine (hkx _ (hK.out _ hr1).2.1.1).mono ?_; rintro r w2 ⟨rfl, hb2⟩; clear c0 c1 c2 c3; (obtain ⟨⟨⟨c0, c1⟩, ⟨c2, c3⟩⟩, _⟩ := hK.out w2 hb2)))
    go_ret
    exact whole_no hno.out (hK.out _ hb2).2.2
  rw [hhx] at hkx
  by_cases hwx : wordP x.length d.tag d.num
  case neg =>
    rw [decide_eq_false hwx] at hWx
    have hno : Hid (¬ Whole x y d u) := fun h => hwx h.1.2
    clear hhx hwx hall hky hWy hvx hvy
    go_enter Try.func8, Try.ntmps8
    go_upto_region 1 with fail
    change Code.wp _ _ _ _ ((w.alloc (wdBox d)).alloc (wdBox u))
    generalize (w.alloc (wdBox d)).alloc (wdBox u) = W1 at *
    have hr1 : Below W1.heap.size W1 W1 := Below.refl _ _
    obtain ⟨⟨⟨c0, c1⟩, ⟨c2, c3⟩⟩, _⟩ := hK.out W1 hr1
    go_wp2_with (first
      | (go_at_call_of 14 xcap; refine (hkx _ (hK.out _ hr1).2.1.1).mono ?_; rintro r w2 ⟨rfl, hb2⟩; clear c0 c1 c2 c3; (obtain ⟨⟨⟨c0, c1⟩, ⟨c2, c3⟩⟩, _⟩ := hK.out w2 hb2))
      | (go_at_call_of 15 xcap; refine (hWx _).mono ?_; rintro r w3 ⟨rfl, hb3⟩; have hb13 := hc_next hb2 hb3; clear c0 c1 c2 c3; (obtain ⟨⟨⟨c0, c1⟩, ⟨c2, c3⟩⟩, _⟩ := hK.out w3 hb13)))
    go_ret
    exact whole_no hno.out (hK.out _ hb13).2.2
  rw [decide_eq_true hwx] at hWx
  cases hhy : heapM y
  · rw [hhy] at hky
    have hno : Hid (¬ Whole x y d u) := fun h => by rw [h.2.1.1] at hhy; cases hhy
    clear hhx hwx hhy hall hWy hvx hvy
    go_enter Try.func8, Try.ntmps8
    go_upto_region 1 with fail
    change Code.wp _ _ _ _ ((w.alloc (wdBox d)).alloc (wdBox u))
    generalize (w.alloc (wdBox d)).alloc (wdBox u) = W1 at *
    have hr1 : Below W1.heap.size W1 W1 := Below.refl _ _
    obtain ⟨⟨⟨c0, c1⟩, ⟨c2, c3⟩⟩, _⟩ := hK.out W1 hr1
    go_wp2_with (first
      | (go_at_call_of 14 xcap; refine (hkx _ (hK.out _ hr1).2.1.1).mono ?_; rintro r w2 ⟨rfl, hb2⟩; clear c0 c1 c2 c3; (obtain ⟨⟨⟨c0, c1⟩, ⟨c2, c3⟩⟩, _⟩ := hK.out w2 hb2))
      | (go_at_call_of 15 xcap; refine (hWx _).mono ?_; rintro r w3 ⟨rfl, hb3⟩; have hb13 := hc_next hb2 hb3; clear c0 c1 c2 c3; (obtain ⟨⟨⟨c0, c1⟩, ⟨c2, c3⟩⟩, _⟩ := hK.out w3 hb13))
      | (go_at_call_of 14 ycap; refine (hky _ (hK.out _ hb13).2.1.2).mono ?_; rintro r w4 ⟨rfl, hb4⟩; have hb14 := hc_next hb13 hb4; clear c0 c1 c2 c3; (obtain ⟨⟨⟨c0, c1⟩, ⟨c2, c3⟩⟩, _⟩ := hK.out w4 hb14)))
    go_ret
    exact whole_no hno.out (hK.out _ hb14).2.2
  rw [hhy] at hky
  by_cases hwy : wordP y.length u.tag u.num
  case neg =>
    rw [decide_eq_false hwy] at hWy
    have hno : Hid (¬ Whole x y d u) := fun h => hwy h.2.1.2
    clear hhx hwx hhy hwy hall hvx hvy
    go_enter Try.func8, Try.ntmps8
    go_upto_region 1 with fail
    change Code.wp _ _ _ _ ((w.alloc (wdBox d)).alloc (wdBox u))
    generalize (w.alloc (wdBox d)).alloc (wdBox u) = W1 at *
    have hr1 : Below W1.heap.size W1 W1 := Below.refl _ _
    obtain ⟨⟨⟨c0, c1⟩, ⟨c2, c3⟩⟩, _⟩ := hK.out W1 hr1
    go_wp2_with (first
      | (go_at_call_of 14 xcap; refine (hkx _ (hK.out _ hr1).2.1.1).mono ?_; rintro r w2 ⟨rfl, hb2⟩; clear c0 c1 c2 c3; (obtain ⟨⟨⟨c0, c1⟩, ⟨c2, c3⟩⟩, _⟩ := hK.out w2 hb2))
      | (go_at_call_of 15 xcap; refine (hWx _).mono ?_; rintro r w3 ⟨rfl, hb3⟩; have hb13 := hc_next hb2 hb3; clear c0 c1 c2 c3; (obtain ⟨⟨⟨c0, c1⟩, ⟨c2, c3⟩⟩, _⟩ := hK.out w3 hb13))
      | (go_at_call_of 14 ycap; refine (hky _ (hK.out _ hb13).2.1.2).mono ?_; rintro r w4 ⟨rfl, hb4⟩; have hb14 := hc_next hb13 hb4; clear c0 c1 c2 c3; (obtain ⟨⟨⟨c0, c1⟩, ⟨c2, c3⟩⟩, _⟩ := hK.out w4 hb14))
      | (go_at_call_of 15 ycap; refine (hWy _).mono ?_; rintro r w5 ⟨rfl, hb5⟩; have hb15 := hc_next hb14 hb5; clear c0 c1 c2 c3; (obtain ⟨⟨⟨c0, c1⟩, ⟨c2, c3⟩⟩, _⟩ := hK.out w5 hb15)))
    go_ret
    exact whole_no hno.out (hK.out _ hb15).2.2
  exact absurd ⟨⟨hhx, hwx⟩, ⟨hhy, hwy⟩⟩ hall
end Go.Proofs.Ytpocmljbfcenfaa
