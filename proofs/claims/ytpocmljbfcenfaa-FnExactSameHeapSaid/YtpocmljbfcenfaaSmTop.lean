/-
  SameHeap: the specification's, whole.
-/
import Derived.Test.YtpocmljbfcenfaaSmSame
import Derived.Test.YtpocmljbfcenfaaHoSpec
import Derived.Test.YtpocmljbfcenfaaWlRefs
namespace Go.Proofs.Ytpocmljbfcenfaa
open Go.RowKit

/-- What SameHeap says. -/
def Whole (x y : List Ce) (d u : Wd) : Prop := (heapM x = true ∧ wordP x.length d.tag d.num) ∧ (heapM y = true ∧ wordP y.length u.tag u.num) ∧ SameW x y d u
theorem whole_no {x y : List Ce} {d u : Wd} {w w' : World} (h : ¬ Whole x y d u) (hb : Below w.heap.size w w') : SameR (Whole x y d u) w w' (.returned (.bool false)) := ⟨false, rfl, ⟨fun e => (by cases e), fun e => absurd e h⟩, hb⟩
theorem whole_of {x y : List Ce} {d u : Wd} {w w' : World} {b : Bool} (h1 : heapM x = true ∧ wordP x.length d.tag d.num) (h2 : heapM y = true ∧ wordP y.length u.tag u.num) (h : b = true ↔ SameW x y d u) (hb : Below w.heap.size w w') : SameR (Whole x y d u) w w' (.returned (.bool b)) := ⟨b, rfl, ⟨fun e => ⟨h1, h2, h.1 e⟩, fun e => h.2 e.2.2⟩, hb⟩
theorem sm_boxes {w : World} {d u : Wd} {xa ya : Option Addr} {xcap ycap : Nat} {x y : List Ce} (hvx : Cells w (· < w.heap.size) x (.slice xa x.length xcap)) (hvy : Cells w (· < w.heap.size) y (.slice ya y.length ycap)) (w' : World)
    (h : Below ((w.alloc (wdBox d)).alloc (wdBox u)).heap.size ((w.alloc (wdBox d)).alloc (wdBox u)) w') :
    ((w'.cell? ⟨w.heap.size, 0, none⟩ = some (.int .i64 d.tag) ∧ w'.cell? ⟨w.heap.size, 1, none⟩ = some (.int .i64 d.num)) ∧ (w'.cell? ⟨w.heap.size + 1, 0, none⟩ = some (.int .i64 u.tag) ∧ w'.cell? ⟨w.heap.size + 1, 1, none⟩ = some (.int .i64 u.num))) ∧ (Cells w' (· < w'.heap.size) x (.slice xa x.length xcap) ∧ Cells w' (· < w'.heap.size) y (.slice ya y.length ycap)) ∧ Below w.heap.size w w' := by
  have hz : (w.alloc (wdBox d)).heap.size = w.heap.size + 1 := World.size_alloc w _
  have hz2 : ((w.alloc (wdBox d)).alloc (wdBox u)).heap.size = w.heap.size + 1 + 1 := by rw [World.size_alloc, hz]
  have hb := sm_two w (wdBox d) (wdBox u)
  have hbw := hc_next hb h
  have h1 : w'.heap[w.heap.size]? = some (wdBox d) := (h.block _ (by omega)).trans (((bt_sm (w.alloc (wdBox d)) (wdBox u)).block w.heap.size (by omega)).trans (heap_alloc_new w _))
  have h2 : w'.heap[w.heap.size + 1]? = some (wdBox u) := (h.block _ (by omega)).trans (by have := heap_alloc_new (w.alloc (wdBox d)) (wdBox u); rw [hz] at this; exact this)
  exact ⟨⟨⟨cell_of_row _ _ 0 _ _ _ h1, cell_of_row _ _ 1 _ _ _ h1⟩, ⟨cell_of_row _ _ 0 _ _ _ h2, cell_of_row _ _ 1 _ _ _ h2⟩⟩, ⟨hvx.keep hbw hbw.size, hvy.keep hbw hbw.size⟩, hbw⟩

set_option maxRecDepth 100000 in
set_option maxHeartbeats 2000000 in
theorem spec_SameHeap (x y : List Ce) (hxn : x.length ≤ 1048576) (hyn : y.length ≤ 1048576) (d u : Wd) (vx vy : Value) (w : World) (hvx : Cells w (· < w.heap.size) x vx) (hvy : Cells w (· < w.heap.size) y vy) :
    Calls Try.prog 5 #[vx, .agg #[.int .i64 d.tag, .int .i64 d.num], vy, .agg #[.int .i64 u.tag, .int .i64 u.num]] w fun r w' => SameR (Whole x y d u) w w' r := by
  obtain ⟨xa, xcap, rfl⟩ := hvx.slice
  obtain ⟨ya, ycap, rfl⟩ := hvy.slice
  have hkx := fun w' (hv' : Cells w' (· < w'.heap.size) x (.slice xa x.length xcap)) => ho_l7Ok x hxn _ w' hv'
  have hky := fun w' (hv' : Cells w' (· < w'.heap.size) y (.slice ya y.length ycap)) => ho_l7Ok y hyn _ w' hv'
  have hK : Hid (∀ w', Below ((w.alloc (wdBox d)).alloc (wdBox u)).heap.size ((w.alloc (wdBox d)).alloc (wdBox u)) w' → ((w'.cell? ⟨w.heap.size, 0, none⟩ = some (.int .i64 d.tag) ∧ w'.cell? ⟨w.heap.size, 1, none⟩ = some (.int .i64 d.num)) ∧ (w'.cell? ⟨w.heap.size + 1, 0, none⟩ = some (.int .i64 u.tag) ∧ w'.cell? ⟨w.heap.size + 1, 1, none⟩ = some (.int .i64 u.num))) ∧ (Cells w' (· < w'.heap.size) x (.slice xa x.length xcap) ∧ Cells w' (· < w'.heap.size) y (.slice ya y.length ycap)) ∧ Below w.heap.size w w') := sm_boxes hvx hvy
  cases hhx : heapM x
  · rw [hhx] at hkx
    have hno : Hid (¬ Whole x y d u) := fun h => by rw [h.1.1] at hhx; cases hhx
    clear hhx hvx hvy
    go_enter Try.func5, Try.ntmps5
    go_upto_region 1 with fail
    change Code.wp _ _ _ _ ((w.alloc (wdBox d)).alloc (wdBox u))
    generalize (w.alloc (wdBox d)).alloc (wdBox u) = W1 at *
    have hr1 : Below W1.heap.size W1 W1 := Below.refl _ _
    obtain ⟨⟨⟨c0, c1⟩, ⟨c2, c3⟩⟩, _⟩ := hK.out W1 hr1
    go_wp2_with (go_at_call 10; refine (hkx _ (hK.out _ hr1).2.1.1).mono ?_; rintro r w2 ⟨rfl, hb2⟩)
    go_ret
    exact whole_no hno.out (hK.out _ hb2).2.2
  rw [hhx] at hkx
  by_cases hwx : wordP x.length d.tag d.num
  case neg =>
    have hW := fun w' => ho_word_no x.length (by omega) d.tag d.num w' hwx
    have hno : Hid (¬ Whole x y d u) := fun h => hwx h.1.2
    clear hhx hwx hvx hvy
    go_enter Try.func5, Try.ntmps5
    go_upto_region 1 with fail
    change Code.wp _ _ _ _ ((w.alloc (wdBox d)).alloc (wdBox u))
    generalize (w.alloc (wdBox d)).alloc (wdBox u) = W1 at *
    have hr1 : Below W1.heap.size W1 W1 := Below.refl _ _
    obtain ⟨⟨⟨c0, c1⟩, ⟨c2, c3⟩⟩, _⟩ := hK.out W1 hr1
    go_wp2_with (first
      | (go_at_call 10; refine (hkx _ (hK.out _ hr1).2.1.1).mono ?_; rintro r w2 ⟨rfl, hb2⟩; clear c0 c1 c2 c3; (obtain ⟨⟨⟨c0, c1⟩, ⟨c2, c3⟩⟩, _⟩ := hK.out w2 hb2))
      | (go_at_call 11; refine (hW _).mono ?_; rintro r w3 ⟨rfl, hb3⟩))
    go_ret
    exact whole_no hno.out (hK.out _ (hc_next hb2 hb3)).2.2
  have hWx := fun w' => ho_word_yes x.length (by omega) d.tag d.num w' hwx
  cases hhy : heapM y
  · rw [hhy] at hky
    have hno : Hid (¬ Whole x y d u) := fun h => by rw [h.2.1.1] at hhy; cases hhy
    clear hhx hwx hhy hvx hvy
    go_enter Try.func5, Try.ntmps5
    go_upto_region 1 with fail
    change Code.wp _ _ _ _ ((w.alloc (wdBox d)).alloc (wdBox u))
    generalize (w.alloc (wdBox d)).alloc (wdBox u) = W1 at *
    have hr1 : Below W1.heap.size W1 W1 := Below.refl _ _
    obtain ⟨⟨⟨c0, c1⟩, ⟨c2, c3⟩⟩, _⟩ := hK.out W1 hr1
    go_wp2_with (first
      | (go_at_call_of 10 xcap; refine (hkx _ (hK.out _ hr1).2.1.1).mono ?_; rintro r w2 ⟨rfl, hb2⟩; clear c0 c1 c2 c3; (obtain ⟨⟨⟨c0, c1⟩, ⟨c2, c3⟩⟩, _⟩ := hK.out w2 hb2))
      | (go_at_call 11; refine (hWx _).mono ?_; rintro r w3 ⟨rfl, hb3⟩; have hb13 := hc_next hb2 hb3; clear c0 c1 c2 c3; (obtain ⟨⟨⟨c0, c1⟩, ⟨c2, c3⟩⟩, _⟩ := hK.out w3 hb13))
      | (go_at_call_of 10 ycap; refine (hky _ (hK.out _ hb13).2.1.2).mono ?_; rintro r w4 ⟨rfl, hb4⟩))
    go_ret
    exact whole_no hno.out (hK.out _ (hc_next hb13 hb4)).2.2
  rw [hhy] at hky
  by_cases hwy : wordP y.length u.tag u.num
  case neg =>
    have hW := fun w' => ho_word_no y.length (by omega) u.tag u.num w' hwy
    have hno : Hid (¬ Whole x y d u) := fun h => hwy h.2.1.2
    clear hhx hwx hhy hwy hvx hvy
    go_enter Try.func5, Try.ntmps5
    go_upto_region 1 with fail
    change Code.wp _ _ _ _ ((w.alloc (wdBox d)).alloc (wdBox u))
    generalize (w.alloc (wdBox d)).alloc (wdBox u) = W1 at *
    have hr1 : Below W1.heap.size W1 W1 := Below.refl _ _
    obtain ⟨⟨⟨c0, c1⟩, ⟨c2, c3⟩⟩, _⟩ := hK.out W1 hr1
    go_wp2_with (first
      | (go_at_call_of 10 xcap; refine (hkx _ (hK.out _ hr1).2.1.1).mono ?_; rintro r w2 ⟨rfl, hb2⟩; clear c0 c1 c2 c3; (obtain ⟨⟨⟨c0, c1⟩, ⟨c2, c3⟩⟩, _⟩ := hK.out w2 hb2))
      | (go_at_call_of 11 x; refine (hWx _).mono ?_; rintro r w3 ⟨rfl, hb3⟩; have hb13 := hc_next hb2 hb3; clear c0 c1 c2 c3; (obtain ⟨⟨⟨c0, c1⟩, ⟨c2, c3⟩⟩, _⟩ := hK.out w3 hb13))
      | (go_at_call_of 10 ycap; refine (hky _ (hK.out _ hb13).2.1.2).mono ?_; rintro r w4 ⟨rfl, hb4⟩; have hb14 := hc_next hb13 hb4; clear c0 c1 c2 c3; (obtain ⟨⟨⟨c0, c1⟩, ⟨c2, c3⟩⟩, _⟩ := hK.out w4 hb14))
      | (go_at_call_of 11 y; refine (hW _).mono ?_; rintro r w5 ⟨rfl, hb5⟩))
    go_ret
    exact whole_no hno.out (hK.out _ (hc_next hb14 hb5)).2.2
  have hWy := fun w' => ho_word_yes y.length (by omega) u.tag u.num w' hwy
  obtain ⟨hx120, hxr⟩ := heap_refs hhx
  obtain ⟨hy120, hyr⟩ := heap_refs hhy
  have hS := fun w' hx' hy' => spec_l18Same x y hxr hyr hx120 hy120 d u (ref_of_word hwx) (ref_of_word hwy) w' (.slice xa x.length xcap) (.slice ya y.length ycap) hx' hy'
  have h1 : heapM x = true ∧ wordP x.length d.tag d.num := ⟨hhx, hwx⟩
  have h2 : heapM y = true ∧ wordP y.length u.tag u.num := ⟨hhy, hwy⟩
  have hend : Hid (∀ (b : Bool) w', (b = true ↔ SameW x y d u) → Below w.heap.size w w' → SameR (Whole x y d u) w w' (.returned (.bool b))) := fun b w' h hb => whole_of h1 h2 h hb
  clear h1 h2 hhx hwx hhy hwy hvx hvy hxr hyr hx120 hy120
  go_enter Try.func5, Try.ntmps5
  go_upto_region 1 with fail
  change Code.wp _ _ _ _ ((w.alloc (wdBox d)).alloc (wdBox u))
  generalize (w.alloc (wdBox d)).alloc (wdBox u) = W1 at *
  have hr1 : Below W1.heap.size W1 W1 := Below.refl _ _
  obtain ⟨⟨⟨c0, c1⟩, ⟨c2, c3⟩⟩, _⟩ := hK.out W1 hr1
  go_wp2_with (first
    | (go_at_call_of 10 xcap; refine (hkx _ (hK.out _ hr1).2.1.1).mono ?_; rintro r w2 ⟨rfl, hb2⟩; clear c0 c1 c2 c3; (obtain ⟨⟨⟨c0, c1⟩, ⟨c2, c3⟩⟩, _⟩ := hK.out w2 hb2))
    | (go_at_call_of 11 x; refine (hWx _).mono ?_; rintro r w3 ⟨rfl, hb3⟩; have hb13 := hc_next hb2 hb3; clear c0 c1 c2 c3; (obtain ⟨⟨⟨c0, c1⟩, ⟨c2, c3⟩⟩, _⟩ := hK.out w3 hb13))
    | (go_at_call_of 10 ycap; refine (hky _ (hK.out _ hb13).2.1.2).mono ?_; rintro r w4 ⟨rfl, hb4⟩; have hb14 := hc_next hb13 hb4; clear c0 c1 c2 c3; (obtain ⟨⟨⟨c0, c1⟩, ⟨c2, c3⟩⟩, _⟩ := hK.out w4 hb14))
    | (go_at_call_of 11 y; refine (hWy _).mono ?_; rintro r w5 ⟨rfl, hb5⟩; have hb15 := hc_next hb14 hb5; clear c0 c1 c2 c3; (obtain ⟨⟨⟨c0, c1⟩, ⟨c2, c3⟩⟩, _⟩ := hK.out w5 hb15))
    | (go_at_call 12; refine (hS _ (hK.out _ hb15).2.1.1 (hK.out _ hb15).2.1.2).mono ?_; rintro r w6 ⟨b, rfl, hb, hb6⟩))
  go_ret
  exact hend.out b _ hb (hK.out _ (hc_next hb15 hb6)).2.2
end Go.Proofs.Ytpocmljbfcenfaa
