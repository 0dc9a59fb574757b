/-
  NameLike, the program's and the specification's.
-/
import Derived.Test.YtmjbfenjalmnlaaDoorNkLike
import Derived.Test.YtmjbfenjalmnlaaDoorNkSpecLike
import Derived.Test.YtmjbfenjalmnlaaDoorExBox
namespace Go.Proofs.YtmjbfenjalmnlaaDoor
open Go.RowKit

/-- Whether an expression is ok. -/
def okB (e : Ex) : Bool := decide (sizeM e 1 ≤ 60)
/-- Whether both are ok, and alike. -/
def likeB (x y : Ex) : Bool := okB x && okB y && likeM lastF x y [] []
theorem likeB_x (x y : Ex) (h : okB x = false) : likeB x y = false := by rw [likeB, h]; rfl
theorem likeB_y (x y : Ex) (h : okB y = false) : likeB x y = false := by rw [likeB, h, Bool.and_false]; rfl
theorem likeB_xy (x y : Ex) (hx : okB x = true) (hy : okB y = true) : likeB x y = likeM lastF x y [] [] := by rw [likeB, hx, hy]; rfl

set_option maxHeartbeats 1000000 in
theorem impl_NameLike (x y : Ex) (hfx : x.Fit) (hfy : y.Fit) (hwx : x.Wee) (hwy : y.Wee) (w : World) (s t : Value) (hs : Lies w (· < w.heap.size) x.kids s) (ht : Lies w (· < w.heap.size) y.kids t) (hT : Tab w) :
    Calls Tryd.prog 7 #[x.val s, y.val t] w fun r w' => r = .returned (.bool (likeB x y)) ∧ Below w.heap.size w w' := by
  have hb2 : ∀ o1 o2, Below w.heap.size w ((w.alloc o1).alloc o2) := below_two w
  have hs2 : ∀ o1 o2, Lies ((w.alloc o1).alloc o2) (· < ((w.alloc o1).alloc o2).heap.size) x.kids s := fun o1 o2 => hs.keep (hb2 o1 o2) (hb2 o1 o2).size
  have hT2 : ∀ o1 o2, Tab ((w.alloc o1).alloc o2) := fun o1 o2 => hT.below (hb2 o1 o2) hT.pos
  cases hx : okB x
  · have hx' : decide (sizeM x 1 ≤ 60) = false := hx
    go_enter Tryd.func7, Tryd.ntmps7
    go_wp2_with (go_at_call 13; refine (impl_ExprOk x hfx _ _ (hs2 _ _) (hT2 _ _)).mono ?_; rintro r w2 ⟨rfl, hb3⟩; rw [hx'])
    go_ret
    exact ⟨ret_bool (likeB_x x y hx).symm, below_next (hb2 _ _) hb3⟩
  have hx' : decide (sizeM x 1 ≤ 60) = true := hx
  cases hy : okB y
  · have hy' : decide (sizeM y 1 ≤ 60) = false := hy
    go_enter Tryd.func7, Tryd.ntmps7
    go_wp2_with (first
      | (go_at_call_of 13 x.name; refine (impl_ExprOk x hfx _ _ (hs2 _ _) (hT2 _ _)).mono ?_; rintro r w2 ⟨rfl, hb3⟩; rw [hx']; have hc2 : Below w.heap.size w w2 := below_next (hb2 _ _) hb3; obtain ⟨hc, hf⟩ := bcell hb3)
      | (go_at_call_of 13 y.name; refine (impl_ExprOk y hfy _ _ (ht.keep hc2 hc2.size) (hT.below hc2 hT.pos)).mono ?_; rintro r w3 ⟨rfl, hb4⟩; rw [hy']))
    go_ret
    exact ⟨ret_bool (likeB_y x y hy).symm, below_next hc2 hb4⟩
  have hy' : decide (sizeM y 1 ≤ 60) = true := hy
  have hsz : sizeM x 1 ≤ 60 := of_decide_eq_true hx
  have HL : Hid (likeB x y = likeM lastF x y [] []) := likeB_xy x y hx hy
  go_enter Tryd.func7, Tryd.ntmps7
  go_wp2_with (first
    | (go_at_call_of 13 x.name; refine (impl_ExprOk x hfx _ _ (hs2 _ _) (hT2 _ _)).mono ?_; rintro r w2 ⟨rfl, hb3⟩; rw [hx']; have hc2 : Below w.heap.size w w2 := below_next (hb2 _ _) hb3; obtain ⟨hc, hf⟩ := bcell hb3)
    | (go_at_call_of 13 y.name; refine (impl_ExprOk y hfy _ _ (ht.keep hc2 hc2.size) (hT.below hc2 hT.pos)).mono ?_; rintro r w3 ⟨rfl, hb4⟩; rw [hy']; have hc3 : Below w.heap.size w w3 := below_next hc2 hb4; clear hc hf; obtain ⟨hc, hf⟩ := bcell (below_next hb3 hb4))
    | (go_at_call 14; refine (impl_likeUnder x y _ _ _ _ _ [] [] 1 hwx hwy (hs.keep hc3 hc3.size) (ht.keep hc3 hc3.size) (Env.nil _) (Env.nil _) hsz (by omega) (by simp) (by simp)).mono ?_; rintro r w4 ⟨rfl, hb5⟩))
  go_ret
  exact ⟨ret_bool HL.out.symm, below_next hc3 hb5⟩
set_option maxHeartbeats 1000000 in
theorem spec_NameLike (x y : Ex) (hfx : x.Fit) (hfy : y.Fit) (hwx : x.Wee) (hwy : y.Wee) (w : World) (s t : Value) (hs : Lies w (· < w.heap.size) x.kids s) (ht : Lies w (· < w.heap.size) y.kids t) :
    Calls Tryd.prog 5 #[x.val s, y.val t] w fun r w' => r = .returned (.bool (likeB x y)) ∧ Below w.heap.size w w' := by
  have hb2 : ∀ o1 o2, Below w.heap.size w ((w.alloc o1).alloc o2) := below_two w
  have hs2 : ∀ o1 o2, Lies ((w.alloc o1).alloc o2) (· < ((w.alloc o1).alloc o2).heap.size) x.kids s := fun o1 o2 => hs.keep (hb2 o1 o2) (hb2 o1 o2).size
  cases hx : okB x
  · have hx' : decide (sizeM x 1 ≤ 60) = false := hx
    go_enter Tryd.func5, Tryd.ntmps5
    go_wp2_with (go_at_call 10; refine (spec_l1Ok x hfx _ _ (hs2 _ _)).mono ?_; rintro r w2 ⟨rfl, hb3⟩; rw [hx'])
    go_ret
    exact ⟨ret_bool (likeB_x x y hx).symm, below_next (hb2 _ _) hb3⟩
  have hx' : decide (sizeM x 1 ≤ 60) = true := hx
  cases hy : okB y
  · have hy' : decide (sizeM y 1 ≤ 60) = false := hy
    go_enter Tryd.func5, Tryd.ntmps5
    go_wp2_with (first
      | (go_at_call_of 10 x.name; refine (spec_l1Ok x hfx _ _ (hs2 _ _)).mono ?_; rintro r w2 ⟨rfl, hb3⟩; rw [hx']; have hc2 : Below w.heap.size w w2 := below_next (hb2 _ _) hb3; obtain ⟨hc, hf⟩ := bcell hb3)
      | (go_at_call_of 10 y.name; refine (spec_l1Ok y hfy _ _ (ht.keep hc2 hc2.size)).mono ?_; rintro r w3 ⟨rfl, hb4⟩; rw [hy']))
    go_ret
    exact ⟨ret_bool (likeB_y x y hy).symm, below_next hc2 hb4⟩
  have hy' : decide (sizeM y 1 ≤ 60) = true := hy
  have hsz : sizeM x 1 ≤ 60 := of_decide_eq_true hx
  have HL : Hid (likeB x y = likeM atB x y [] []) := (likeB_xy x y hx hy).trans (like_same x y [] [] rfl)
  go_enter Tryd.func5, Tryd.ntmps5
  go_wp2_with (first
    | (go_at_call_of 10 x.name; refine (spec_l1Ok x hfx _ _ (hs2 _ _)).mono ?_; rintro r w2 ⟨rfl, hb3⟩; rw [hx']; have hc2 : Below w.heap.size w w2 := below_next (hb2 _ _) hb3; obtain ⟨hc, hf⟩ := bcell hb3)
    | (go_at_call_of 10 y.name; refine (spec_l1Ok y hfy _ _ (ht.keep hc2 hc2.size)).mono ?_; rintro r w3 ⟨rfl, hb4⟩; rw [hy']; have hc3 : Below w.heap.size w w3 := below_next hc2 hb4; clear hc hf; obtain ⟨hc, hf⟩ := bcell (below_next hb3 hb4))
    | (go_at_call 11; refine (spec_l3Like x y _ _ _ _ _ [] [] 1 hwx hwy (hs.keep hc3 hc3.size) (ht.keep hc3 hc3.size) (Env.nil _) (Env.nil _) hsz (by omega) (by simp) (by simp)).mono ?_; rintro r w4 ⟨rfl, hb5⟩))
  go_ret
  exact ⟨ret_bool HL.out.symm, below_next hc3 hb5⟩
end Go.Proofs.YtmjbfenjalmnlaaDoor
