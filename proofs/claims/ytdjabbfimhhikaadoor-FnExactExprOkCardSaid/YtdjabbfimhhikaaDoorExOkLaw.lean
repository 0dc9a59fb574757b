/-
  The law FnExactExprOk: it answers true, whatever the expression.
-/
import Derived.Test.YtdjabbfimhhikaaDoorExTakes
import Derived.Test.YtdjabbfimhhikaaDoorExTo
import Derived.Test.YtdjabbfimhhikaaDoorExEq
import Derived.Deep.RegionWith
namespace Go.Proofs.YtdjabbfimhhikaaDoor
open Go.RowKit

/-- The five cells of a box that was laid at B, in every later world. -/
theorem box5 {w wr : World} {a b c d x : Value} {t : TypeId} (h : Below (w.heap.size + 1) (w.alloc (.cells #[a, b, c, d, x] t)) wr) :
    wr.cell? ⟨w.heap.size, 0, none⟩ = some a ∧ wr.cell? ⟨w.heap.size, 1, none⟩ = some b ∧ wr.cell? ⟨w.heap.size, 2, none⟩ = some c ∧ wr.cell? ⟨w.heap.size, 3, none⟩ = some d ∧ wr.cell? ⟨w.heap.size, 4, none⟩ = some x := by
  have key : ∀ j, wr.cell? ⟨w.heap.size, j, none⟩ = (#[a, b, c, d, x] : Array Value)[j]? := fun j => by
    rw [h.cell (p := ⟨w.heap.size, j, none⟩) (by show w.heap.size < w.heap.size + 1; omega), cell_of_row _ _ _ _ _ _ (heap_alloc_new w _)]
  exact ⟨key 0, key 1, key 2, key 3, key 4⟩
theorem box_start {w w2 : World} {o : Obj} (h : Below (w.alloc o).heap.size (w.alloc o) w2) : Below (w.heap.size + 1) (w.alloc o) w2 := by simpa using h
theorem box_alloc {w wr : World} {o o2 : Obj} (h : Below (w.heap.size + 1) (w.alloc o) wr) : Below (w.heap.size + 1) (w.alloc o) (wr.alloc o2) :=
  h.alloc (by have := h.size; simpa using this) o2
theorem lies_alloc {w : World} {es : List Ex} {v : Value} (h : Lies w (· < w.heap.size) es v) (o : Obj) : Lies (w.alloc o) (· < (w.alloc o).heap.size) es v :=
  h.keep ((Below.refl _ _).alloc (Nat.le_refl _) o) (by simp)
theorem lies_box {w wr : World} {o : Obj} {es : List Ex} {v : Value} (h : Lies w (· < w.heap.size) es v) (hb : Below (w.heap.size + 1) (w.alloc o) wr) : Lies wr (· < wr.heap.size) es v :=
  h.keep (below_of_box hb) (below_of_box hb).size
theorem lies_lt {w : World} {N : Nat} {es : List Ex} {v : Value} (h : Lies w (fun b => N ≤ b ∧ b < w.heap.size) es v) : Lies w (· < w.heap.size) es v :=
  h.same fun _ hb => ⟨rfl, hb.2⟩
theorem tab_box {w wr : World} {o : Obj} (h : Tab w) (hb : Below (w.heap.size + 1) (w.alloc o) wr) : Tab wr := h.below (below_of_box hb) h.pos

theorem below_chain {w w7 w8 w9 : World} (h7 : Below w.heap.size w w7) (h8 : Below w7.drew.heap.size w7.drew w8) (h9 : Below w8.heap.size w8 w9) : Below w.heap.size w w9 := by
  have h78 := h7.drew.trans (h8.mono h7.size)
  exact h78.trans (h9.mono h78.size)

set_option maxHeartbeats 1000000 in
theorem law_ExprOk (e : Ex) (hf : e.Fit) (w : World) (s : Value) (hv : Lies w (· < w.heap.size) e.kids s) (hT : Tab w) :
    Calls Tryd.prog 3 #[e.val s] w fun r w' => r = .returned (.bool true) ∧ Below w.heap.size w w' := by
  go_enter Tryd.func3, Tryd.ntmps3
  go_wp2_with (first
    | (go_at_call 4; refine (sz e hf _ _ _ (lies_alloc hv _) (by omega) (by omega)).mono ?_; rintro r w2 ⟨⟨n, rfl, _, hw⟩, hb2⟩; have hwee : Hid (0 ≤ n → e.Wee) := hw; clear hw; have hB2 := box_start hb2; clear hb2; obtain ⟨p0, p1, p2, p3, p4⟩ := box5 hB2)
    | (go_at_call 5; refine (spec_ExprOk e hf _ _ (lies_lt hl1)).mono ?_; rintro r w4 ⟨rfl, hb4⟩; have hB4 := below_box_trans hB3 hb4; clear hb4 hl1 p0 p1 p2 p3 p4; obtain ⟨p0, p1, p2, p3, p4⟩ := box5 hB4)
    | (go_at_call 6; refine (to e (hwee.out (by omega)) _ _ (by first | exact lies_box hv hB4 | exact lies_box hv hB2)).mono ?_; rintro r w3 ⟨s1, rfl, hl1, hb3⟩; first | (have hB5 := below_box_trans hB4 hb3; clear hb3; obtain ⟨a2, cap2, rfl⟩ := hl1.slice) | (have hB3 := below_box_trans hB2 hb3; clear hb3)))
  · go_ret
    exact ⟨rfl, below_of_box hB2⟩
  · have hwe := hwee.out (by omega)
    clear p0 p1 p2 p3 p4
    go_wp2_with (go_at_call 7; refine (impl_ExprOk e hf _ _ (lies_alloc (lies_lt hl1) _) (tab_box hT (box_alloc hB5))).mono ?_; rintro r w7 ⟨rfl, hb7⟩; have hX7 := box_start hb7; have hB7 := below_box_trans (box_alloc hB5) hb7; have hl7 := lies_box (lies_lt hl1) hX7; have hlv7 := lies_box hv hB7; obtain ⟨p0, p1, p2, p3, p4⟩ := box5 hB7; obtain ⟨q0, q1, q2, q3, q4⟩ := box5 hX7; clear hb7)
    go_region_with (first
      | (go_at_call 6; refine (to e hwe _ _ hlv7.drew).mono ?_; rintro r w8 ⟨s3, rfl, hl3, hb8⟩; obtain ⟨r0, r1, r2, r3, r4⟩ := box5 (below_box_trans hX7.drew hb8))
      | (go_at_call 8; refine (eq e hwe _ _ _ (hl7.drew.keep hb8 hb8.size) (lies_lt hl3)).mono ?_; rintro r w9 ⟨rfl, hb9⟩))
    all_goals
      go_wp2_with fail
      go_ret
      exact ⟨rfl, below_chain (below_of_box hB7) hb8 hb9⟩
end Go.Proofs.YtdjabbfimhhikaaDoor
