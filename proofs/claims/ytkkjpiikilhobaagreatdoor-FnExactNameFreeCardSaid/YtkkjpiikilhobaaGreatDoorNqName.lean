/-
  NameFree, the program's and the specification's.
-/
import Derived.Test.YtkkjpiikilhobaaGreatDoorNqIter
import Derived.Test.YtkkjpiikilhobaaGreatDoorNfFree
import Derived.Test.YtkkjpiikilhobaaGreatDoorExBox
import Derived.Maps.OwnSet
namespace Go.Proofs.YtkkjpiikilhobaaGreatDoor
open Go.RowKit Go.Maps Go.Sort

/-- The free names of an expression that is ok; none of others. -/
def freeB (e : Ex) : List ByteArray := if sizeM e 1 ≤ 60 then freeM e else []
theorem freeB_length (e : Ex) : (freeB e).length ≤ 60 := by
  rw [freeB]
  split
  · rename_i h
    have := freeM_length e 1 h
    omega
  · simp
/-- How the program's NameFree ends. -/
def Named (w w' : World) (l : List ByteArray) (r : Ending) : Prop := ∃ v', r = .returned v' ∧ w'.ownsRow w.heap.size 9 1 v' l.length (l.map .string) ∧ Below w.heap.size w w'

theorem lies_one {w : World} {e : Ex} {s : Value} (h : Lies w (· < w.heap.size) e.kids s) (n : Nat) (hn : n = w.heap.size) : Lies (w.alloc (.cells #[.int .i64 e.kind, .string e.name, .string e.tail, .int .i64 e.num, s] 30)) (· < (w.alloc (.cells #[.int .i64 e.kind, .string e.name, .string e.tail, .int .i64 e.num, s] 30)).heap.size) [e] (.slice (some ⟨n, 0, none⟩) 1 1) := by
  subst hn
  refine .some w.heap.size 0 1 [e] [s] (by simp) rfl (fun i x y hx hy => ?_) (fun i x y hx hy => ?_)
  · have hi : i = 0 := by have := (List.getElem?_eq_some_iff.1 hx).1; simpa using this
    subst hi
    simp at hx hy
    subst hx; subst hy
    intro j v hj
    have hb : (w.alloc (.cells #[.int .i64 e.kind, .string e.name, .string e.tail, .int .i64 e.num, s] 30)).heap[w.heap.size]? = some (.cells #[.int .i64 e.kind, .string e.name, .string e.tail, .int .i64 e.num, s] 30) := heap_alloc_new _ _
    rw [cell_of_row _ _ _ _ _ _ hb]
    simpa [Ex.cells] using hj
  · have hi : i = 0 := by have := (List.getElem?_eq_some_iff.1 hx).1; simpa using this
    subst hi
    simp at hx hy
    subst hx; subst hy
    exact lies_alloc h _
theorem occs_one (e : Ex) : occs [e] = occM e [] := by simp [occs]

set_option maxHeartbeats 1000000 in
theorem impl_NameFree (e : Ex) (hf : e.Fit) (hw : e.Wee) (w : World) (s : Value) (hv : Lies w (· < w.heap.size) e.kids s) (hT : Tab w) :
    Calls Tryz.prog 7 #[e.val s] w fun r w' => Named w w' (freeB e) r := by
  have hv1 : ∀ o, Lies (w.alloc o) (· < (w.alloc o).heap.size) e.kids s := fun o => lies_alloc hv o
  have hT1 : ∀ o, Tab (w.alloc o) := fun o => hT.alloc o
  by_cases hok : sizeM e 1 ≤ 60
  · have hd : decide (sizeM e 1 ≤ 60) = true := by simpa using hok
    have HF : Hid (freeB e = freeM e) := by show _ = _; rw [freeB, if_pos hok]
    have hl60 : (freeM e).length ≤ 60 := by have := freeM_length e 1 hok; omega
    have hoc : (occM e []).length ≤ 60 := by have := occM_length e 1 [] hok; omega
    have hfs := fun (w' : World) (v : Value) (h : Lies w' (· < w'.heap.size) [e] v) => impl_freeSet [e] v w' (by simp) (by simpa using hw) (by simpa using hf) (by simpa using hok) h
    rw [occs_one] at hfs
    go_enter Tryz.func7, Tryz.ntmps7
    go_wp2_with (first
      | (go_at_call 17; refine (impl_ExprOk e hf _ _ (hv1 _) (hT1 _)).mono ?_; rintro r w2 ⟨rfl, hb2⟩; rw [hd]; obtain ⟨p0, p1, p2, p3, p4⟩ := box5 (box_start hb2); have hv2 := lies_box hv (box_start hb2); have hB2 := below_pre hb2)
      | (go_at_call 20; refine (hfs _ _ (lies_one hv2 _ rfl)).mono ?_; rintro r w3 ⟨rfl, hH3, hb3⟩; have hB3 := below_next (below_al hB2) hb3; obtain ⟨_, D, hown, _, hhas⟩ := hH3; have hsz := hown.size_le; simp only [World.size_alloc] at hown)
      | (go_at_call 19; refine (maps_Keys _ _).mono ?_; rintro r w4 ⟨rfl, rfl⟩)
      | (go_at_call 18; refine (slices_Sorted _ _ D _ w3 hown (by unfold maxLen; omega) (by omega)).mono ?_; rintro r w5 ⟨v, ss, rfl, hss, hrow, _, hb5⟩; have hms := keys_sorted e 1 hok hown hhas ss hss))
    have hlen : ss.length = (freeM e).length := by
      have h1 := congrArg List.length hms
      rw [List.length_mergeSort] at h1
      rw [h1, freeBytes, List.length_map]
    rw [hms, freeBytes_enc, hlen] at hrow
    go_ret
    refine ⟨v, rfl, ?_, below_next (below_al hB3) hb5⟩
    rw [HF.out]
    exact ownsRow_base hrow (Nat.le_trans hB3.size (size_al _ _))
  · have hd : decide (sizeM e 1 ≤ 60) = false := by simpa using hok
    have HF : Hid (freeB e = []) := by show _ = _; rw [freeB, if_neg hok]
    go_enter Tryz.func7, Tryz.ntmps7
    go_wp2_with (go_at_call 17; refine (impl_ExprOk e hf _ _ (hv1 _) (hT1 _)).mono ?_; rintro r w2 ⟨rfl, hb2⟩; rw [hd])
    go_ret
    exact ⟨_, rfl, by rw [HF.out]; exact World.ownsRow_nil _ _ _ _, below_pre hb2⟩

set_option maxHeartbeats 1000000 in
theorem spec_NameFree (e : Ex) (hf : e.Fit) (hw : e.Wee) (w : World) (s : Value) (hv : Lies w (· < w.heap.size) e.kids s) :
    Calls Tryz.prog 5 #[e.val s] w fun r w' => Bound w w' (freeB e) r := by
  have hv1 : ∀ o, Lies (w.alloc o) (· < (w.alloc o).heap.size) e.kids s := fun o => lies_alloc hv o
  by_cases hok : sizeM e 1 ≤ 60
  · have hd : decide (sizeM e 1 ≤ 60) = true := by simpa using hok
    have HF : Hid (freeB e = freeM e) := by show _ = _; rw [freeB, if_pos hok]
    go_enter Tryz.func5, Tryz.ntmps5
    go_wp2_with (first
      | (go_at_call 14; refine (spec_l1Ok e hf _ _ (hv1 _)).mono ?_; rintro r w2 ⟨rfl, hb2⟩; rw [hd]; obtain ⟨p0, p1, p2, p3, p4⟩ := box5 (box_start hb2); have hv2 := lies_box hv (box_start hb2))
      | (go_at_call 15; refine (spec_l3Free e _ _ 1 hw hv2 hok).mono ?_; rintro r w3 ⟨v, rfl, he, hb3⟩))
    go_ret
    exact ⟨v, rfl, by rw [HF.out]; exact he, below_next (below_pre hb2) hb3⟩
  · have hd : decide (sizeM e 1 ≤ 60) = false := by simpa using hok
    have HF : Hid (freeB e = []) := by show _ = _; rw [freeB, if_neg hok]
    go_enter Tryz.func5, Tryz.ntmps5
    go_wp2_with (go_at_call 14; refine (spec_l1Ok e hf _ _ (hv1 _)).mono ?_; rintro r w2 ⟨rfl, hb2⟩; rw [hd])
    go_ret
    exact ⟨_, rfl, by rw [HF.out]; exact Env.nil _, below_pre hb2⟩
end Go.Proofs.YtkkjpiikilhobaaGreatDoor
