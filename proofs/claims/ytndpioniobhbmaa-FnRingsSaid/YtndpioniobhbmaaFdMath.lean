/-
  What FnSameDeep asks, as mathematics.
-/
import Derived.Test.YtndpioniobhbmaaDpTop
import Derived.Test.YtndpioniobhbmaaDpRing
import Derived.Test.YtndpioniobhbmaaRgMath
namespace Go.Proofs.Ytndpioniobhbmaa
open Go.RowKit

theorem cell_words {cs : List Ce} (h : heapM cs = true) {c : Ce} (hc : c ∈ cs) : wordP cs.length c.a.tag c.a.num ∧ wordP cs.length c.b.tag c.b.num := by
  rw [heapM, Bool.and_eq_true, List.all_eq_true] at h
  have := of_decide_eq_true (h.2 c hc)
  unfold cellQ at this
  exact ⟨this.1, this.2.1⟩
theorem rings_mem {cs : List Ce} (h : heapM cs = true) {k : Nat} (hk : k ∈ ringsM cs) : ∃ hlt : k < cs.length, Leads cs [cs[k].a, cs[k].b] k := by
  rw [ringsM, if_pos h, taken_mem] at hk
  have hlt : k < (ringsB cs).length := by
    rw [List.getD_eq_getElem?_getD] at hk
    by_cases e : k < (ringsB cs).length
    · exact e
    · rw [List.getElem?_eq_none (by omega)] at hk
      simp at hk
  rw [List.getD_eq_getElem?_getD, List.getElem?_eq_getElem hlt, Option.getD_some, ringsB_get] at hk
  rw [ringsB_length] at hlt
  refine ⟨hlt, ?_⟩
  rw [ring_at hlt] at hk
  obtain ⟨_, hrefs⟩ := heap_refs h
  obtain ⟨ra, rb⟩ := hrefs _ (List.getElem_mem hlt)
  refine (copy_leads hrefs (fun x hx => ?_) k).1 hk
  simp only [List.mem_cons, List.not_mem_nil, or_false] at hx
  rcases hx with rfl | rfl
  · exact ra
  · exact rb
theorem fd_ring {cs : List Ce} (h : heapM cs = true) {k : Nat} (hr : k ∈ ringsM cs) : deepM cs 14 ⟨4, (k : Int)⟩ = 14 := by
  obtain ⟨hlt, hl⟩ := rings_mem h hr
  exact ring_deep (k := k) (List.getElem?_eq_getElem hlt) hl 14 _ rfl (Or.inl (by simp))
theorem fd_step {cs : List Ce} {k : Nat} (hk : k < cs.length) : deepM cs 14 ⟨4, (k : Int)⟩ = max (deepM cs 14 cs[k].a) (deepM cs 14 cs[k].b) + 1 ∨ (deepM cs 14 ⟨4, (k : Int)⟩ = 14 ∧ max (deepM cs 14 cs[k].a) (deepM cs 14 cs[k].b) = 14) :=
  deep_step (m := 13) rfl (List.getElem?_eq_getElem hk)
end Go.Proofs.Ytndpioniobhbmaa
