/-
  What HeapReach answers of words together, of each alone, and of the words of a cell.
-/
import Derived.Test.YthmpgeppicbhlaaDoorReMath
import Derived.Test.YthmpgeppicbhlaaDoorHrImpl
namespace Go.Proofs.YthmpgeppicbhlaaDoor

theorem reach_lt {cs : List Ce} {ws : List Wd} {q : Nat} (h : q ∈ reachM cs ws) : q < cs.length := by
  unfold reachM at h
  split at h
  · rename_i hh
    obtain ⟨_, hrefs⟩ := heap_refs hh.1
    have := taken_lt h
    rw [inM_length] at this
    have hml : (copyS cs [] ws).mv.length = cs.length := loop_mv cs hrefs (cs.length + 1) _ 0 0 (Inv.words hrefs ws _ (inv0 cs []) (words_refs hh.2))
    omega
  · simp at h
theorem reach_sorted (cs : List Ce) (ws : List Wd) : (reachM cs ws).Pairwise (· < ·) := by
  unfold reachM
  split
  · exact taken_sorted _
  · exact List.Pairwise.nil
/-- Of words that are ok: just the places to which they lead. -/
theorem reach_iff {cs : List Ce} {ws : List Wd} (hh : heapM cs = true) (hw : wordsM cs.length ws = true) (q : Nat) : q ∈ reachM cs ws ↔ Leads cs ws q := by
  rw [reachM, if_pos ⟨hh, hw⟩, taken_mem, copy_leads (heap_refs hh).2 (words_refs hw)]
theorem reach_leads {cs : List Ce} {ws : List Wd} {q : Nat} (h : q ∈ reachM cs ws) : Leads cs ws q := by
  have h' := h
  unfold reachM at h
  split at h
  · rename_i hh
    exact (reach_iff hh.1 hh.2 q).1 h'
  · simp at h
theorem words_one {n : Nat} {ws : List Wd} {x : Wd} (h : wordsM n ws = true) (hx : x ∈ ws) : wordsM n [x] = true := by
  rw [wordsM, List.all_eq_true] at h
  rw [wordsM, List.all_eq_true]
  intro y hy
  have e : y = x := by simpa using hy
  subst e
  exact h y hx
/-- All that words lead to is what each of them leads to. -/
theorem reach_each {cs : List Ce} {ws : List Wd} (hh : heapM cs = true) (hw : wordsM cs.length ws = true) (q : Nat) : q ∈ reachM cs ws ↔ ∃ x ∈ ws, q ∈ reachM cs [x] := by
  rw [reach_iff hh hw]
  constructor
  · intro h
    obtain ⟨x, hx, hl⟩ := h.one
    exact ⟨x, hx, (reach_iff hh (words_one hw hx) q).2 hl⟩
  · rintro ⟨x, hx, hq⟩
    exact Leads.of_one hx (reach_leads hq)
/-- What the words of a cell lead to that words lead to, they lead to. -/
theorem reach_cell {cs : List Ce} {ws : List Wd} (hh : heapM cs = true) (hw : wordsM cs.length ws = true) {p q : Nat} (hp : p ∈ reachM cs ws) (hpl : p < cs.length) (hq : q ∈ reachM cs [cs[p].a, cs[p].b]) : q ∈ reachM cs ws := by
  rw [reach_iff hh hw]
  exact Leads.of_cell (reach_leads hp) (List.getElem?_eq_getElem hpl) (reach_leads hq)
/-- Marks of all that each of the words leads to are as many as they lead to together. -/
theorem reach_many {cs : List Ce} {ws : List Wd} (hh : heapM cs = true) (inn : List Bool) (hl : inn.length = cs.length) (hi : ∀ q, inn.getD q false = true ↔ ∃ x ∈ ws, q ∈ reachM cs [x]) :
    inn.countP id = (reachM cs ws).length ∨ (reachM cs ws).length = 0 := by
  cases hw : wordsM cs.length ws
  · right
    rw [reachM, if_neg (by rw [hw]; simp)]
    rfl
  · left
    obtain ⟨_, hrefs⟩ := heap_refs hh
    have hml : (copyS cs [] ws).mv.length = cs.length := loop_mv cs hrefs (cs.length + 1) _ 0 0 (Inv.words hrefs ws _ (inv0 cs []) (words_refs hw))
    have e : inn = inM (copyS cs [] ws) := by
      apply bools_ext (by rw [inM_length, hml, hl])
      intro q
      rw [hi, ← reach_each hh hw, reach_iff hh hw, copy_leads hrefs (words_refs hw)]
    rw [reachM, if_pos ⟨hh, hw⟩, taken_count, e]
/-- Where words lead to something at all they are ok. -/
theorem reach_some {cs : List Ce} {ws : List Wd} {q : Nat} (h : q ∈ reachM cs ws) : wordsM cs.length ws = true := by
  unfold reachM at h
  split at h
  · rename_i hh; exact hh.2
  · simp at h
end Go.Proofs.YthmpgeppicbhlaaDoor
