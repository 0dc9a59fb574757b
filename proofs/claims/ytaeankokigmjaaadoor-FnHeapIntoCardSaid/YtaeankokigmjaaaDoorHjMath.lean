/-
  What HeapInto answers, where there is room: the other cells as they were, as many more as the word leads to, saying the same.
-/
import Derived.Test.YtaeankokigmjaaaDoorCpTop
import Derived.Test.YtaeankokigmjaaaDoorHiTop
import Derived.Test.YtaeankokigmjaaaDoorHtImplB
namespace Go.Proofs.YtaeankokigmjaaaDoor

theorem words_single {n : Nat} {d : Wd} (h : wordP n d.tag d.num) : wordsM n [d] = true := by
  rw [wordsM, List.all_eq_true]
  intro x hx
  have e : x = d := by simpa using hx
  subst e
  exact decide_eq_true h
theorem into_true {cs tl : List Ce} {d : Wd} (h : intoB cs d tl = true) :
    heapM (intoC cs d tl) = true ∧ (intoC cs d tl).take tl.length = tl ∧ writeM (intoC cs d tl) (intoW cs d tl).tag (intoW cs d tl).num = writeM cs d.tag d.num ∧ (intoC cs d tl).length = tl.length + (reachM cs [d]).length := by
  obtain ⟨hok, hfit⟩ : intoOk cs d tl ∧ intoFits cs d tl := of_decide_eq_true h
  obtain ⟨e1, e2, _⟩ := into_fits hok hfit
  obtain ⟨hf, hw, ht⟩ := hok
  have hws := words_single hw
  obtain ⟨todo, hC, hL, hW⟩ := copy_cp (tl := tl) (heap_refs hf).2 (words_refs hws)
  have hX : moveW cs (st0 cs tl) d = mvW (copyS cs tl [d]) d := by
    have : [moveW cs (st0 cs tl) d] = [mvW (copyS cs tl [d]) d] := hW
    simpa using this
  have hmk : d.tag = 4 → Mk (copyS cs tl [d]) d.num.toNat := fun h4 => (hL _).2 (.first d (by simp) h4)
  have hheap := cp_heap hC hf ht hfit
  rw [e1, e2, hX]
  refine ⟨hheap, ?_, ?_, copy_len hf hws⟩
  · apply List.ext_getElem?
    intro j
    rw [List.getElem?_take]
    split
    · rename_i hj; exact hC.old j hj
    · rename_i hj; rw [List.getElem?_eq_none (by omega)]
  · rw [writeM, if_pos ⟨hheap, cp_word hC hw hmk⟩, writeM, if_pos ⟨hf, hw⟩]
    exact cp_text hC 14 d hmk
theorem into_false {cs tl : List Ce} {d : Wd} (h : intoB cs d tl = false) : intoC cs d tl = [] ∨ intoC cs d tl = tl := by
  have hn : ¬ (intoOk cs d tl ∧ intoFits cs d tl) := of_decide_eq_false h
  by_cases ho : intoOk cs d tl
  · exact Or.inr (into_full ho (fun hf => hn ⟨ho, hf⟩)).1
  · exact Or.inl (into_no ho).1
theorem into_len {cs tl : List Ce} {d : Wd} (hc : cs.length ≤ 20) (ht : tl.length ≤ 117) : (intoC cs d tl).length ≤ 137 := by
  cases h : intoB cs d tl
  · rcases into_false h with e | e
    · rw [e]; simp
    · rw [e]; omega
  · obtain ⟨_, _, _, e⟩ := into_true h
    have hr : (reachM cs [d]).length ≤ cs.length := by
      unfold reachM
      split
      · rename_i hh
        obtain ⟨_, hrefs⟩ := heap_refs hh.1
        have hml : (copyS cs [] [d]).mv.length = cs.length := loop_mv cs hrefs (cs.length + 1) _ 0 0 (Inv.words hrefs [d] _ (inv0 cs []) (words_refs hh.2))
        have := takenTo_le (inM (copyS cs [] [d])) (inM (copyS cs [] [d])).length
        rw [inM_length, hml] at this
        show (takenM _).length ≤ _
        unfold takenM
        rw [inM_length, hml]
        exact this
      · simp
    omega
end Go.Proofs.YtaeankokigmjaaaDoor
