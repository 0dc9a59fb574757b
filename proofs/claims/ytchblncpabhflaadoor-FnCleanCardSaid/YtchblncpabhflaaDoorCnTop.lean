/-
  What HeapClean answers of cells and words that are ok: as many cells as the words lead to, ok, saying the same; and it answers the same of its own answer.
-/
import Derived.Test.YtchblncpabhflaaDoorCnMath
import Derived.Test.YtchblncpabhflaaDoorHcTop
import Derived.Test.YtchblncpabhflaaDoorHtImplB
namespace Go.Proofs.YtchblncpabhflaaDoor

theorem words_at {n : Nat} {ws : List Wd} (h : wordsM n ws = true) {x : Wd} (hx : x ∈ ws) : wordP n x.tag x.num := by
  rw [wordsM, List.all_eq_true] at h
  exact of_decide_eq_true (h x hx)
theorem words_of {n : Nat} {ws : List Wd} (h : ∀ x ∈ ws, wordP n x.tag x.num) : wordsM n ws = true := by
  rw [wordsM, List.all_eq_true]
  intro x hx
  exact decide_eq_true (h x hx)
theorem clean_no {cs : List Ce} {ws : List Wd} (h : ¬ (heapM cs = true ∧ wordsM cs.length ws = true)) : cleanC cs ws = [] ∧ cleanW cs ws = [] :=
  ⟨by rw [cleanC, if_neg h], by rw [cleanW, if_neg h]⟩
/-- What is cleaned is ok, as many as the words lead to, and the words say the same; cleaned again it stays. -/
theorem clean_yes {cs : List Ce} {ws : List Wd} (hh : heapM cs = true) (hw : wordsM cs.length ws = true) :
    heapM (cleanC cs ws) = true ∧ (cleanC cs ws).length = (reachM cs ws).length ∧ (cleanW cs ws).length = ws.length ∧
    (∀ (i : Nat) (x d : Wd), (cleanW cs ws)[i]? = some x → ws[i]? = some d → x.tag = d.tag ∧ writeM (cleanC cs ws) x.tag x.num = writeM cs d.tag d.num) ∧
    cleanC (cleanC cs ws) (cleanW cs ws) = cleanC cs ws ∧ cleanW (cleanC cs ws) (cleanW cs ws) = cleanW cs ws := by
  have hwr := words_refs hw
  obtain ⟨h120, hrefs⟩ := heap_refs hh
  obtain ⟨todo, hC, hL, hW⟩ := copy_cp (tl := []) hrefs hwr
  have e1 : cleanC cs ws = (copyS cs [] ws).to := by rw [cleanC, if_pos ⟨hh, hw⟩]
  have e2 : cleanW cs ws = wordsW cs (st0 cs []) ws := by rw [cleanW, if_pos ⟨hh, hw⟩]
  have hlen := copy_len (tl := []) hh hw
  simp only [List.length_nil, Nat.zero_add] at hlen
  have hrl : (reachM cs ws).length ≤ cs.length := by
    rw [reachM, if_pos ⟨hh, hw⟩]
    have hml : (copyS cs [] ws).mv.length = cs.length := loop_mv cs hrefs (cs.length + 1) _ 0 0 (Inv.words hrefs ws _ (inv0 cs []) hwr)
    have := takenTo_le (inM (copyS cs [] ws)) (inM (copyS cs [] ws)).length
    rw [inM_length, hml] at this
    show (takenM _).length ≤ _
    unfold takenM
    rw [inM_length, hml]
    exact this
  have hmk : ∀ x ∈ ws, x.tag = 4 → Mk (copyS cs [] ws) x.num.toNat := fun x hx h4 => (hL _).2 (.first x hx h4)
  have hheap := cp_heap hC hh (by rw [heapM]; rfl) (by omega)
  have hwok : wordsM (copyS cs [] ws).to.length (wordsW cs (st0 cs []) ws) = true := by
    rw [hW]
    refine words_of fun y hy => ?_
    obtain ⟨x, hx, rfl⟩ := List.mem_map.1 hy
    exact cp_word hC (words_at hw hx) (hmk x hx)
  obtain ⟨a1, a2⟩ := copy_again hrefs hwr
  rw [e1, e2]
  refine ⟨hheap, hlen, wordsW_length _ _ _, fun i x d hi hd => ?_, ?_, ?_⟩
  · rw [hW, List.getElem?_map, hd] at hi
    have e : mvW (copyS cs [] ws) d = x := by simpa using hi
    subst e
    have hd' := List.mem_of_getElem? hd
    refine ⟨mvW_tag d, ?_⟩
    rw [writeM, if_pos ⟨hheap, cp_word hC (words_at hw hd') (hmk d hd')⟩, writeM, if_pos ⟨hh, words_at hw hd'⟩]
    exact cp_text hC 14 d (hmk d hd')
  · rw [cleanC, if_pos ⟨hheap, hwok⟩]
    exact a1
  · rw [cleanW, if_pos ⟨hheap, hwok⟩]
    exact a2
end Go.Proofs.YtchblncpabhflaaDoor
