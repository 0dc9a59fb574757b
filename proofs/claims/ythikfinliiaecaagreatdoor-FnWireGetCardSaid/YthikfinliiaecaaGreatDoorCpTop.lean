/-
  What was copied is ok, and says the same: heapM and textM of it.
-/
import Derived.Test.YthikfinliiaecaaGreatDoorCpMath
import Derived.Test.YthikfinliiaecaaGreatDoorFgAll24
namespace Go.Proofs.YthikfinliiaecaaGreatDoor

section
variable {fr tl : List Ce} {s : St} {todo : List Nat}
/-- Where a word went, and what stands there. -/
theorem cp_at (h : Cp fr tl todo.length s todo) {q : Nat} (hq : Mk s q) : ∃ j c, j < todo.length ∧ q < fr.length ∧ s.mv.getD q 0 = ((tl.length + j : Nat) : Int) ∧ fr[q]? = some c ∧ s.to[tl.length + j]? = some (mvC s c) ∧ ∀ x, x = c.a ∨ x = c.b → x.tag = 4 → Mk s x.num.toNat := by
  obtain ⟨j, hj, hjq⟩ := List.getElem_of_mem (h.mem q hq)
  have hjq' : todo[j]? = some q := by rw [List.getElem?_eq_getElem hj, hjq]
  obtain ⟨h1, h2⟩ := h.pl j q hjq'
  obtain ⟨h3, h4⟩ := h.done j q fr[q] hj hjq' (List.getElem?_eq_getElem h1)
  refine ⟨j, fr[q], hj, h1, ?_, List.getElem?_eq_getElem h1, h3, h4⟩
  rw [List.getD_eq_getElem?_getD, h2]
  rfl
theorem mvW_tag (x : Wd) : (mvW s x).tag = x.tag := by
  unfold mvW
  split
  · rename_i h; exact h.symm
  · rfl
theorem mvW_num {x : Wd} (h : x.tag = 4) : (mvW s x).num = s.mv.getD x.num.toNat 0 := by
  unfold mvW; rw [if_pos h]
theorem mvW_not {x : Wd} (h : ¬ x.tag = 4) : mvW s x = x := by
  unfold mvW; rw [if_neg h]
/-- The kind of what a word leads to stays. -/
theorem cp_kind (h : Cp fr tl todo.length s todo) {x : Wd} (ht : x.tag = 4) (hx : Mk s x.num.toNat) : kindAt s.to (mvW s x).num = kindAt fr x.num := by
  obtain ⟨j, c, hj, hq, hm, hc, hto, _⟩ := cp_at h hx
  unfold kindAt
  rw [mvW_num ht, hm, show ((tl.length + j : Nat) : Int).toNat = tl.length + j from rfl, hto, hc]
  rfl
/-- What a word says stays. -/
theorem cp_text (h : Cp fr tl todo.length s todo) : ∀ (d : Nat) (x : Wd), (x.tag = 4 → Mk s x.num.toNat) → textM s.to d (mvW s x).tag (mvW s x).num = textM fr d x.tag x.num := by
  intro d
  induction d with
  | zero => intro x _; rfl
  | succ d ih =>
    intro x hx
    by_cases ht : x.tag = 4
    · obtain ⟨j, c, hj, hq, hm, hc, hto, hcx⟩ := cp_at h (hx ht)
      rw [textM, textM, mvW_tag, mvW_num ht, hm, ht]
      simp only [show ((tl.length + j : Nat) : Int).toNat = tl.length + j from rfl, hto, hc]
      have eA := ih c.a (hcx c.a (Or.inl rfl))
      have eB := ih c.b (hcx c.b (Or.inr rfl))
      have eH : headM s.to (mvW s c.a).tag (mvW s c.a).num = headM fr c.a.tag c.a.num := by
        funext z
        unfold headM
        rw [mvW_tag]
        by_cases hta : c.a.tag = 4
        · rw [cp_kind h hta (hcx c.a (Or.inl rfl) hta)]
        · rw [if_neg (fun hh => hta hh.1), if_neg (fun hh => hta hh.1)]
      show (if (4 : Int) = 1 then _ else if (4 : Int) = 2 then _ else if (4 : Int) = 3 then _ else if (4 : Int) = 4 then cellT (textM s.to d) s.to c.kind (mvW s c.a).tag (mvW s c.a).num (mvW s c.b).tag (mvW s c.b).num else nilS) = _
      unfold cellT
      rw [eA, eB, eH]
      simp
    · rw [mvW_not ht, textM, textM]
      simp only [if_neg ht]
theorem word_mono {n m : Nat} {t u : Int} (h : wordP n t u) (hn : n ≤ m) : wordP m t u := by
  unfold wordP at *
  omega
/-- A word that is ok is ok where it went. -/
theorem cp_word (h : Cp fr tl todo.length s todo) {x : Wd} (hw : wordP fr.length x.tag x.num) (hx : x.tag = 4 → Mk s x.num.toNat) : wordP s.to.length (mvW s x).tag (mvW s x).num := by
  by_cases ht : x.tag = 4
  · obtain ⟨j, c, hj, hq, hm, _⟩ := cp_at h (hx ht)
    rw [mvW_tag, mvW_num ht, hm, ht, h.len]
    unfold wordP
    omega
  · rw [mvW_not ht]
    unfold wordP at *
    omega
theorem cp_is (h : Cp fr tl todo.length s todo) {x : Wd} {k : Int} (hw : isP fr x.tag x.num k) (hx : x.tag = 4 → Mk s x.num.toNat) : isP s.to (mvW s x).tag (mvW s x).num k := by
  unfold isP at *
  rw [mvW_tag]
  rcases hw with h0 | ⟨ht, hk⟩
  · exact Or.inl h0
  · exact Or.inr ⟨ht, by rw [cp_kind h ht (hx ht)]; exact hk⟩
theorem is_old {cs ds : List Ce} {t u k : Int} (hw : isP cs t u k) (h : ∀ j, j < cs.length → ds[j]? = cs[j]?) : isP ds t u k := by
  unfold isP at *
  rcases hw with h0 | ⟨ht, hk⟩
  · exact Or.inl h0
  · refine Or.inr ⟨ht, ?_⟩
    unfold kindAt at *
    have hl : u.toNat < cs.length := by
      apply Decidable.byContradiction
      intro hn
      rw [List.getElem?_eq_none (by omega)] at hk
      simp at hk
    rw [h _ hl]
    exact hk
/-- Cells that are ok, and copies of such behind them, are ok. -/
theorem cp_heap (h : Cp fr tl todo.length s todo) (hf : heapM fr = true) (ht : heapM tl = true) (hl : s.to.length ≤ 120) : heapM s.to = true := by
  have HF : ∀ c ∈ fr, cellP fr c := fun c hc => by
    rw [heapM, Bool.and_eq_true, List.all_eq_true] at hf
    exact of_decide_eq_true (hf.2 c hc)
  have HT : ∀ c ∈ tl, cellP tl c := fun c hc => by
    rw [heapM, Bool.and_eq_true, List.all_eq_true] at ht
    exact of_decide_eq_true (ht.2 c hc)
  rw [heapM, Bool.and_eq_true, List.all_eq_true]
  refine ⟨decide_eq_true hl, fun c hc => decide_eq_true ?_⟩
  obtain ⟨i, hi, rfl⟩ := List.getElem_of_mem hc
  have hlen := h.len
  by_cases hit : i < tl.length
  · have e : s.to[i] = tl[i] := by
      have := h.old i hit
      rw [List.getElem?_eq_getElem hi, List.getElem?_eq_getElem hit] at this
      exact Option.some.inj this
    have hc' := HT tl[i] (List.getElem_mem hit)
    rw [e]
    unfold cellP cellQ at *
    obtain ⟨w1, w2, w3⟩ := hc'
    refine ⟨word_mono w1 (by omega), word_mono w2 (by omega), ?_⟩
    rcases w3 with w | ⟨w, v, u⟩ | ⟨w, v, u⟩ | ⟨w, v, u, z⟩
    · exact Or.inl w
    · exact Or.inr (Or.inl ⟨w, v, is_old u h.old⟩)
    · exact Or.inr (Or.inr (Or.inl ⟨w, v, is_old u h.old⟩))
    · exact Or.inr (Or.inr (Or.inr ⟨w, v, u, is_old z h.old⟩))
  · have hj : i - tl.length < todo.length := by omega
    obtain ⟨hq, _⟩ := h.pl (i - tl.length) _ (List.getElem?_eq_getElem hj)
    obtain ⟨h3, h4⟩ := h.done (i - tl.length) _ fr[todo[i - tl.length]] hj (List.getElem?_eq_getElem hj) (List.getElem?_eq_getElem hq)
    rw [show tl.length + (i - tl.length) = i by omega, List.getElem?_eq_getElem hi] at h3
    have e := Option.some.inj h3
    have hc' := HF _ (List.getElem_mem hq)
    generalize fr[todo[i - tl.length]] = c at *
    rw [e]
    unfold cellP cellQ mvC at *
    obtain ⟨w1, w2, w3⟩ := hc'
    refine ⟨cp_word h w1 (h4 c.a (Or.inl rfl)), cp_word h w2 (h4 c.b (Or.inr rfl)), ?_⟩
    rcases w3 with w | ⟨w, v, u⟩ | ⟨w, v, u⟩ | ⟨w, v, u, z⟩
    · exact Or.inl w
    · exact Or.inr (Or.inl ⟨w, v, cp_is h u (h4 c.b (Or.inr rfl))⟩)
    · exact Or.inr (Or.inr (Or.inl ⟨w, v, cp_is h u (h4 c.b (Or.inr rfl))⟩))
    · refine Or.inr (Or.inr (Or.inr ⟨w, v, ?_, cp_is h z (h4 c.b (Or.inr rfl))⟩))
      have : ¬ c.a.tag = 4 := by omega
      rw [mvW_not this]
      exact u
end
/-- As many cells more as the words lead to. -/
theorem copy_len {cs tl : List Ce} {ws : List Wd} (hh : heapM cs = true) (hw : wordsM cs.length ws = true) : (copyS cs tl ws).to.length = tl.length + (reachM cs ws).length := by
  obtain ⟨_, hrefs⟩ := heap_refs hh
  have hwr := words_refs hw
  obtain ⟨todo, hC, hL, _⟩ := copy_cp (tl := tl) hrefs hwr
  have hml : (copyS cs [] ws).mv.length = cs.length := loop_mv cs hrefs (cs.length + 1) _ 0 0 (Inv.words hrefs ws _ (inv0 cs []) hwr)
  have e : inM (copyS cs tl ws) = inM (copyS cs [] ws) := by
    apply bools_ext (by rw [inM_length, inM_length, hC.mvl, hml])
    intro q
    rw [mk_in, hL, copy_leads hrefs hwr]
  rw [reachM, if_pos ⟨hh, hw⟩, taken_count, ← e, hC.len]
  congr 1
  -- the places that were come to, each once
  have hI : Inv cs tl.length tl.length (wordsS cs (st0 cs tl) ws) := Inv.words hrefs ws _ (inv0 cs tl) hwr
  have hcnt : ∀ (n : Nat) (s : St) (i : Nat), Inv cs tl.length i s → (loopS cs n s i).to.length = tl.length + (loopS cs n s i).mv.countP (fun x => decide (0 ≤ x)) := by
    intro n
    induction n with
    | zero => intro s i h; exact h.cnt
    | succ n ih =>
      intro s i h
      rw [loopS]
      split
      · rename_i hi; exact ih _ _ (h.step hrefs hi)
      · exact h.cnt
  have := hcnt (cs.length + 1) _ tl.length hI
  have h2 : (copyS cs tl ws).to.length = tl.length + (copyS cs tl ws).mv.countP (fun x => decide (0 ≤ x)) := this
  have h3 := hC.len
  unfold inM
  rw [List.countP_map]
  show todo.length = (copyS cs tl ws).mv.countP (fun x => decide (0 ≤ x))
  omega
end Go.Proofs.YthikfinliiaecaaGreatDoor

