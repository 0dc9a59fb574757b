/-
  What was copied: each cell that words lead to stands once behind the cells that were there, its words moved to where their cells went. Mathematics; no program is named here.
-/
import Derived.Test.YthikfinliiaecaaGreatDoorReMath
namespace Go.Proofs.YthikfinliiaecaaGreatDoor

/-- A word, moved to where its cell went; a cell, its words moved. -/
def mvW (s : St) (x : Wd) : Wd := if x.tag = 4 then ⟨4, s.mv.getD x.num.toNat 0⟩ else x
def mvC (s : St) (c : Ce) : Ce := ⟨c.kind, c.num, mvW s c.a, mvW s c.b⟩
/-- What was come to stays where it went. -/
def Ext (s s' : St) : Prop := ∀ q, Mk s q → Mk s' q ∧ s'.mv.getD q 0 = s.mv.getD q 0
theorem Ext.refl (s : St) : Ext s s := fun _ h => ⟨h, rfl⟩
theorem Ext.trans {a b c : St} (h : Ext a b) (k : Ext b c) : Ext a c := fun q hq => by
  obtain ⟨h1, h2⟩ := h q hq
  obtain ⟨k1, k2⟩ := k q h1
  exact ⟨k1, k2.trans h2⟩
theorem Ext.word {s s' : St} (h : Ext s s') {x : Wd} (hx : x.tag = 4 → Mk s x.num.toNat) : mvW s' x = mvW s x := by
  unfold mvW
  by_cases ht : x.tag = 4
  · rw [if_pos ht, if_pos ht, (h _ (hx ht)).2]
  · rw [if_neg ht, if_neg ht]
theorem Ext.cell {s s' : St} (h : Ext s s') {c : Ce} (hx : ∀ x, x = c.a ∨ x = c.b → x.tag = 4 → Mk s x.num.toNat) : mvC s' c = mvC s c := by
  unfold mvC
  rw [h.word (hx c.a (Or.inl rfl)), h.word (hx c.b (Or.inr rfl))]
theorem mk_get {s : St} {q : Nat} (h : Mk s q) : ∃ hq : q < s.mv.length, 0 ≤ s.mv[q] := by
  unfold Mk at h
  rw [List.getD_eq_getElem?_getD] at h
  by_cases hq : q < s.mv.length
  · rw [List.getElem?_eq_getElem hq] at h
    exact ⟨hq, h⟩
  · rw [List.getElem?_eq_none (by omega)] at h
    simp at h
theorem come_ext (fr : List Ce) (s : St) (p : Nat) : Ext s (comeS fr s p) := by
  intro q hq
  obtain ⟨hql, hq0⟩ := mk_get hq
  unfold comeS
  by_cases hn : s.mv.getD p 0 < 0
  · rw [if_pos hn]
    have hne : p ≠ q := by
      intro e
      subst e
      rw [List.getD_eq_getElem?_getD, List.getElem?_eq_getElem hql] at hn
      have hn' : s.mv[p] < 0 := hn
      omega
    unfold Mk
    simp only [List.getD_eq_getElem?_getD, List.getElem?_set_ne hne]
    unfold Mk at hq
    rw [List.getD_eq_getElem?_getD] at hq
    exact ⟨hq, trivial⟩
  · rw [if_neg hn]; exact ⟨hq, rfl⟩
theorem come_mk (fr : List Ce) (s : St) (p : Nat) (hp : p < s.mv.length) : Mk (comeS fr s p) p := by
  have hg : s.mv.getD p 0 = s.mv[p] := by rw [List.getD_eq_getElem?_getD, List.getElem?_eq_getElem hp]; rfl
  unfold comeS
  by_cases hn : s.mv.getD p 0 < 0
  · rw [if_pos hn]
    exact (mk_set hp).2 (Or.inr rfl)
  · rw [if_neg hn]
    unfold Mk
    rw [List.getD_eq_getElem?_getD, List.getElem?_eq_getElem hp]
    show 0 ≤ s.mv[p]
    omega
theorem move_ext (fr : List Ce) (s : St) (x : Wd) : Ext s (moveS fr s x) := by
  unfold moveS
  split
  · exact come_ext fr s _
  · exact Ext.refl s
theorem move_mk (fr : List Ce) (s : St) (x : Wd) (hx : refOk s.mv.length x) (ht : x.tag = 4) : Mk (moveS fr s x) x.num.toNat := by
  unfold moveS
  rw [if_pos ht]
  have := hx ht
  exact come_mk fr s _ (by omega)
theorem move_word (fr : List Ce) (s : St) (x : Wd) : moveW fr s x = mvW (moveS fr s x) x := by
  unfold moveW mvW moveS placeS
  split <;> rfl

/-- The first i of the places that were come to were gone through. -/
structure Cp (fr tl : List Ce) (i : Nat) (s : St) (todo : List Nat) : Prop where
  le : i ≤ todo.length
  len : s.to.length = tl.length + todo.length
  mvl : s.mv.length = fr.length
  pl : ∀ j q, todo[j]? = some q → q < fr.length ∧ s.mv[q]? = some ((tl.length + j : Nat) : Int)
  mem : ∀ q, Mk s q → q ∈ todo
  raw : ∀ j q, i ≤ j → todo[j]? = some q → s.to[tl.length + j]? = fr[q]?
  done : ∀ j q c, j < i → todo[j]? = some q → fr[q]? = some c → s.to[tl.length + j]? = some (mvC s c) ∧ ∀ x, x = c.a ∨ x = c.b → x.tag = 4 → Mk s x.num.toNat
  old : ∀ j, j < tl.length → s.to[j]? = tl[j]?
theorem Cp.mk_of {fr tl : List Ce} {i : Nat} {s : St} {todo : List Nat} (h : Cp fr tl i s todo) {q : Nat} (hq : q ∈ todo) : Mk s q := by
  obtain ⟨j, hj, rfl⟩ := List.getElem_of_mem hq
  obtain ⟨_, h2⟩ := h.pl j _ (List.getElem?_eq_getElem hj)
  unfold Mk
  rw [List.getD_eq_getElem?_getD, h2]
  show (0 : Int) ≤ ((tl.length + j : Nat) : Int)
  omega
theorem Cp.come {fr tl : List Ce} {i p : Nat} {s : St} {todo : List Nat} (h : Cp fr tl i s todo) (hp : p < fr.length) :
    ∃ l, Cp fr tl i (comeS fr s p) (todo ++ l) ∧ ∀ q, q ∈ todo ++ l ↔ q ∈ todo ∨ q = p := by
  have hpl : p < s.mv.length := by rw [h.mvl]; exact hp
  have hg : s.mv.getD p 0 = s.mv[p] := by rw [List.getD_eq_getElem?_getD, List.getElem?_eq_getElem hpl]; rfl
  have hf : fr.getD p ce0 = fr[p] := by rw [List.getD_eq_getElem?_getD, List.getElem?_eq_getElem hp]; rfl
  have hE := come_ext fr s p
  unfold comeS at hE ⊢
  by_cases hn : s.mv.getD p 0 < 0
  · rw [if_pos hn, hf] at hE ⊢
    have hnm : p ∉ todo := fun hm => by
      obtain ⟨_, h0⟩ := mk_get (h.mk_of hm)
      omega
    refine ⟨[p], ⟨by have := h.le; simp; omega, by simp [h.len]; omega, by simp [h.mvl], fun j q hj => ?_, fun q hq => ?_, fun j q hij hj => ?_, fun j q c hj hjq hc => ?_, fun j hj => ?_⟩, fun q => by simp⟩
    · by_cases hjl : j < todo.length
      · rw [List.getElem?_append_left hjl] at hj
        obtain ⟨h1, h2⟩ := h.pl j q hj
        refine ⟨h1, ?_⟩
        have hne : p ≠ q := fun e => hnm (by subst e; exact List.mem_of_getElem? hj)
        show (s.mv.set p _)[q]? = _
        rw [List.getElem?_set_ne hne]
        exact h2
      · rw [List.getElem?_append_right (by omega)] at hj
        have hj0 : j - todo.length = 0 := by
          apply Decidable.byContradiction
          intro hc
          rw [List.getElem?_eq_none (by simp; omega)] at hj
          cases hj
        rw [hj0] at hj
        have e : p = q := by simpa using hj
        subst e
        refine ⟨hp, ?_⟩
        show (s.mv.set p _)[p]? = _
        rw [List.getElem?_set_self hpl, h.len, show j = todo.length by omega]
    · rcases (mk_set hpl).1 hq with hq | rfl
      · exact List.mem_append_left _ (h.mem q hq)
      · simp
    · show (s.to ++ [fr[p]])[tl.length + j]? = _
      by_cases hjl : j < todo.length
      · rw [List.getElem?_append_left hjl] at hj
        rw [List.getElem?_append_left (by rw [h.len]; omega)]
        exact h.raw j q hij hj
      · rw [List.getElem?_append_right (by omega)] at hj
        have hj0 : j - todo.length = 0 := by
          apply Decidable.byContradiction
          intro hc
          rw [List.getElem?_eq_none (by simp; omega)] at hj
          cases hj
        rw [hj0] at hj
        have e : p = q := by simpa using hj
        subst e
        rw [List.getElem?_append_right (by rw [h.len]; omega), show tl.length + j - s.to.length = 0 by rw [h.len]; omega, List.getElem?_eq_getElem hp]
        rfl
    · have hjl : j < todo.length := by have := h.le; omega
      rw [List.getElem?_append_left hjl] at hjq
      obtain ⟨h1, h2⟩ := h.done j q c hj hjq hc
      refine ⟨?_, fun x hx ht => (hE _ (h2 x hx ht)).1⟩
      show (s.to ++ [fr[p]])[tl.length + j]? = _
      rw [List.getElem?_append_left (by rw [h.len]; omega), h1, hE.cell h2]
    · show (s.to ++ [fr[p]])[j]? = _
      rw [List.getElem?_append_left (by rw [h.len]; omega)]
      exact h.old j hj
  · rw [if_neg hn]
    refine ⟨[], by rw [List.append_nil]; exact h, fun q => ?_⟩
    have hm : Mk s p := by
      unfold Mk
      rw [List.getD_eq_getElem?_getD, List.getElem?_eq_getElem hpl]
      show 0 ≤ s.mv[p]
      omega
    rw [List.append_nil]
    constructor
    · exact Or.inl
    · rintro (hq | rfl)
      · exact hq
      · exact h.mem q hm
theorem Cp.move {fr tl : List Ce} {i : Nat} {s : St} {todo : List Nat} {x : Wd} (h : Cp fr tl i s todo) (hx : refOk fr.length x) :
    ∃ l, Cp fr tl i (moveS fr s x) (todo ++ l) ∧ ∀ q, q ∈ todo ++ l ↔ q ∈ todo ∨ (x.tag = 4 ∧ q = x.num.toNat) := by
  unfold moveS
  by_cases ht : x.tag = 4
  · rw [if_pos ht]
    have := hx ht
    obtain ⟨l, h1, h2⟩ := h.come (p := x.num.toNat) (by omega)
    exact ⟨l, h1, fun q => by rw [h2]; simp [ht]⟩
  · rw [if_neg ht]
    exact ⟨[], by rw [List.append_nil]; exact h, fun q => by simp [ht]⟩
theorem Cp.words {fr tl : List Ce} {i : Nat} : ∀ (ws : List Wd) (s : St) (todo : List Nat), Cp fr tl i s todo → (∀ x ∈ ws, refOk fr.length x) →
    ∃ l, Cp fr tl i (wordsS fr s ws) (todo ++ l) ∧ (∀ q, q ∈ todo ++ l ↔ q ∈ todo ∨ ∃ x ∈ ws, x.tag = 4 ∧ q = x.num.toNat) ∧ Ext s (wordsS fr s ws) ∧ wordsW fr s ws = ws.map (mvW (wordsS fr s ws))
  | [], s, todo, h, _ => ⟨[], by rw [List.append_nil]; exact h, fun q => by simp, Ext.refl s, rfl⟩
  | x :: ws, s, todo, h, hw => by
    have hx := hw x (by simp)
    obtain ⟨l1, h1, m1⟩ := h.move hx
    obtain ⟨l2, h2, m2, e2, w2⟩ := Cp.words ws _ _ h1 (fun y hy => hw y (by simp [hy]))
    refine ⟨l1 ++ l2, by rw [← List.append_assoc]; exact h2, fun q => ?_, (move_ext fr s x).trans e2, ?_⟩
    · rw [← List.append_assoc, m2, m1]
      constructor
      · rintro ((hq | ⟨ht, rfl⟩) | ⟨y, hy, ht, rfl⟩)
        · exact Or.inl hq
        · exact Or.inr ⟨x, by simp, ht, rfl⟩
        · exact Or.inr ⟨y, by simp [hy], ht, rfl⟩
      · rintro (hq | ⟨y, hy, ht, rfl⟩)
        · exact Or.inl (Or.inl hq)
        · rcases List.mem_cons.1 hy with rfl | hy
          · exact Or.inl (Or.inr ⟨ht, rfl⟩)
          · exact Or.inr ⟨y, hy, ht, rfl⟩
    · rw [wordsW, List.map_cons, w2, move_word]
      congr 1
      exact (e2.word (fun ht => move_mk fr s x (by rw [h.mvl]; exact hx) ht)).symm
theorem Cp.step {fr tl : List Ce} {i : Nat} {s : St} {todo : List Nat} {ws : List Wd} (h : Cp fr tl i s todo) (hrefs : ∀ c ∈ fr, refOk fr.length c.a ∧ refOk fr.length c.b) (hi : i < todo.length) (hs : ∀ q ∈ todo, Leads fr ws q) :
    ∃ l, Cp fr tl (i + 1) (stepS fr s (tl.length + i)) (todo ++ l) ∧ (∀ q ∈ todo ++ l, Leads fr ws q) ∧ Ext s (stepS fr s (tl.length + i)) := by
  have hit : todo[i]? = some todo[i] := List.getElem?_eq_getElem hi
  obtain ⟨hp, _⟩ := h.pl i _ hit
  have hto := h.raw i _ (Nat.le_refl _) hit
  have hcell : fr[todo[i]]? = some fr[todo[i]] := List.getElem?_eq_getElem hp
  have hg : s.to.getD (tl.length + i) ce0 = fr[todo[i]] := by rw [List.getD_eq_getElem?_getD, hto, hcell]; rfl
  obtain ⟨rA, rB⟩ := hrefs _ (List.getElem_mem hp)
  obtain ⟨l1, h1, m1⟩ := h.move rA
  obtain ⟨l2, h2, m2⟩ := h1.move rB
  have E1 := move_ext fr s fr[todo[i]].a
  have E2 := move_ext fr (moveS fr s fr[todo[i]].a) fr[todo[i]].b
  have MA : fr[todo[i]].a.tag = 4 → Mk (moveS fr s fr[todo[i]].a) fr[todo[i]].a.num.toNat := fun ht => move_mk fr s _ (by rw [h.mvl]; exact rA) ht
  have MB : fr[todo[i]].b.tag = 4 → Mk (moveS fr (moveS fr s fr[todo[i]].a) fr[todo[i]].b) fr[todo[i]].b.num.toNat := fun ht => move_mk fr _ _ (by rw [h1.mvl]; exact rB) ht
  have hl : Leads fr ws todo[i] := hs _ (List.getElem_mem hi)
  generalize hc0 : fr[todo[i]] = c at *
  have eA : moveW fr s c.a = mvW (moveS fr (moveS fr s c.a) c.b) c.a := by rw [move_word]; exact (E2.word MA).symm
  have eB : moveW fr (moveS fr s c.a) c.b = mvW (moveS fr (moveS fr s c.a) c.b) c.b := move_word _ _ _
  have eS : stepS fr s (tl.length + i) = ⟨(moveS fr (moveS fr s c.a) c.b).to.set (tl.length + i) (mvC (moveS fr (moveS fr s c.a) c.b) c), (moveS fr (moveS fr s c.a) c.b).mv⟩ := by
    unfold mvC
    rw [← eA, ← eB]
    unfold stepS
    rw [hg]
  rw [eS]
  generalize moveS fr (moveS fr s c.a) c.b = s2 at *
  rw [List.append_assoc] at h2 m2
  have hlen2 := h2.len
  have hall : ∀ q, q ∈ todo ++ (l1 ++ l2) ↔ (q ∈ todo ∨ (c.a.tag = 4 ∧ q = c.a.num.toNat)) ∨ (c.b.tag = 4 ∧ q = c.b.num.toNat) := fun q => by rw [m2, m1]
  refine ⟨l1 ++ l2, ⟨by simp; omega, by rw [List.length_set]; exact h2.len, h2.mvl, h2.pl, h2.mem, fun j q hij hj => ?_, fun j q c' hj hjq hc => ?_, fun j hj => ?_⟩, fun q hq => ?_, E1.trans E2⟩
  · show (s2.to.set _ _)[tl.length + j]? = _
    rw [List.getElem?_set_ne (by omega)]
    exact h2.raw j q (by omega) hj
  · show (s2.to.set _ _)[tl.length + j]? = _ ∧ _
    by_cases e : j = i
    · subst e
      rw [List.getElem?_append_left hi, hit] at hjq
      cases hjq
      rw [hcell] at hc
      cases hc
      refine ⟨?_, fun x hx ht => ?_⟩
      · rw [List.getElem?_set_self (by rw [hlen2]; simp; omega)]
        rfl
      · rcases hx with rfl | rfl
        · exact (E2 _ (MA ht)).1
        · exact MB ht
    · rw [List.getElem?_set_ne (by omega)]
      exact h2.done j q c' (by omega) hjq hc
  · show (s2.to.set _ _)[j]? = _
    rw [List.getElem?_set_ne (by omega)]
    exact h2.old j hj
  · rw [hall] at hq
    rcases hq with (hq | ⟨ht, rfl⟩) | ⟨ht, rfl⟩
    · exact hs q hq
    · exact .next _ _ hl hcell _ (Or.inl rfl) ht
    · exact .next _ _ hl hcell _ (Or.inr rfl) ht
theorem Cp.loop {fr tl : List Ce} {ws : List Wd} (hrefs : ∀ c ∈ fr, refOk fr.length c.a ∧ refOk fr.length c.b) : ∀ (n : Nat) (s : St) (i : Nat) (todo : List Nat), Cp fr tl i s todo → Inv fr tl.length (tl.length + i) s → fr.length + 1 ≤ n + i → (∀ q ∈ todo, Leads fr ws q) →
    ∃ l, Cp fr tl (todo ++ l).length (loopS fr n s (tl.length + i)) (todo ++ l) ∧ (∀ q ∈ todo ++ l, Leads fr ws q) ∧ Ext s (loopS fr n s (tl.length + i))
  | 0, s, i, todo, h, hI, hn, hs => by
    have h1 := hI.le
    have h2 := h.len
    have h3 := h.le
    omega
  | n + 1, s, i, todo, h, hI, hn, hs => by
    have hlen := h.len
    by_cases hi : i < todo.length
    · rw [loopS_step (by omega)]
      obtain ⟨l1, h1, s1, e1⟩ := h.step hrefs hi hs
      obtain ⟨l2, h2, s2, e2⟩ := Cp.loop hrefs n _ (i + 1) _ h1 (hI.step hrefs (by omega)) (by omega) s1
      rw [List.append_assoc] at h2 s2
      exact ⟨l1 ++ l2, h2, s2, e1.trans e2⟩
    · rw [loopS_end (by omega)]
      have e : i = todo.length := by have := h.le; omega
      subst e
      exact ⟨[], by rw [List.append_nil]; exact h, by simpa using hs, Ext.refl s⟩
/-- All that was copied, and where the words went. -/
theorem copy_cp {cs tl : List Ce} {ws : List Wd} (hrefs : ∀ c ∈ cs, refOk cs.length c.a ∧ refOk cs.length c.b) (hw : ∀ x ∈ ws, refOk cs.length x) :
    ∃ todo, Cp cs tl todo.length (copyS cs tl ws) todo ∧ (∀ q, Mk (copyS cs tl ws) q ↔ Leads cs ws q) ∧ wordsW cs (st0 cs tl) ws = ws.map (mvW (copyS cs tl ws)) := by
  have h0 : Cp cs tl 0 (st0 cs tl) [] := by
    refine ⟨Nat.le_refl _, by simp [st0], by simp [st0], fun j q hj => by simp at hj, fun q hq => ?_, fun j q _ hj => by simp at hj, fun j q c hj => by omega, fun j hj => by simp [st0]⟩
    unfold Mk st0 at hq
    simp only [List.getD_eq_getElem?_getD, List.getElem?_replicate] at hq
    split at hq <;> simp at hq
  obtain ⟨l1, h1, m1, e1, w1⟩ := Cp.words ws _ _ h0 hw
  have I1 : Inv cs tl.length (tl.length + 0) (wordsS cs (st0 cs tl) ws) := Inv.words hrefs ws _ (inv0 cs tl) hw
  obtain ⟨l2, h2, s2, e2⟩ := Cp.loop (ws := ws) hrefs (cs.length + 1) _ 0 _ h1 I1 (by omega)
    (fun q hq => by
      rw [m1] at hq
      rcases hq with hq | ⟨x, hx, ht, rfl⟩
      · simp at hq
      · exact .first x hx ht)
  have hcs : loopS cs (cs.length + 1) (wordsS cs (st0 cs tl) ws) (tl.length + 0) = copyS cs tl ws := rfl
  rw [hcs] at h2 e2
  have hmk : ∀ x ∈ ws, x.tag = 4 → Mk (wordsS cs (st0 cs tl) ws) x.num.toNat := fun x hx ht => h1.mk_of (by rw [m1]; exact Or.inr ⟨x, hx, ht, rfl⟩)
  refine ⟨_, h2, fun q => ⟨fun h => s2 q (h2.mem q h), fun h => ?_⟩, ?_⟩
  · induction h with
    | first x hx ht => exact (e2 _ (hmk x hx ht)).1
    | next p c _ hc x hx ht ih =>
      obtain ⟨j, hj, hjp⟩ := List.getElem_of_mem (h2.mem p ih)
      exact (h2.done j p c hj (by rw [List.getElem?_eq_getElem hj, hjp]) hc).2 x hx ht
  · rw [w1]
    apply List.map_congr_left
    intro x hx
    exact (e2.word (hmk x hx)).symm
end Go.Proofs.YthikfinliiaecaaGreatDoor

