/-
  What words lead to: the places that were come to are just those to which words lead, by way of cells. Mathematics; no program is named here.
-/
import Derived.Test.YthikfinliiaecaaGreatDoorFgAll20
namespace Go.Proofs.YthikfinliiaecaaGreatDoor

/-- Words lead to a cell: at once, or by way of one to which they lead. -/
inductive Leads (cs : List Ce) (ws : List Wd) : Nat → Prop
  | first (x : Wd) (hx : x ∈ ws) (ht : x.tag = 4) : Leads cs ws x.num.toNat
  | next (p : Nat) (c : Ce) (h : Leads cs ws p) (hc : cs[p]? = some c) (x : Wd) (hx : x = c.a ∨ x = c.b) (ht : x.tag = 4) : Leads cs ws x.num.toNat

theorem Leads.mono {cs : List Ce} {ws vs : List Wd} {q : Nat} (h : Leads cs ws q) (hw : ∀ x ∈ ws, x.tag = 4 → Leads cs vs x.num.toNat) : Leads cs vs q := by
  induction h with
  | first x hx ht => exact hw x hx ht
  | next p c _ hc x hx ht ih => exact .next p c ih hc x hx ht
theorem Leads.one {cs : List Ce} {ws : List Wd} {q : Nat} (h : Leads cs ws q) : ∃ x ∈ ws, Leads cs [x] q := by
  induction h with
  | first x hx ht => exact ⟨x, hx, .first x (by simp) ht⟩
  | next p c _ hc x hx ht ih =>
    obtain ⟨y, hy, hl⟩ := ih
    exact ⟨y, hy, .next p c hl hc x hx ht⟩
theorem Leads.of_one {cs : List Ce} {ws : List Wd} {q : Nat} {x : Wd} (hx : x ∈ ws) (h : Leads cs [x] q) : Leads cs ws q :=
  h.mono fun y hy ht => by
    have e : y = x := by simpa using hy
    subst e
    exact .first y hx ht
/-- What the words of a cell lead to, words lead to that lead to it. -/
theorem Leads.of_cell {cs : List Ce} {ws : List Wd} {p q : Nat} {c : Ce} (hp : Leads cs ws p) (hc : cs[p]? = some c) (h : Leads cs [c.a, c.b] q) : Leads cs ws q :=
  h.mono fun y hy ht => .next p c hp hc y (by simpa using hy) ht

/-- A place was come to. -/
def Mk (s : St) (q : Nat) : Prop := 0 ≤ s.mv.getD q (-1)
theorem mk_set {s : St} {p q : Nat} {to : List Ce} {n : Nat} (hp : p < s.mv.length) : Mk ⟨to, s.mv.set p (n : Int)⟩ q ↔ Mk s q ∨ q = p := by
  unfold Mk
  simp only [List.getD_eq_getElem?_getD]
  by_cases e : q = p
  · subst e
    rw [List.getElem?_set_self hp]
    simp
  · rw [List.getElem?_set_ne (fun h => e h.symm)]
    simp [e]

/-- Which places were come to, in order. -/
structure Way (fr : List Ce) (i : Nat) (s : St) (todo : List Nat) : Prop where
  rel : RelT fr i s todo
  len : s.mv.length = fr.length
  mem : ∀ q, Mk s q ↔ q ∈ todo

theorem Way.come {fr : List Ce} {i p : Nat} {s : St} {todo : List Nat} (h : Way fr i s todo) (hp : p < fr.length) :
    ∃ l, Way fr i (comeS fr s p) (todo ++ l) ∧ ∀ q, q ∈ todo ++ l ↔ q ∈ todo ∨ q = p := by
  have hpl : p < s.mv.length := by rw [h.len]; exact hp
  have hg : s.mv.getD p 0 = s.mv[p] := by rw [List.getD_eq_getElem?_getD, List.getElem?_eq_getElem hpl]; rfl
  have hg1 : s.mv.getD p (-1) = s.mv[p] := by rw [List.getD_eq_getElem?_getD, List.getElem?_eq_getElem hpl]; rfl
  have hf : fr.getD p ce0 = fr[p] := by rw [List.getD_eq_getElem?_getD, List.getElem?_eq_getElem hp]; rfl
  unfold comeS
  by_cases hn : s.mv.getD p 0 < 0
  · rw [if_pos hn, hf]
    refine ⟨[p], ⟨(come_rel h.rel hp hpl).1, by simp [h.len], fun q => ?_⟩, fun q => by simp⟩
    rw [mk_set hpl, h.mem]
    simp
  · rw [if_neg hn]
    refine ⟨[], by simpa using h, fun q => ?_⟩
    have hm : Mk s p := by unfold Mk; rw [hg1, ← hg]; omega
    have := (h.mem p).1 hm
    constructor
    · intro hq; exact Or.inl (by simpa using hq)
    · rintro (hq | rfl)
      · simpa using hq
      · simpa using this
theorem Way.move {fr : List Ce} {i : Nat} {s : St} {todo : List Nat} {x : Wd} (h : Way fr i s todo) (hx : refOk fr.length x) :
    ∃ l, Way fr i (moveS fr s x) (todo ++ l) ∧ ∀ q, q ∈ todo ++ l ↔ q ∈ todo ∨ (x.tag = 4 ∧ q = x.num.toNat) := by
  unfold moveS
  by_cases ht : x.tag = 4
  · rw [if_pos ht]
    have := hx ht
    obtain ⟨l, h1, h2⟩ := h.come (p := x.num.toNat) (by omega)
    exact ⟨l, h1, fun q => by rw [h2]; simp [ht]⟩
  · rw [if_neg ht]
    exact ⟨[], by simpa using h, fun q => by simp [ht]⟩
theorem Way.words {fr : List Ce} {i : Nat} : ∀ (ws : List Wd) (s : St) (todo : List Nat), Way fr i s todo → (∀ x ∈ ws, refOk fr.length x) →
    ∃ l, Way fr i (wordsS fr s ws) (todo ++ l) ∧ ∀ q, q ∈ todo ++ l ↔ q ∈ todo ∨ ∃ x ∈ ws, x.tag = 4 ∧ q = x.num.toNat
  | [], s, todo, h, _ => ⟨[], by rw [List.append_nil]; exact h, fun q => by simp⟩
  | x :: ws, s, todo, h, hw => by
    obtain ⟨l1, h1, m1⟩ := h.move (hw x (by simp))
    obtain ⟨l2, h2, m2⟩ := Way.words ws _ _ h1 (fun y hy => hw y (by simp [hy]))
    refine ⟨l1 ++ l2, by rw [← List.append_assoc]; exact h2, fun q => ?_⟩
    rw [← List.append_assoc, m2, m1]
    constructor
    · rintro ((hq | ⟨ht, rfl⟩) | ⟨y, hy, ht, rfl⟩)
      · exact Or.inl hq
      · exact Or.inr ⟨x, by simp, ht, rfl⟩
      · exact Or.inr ⟨y, by simp [hy], ht, rfl⟩
    · rintro (hq | ⟨y, hy, ht, rfl⟩)
      · exact Or.inl (Or.inl hq)
      · rcases List.mem_cons.1 hy with rfl | hy
        · exact Or.inl (Or.inr ⟨ht, rfl⟩)
        · exact Or.inr ⟨y, hy, ht, rfl⟩
/-- What the cells of the first i places lead to was come to. -/
def Shut (fr : List Ce) (i : Nat) (todo : List Nat) : Prop := ∀ (j p : Nat) (c : Ce), j < i → todo[j]? = some p → fr[p]? = some c → ∀ x, x = c.a ∨ x = c.b → x.tag = 4 → x.num.toNat ∈ todo
theorem Way.step {fr : List Ce} {i : Nat} {s : St} {todo : List Nat} {ws : List Wd} (h : Way fr i s todo) (hrefs : ∀ c ∈ fr, refOk fr.length c.a ∧ refOk fr.length c.b) (hi : i < s.to.length)
    (hs : ∀ q ∈ todo, Leads fr ws q) (hc : Shut fr i todo) :
    ∃ l, Way fr (i + 1) (stepS fr s i) (todo ++ l) ∧ (∀ q ∈ todo ++ l, Leads fr ws q) ∧ Shut fr (i + 1) (todo ++ l) := by
  have hit : i < todo.length := by rw [h.rel.len]; exact hi
  obtain ⟨hp, hto⟩ := h.rel.at' i hit (Nat.le_refl _)
  have hg : s.to.getD i ce0 = fr[todo[i]] := by rw [List.getD_eq_getElem?_getD, hto, List.getElem?_eq_getElem hp]; rfl
  obtain ⟨rA, rB⟩ := hrefs _ (List.getElem_mem hp)
  obtain ⟨l1, h1, m1⟩ := h.move rA
  obtain ⟨l2, h2, m2⟩ := h1.move rB
  have hl : Leads fr ws todo[i] := hs _ (List.getElem_mem hit)
  have hcell : fr[todo[i]]? = some fr[todo[i]] := List.getElem?_eq_getElem hp
  refine ⟨l1 ++ l2, ?_, ?_, ?_⟩
  · rw [← List.append_assoc]
    unfold stepS
    rw [hg]
    exact ⟨step_rel h2.rel, h2.len, h2.mem⟩
  · intro q hq
    rw [← List.append_assoc, m2, m1] at hq
    rcases hq with (hq | ⟨ht, rfl⟩) | ⟨ht, rfl⟩
    · exact hs q hq
    · exact .next _ _ hl hcell _ (Or.inl rfl) ht
    · exact .next _ _ hl hcell _ (Or.inr rfl) ht
  · intro j p c hj hjp hpc x hx ht
    rw [← List.append_assoc, m2, m1]
    rw [List.getElem?_append_left (by omega)] at hjp
    by_cases e : j = i
    · subst e
      rw [List.getElem?_eq_getElem hit] at hjp
      cases hjp
      rw [hcell] at hpc
      cases hpc
      rcases hx with rfl | rfl
      · exact Or.inl (Or.inr ⟨ht, rfl⟩)
      · exact Or.inr ⟨ht, rfl⟩
    · exact Or.inl (Or.inl (hc j p c (by omega) hjp hpc x hx ht))
theorem Way.loop {fr : List Ce} {ws : List Wd} (hrefs : ∀ c ∈ fr, refOk fr.length c.a ∧ refOk fr.length c.b) : ∀ (n : Nat) (s : St) (i : Nat) (todo : List Nat), Way fr i s todo → Inv fr 0 i s → fr.length + 1 ≤ n + i → (∀ q ∈ todo, Leads fr ws q) → Shut fr i todo →
    ∃ l i', Way fr i' (loopS fr n s i) (todo ++ l) ∧ (∀ q ∈ todo ++ l, Leads fr ws q) ∧ Shut fr i' (todo ++ l) ∧ (todo ++ l).length ≤ i'
  | 0, s, i, todo, h, hI, hn, hs, hc => ⟨[], i, by rw [List.append_nil]; exact h, by simpa using hs, by simpa using hc, by have := hI.le; have := h.rel.len; simp; omega⟩
  | n + 1, s, i, todo, h, hI, hn, hs, hc => by
    by_cases hi : i < s.to.length
    · rw [loopS_step hi]
      obtain ⟨l1, h1, s1, c1⟩ := h.step hrefs hi hs hc
      obtain ⟨l2, i', h2, s2, c2, e2⟩ := Way.loop hrefs n _ (i + 1) _ h1 (hI.step hrefs hi) (by omega) s1 c1
      rw [List.append_assoc] at h2 s2 c2 e2
      exact ⟨l1 ++ l2, i', h2, s2, c2, e2⟩
    · rw [loopS_end hi]
      exact ⟨[], i, by simpa using h, by simpa using hs, by simpa using hc, by have := h.rel.len; simp; omega⟩

theorem mk_in {s : St} {q : Nat} : (inM s).getD q false = true ↔ Mk s q := by
  unfold inM Mk
  simp only [List.getD_eq_getElem?_getD, List.getElem?_map]
  cases s.mv[q]? <;> simp
theorem taken_mem {l : List Bool} {q : Nat} : q ∈ takenM l ↔ l.getD q false = true := by
  unfold takenM takenTo
  rw [List.mem_filter, List.mem_range]
  constructor
  · exact fun h => h.2
  · intro h
    refine ⟨?_, h⟩
    apply Decidable.byContradiction
    intro hl
    rw [List.getD_eq_getElem?_getD, List.getElem?_eq_none (by omega)] at h
    simp at h
/-- The places that were come to are just those to which the words lead. -/
theorem copy_leads {cs : List Ce} {ws : List Wd} (hrefs : ∀ c ∈ cs, refOk cs.length c.a ∧ refOk cs.length c.b) (hw : ∀ x ∈ ws, refOk cs.length x) (q : Nat) :
    (inM (copyS cs [] ws)).getD q false = true ↔ Leads cs ws q := by
  have h0 : Way cs 0 (st0 cs []) [] := by
    refine ⟨⟨rfl, fun j hj => by simp at hj⟩, by simp [st0], fun q => ?_⟩
    unfold Mk st0
    simp only [List.getD_eq_getElem?_getD, List.getElem?_replicate]
    split <;> simp
  obtain ⟨l1, h1, m1⟩ := Way.words ws _ _ h0 hw
  have I1 : Inv cs 0 0 (wordsS cs (st0 cs []) ws) := Inv.words hrefs ws _ (inv0 cs []) hw
  obtain ⟨l2, i', h2, s2, c2, e2⟩ := Way.loop (ws := ws) hrefs (cs.length + 1) _ 0 _ h1 I1 (by omega)
    (fun q hq => by
      rw [m1] at hq
      rcases hq with hq | ⟨x, hx, ht, rfl⟩
      · simp at hq
      · exact .first x hx ht)
    (fun j p c hj => by omega)
  rw [mk_in]
  show Mk (loopS cs (cs.length + 1) (wordsS cs (st0 cs []) ws) 0) q ↔ _
  rw [h2.mem]
  constructor
  · exact fun h => s2 q h
  · intro h
    induction h with
    | first x hx ht =>
      have : x.num.toNat ∈ [] ++ l1 := by rw [m1]; exact Or.inr ⟨x, hx, ht, rfl⟩
      exact List.mem_append_left _ this
    | next p c _ hc x hx ht ih =>
      obtain ⟨j, hj, hjp⟩ := List.getElem_of_mem ih
      exact c2 j p c (by omega) (by rw [List.getElem?_eq_getElem hj, hjp]) hc x hx ht
theorem taken_sorted (l : List Bool) : (takenM l).Pairwise (· < ·) := by
  unfold takenM takenTo
  exact List.Pairwise.filter _ List.pairwise_lt_range
theorem taken_count (l : List Bool) : (takenM l).length = l.countP id := by
  suffices h : ∀ k, k ≤ l.length → (takenTo l k).length = (l.take k).countP id by
    have := h l.length (Nat.le_refl _)
    rw [List.take_length] at this
    exact this
  intro k
  induction k with
  | zero => intro _; simp [takenTo_zero]
  | succ k ih =>
    intro hk
    rw [takenTo_next l k (by omega), List.length_append, ih (by omega), List.take_succ_eq_append_getElem (by omega), List.countP_append]
    cases l[k] <;> simp
theorem taken_lt {l : List Bool} {q : Nat} (h : q ∈ takenM l) : q < l.length := by
  unfold takenM takenTo at h
  rw [List.mem_filter, List.mem_range] at h
  exact h.1
/-- Two rows of truths that are as long, and true at the same places, are the same. -/
theorem bools_ext {l k : List Bool} (hl : l.length = k.length) (h : ∀ q, l.getD q false = true ↔ k.getD q false = true) : l = k := by
  apply List.ext_getElem hl
  intro i h1 h2
  have := h i
  rw [List.getD_eq_getElem?_getD, List.getD_eq_getElem?_getD, List.getElem?_eq_getElem h1, List.getElem?_eq_getElem h2] at this
  simp only [Option.getD_some] at this
  cases e1 : l[i] <;> cases e2 : k[i] <;> simp_all
end Go.Proofs.YthikfinliiaecaaGreatDoor

