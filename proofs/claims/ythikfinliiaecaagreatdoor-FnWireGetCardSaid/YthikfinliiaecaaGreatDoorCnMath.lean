/-
  What was cleaned stays as it is when it is cleaned again: the places are come to in the order in which they lie. Mathematics; no program is named here.
-/
import Derived.Test.YthikfinliiaecaaGreatDoorCpTop
namespace Go.Proofs.YthikfinliiaecaaGreatDoor

/-- As many places as were come to, each where it lies, of n. -/
def marks (n k : Nat) : List Int := (List.range n).map (fun j => if j < k then (j : Int) else -1)
theorem marks_len (n k : Nat) : (marks n k).length = n := by unfold marks; simp
theorem marks_at {n k j : Nat} (h : j < n) : (marks n k).getD j 0 = if j < k then (j : Int) else -1 := by
  unfold marks
  rw [List.getD_eq_getElem?_getD, List.getElem?_map, List.getElem?_range h]
  rfl
theorem marks_set {n k : Nat} (h : k < n) : (marks n k).set k (k : Int) = marks n (k + 1) := by
  apply List.ext_getElem?
  intro j
  by_cases e : k = j
  · subst e
    rw [List.getElem?_set_self (by rw [marks_len]; exact h)]
    unfold marks
    rw [List.getElem?_map, List.getElem?_range h]
    simp
  · rw [List.getElem?_set_ne e]
    unfold marks
    rw [List.getElem?_map, List.getElem?_map]
    by_cases hj : j < n
    · rw [List.getElem?_range hj]
      simp only [Option.map_some, Option.some.injEq]
      by_cases h1 : j < k
      · rw [if_pos h1, if_pos (by omega)]
      · rw [if_neg h1, if_neg (by omega)]
    · rw [List.getElem?_eq_none (by simp; omega)]
      rfl
theorem marks_zero (n : Nat) : marks n 0 = List.replicate n (-1) := by
  unfold marks
  apply List.ext_getElem?
  intro j
  rw [List.getElem?_map]
  by_cases hj : j < n
  · rw [List.getElem?_range hj, List.getElem?_replicate, if_pos hj]
    simp
  · rw [List.getElem?_eq_none (by simp; omega), List.getElem?_eq_none (by simp; omega)]
    rfl

/-- The one copying, and the one of what will come of it. -/
structure Lk (F s s' : St) : Prop where
  le : s.to.length ≤ F.to.length
  to : s'.to = F.to.take s.to.length
  mv : s'.mv = marks F.to.length s.to.length
theorem st_eq {a b : St} (h1 : a.to = b.to) (h2 : a.mv = b.mv) : a = b := by
  cases a; cases b; cases h1; cases h2; rfl

section
variable {fr : List Ce} {F : St}
/-- A place that is come to: where it will be is where the copy of it lies. -/
theorem Lk.come {i p : Nat} {s s' : St} {todo : List Nat} (h : Lk F s s') (hC : Cp fr [] i s todo) (hp : p < fr.length) (hE : Ext (comeS fr s p) F) (hl : (comeS fr s p).to.length ≤ F.to.length) :
    Lk F (comeS fr s p) (comeS F.to s' (F.mv.getD p 0).toNat) ∧ placeS F.to s' (F.mv.getD p 0).toNat = F.mv.getD p 0 := by
  have hpl : p < s.mv.length := by rw [hC.mvl]; exact hp
  have hF := (hE p (come_mk fr s p hpl)).2
  unfold placeS
  by_cases hn : s.mv.getD p 0 < 0
  · have e : comeS fr s p = ⟨s.to ++ [fr.getD p ce0], s.mv.set p s.to.length⟩ := by unfold comeS; rw [if_pos hn]
    have hm : F.mv.getD p 0 = (s.to.length : Int) := by
      rw [hF, e]
      show (s.mv.set p _).getD p 0 = _
      rw [List.getD_eq_getElem?_getD, List.getElem?_set_self hpl]
      rfl
    rw [e] at hl ⊢
    have hlt : s.to.length < F.to.length := by simp at hl; omega
    rw [hm, Int.toNat_natCast]
    have e' : comeS F.to s' s.to.length = ⟨F.to.take (s.to.length + 1), marks F.to.length (s.to.length + 1)⟩ := by
      unfold comeS
      rw [h.mv, marks_at hlt, if_neg (Nat.lt_irrefl _), if_pos (by decide)]
      apply st_eq
      · show s'.to ++ [F.to.getD s.to.length ce0] = F.to.take (s.to.length + 1)
        rw [h.to, List.take_succ_eq_append_getElem hlt, List.getD_eq_getElem?_getD, List.getElem?_eq_getElem hlt]
        rfl
      · show (marks F.to.length s.to.length).set s.to.length (s'.to.length : Int) = marks F.to.length (s.to.length + 1)
        have : s'.to.length = s.to.length := by rw [h.to, List.length_take]; omega
        rw [this, marks_set hlt]
    rw [e']
    refine ⟨⟨by simpa using hl, by simp, by simp⟩, ?_⟩
    show (marks F.to.length (s.to.length + 1)).getD s.to.length 0 = _
    rw [marks_at hlt, if_pos (by omega)]
  · have e : comeS fr s p = s := by unfold comeS; rw [if_neg hn]
    rw [e] at hF hl ⊢
    have hk : Mk s p := by
      unfold Mk
      rw [List.getD_eq_getElem?_getD, List.getElem?_eq_getElem hpl] at hn ⊢
      simp only [Option.getD_some] at *
      omega
    obtain ⟨j, hj, hjq⟩ := List.getElem_of_mem (hC.mem p hk)
    obtain ⟨_, h2⟩ := hC.pl j p (by rw [List.getElem?_eq_getElem hj, hjq])
    have hm : F.mv.getD p 0 = (j : Int) := by
      rw [hF, List.getD_eq_getElem?_getD, h2]
      simp
    have hjl : j < s.to.length := by have := hC.len; simp at this; omega
    have hjF : j < F.to.length := by omega
    rw [hm, Int.toNat_natCast]
    have hg : (marks F.to.length s.to.length).getD j 0 = (j : Int) := by rw [marks_at hjF, if_pos hjl]
    have e' : comeS F.to s' j = s' := by
      unfold comeS
      rw [h.mv, hg, if_neg (by omega)]
    rw [e', h.mv, hg]
    exact ⟨h, rfl⟩
theorem Lk.move {i : Nat} {s s' : St} {todo : List Nat} {x : Wd} (h : Lk F s s') (hC : Cp fr [] i s todo) (hx : refOk fr.length x) (hE : Ext (moveS fr s x) F) (hl : (moveS fr s x).to.length ≤ F.to.length) :
    Lk F (moveS fr s x) (moveS F.to s' (mvW F x)) ∧ moveW F.to s' (mvW F x) = mvW F x := by
  by_cases ht : x.tag = 4
  · have e1 : moveS fr s x = comeS fr s x.num.toNat := by unfold moveS; rw [if_pos ht]
    have e2 : mvW F x = ⟨4, F.mv.getD x.num.toNat 0⟩ := by unfold mvW; rw [if_pos ht]
    rw [e1] at hE hl ⊢
    have := hx ht
    obtain ⟨h1, h2⟩ := h.come hC (p := x.num.toNat) (by omega) hE hl
    rw [e2]
    refine ⟨?_, ?_⟩
    · unfold moveS
      rw [if_pos rfl]
      exact h1
    · unfold moveW
      rw [if_pos rfl]
      show (⟨4, placeS F.to s' (F.mv.getD x.num.toNat 0).toNat⟩ : Wd) = _
      rw [h2]
  · have e1 : moveS fr s x = s := by unfold moveS; rw [if_neg ht]
    have e2 : mvW F x = x := by unfold mvW; rw [if_neg ht]
    rw [e1, e2]
    refine ⟨?_, ?_⟩
    · unfold moveS; rw [if_neg ht]; exact h
    · unfold moveW; rw [if_neg ht]
theorem words_len : ∀ (ws : List Wd) (s : St), s.to.length ≤ (wordsS fr s ws).to.length
  | [], _ => Nat.le_refl _
  | x :: ws, s => Nat.le_trans (move_len (fr := fr) (s := s) (w := x)) (words_len ws _)
theorem Lk.words {i : Nat} : ∀ (ws : List Wd) (s s' : St) (todo : List Nat), Lk F s s' → Cp fr [] i s todo → (∀ x ∈ ws, refOk fr.length x) → Ext (wordsS fr s ws) F → (wordsS fr s ws).to.length ≤ F.to.length →
    Lk F (wordsS fr s ws) (wordsS F.to s' (ws.map (mvW F))) ∧ wordsW F.to s' (ws.map (mvW F)) = ws.map (mvW F)
  | [], s, s', todo, h, _, _, _, _ => ⟨h, rfl⟩
  | x :: ws, s, s', todo, h, hC, hw, hE, hl => by
    have hx := hw x (by simp)
    obtain ⟨l1, h1, _⟩ := hC.move hx
    obtain ⟨_, _, _, e2, _⟩ := Cp.words ws _ _ h1 (fun y hy => hw y (by simp [hy]))
    have hl1 := words_len (fr := fr) ws (moveS fr s x)
    have hE' : Ext (wordsS fr (moveS fr s x) ws) F := hE
    have hl' : (wordsS fr (moveS fr s x) ws).to.length ≤ F.to.length := hl
    obtain ⟨k1, k2⟩ := h.move hC hx (e2.trans hE') (by omega)
    obtain ⟨m1, m2⟩ := Lk.words ws _ _ _ k1 h1 (fun y hy => hw y (by simp [hy])) hE' hl'
    rw [List.map_cons]
    refine ⟨m1, ?_⟩
    rw [wordsW, k2, m2]
theorem Lk.step {i : Nat} {s s' : St} {todo todoF : List Nat} {ws : List Wd} (h : Lk F s s') (hC : Cp fr [] i s todo) (hF : Cp fr [] todoF.length F todoF) (hrefs : ∀ c ∈ fr, refOk fr.length c.a ∧ refOk fr.length c.b) (hi : i < todo.length)
    (hs : ∀ q ∈ todo, Leads fr ws q) (hE : Ext (stepS fr s i) F) (hl : (stepS fr s i).to.length ≤ F.to.length) : Lk F (stepS fr s i) (stepS F.to s' i) := by
  have hit : todo[i]? = some todo[i] := List.getElem?_eq_getElem hi
  obtain ⟨hp, hpm⟩ := hC.pl i _ hit
  have hto := hC.raw i _ (Nat.le_refl _) hit
  have hcell : fr[todo[i]]? = some fr[todo[i]] := List.getElem?_eq_getElem hp
  have hg : s.to.getD i ce0 = fr[todo[i]] := by
    have hto' : s.to[i]? = fr[todo[i]]? := by simpa using hto
    rw [List.getD_eq_getElem?_getD, hto', hcell]
    rfl
  obtain ⟨rA, rB⟩ := hrefs _ (List.getElem_mem hp)
  obtain ⟨l1, h1, _⟩ := hC.move rA
  obtain ⟨l2, h2, _⟩ := h1.move rB
  have hlen := hC.len
  simp at hlen
  obtain ⟨l3, h3, _, e3⟩ := hC.step (ws := ws) hrefs hi hs
  simp only [List.length_nil, Nat.zero_add] at h3 e3
  -- what lies at i in the end
  have hmk : Mk s todo[i] := hC.mk_of (List.getElem_mem hi)
  have hmkF := (e3.trans hE) _ hmk
  have hplace : F.mv.getD todo[i] 0 = (i : Int) := by
    rw [hmkF.2, List.getD_eq_getElem?_getD, hpm]
    simp
  obtain ⟨j, c, hj, _, hjm, hc, hFc, _⟩ := cp_at hF hmkF.1
  have hij : j = i := by
    have : ((([] : List Ce).length + j : Nat) : Int) = (i : Int) := by rw [← hjm, hplace]
    simp only [List.length_nil, Nat.zero_add] at this
    omega
  subst hij
  simp only [List.length_nil, Nat.zero_add] at hFc
  rw [hcell] at hc
  have hc' := Option.some.inj hc
  have hlF := (List.getElem?_eq_some_iff.1 hFc).1
  have hg' : s'.to.getD j ce0 = mvC F c := by
    rw [h.to, List.getD_eq_getElem?_getD, List.getElem?_take, if_pos (by omega), hFc]
    rfl
  have ES : stepS fr s j = ⟨(moveS fr (moveS fr s c.a) c.b).to.set j ⟨c.kind, c.num, moveW fr s c.a, moveW fr (moveS fr s c.a) c.b⟩, (moveS fr (moveS fr s c.a) c.b).mv⟩ := by
    unfold stepS
    rw [hg, hc']
  rw [hc'] at h1 h2 rA rB
  have hEx : Ext (moveS fr (moveS fr s c.a) c.b) F := fun q hq => by
    have : Mk (stepS fr s j) q := by rw [ES]; exact hq
    have h9 := hE q this
    rw [ES] at h9
    exact h9
  have hlx : (moveS fr (moveS fr s c.a) c.b).to.length ≤ F.to.length := by
    rw [ES] at hl
    simpa using hl
  have hla := move_len (fr := fr) (s := moveS fr s c.a) (w := c.b)
  obtain ⟨k1, m1⟩ := h.move hC rA ((move_ext fr (moveS fr s c.a) c.b).trans hEx) (by omega)
  obtain ⟨k2, m2⟩ := k1.move h1 rB hEx hlx
  have ES' : stepS F.to s' j = moveS F.to (moveS F.to s' (mvW F c.a)) (mvW F c.b) := by
    unfold stepS
    rw [hg']
    show (⟨(moveS F.to (moveS F.to s' (mvW F c.a)) (mvW F c.b)).to.set j ⟨c.kind, c.num, moveW F.to s' (mvW F c.a), moveW F.to (moveS F.to s' (mvW F c.a)) (mvW F c.b)⟩, _⟩ : St) = _
    rw [m1, m2]
    apply st_eq
    · show (moveS F.to (moveS F.to s' (mvW F c.a)) (mvW F c.b)).to.set j (mvC F c) = _
      apply List.ext_getElem?
      intro q
      by_cases e : j = q
      · subst e
        have hjt : j < (moveS F.to (moveS F.to s' (mvW F c.a)) (mvW F c.b)).to.length := by
          have ha := move_len (fr := fr) (s := s) (w := c.a)
          rw [k2.to, List.length_take]
          omega
        rw [List.getElem?_set_self hjt, k2.to, List.getElem?_take, if_pos (by have ha := move_len (fr := fr) (s := s) (w := c.a); omega), hFc]
      · rw [List.getElem?_set_ne e]
    · rfl
  rw [ES', ES]
  exact ⟨by simpa using hlx, by simpa using k2.to, by simpa using k2.mv⟩
theorem Lk.loop {ws : List Wd} {todoF : List Nat} (hF : Cp fr [] todoF.length F todoF) (hrefs : ∀ c ∈ fr, refOk fr.length c.a ∧ refOk fr.length c.b) : ∀ (n m : Nat) (s s' : St) (i : Nat) (todo : List Nat), Lk F s s' → Cp fr [] i s todo → Inv fr 0 i s → fr.length + 1 ≤ n + i → F.to.length + 1 ≤ m + i →
    (∀ q ∈ todo, Leads fr ws q) → loopS fr n s i = F → (loopS F.to m s' i).to = F.to
  | 0, m, s, s', i, todo, h, hC, hI, hn, hm, hs, he => by
    have h1 := hI.le
    have h2 := hC.len
    have h3 := hC.le
    simp at h2
    omega
  | n + 1, m, s, s', i, todo, h, hC, hI, hn, hm, hs, he => by
    have hlen := hC.len
    simp at hlen
    have hle := h.le
    have hls : s'.to.length = s.to.length := by rw [h.to, List.length_take]; omega
    by_cases hi : i < todo.length
    · rw [loopS_step (by omega)] at he
      obtain ⟨l1, h1, s1, e1⟩ := hC.step hrefs hi hs
      simp only [List.length_nil, Nat.zero_add] at h1 e1
      have hI1 := hI.step hrefs (i := i) (by omega)
      obtain ⟨l2, h2, _, e2⟩ := Cp.loop (ws := ws) hrefs n _ (i + 1) _ h1 (by simpa using hI1) (by omega) s1
      simp only [List.length_nil, Nat.zero_add] at h2 e2
      rw [he] at h2 e2
      have hll : (stepS fr s i).to.length ≤ F.to.length := by
        have a := h1.len
        have b := h2.len
        simp at a b
        omega
      have hk := h.step hC hF hrefs hi hs e2 hll
      cases m with
      | zero => omega
      | succ m =>
        rw [loopS_step (fr := F.to) (s := s') (by omega)]
        exact Lk.loop hF hrefs n m _ _ (i + 1) _ hk h1 hI1 (by omega) (by omega) s1 he
    · rw [loopS_end (by omega)] at he
      rw [loopS_end (fr := F.to) (s := s') (by omega)]
      subst he
      rw [h.to, List.take_length]
end
/-- Cleaned again all stays. -/
theorem copy_again {cs : List Ce} {ws : List Wd} (hrefs : ∀ c ∈ cs, refOk cs.length c.a ∧ refOk cs.length c.b) (hw : ∀ x ∈ ws, refOk cs.length x) :
    (copyS (copyS cs [] ws).to [] (wordsW cs (st0 cs []) ws)).to = (copyS cs [] ws).to ∧ wordsW (copyS cs [] ws).to (st0 (copyS cs [] ws).to []) (wordsW cs (st0 cs []) ws) = wordsW cs (st0 cs []) ws := by
  obtain ⟨todoF, hF, _, hW⟩ := copy_cp (tl := []) hrefs hw
  rw [hW]
  have h0 : Cp cs [] 0 (st0 cs []) [] := by
    refine ⟨Nat.le_refl _, by simp [st0], by simp [st0], fun j q hj => by simp at hj, fun q hq => ?_, fun j q _ hj => by simp at hj, fun j q c hj => by omega, fun j hj => by simp at hj⟩
    unfold Mk st0 at hq
    simp only [List.getD_eq_getElem?_getD, List.getElem?_replicate] at hq
    split at hq <;> simp at hq
  obtain ⟨l1, h1, m1, e1, w1⟩ := Cp.words ws _ _ h0 hw
  have I1 : Inv cs 0 0 (wordsS cs (st0 cs []) ws) := Inv.words hrefs ws _ (inv0 cs []) hw
  have hs1 : ∀ q ∈ [] ++ l1, Leads cs ws q := fun q hq => by
    rw [m1] at hq
    rcases hq with hq | ⟨x, hx, ht, rfl⟩
    · simp at hq
    · exact .first x hx ht
  have hcs : loopS cs (cs.length + 1) (wordsS cs (st0 cs []) ws) 0 = copyS cs [] ws := rfl
  obtain ⟨l2, h2, _, e2⟩ := Cp.loop (ws := ws) hrefs (cs.length + 1) _ 0 _ h1 (by simpa using I1) (by omega) hs1
  simp only [List.length_nil, Nat.zero_add] at h2 e2
  rw [hcs] at h2 e2
  have hl : (wordsS cs (st0 cs []) ws).to.length ≤ (copyS cs [] ws).to.length := by
    have a := h1.len
    have b := h2.len
    simp at a b
    omega
  generalize hFe : copyS cs [] ws = F at *
  have hk0 : Lk F (st0 cs []) (st0 F.to []) := by
    refine ⟨by simp [st0], by simp [st0], ?_⟩
    show List.replicate F.to.length (-1) = marks F.to.length 0
    exact (marks_zero _).symm
  obtain ⟨k1, k2⟩ := Lk.words ws _ _ _ hk0 h0 hw e2 hl
  refine ⟨?_, k2⟩
  exact (Lk.loop (ws := ws) hF hrefs (cs.length + 1) (F.to.length + 1) _ _ 0 _ k1 h1 I1 (by omega) (by omega) hs1 hcs)
end Go.Proofs.YthikfinliiaecaaGreatDoor

