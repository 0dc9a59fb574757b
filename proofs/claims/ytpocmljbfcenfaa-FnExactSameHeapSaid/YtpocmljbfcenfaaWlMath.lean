/-
  Copying cells, each once, behind others, as they are come to: mathematics. No program is named here.
-/
import Derived.Test.YtpocmljbfcenfaaCeWords
namespace Go.Proofs.Ytpocmljbfcenfaa

/-- No cell. -/
def ce0 : Ce := ⟨0, 0, ⟨0, 0⟩, ⟨0, 0⟩⟩
/-- What was copied so far, and where each went, below 0 if it did not. -/
structure St where
  to : List Ce
  mv : List Int
/-- The cell of a place is come to. -/
def comeS (fr : List Ce) (s : St) (p : Nat) : St := if s.mv.getD p 0 < 0 then ⟨s.to ++ [fr.getD p ce0], s.mv.set p s.to.length⟩ else s
/-- Where it went. -/
def placeS (fr : List Ce) (s : St) (p : Nat) : Int := (comeS fr s p).mv.getD p 0
/-- A word is copied. -/
def moveS (fr : List Ce) (s : St) (w : Wd) : St := if w.tag = 4 then comeS fr s w.num.toNat else s
def moveW (fr : List Ce) (s : St) (w : Wd) : Wd := if w.tag = 4 then ⟨4, placeS fr s w.num.toNat⟩ else w
/-- The words of the cell that was copied to a place are copied. -/
def stepS (fr : List Ce) (s : St) (i : Nat) : St :=
  let c := s.to.getD i ce0
  let s1 := moveS fr s c.a
  let s2 := moveS fr s1 c.b
  ⟨s2.to.set i ⟨c.kind, c.num, moveW fr s c.a, moveW fr s1 c.b⟩, s2.mv⟩
/-- And so on, as long as there are some. -/
def loopS (fr : List Ce) : Nat → St → Nat → St
  | 0, s, _ => s
  | n + 1, s, i => if i < s.to.length then loopS fr n (stepS fr s i) (i + 1) else s
/-- Words are copied, one by one. -/
def wordsS (fr : List Ce) (s : St) : List Wd → St
  | [] => s
  | w :: l => wordsS fr (moveS fr s w) l
def wordsW (fr : List Ce) (s : St) : List Wd → List Wd
  | [] => []
  | w :: l => moveW fr s w :: wordsW fr (moveS fr s w) l
theorem wordsS_snoc (fr : List Ce) : ∀ (l : List Wd) (s : St) (w : Wd), wordsS fr s (l ++ [w]) = moveS fr (wordsS fr s l) w
  | [], _, _ => rfl
  | _ :: l, _, w => wordsS_snoc fr l _ w
theorem wordsW_snoc (fr : List Ce) : ∀ (l : List Wd) (s : St) (w : Wd), wordsW fr s (l ++ [w]) = wordsW fr s l ++ [moveW fr (wordsS fr s l) w]
  | [], _, _ => rfl
  | x :: l, s, w => by rw [List.cons_append, wordsW, wordsW_snoc fr l, wordsW, List.cons_append, wordsS]
theorem wordsW_length (fr : List Ce) : ∀ (l : List Wd) (s : St), (wordsW fr s l).length = l.length
  | [], _ => rfl
  | _ :: l, s => by rw [wordsW, List.length_cons, wordsW_length fr l, List.length_cons]

/-- A word that leads to a cell leads to one of n. -/
def refOk (n : Nat) (w : Wd) : Prop := w.tag = 4 → 0 ≤ w.num ∧ w.num < n
/-- What holds as long as cells are copied, b being there first, those from i on not being gone through yet. -/
structure Inv (fr : List Ce) (b i : Nat) (s : St) : Prop where
  len : s.mv.length = fr.length
  cnt : s.to.length = b + s.mv.countP (fun x => decide (0 ≤ x))
  refs : ∀ j c, i ≤ j → s.to[j]? = some c → refOk fr.length c.a ∧ refOk fr.length c.b
theorem Inv.le {fr : List Ce} {b i : Nat} {s : St} (h : Inv fr b i s) : s.to.length ≤ b + fr.length := by
  have := List.countP_le_length (p := fun x : Int => decide (0 ≤ x)) (l := s.mv)
  have := h.cnt
  have := h.len
  omega
theorem Inv.come {fr : List Ce} {b i : Nat} {s : St} (h : Inv fr b i s) (hfr : ∀ c ∈ fr, refOk fr.length c.a ∧ refOk fr.length c.b) {p : Nat} (hp : p < fr.length) : Inv fr b i (comeS fr s p) := by
  unfold comeS
  by_cases hn : s.mv.getD p 0 < 0
  · rw [if_pos hn]
    have hpl : p < s.mv.length := by rw [h.len]; exact hp
    have hg : s.mv.getD p 0 = s.mv[p] := by rw [List.getD_eq_getElem?_getD, List.getElem?_eq_getElem hpl]; rfl
    refine ⟨by rw [List.length_set]; exact h.len, ?_, fun j c hj hc => ?_⟩
    · rw [hg] at hn
      have e1 : decide (0 ≤ s.mv[p]) = false := decide_eq_false (by omega)
      have e2 : decide (0 ≤ (s.to.length : Int)) = true := decide_eq_true (by omega)
      have hc := h.cnt
      rw [List.length_append, List.countP_set hpl, e1, e2]
      simp
      omega
    · by_cases hl : j < s.to.length
      · rw [List.getElem?_append_left hl] at hc
        exact h.refs j c hj hc
      · rw [List.getElem?_append_right (by omega)] at hc
        have : fr.getD p ce0 = fr[p] := by rw [List.getD_eq_getElem?_getD, List.getElem?_eq_getElem hp]; rfl
        rw [this] at hc
        have hc' : fr[p] = c := by
          cases hq : j - s.to.length with
          | zero => rw [hq] at hc; simpa using hc
          | succ q => rw [hq] at hc; simp at hc
        rw [← hc']
        exact hfr _ (List.getElem_mem hp)
  · rw [if_neg hn]; exact h
theorem Inv.move {fr : List Ce} {b i : Nat} {s : St} (h : Inv fr b i s) (hfr : ∀ c ∈ fr, refOk fr.length c.a ∧ refOk fr.length c.b) {w : Wd} (hw : refOk fr.length w) : Inv fr b i (moveS fr s w) := by
  unfold moveS
  by_cases ht : w.tag = 4
  · rw [if_pos ht]
    have := hw ht
    exact h.come hfr (by omega)
  · rw [if_neg ht]; exact h
theorem come_len {fr : List Ce} {s : St} {p : Nat} : s.to.length ≤ (comeS fr s p).to.length := by
  unfold comeS; split <;> simp
theorem move_len {fr : List Ce} {s : St} {w : Wd} : s.to.length ≤ (moveS fr s w).to.length := by
  unfold moveS; split
  · exact come_len
  · exact Nat.le_refl _
theorem come_get {fr : List Ce} {s : St} {p i : Nat} (hi : i < s.to.length) : (comeS fr s p).to[i]? = s.to[i]? := by
  unfold comeS; split
  · exact List.getElem?_append_left hi
  · rfl
theorem move_get {fr : List Ce} {s : St} {w : Wd} {i : Nat} (hi : i < s.to.length) : (moveS fr s w).to[i]? = s.to[i]? := by
  unfold moveS; split
  · exact come_get hi
  · rfl
theorem Inv.step {fr : List Ce} {b i : Nat} {s : St} (h : Inv fr b i s) (hfr : ∀ c ∈ fr, refOk fr.length c.a ∧ refOk fr.length c.b) (hi : i < s.to.length) : Inv fr b (i + 1) (stepS fr s i) := by
  obtain ⟨hA, hB⟩ := h.refs i s.to[i] (Nat.le_refl _) (List.getElem?_eq_getElem hi)
  have hg : s.to.getD i ce0 = s.to[i] := by rw [List.getD_eq_getElem?_getD, List.getElem?_eq_getElem hi]; rfl
  have h2 := (h.move hfr hA).move hfr hB
  unfold stepS
  rw [hg]
  refine ⟨h2.len, by rw [List.length_set]; exact h2.cnt, fun j c hj hc => ?_⟩
  rw [List.getElem?_set_ne (by omega)] at hc
  exact h2.refs j c (by omega) hc
theorem loopS_step {fr : List Ce} {n : Nat} {s : St} {i : Nat} (hi : i < s.to.length) : loopS fr (n + 1) s i = loopS fr n (stepS fr s i) (i + 1) := by rw [loopS, if_pos hi]
theorem loopS_end {fr : List Ce} {n : Nat} {s : St} {i : Nat} (hi : ¬ i < s.to.length) : loopS fr n s i = s := by
  cases n with
  | zero => rfl
  | succ n => rw [loopS, if_neg hi]
/-- Nothing is copied yet. -/
def st0 (fr to : List Ce) : St := ⟨to, List.replicate fr.length (-1)⟩
theorem inv0 (fr to : List Ce) : Inv fr to.length to.length (st0 fr to) := by
  refine ⟨by simp [st0], ?_, fun j c hj hc => ?_⟩
  · have : (st0 fr to).mv.countP (fun x => decide (0 ≤ x)) = 0 := by
      rw [List.countP_eq_zero]
      intro x hx
      simp [st0] at hx
      rw [hx.2]
      decide
    rw [this]; rfl
  · have := (List.getElem?_eq_some_iff.1 hc).1
    simp [st0] at this
    omega
theorem Inv.words {fr : List Ce} {b i : Nat} (hfr : ∀ c ∈ fr, refOk fr.length c.a ∧ refOk fr.length c.b) : ∀ (l : List Wd) (s : St), Inv fr b i s → (∀ w ∈ l, refOk fr.length w) → Inv fr b i (wordsS fr s l)
  | [], _, h, _ => h
  | w :: l, s, h, hl => Inv.words hfr l _ (h.move hfr (hl w (by simp))) (fun x hx => hl x (by simp [hx]))
/-- All that words lead to, behind some cells. -/
def copyS (fr to : List Ce) (ws : List Wd) : St := loopS fr (fr.length + 1) (wordsS fr (st0 fr to) ws) to.length
end Go.Proofs.Ytpocmljbfcenfaa
