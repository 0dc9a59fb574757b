/-
  Places that were come to: mathematics. No program is named here.
-/
import Derived.Test.YthmpgeppicbhlaaDoorWlState
namespace Go.Proofs.YthmpgeppicbhlaaDoor

/-- Whose places are these that were copied and are not gone through yet? -/
structure RelT (fr : List Ce) (i : Nat) (s : St) (todo : List Nat) : Prop where
  len : todo.length = s.to.length
  at' : ∀ j (hj : j < todo.length), i ≤ j → todo[j] < fr.length ∧ s.to[j]? = fr[todo[j]]?
/-- Truths as values. -/
def boolsV (l : List Bool) : List Value := l.map (.bool ·)
def natsV (l : List Nat) : List Value := l.map fun (n : Nat) => .int .i64 (n : Int)
/-- Was a cell come to? -/
def inM (s : St) : List Bool := s.mv.map fun x => decide (0 ≤ x)
theorem inM_length (s : St) : (inM s).length = s.mv.length := by simp [inM]
theorem inM_get (s : St) (p : Nat) (h : p < s.mv.length) (h' : p < (inM s).length) : (inM s)[p] = decide (0 ≤ s.mv[p]) := by simp [inM]
theorem boolsV_length (l : List Bool) : (boolsV l).length = l.length := by simp [boolsV]
theorem natsV_length (l : List Nat) : (natsV l).length = l.length := by simp [natsV]
theorem come_rel {fr : List Ce} {i p : Nat} {s : St} {todo : List Nat} (h : RelT fr i s todo) (hp : p < fr.length) (_ : p < s.mv.length) :
    RelT fr i ⟨s.to ++ [fr[p]], s.mv.set p s.to.length⟩ (todo ++ [p]) ∧ inM ⟨s.to ++ [fr[p]], s.mv.set p s.to.length⟩ = (inM s).set p true := by
  refine ⟨⟨by simp [h.len], fun j hj hij => ?_⟩, ?_⟩
  · by_cases hl : j < todo.length
    · rw [List.getElem_append_left hl]
      have := h.at' j hl hij
      refine ⟨this.1, ?_⟩
      rw [List.getElem?_append_left (by rw [← h.len]; exact hl)]
      exact this.2
    · have hj' : j = todo.length := by simp at hj; omega
      subst hj'
      simp only [List.getElem_append_right (Nat.le_refl _), Nat.sub_self, List.getElem_cons_zero]
      refine ⟨hp, ?_⟩
      rw [h.len, List.getElem?_append_right (Nat.le_refl _), Nat.sub_self, List.getElem?_eq_getElem hp]
      rfl
  · have e : decide ((0 : Int) ≤ (s.to.length : Int)) = true := decide_eq_true (by omega)
    rw [inM, inM, List.map_set, e]
theorem step_rel {fr : List Ce} {i : Nat} {s : St} {todo : List Nat} {c : Ce} (h : RelT fr i s todo) : RelT fr (i + 1) ⟨s.to.set i c, s.mv⟩ todo := by
  refine ⟨by simp [h.len], fun j hj hij => ?_⟩
  have := h.at' j hj (by omega)
  refine ⟨this.1, ?_⟩
  show (s.to.set i c)[j]? = _
  rw [List.getElem?_set_ne (by omega)]
  exact this.2
/-- The places, below k, of what is true. -/
def takenTo (l : List Bool) (k : Nat) : List Nat := (List.range k).filter fun i => l.getD i false
theorem takenTo_zero (l : List Bool) : takenTo l 0 = [] := rfl
theorem takenTo_next (l : List Bool) (k : Nat) (h : k < l.length) : takenTo l (k + 1) = takenTo l k ++ (if l[k] = true then [k] else []) := by
  have hg : l.getD k false = l[k] := by rw [List.getD_eq_getElem?_getD, List.getElem?_eq_getElem h]; rfl
  rw [takenTo, List.range_succ, List.filter_append, takenTo]
  congr 1
  rw [List.filter_cons, hg]
  cases l[k] <;> rfl
theorem takenTo_le (l : List Bool) (k : Nat) : (takenTo l k).length ≤ k := by
  have := List.length_filter_le (fun i => l.getD i false) (List.range k)
  simpa [takenTo] using this
def takenM (l : List Bool) : List Nat := takenTo l l.length
end Go.Proofs.YthmpgeppicbhlaaDoor
