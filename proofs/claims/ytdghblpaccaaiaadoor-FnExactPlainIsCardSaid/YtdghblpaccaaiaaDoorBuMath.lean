/-
  Expressions that are made of some kinds alone, by pairs and lists: plain mathematics.
-/
import Derived.Test.YtdghblpaccaaiaaDoorExSize
namespace Go.Proofs.YtdghblpaccaaiaaDoor

mutual
/-- Whether an expression is of a kind of which p holds, or made of such by pairs and lists. -/
def builtM (p : Int → Bool) : Ex → Bool
  | .mk k _ _ _ ks => if k = 9 ∨ k = 13 then builtAll p ks else p k
def builtAll (p : Int → Bool) : List Ex → Bool
  | [] => true
  | e :: es => builtM p e && builtAll p es
end
theorem builtM_eq (p : Int → Bool) (e : Ex) : builtM p e = if e.kind = 9 ∨ e.kind = 13 then builtAll p e.kids else p e.kind := by
  cases e; rw [builtM]; rfl
theorem builtM_two (p : Int → Bool) (e a b : Ex) (hk : e.kind = 9 ∨ e.kind = 13) (h : e.kids = [a, b]) : builtM p e = (builtM p a && builtM p b) := by
  rw [builtM_eq, if_pos hk, h, builtAll, builtAll, builtAll, Bool.and_true]
theorem builtM_one (p : Int → Bool) (e : Ex) (hk : ¬ (e.kind = 9 ∨ e.kind = 13)) : builtM p e = p e.kind := by
  rw [builtM_eq, if_neg hk]

/-- Kinds that are values; kinds that are done. -/
def valueK (k : Int) : Bool := k == 1 || k == 2 || k == 4 || k == 12
def stillK (k : Int) : Bool := k == 3 || k == 18 || valueK k

theorem okAll_parts (d : Int) : ∀ (es : List Ex) (m : Int), 1 ≤ m → sizeAll es d m ≤ 60 → ∀ e ∈ es, sizeM e d ≤ 60
  | [], _, _, _, e, he => by simp at he
  | x :: es, m, hm, h, e, he => by
    rw [sizeAll] at h
    have hb := sizeM_bd x d
    split at h
    · omega
    · rcases List.mem_cons.1 he with rfl | he
      · omega
      · exact okAll_parts d es (m + sizeM x d) (by omega) h e he
/-- What is ok has as many parts as its kind, and they are ok. -/
theorem ok_parts (e : Ex) (d : Int) (h : sizeM e d ≤ 60) : (e.kids.length : Int) = kidsN e.kind ∧ ∀ x ∈ e.kids, sizeM x (d + 1) ≤ 60 := by
  rw [sizeM_eq] at h
  split at h
  · omega
  · rename_i hn
    exact ⟨by apply Decidable.byContradiction; intro hc; exact hn (Or.inr (Or.inl hc)), fun x hx => okAll_parts (d + 1) e.kids 1 (by omega) h x hx⟩
/-- A pair and a list have two parts. -/
theorem ok_two (e : Ex) (d : Int) (h : sizeM e d ≤ 60) (hk : e.kind = 9 ∨ e.kind = 13) : ∃ a b, e.kids = [a, b] := by
  have hl := (ok_parts e d h).1
  have h2 : kidsN e.kind = 2 := by rcases hk with h | h <;> rw [h] <;> rfl
  rw [h2] at hl
  match hks : e.kids with
  | [] => rw [hks] at hl; simp at hl
  | [a] => rw [hks] at hl; simp at hl
  | [a, b] => exact ⟨a, b, rfl⟩
  | a :: b :: c :: es => rw [hks] at hl; simp at hl; omega
end Go.Proofs.YtdghblpaccaaiaaDoor
