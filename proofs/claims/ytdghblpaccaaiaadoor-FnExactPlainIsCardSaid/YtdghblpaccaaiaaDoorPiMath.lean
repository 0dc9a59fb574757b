/-
  Plain expressions: mathematics.
-/
import Derived.Test.YtdghblpaccaaiaaDoorBuMath
namespace Go.Proofs.YtdghblpaccaaiaaDoor
open Go.RowKit

/-- Kinds of what is there at once. -/
def atomK (k : Int) : Bool := k == 1 || k == 2 || k == 3 || k == 12 || k == 18
/-- How many parts of an expression of a kind, that has so many, are waited for. -/
def partsN (k : Int) (n : Nat) : Nat := if k = 4 ∨ k = 6 ∨ k = 7 then 0 else if k = 8 ∨ k = 14 then 1 else n
mutual
/-- Whether all that is waited for is there at once. -/
def plainM : Ex → Bool
  | .mk k _ _ _ ks => plainAll (partsN k ks.length) ks
def plainAll (m : Nat) : List Ex → Bool
  | [] => true
  | e :: es => (plainM e && (m == 0 || atomK e.kind)) && plainAll (m - 1) es
end
theorem plainM_eq (e : Ex) : plainM e = plainAll (partsN e.kind e.kids.length) e.kids := by
  cases e; rw [plainM]; rfl
theorem plainAll_drop (es : List Ex) (m k : Nat) (h : k < es.length) : plainAll (m - k) (es.drop k) = ((plainM es[k] && (decide (m ≤ k) || atomK es[k].kind)) && plainAll (m - (k + 1)) (es.drop (k + 1))) := by
  rw [List.drop_eq_getElem_cons h, plainAll]
  have e1 : ((m - k) == 0) = decide (m ≤ k) := by
    rw [Bool.eq_iff_iff]; simp; omega
  rw [e1, show m - k - 1 = m - (k + 1) by omega]
theorem plainAll_end (es : List Ex) (m k : Nat) (h : es.length ≤ k) : plainAll m (es.drop k) = true := by
  rw [List.drop_eq_nil_of_le h, plainAll]
theorem plainAll_parts : ∀ (es : List Ex) (m : Nat), plainAll m es = ((es.take m).all (fun e => atomK e.kind) && es.all plainM)
  | [], m => by rw [plainAll]; simp
  | e :: es, 0 => by
    rw [plainAll, plainAll_parts es (0 - 1)]
    simp
  | e :: es, m + 1 => by
    rw [plainAll, show m + 1 - 1 = m by omega, plainAll_parts es m]
    simp only [List.take_succ_cons, List.all_cons]
    rw [show ((m + 1) == 0) = false by simp, Bool.false_or]
    cases plainM e <;> cases atomK e.kind <;> simp
theorem plainM_parts (e : Ex) : plainM e = ((e.kids.take (partsN e.kind e.kids.length)).all (fun x => atomK x.kind) && e.kids.all plainM) := by
  rw [plainM_eq, plainAll_parts]
theorem plain_no_atom {e : Ex} {k : Nat} (h : k < e.kids.length) (hk : k < partsN e.kind e.kids.length) (ha : atomK e.kids[k].kind = false) : plainM e = false := by
  rw [plainM_parts]
  have : (e.kids.take (partsN e.kind e.kids.length)).all (fun x => atomK x.kind) = false := by
    rw [List.all_eq_false]
    exact ⟨e.kids[k], by rw [List.mem_take_iff_getElem]; exact ⟨k, by omega, rfl⟩, by simpa using ha⟩
  rw [this]; rfl
theorem plain_no_part {e : Ex} {k : Nat} (h : k < e.kids.length) (ha : plainM e.kids[k] = false) : plainM e = false := by
  rw [plainM_parts]
  have : e.kids.all plainM = false := by
    rw [List.all_eq_false]
    exact ⟨e.kids[k], List.getElem_mem h, by simpa using ha⟩
  rw [this]; simp
theorem plain_yes {e : Ex} (h1 : ∀ k (h : k < e.kids.length), k < partsN e.kind e.kids.length → atomK e.kids[k].kind = true) (h2 : ∀ k (h : k < e.kids.length), plainM e.kids[k] = true) : plainM e = true := by
  rw [plainM_parts, Bool.and_eq_true, List.all_eq_true, List.all_eq_true]
  refine ⟨fun x hx => ?_, fun x hx => ?_⟩
  · obtain ⟨k, hk, rfl⟩ := List.mem_take_iff_getElem.1 hx
    exact h1 k (by omega) (by omega)
  · obtain ⟨k, hk, rfl⟩ := List.getElem_of_mem hx
    exact h2 k hk
theorem partsN_le (k : Int) (n : Nat) (h : k = 8 ∨ k = 14 → 1 ≤ n) : partsN k n ≤ n := by
  unfold partsN
  split
  · omega
  · split
    · exact h ‹_›
    · exact Nat.le_refl _
end Go.Proofs.YtdghblpaccaaiaaDoor
