/-
  The names that walkFree finds are those of the specification's l3Free.
-/
import Derived.Test.YtkkjpiikilhobaaGreatDoorNfWalk
import Derived.Test.YtkkjpiikilhobaaGreatDoorNfMath
namespace Go.Proofs.YtkkjpiikilhobaaGreatDoor
open Go.RowKit

theorem text_beq (x s : ByteArray) : (x.toList == s.toList) = true ↔ x = s := by
  rw [ByteArray.toList_eq, ByteArray.toList_eq, beq_iff_eq]
  exact ⟨text_ext, fun h => by rw [h]⟩
theorem mem_withM (l : List ByteArray) (s y : ByteArray) : y ∈ withM l s ↔ y ∈ l ∨ y = s := by
  induction l with
  | nil => simp [withM]
  | cons x xs ih =>
    rw [withM]
    split
    · simp [ih, or_assoc]
    · split
      · rename_i h
        obtain rfl := (text_beq x s).1 h
        simp only [List.mem_cons]
        exact ⟨fun h => Or.inl h, fun h => h.elim id Or.inl⟩
      · simp only [List.mem_cons]
        exact ⟨fun h => h.elim Or.inr Or.inl, fun h => h.elim Or.inr Or.inl⟩
theorem mem_allM (b : List ByteArray) : ∀ (a : List ByteArray) (y : ByteArray), y ∈ allM a b ↔ y ∈ a ∨ y ∈ b := by
  induction b with
  | nil => intro a y; simp [allM]
  | cons x b ih =>
    intro a y
    have := ih (withM a x) y
    simp only [allM, List.foldl_cons] at this ⊢
    rw [this, mem_withM, List.mem_cons, or_assoc]
theorem mem_lessM (l : List ByteArray) (s y : ByteArray) : y ∈ lessM l s ↔ y ∈ l ∧ y ≠ s := by
  rw [lessM, List.mem_filter]
  constructor
  · rintro ⟨h1, h2⟩
    refine ⟨h1, fun h => ?_⟩
    rw [(text_beq y s).2 h] at h2; simp at h2
  · rintro ⟨h1, h2⟩
    refine ⟨h1, ?_⟩
    cases hb : (y.toList == s.toList)
    · rfl
    · exact absurd ((text_beq y s).1 hb) h2
theorem mem_lessAll (bs : List ByteArray) : ∀ (l : List ByteArray) (y : ByteArray), y ∈ lessAll l bs ↔ y ∈ l ∧ y ∉ bs := by
  induction bs with
  | nil => intro l y; simp [lessAll]
  | cons x bs ih =>
    intro l y
    have := ih (lessM l x) y
    simp only [lessAll, List.foldl_cons] at this ⊢
    rw [this, mem_lessM, List.mem_cons, not_or, and_assoc]
theorem lastTo_mem (l : List ByteArray) (s : ByteArray) : ∀ k, k ≤ l.length → (lastTo l s k < 0 ↔ s ∉ l.take k)
  | 0, _ => by simp [lastTo]
  | k + 1, hk => by
    have ih := lastTo_mem l s k (by omega)
    rw [List.take_succ_eq_append_getElem (by omega), List.mem_append, not_or, List.mem_singleton]
    cases he : (l[k].toList == s.toList)
    · rw [lastTo_no l s k (by omega) he, ih]
      exact ⟨fun h => ⟨h, fun hs => by rw [(text_beq l[k] s).2 hs.symm] at he; cases he⟩, fun h => h.1⟩
    · rw [lastTo_yes l s k (by omega) he]
      exact ⟨fun h => by omega, fun h => absurd ((text_beq l[k] s).1 he).symm h.2⟩

theorem mem_all (y : ByteArray) (l : List ByteArray) (bs : Int → List ByteArray) : ∀ (es : List Ex) (i : Int) (out : List ByteArray), (∀ e ∈ es, ∀ l, y ∈ occM e l ↔ y ∈ freeM e ∧ y ∉ l) → ((y ∈ freeAll es i bs out ∧ y ∉ l) ↔ (y ∈ out ∧ y ∉ l) ∨ y ∈ occAll es i (fun j => l ++ bs j))
  | [], i, out, _ => by simp [freeAll, occAll]
  | e :: es, i, out, h => by
    rw [freeAll, occAll, mem_all y l bs es (i + 1) _ (fun x hx => h x (by simp [hx])), List.mem_append, h e (by simp), mem_allM, mem_lessAll, List.mem_append, not_or]
    constructor
    · rintro (⟨h1 | h1, h2⟩ | h1)
      · exact Or.inl ⟨h1, h2⟩
      · exact Or.inr (Or.inl ⟨h1.1, h2, h1.2⟩)
      · exact Or.inr (Or.inr h1)
    · rintro (h1 | ⟨h1, h2, h3⟩ | h1)
      · exact Or.inl ⟨Or.inl h1.1, h1.2⟩
      · exact Or.inl ⟨Or.inr ⟨h1, h3⟩, h2⟩
      · exact Or.inr h1
theorem mem_occM (e : Ex) (d : Int) (hd : sizeM e d ≤ 60) : ∀ (l : List ByteArray) (y : ByteArray), y ∈ occM e l ↔ y ∈ freeM e ∧ y ∉ l := by
  induction e using Ex.ind generalizing d with
  | h e ih =>
    intro l y
    have hp := (sizeM_parts e d hd).2
    have hall := mem_all y l e.bindsAt e.kids 0 [] (fun x hx l => ih x hx (d + 1) (hp x hx) l y)
    rw [occM_eq, freeM_eq]
    by_cases h3 : e.kind = 3
    · have hk0 : e.kids = [] := by
        rw [sizeM_eq] at hd
        split at hd
        · omega
        · rename_i hn
          have : (e.kids.length : Int) = kidsN e.kind := by
            apply Decidable.byContradiction; intro hc; exact hn (Or.inr (Or.inl hc))
          rw [h3] at this; simp [kidsN] at this; exact this
      have hl := lastTo_mem l e.name l.length (Nat.le_refl _)
      rw [List.take_length] at hl
      rw [if_pos h3, hk0, occAll, List.append_nil]
      by_cases hm : e.name ∈ l
      · rw [if_neg (fun h => (hl.1 h.2) hm)]
        simp only [List.not_mem_nil, List.mem_singleton, false_iff]
        rintro ⟨rfl, h⟩; exact h hm
      · rw [if_pos ⟨h3, hl.2 hm⟩]
        simp only [List.mem_singleton]
        exact ⟨fun h => ⟨h, by rw [h]; exact hm⟩, fun h => h.1⟩
    · rw [if_neg (fun h => h3 h.1), if_neg h3, List.nil_append, hall]
      simp
theorem oft_zero (l : List ByteArray) (s : ByteArray) : oft l s = 0 ↔ s ∉ l := by
  rw [oft, List.countP_eq_zero]
  constructor
  · intro h hs; have := h s hs; simp at this
  · intro h x hx hb
    have : x = s := text_ext (by simpa using hb)
    subst this; exact h hx
theorem oft_same (e : Ex) (d : Int) (hd : sizeM e d ≤ 60) (s : ByteArray) : oft (occM e []) s = 0 ↔ oft (freeM e) s = 0 := by
  rw [oft_zero, oft_zero, mem_occM e d hd]; simp
end Go.Proofs.YtkkjpiikilhobaaGreatDoor
