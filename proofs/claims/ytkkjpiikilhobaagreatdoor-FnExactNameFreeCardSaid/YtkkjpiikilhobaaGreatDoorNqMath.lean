/-
  The free names of an expression are ascending: plain mathematics; a map's keys, sorted, are they.
-/
import Derived.Test.YtkkjpiikilhobaaGreatDoorNfMem
import Derived.Test.YtkkjpiikilhobaaGreatDoorNfSet
import Derived.Sort.KeysCollected
import Derived.Sort.Walk0
namespace Go.Proofs.YtkkjpiikilhobaaGreatDoor
open Go.RowKit Go.Maps Go.Sort

/-- One text is less than another. -/
def Lt (a b : ByteArray) : Prop := a.data.toList < b.data.toList
theorem lessB_iff (a b : ByteArray) : lessB a b = true ↔ Lt a b := by
  rw [lessB, bytesLess_eq, ByteArray.toList_eq, ByteArray.toList_eq, decide_eq_true_iff]; rfl
theorem lt_trans {a b c : ByteArray} (h1 : Lt a b) (h2 : Lt b c) : Lt a c := List.lt_trans h1 h2
theorem lt_total (a b : ByteArray) (h1 : ¬ Lt a b) (h2 : a ≠ b) : Lt b a := by
  have h3 : a.data.toList ≠ b.data.toList := fun h => h2 (text_ext h)
  have h4 : b.data.toList ≤ a.data.toList := List.not_lt.1 h1
  rcases List.le_iff_lt_or_eq.1 h4 with h | h
  · exact h
  · exact absurd h.symm h3
theorem asc_withM (l : List ByteArray) (s : ByteArray) (h : l.Pairwise Lt) : (withM l s).Pairwise Lt := by
  induction l with
  | nil => simp [withM]
  | cons x xs ih =>
    rw [List.pairwise_cons] at h
    rw [withM]
    by_cases hl : lessB x s = true
    · rw [if_pos hl, List.pairwise_cons]
      refine ⟨fun y hy => ?_, ih h.2⟩
      rcases (mem_withM xs s y).1 hy with hy | rfl
      · exact h.1 y hy
      · exact (lessB_iff _ _).1 hl
    · rw [if_neg hl]
      by_cases he : (x.toList == s.toList) = true
      · rw [if_pos he, List.pairwise_cons]; exact h
      · rw [if_neg he]
        have hsx : Lt s x := lt_total x s (fun h => hl ((lessB_iff _ _).2 h)) (fun h => he ((text_beq x s).2 h))
        rw [List.pairwise_cons, List.pairwise_cons]
        refine ⟨fun y hy => ?_, h⟩
        rcases List.mem_cons.1 hy with rfl | hy
        · exact hsx
        · exact lt_trans hsx (h.1 y hy)
theorem asc_allM (b : List ByteArray) : ∀ a : List ByteArray, a.Pairwise Lt → (allM a b).Pairwise Lt := by
  induction b with
  | nil => intro a h; exact h
  | cons x b ih => intro a h; exact ih (withM a x) (asc_withM a x h)
theorem asc_freeAll (bs : Int → List ByteArray) : ∀ (es : List Ex) (i : Int) (out : List ByteArray), out.Pairwise Lt → (freeAll es i bs out).Pairwise Lt
  | [], i, out, h => by rw [freeAll]; exact h
  | e :: es, i, out, h => by rw [freeAll]; exact asc_freeAll bs es (i + 1) _ (asc_allM _ out h)
theorem asc_freeM (e : Ex) : (freeM e).Pairwise Lt := by
  rw [freeM_eq]
  split
  · simp
  · exact asc_freeAll _ _ _ _ List.Pairwise.nil

/-- The free names, as bytes. -/
def freeBytes (e : Ex) : List (List UInt8) := (freeM e).map fun s => s.data.toList
theorem freeBytes_enc (e : Ex) : (freeBytes e).map encStr = (freeM e).map .string := by
  rw [freeBytes, List.map_map]
  refine List.map_congr_left fun s _ => ?_
  simp [encStr]
theorem keys_sorted {w : World} {Bm n : Nat} {D : DataW Unit} (e : Ex) (d : Int) (hd : sizeM e d ≤ 60) (hown : w.ownsMap Tryz.prog 9 (plainElem Tryz.prog 3) Bm n D)
    (hhas : ∀ s : ByteArray, has D (.string s.data.toList) = decide (0 < oft (occM e []) s)) (ss : List (List UInt8)) (hp : ss.Perm (strKeys D)) : ss.mergeSort (fun x y => decide (x ≤ y)) = freeBytes e := by
  have hasc : (freeBytes e).Pairwise (fun x y => x < y) := List.pairwise_map.2 (asc_freeM e)
  have hnd : (freeBytes e).Nodup := hasc.imp fun h he => by rw [he] at h; exact List.lt_irrefl _ h
  have hmem : ∀ x, x ∈ freeBytes e ↔ has D (.string x) = true := fun x => by
    have h1 := hhas ⟨x.toArray⟩
    have h2 : (⟨x.toArray⟩ : ByteArray).data.toList = x := by simp
    rw [h2] at h1
    rw [h1, decide_eq_true_iff]
    have h3 : 0 < oft (occM e []) ⟨x.toArray⟩ ↔ (⟨x.toArray⟩ : ByteArray) ∈ freeM e := by
      have := oft_zero (freeM e) ⟨x.toArray⟩
      have h4 := oft_same e d hd ⟨x.toArray⟩
      constructor
      · intro h; refine Classical.byContradiction fun hn => ?_; have := h4.2 (this.2 hn); omega
      · intro h; apply Decidable.byContradiction; intro hn; exact this.1 (h4.1 (by omega)) h
    rw [h3, freeBytes, List.mem_map]
    constructor
    · rintro ⟨s, hs, rfl⟩; simpa using hs
    · intro h; exact ⟨_, h, h2⟩
  have hperm : (freeBytes e).Perm (strKeys D) := by
    obtain ⟨es, hD, hpw, _⟩ := hown.entries (string_keyed Tryz.underlying9)
    obtain ⟨es', hD', hko⟩ := hown.keysOf
    obtain rfl : es = es' := by rw [hD] at hD'; simpa using hD'
    subst hD
    exact perm_strKeys hpw (fun p hp => by obtain ⟨v, hv⟩ := hko p hp; obtain ⟨x, _, hx, _⟩ := Maps.keyOf_str Tryz.underlying9 hv; exact ⟨x, hx⟩) hnd hmem
  have h5 := mergeSort_of_perm (hp.trans hperm.symm)
  have h6 : (freeBytes e).mergeSort leB = freeBytes e := List.mergeSort_of_pairwise (hasc.imp fun h => by simpa [leB] using List.le_of_lt h)
  exact h5.trans h6
end Go.Proofs.YtkkjpiikilhobaaGreatDoor
