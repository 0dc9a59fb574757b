/-
  The free names of an expression, ascending, as data.
-/
import Derived.Test.YtkkjpiikilhobaaGreatDoorNfLess
import Derived.Test.YtkkjpiikilhobaaGreatDoorNkMath
namespace Go.Proofs.YtkkjpiikilhobaaGreatDoor
open Go.RowKit

/-- A list of names without those of another. -/
def lessAll (l bs : List ByteArray) : List ByteArray := bs.foldl lessM l
theorem lessAll_take (l bs : List ByteArray) (k : Nat) (hk : k < bs.length) : lessAll l (bs.take (k + 1)) = lessM (lessAll l (bs.take k)) bs[k] := by
  rw [lessAll, List.take_succ_eq_append_getElem hk, List.foldl_append]; rfl
theorem lessAll_length (l bs : List ByteArray) : (lessAll l bs).length ≤ l.length := by
  induction bs generalizing l with
  | nil => simp [lessAll]
  | cons x bs ih => exact Nat.le_trans (ih (lessM l x)) (lessM_length l x)

mutual
/-- The free names of an expression. -/
def freeM : Ex → List ByteArray
  | .mk k n t _ ks => if k = 3 then [n] else freeAll ks 0 (bindsL k n t) []
def freeAll : List Ex → Int → (Int → List ByteArray) → List ByteArray → List ByteArray
  | [], _, _, out => out
  | e :: es, i, bs, out => freeAll es (i + 1) bs (allM out (lessAll (freeM e) (bs i)))
end
theorem freeM_eq (e : Ex) : freeM e = if e.kind = 3 then [e.name] else freeAll e.kids 0 e.bindsAt [] := by
  cases e; rw [freeM]; rfl
theorem freeAll_drop (es : List Ex) (i : Int) (bs : Int → List ByteArray) (out : List ByteArray) (k : Nat) (h : k < es.length) : freeAll (es.drop k) i bs out = freeAll (es.drop (k + 1)) (i + 1) bs (allM out (lessAll (freeM es[k]) (bs i))) := by
  rw [List.drop_eq_getElem_cons h, freeAll]

theorem freeAll_length (d : Int) (bs : Int → List ByteArray) : ∀ (es : List Ex) (i : Int) (out : List ByteArray) (m : Int), (∀ e ∈ es, sizeM e d ≤ 60 → ((freeM e).length : Int) ≤ sizeM e d) → (out.length : Int) ≤ m → sizeAll es d m ≤ 60 → ((freeAll es i bs out).length : Int) ≤ sizeAll es d m
  | [], i, out, m, _, h1, _ => by rw [freeAll, sizeAll]; exact h1
  | e :: es, i, out, m, h, h1, h2 => by
    rw [sizeAll] at h2 ⊢
    rw [freeAll]
    split at h2
    · omega
    · rename_i hs
      rw [if_neg hs]
      have hb := (sizeM_bd e d).1
      have he := h e (by simp) (by omega)
      refine freeAll_length d bs es _ _ _ (fun x hx => h x (by simp [hx])) ?_ h2
      have h3 := allM_length out (lessAll (freeM e) (bs i))
      have h4 := lessAll_length (freeM e) (bs i)
      omega
theorem freeM_length (e : Ex) : ∀ d, sizeM e d ≤ 60 → ((freeM e).length : Int) ≤ sizeM e d := by
  induction e using Ex.ind with
  | h e ih =>
    intro d hd
    have hb := (sizeM_bd e d).1
    rw [freeM_eq]
    by_cases h3 : e.kind = 3
    · rw [if_pos h3]; simpa using hb
    · rw [if_neg h3]
      rw [sizeM_eq] at hd ⊢
      split at hd
      · omega
      · rename_i hs
        rw [if_neg hs]
        exact freeAll_length (d + 1) e.bindsAt e.kids 0 [] 1 (fun x hx => ih x hx (d + 1)) (by simp) hd
end Go.Proofs.YtkkjpiikilhobaaGreatDoor
