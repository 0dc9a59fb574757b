/-
  The lines of a text. Mathematics; no program is named here.
  A text cut at a byte, so many times at most. Mathematics; no program is named here.
  Rows of plain things, so many cells each, in a block. No program is named here.
-/
import Derived.Lib.Bytealg
import Derived.Below
import Derived.Deep.MidRow
import Derived.WalkKit
namespace Go.Proofs.YtkollpgacheeoaaGreatDoor

/-- A text's first line, with its newline, and what stands behind. -/
def cutLine : List UInt8 → List UInt8 × List UInt8
  | [] => ([], [])
  | b :: l => if b = 10 then ([10], l) else (b :: (cutLine l).1, (cutLine l).2)
theorem index_ge : ∀ (l : List UInt8), -1 ≤ Lib.indexByte l 10 ∧ Lib.indexByte l 10 < l.length
  | [] => by decide
  | b :: l => by
    have h := index_ge l
    rw [Lib.indexByte, List.length_cons]
    split
    · omega
    · split
      · omega
      · omega
theorem cut_index : ∀ (l : List UInt8), (0 ≤ Lib.indexByte l 10 → cutLine l = (l.take ((Lib.indexByte l 10).toNat + 1), l.drop ((Lib.indexByte l 10).toNat + 1))) ∧ (¬ 0 ≤ Lib.indexByte l 10 → cutLine l = (l, []))
  | [] => ⟨fun h => absurd h (by decide), fun _ => rfl⟩
  | b :: l => by
    obtain ⟨h1, h2⟩ := cut_index l
    have hg := index_ge l
    by_cases hb : b = 10
    · subst hb
      have e : Lib.indexByte (10 :: l) 10 = 0 := by rw [Lib.indexByte]; rfl
      rw [e, cutLine, if_pos rfl]
      exact ⟨fun _ => rfl, fun h => absurd (Int.le_refl _) h⟩
    · have hbb : ¬ ((b == 10) = true) := by simpa using hb
      rw [cutLine, if_neg hb]
      by_cases hl : 0 ≤ Lib.indexByte l 10
      · have hne : ¬ ((Lib.indexByte l 10 == -1) = true) := by simp; omega
        have e : Lib.indexByte (b :: l) 10 = Lib.indexByte l 10 + 1 := by
          rw [Lib.indexByte, if_neg hbb, if_neg hne]
        rw [e, h1 hl, show (Lib.indexByte l 10 + 1).toNat = (Lib.indexByte l 10).toNat + 1 by omega]
        exact ⟨fun _ => rfl, fun h => absurd (by omega) h⟩
      · have hy : (Lib.indexByte l 10 == -1) = true := by simp; omega
        have e : Lib.indexByte (b :: l) 10 = -1 := by
          rw [Lib.indexByte, if_neg hbb, if_pos hy]
        rw [e, h2 hl]
        exact ⟨fun h => absurd h (by decide), fun _ => rfl⟩
theorem cut_app : ∀ (l : List UInt8), (cutLine l).1 ++ (cutLine l).2 = l
  | [] => rfl
  | b :: l => by
    rw [cutLine]
    split
    · rename_i h
      subst h
      rfl
    · show b :: ((cutLine l).1 ++ (cutLine l).2) = _
      rw [cut_app l]
theorem cut_less {l : List UInt8} (h : l ≠ []) : (cutLine l).2.length < l.length := by
  cases l with
  | nil => exact absurd rfl h
  | cons b l =>
    have := congrArg List.length (cut_app l)
    rw [List.length_append] at this
    rw [cutLine]
    split
    · simp
    · simp; omega
/-- What stands behind k lines. -/
def restL : Nat → List UInt8 → List UInt8
  | 0, l => l
  | k + 1, l => restL k (cutLine l).2
def lineL (k : Nat) (l : List UInt8) : List UInt8 := (cutLine (restL k l)).1
def cntF : Nat → List UInt8 → Nat
  | 0, _ => 0
  | _ + 1, [] => 0
  | n + 1, b :: l => cntF n (cutLine (b :: l)).2 + 1
/-- How many lines. -/
def cntL (l : List UInt8) : Nat := cntF l.length l
theorem rest_next : ∀ (k : Nat) (l : List UInt8), restL (k + 1) l = (cutLine (restL k l)).2
  | 0, _ => rfl
  | k + 1, l => by rw [restL, rest_next k]; rfl
theorem rest_len : ∀ (k : Nat) (l : List UInt8), (restL k l).length ≤ l.length
  | 0, _ => Nat.le_refl _
  | k + 1, l => by
    rw [restL]
    have h1 := rest_len k (cutLine l).2
    have := congrArg List.length (cut_app l)
    rw [List.length_append] at this
    omega
theorem line_len_le (k : Nat) (l : List UInt8) : (lineL k l).length ≤ l.length := by
  have h1 := rest_len k l
  have := congrArg List.length (cut_app (restL k l))
  rw [List.length_append] at this
  unfold lineL
  omega
theorem cut_nil : cutLine [] = ([], []) := rfl
theorem rest_nil : ∀ k, restL k [] = []
  | 0 => rfl
  | k + 1 => by rw [restL]; exact rest_nil k
theorem cntF_spec : ∀ (n : Nat) (l : List UInt8), l.length ≤ n → (∀ k, k < cntF n l → restL k l ≠ []) ∧ restL (cntF n l) l = [] ∧ cntF n l ≤ l.length
  | 0, l, h => by
    have : l = [] := List.length_eq_zero_iff.1 (by omega)
    subst this
    exact ⟨fun k hk => absurd hk (Nat.not_lt_zero _), rfl, Nat.le_refl _⟩
  | n + 1, [], _ => ⟨fun k hk => absurd hk (Nat.not_lt_zero _), rfl, Nat.le_refl _⟩
  | n + 1, b :: l, h => by
    have hl := cut_less (l := b :: l) (by simp)
    obtain ⟨h1, h2, h3⟩ := cntF_spec n (cutLine (b :: l)).2 (by simp at h hl ⊢; omega)
    refine ⟨fun k hk => ?_, h2, by rw [cntF]; omega⟩
    cases k with
    | zero => simp [restL]
    | succ k =>
      rw [restL]
      exact h1 k (by rw [cntF] at hk; omega)
theorem lns_rest {l : List UInt8} {k : Nat} (h : k < cntL l) : restL k l ≠ [] := (cntF_spec _ l (Nat.le_refl _)).1 k h
theorem lns_end (l : List UInt8) : restL (cntL l) l = [] := (cntF_spec _ l (Nat.le_refl _)).2.1
theorem lns_le (l : List UInt8) : cntL l ≤ l.length := (cntF_spec _ l (Nat.le_refl _)).2.2
theorem lns_stop {l : List UInt8} {k : Nat} (hk : k ≤ cntL l) (h : restL k l = []) : k = cntL l := by
  apply Decidable.byContradiction
  intro hn
  exact lns_rest (by omega) h
end Go.Proofs.YtkollpgacheeoaaGreatDoor

namespace Go.Proofs.YtkollpgacheeoaaGreatDoor

def splitB (b : UInt8) : List UInt8 → Option (List UInt8 × List UInt8)
  | [] => none
  | x :: l => if x = b then some ([], l) else match splitB b l with
    | none => none
    | some (p, q) => some (x :: p, q)
/-- A text cut at a byte, so many times at most. -/
def cutG (b : UInt8) : Nat → List UInt8 → List (List UInt8)
  | 0, l => [l]
  | n + 1, l => match splitB b l with
    | none => [l]
    | some (p, q) => p :: cutG b n q
theorem split_none {b : UInt8} : ∀ {l : List UInt8}, b ∉ l → splitB b l = none
  | [], _ => rfl
  | x :: l, h => by
    rw [splitB, if_neg (fun e => h (by simp [e])), split_none (fun e => h (by simp [e]))]
theorem split_hit {b : UInt8} : ∀ {p : List UInt8} (q : List UInt8), b ∉ p → splitB b (p ++ b :: q) = some (p, q)
  | [], q, _ => by rw [List.nil_append, splitB, if_pos rfl]
  | x :: p, q, h => by
    rw [List.cons_append, splitB, if_neg (fun e => h (by simp [e])), split_hit q (fun e => h (by simp [e]))]
theorem split_some {b : UInt8} : ∀ {l p q : List UInt8}, splitB b l = some (p, q) → l = p ++ b :: q ∧ b ∉ p
  | [], p, q, h => by cases h
  | x :: l, p, q, h => by
    rw [splitB] at h
    split at h
    · rename_i e
      cases h
      subst e
      exact ⟨rfl, by simp⟩
    · rename_i e
      cases hs : splitB b l with
      | none => rw [hs] at h; cases h
      | some pq =>
        obtain ⟨p', q'⟩ := pq
        rw [hs] at h
        cases h
        obtain ⟨h1, h2⟩ := split_some hs
        exact ⟨by rw [h1]; rfl, by simp only [List.mem_cons, not_or]; exact ⟨fun e' => e e'.symm, h2⟩⟩
theorem cutG_none {b : UInt8} {l : List UInt8} (h : b ∉ l) : ∀ n, cutG b n l = [l]
  | 0 => rfl
  | n + 1 => by rw [cutG, split_none h]
theorem cutG_hit {b : UInt8} {p : List UInt8} (q : List UInt8) (h : b ∉ p) (n : Nat) : cutG b (n + 1) (p ++ b :: q) = p :: cutG b n q := by
  rw [cutG, split_hit q h]
theorem cutG_len (b : UInt8) : ∀ (n : Nat) (l : List UInt8), 1 ≤ (cutG b n l).length ∧ (cutG b n l).length ≤ n + 1 ∧ (cutG b n l).length ≤ l.length + 1
  | 0, l => by simp [cutG]
  | n + 1, l => by
    rw [cutG]
    cases hs : splitB b l with
    | none => simp
    | some pq =>
      obtain ⟨p, q⟩ := pq
      have h1 := cutG_len b n q
      have h2 := congrArg List.length (split_some hs).1
      simp only [List.length_append, List.length_cons] at h2 ⊢
      omega
theorem cutG_each (b : UInt8) : ∀ (n : Nat) (l p : List UInt8), p ∈ cutG b n l → p.length ≤ l.length
  | 0, l, p, h => by
    rw [cutG] at h
    simp at h
    rw [h]
    exact Nat.le_refl _
  | n + 1, l, p, h => by
    rw [cutG] at h
    cases hs : splitB b l with
    | none =>
      rw [hs] at h
      simp at h
      rw [h]
      exact Nat.le_refl _
    | some pq =>
      obtain ⟨p', q⟩ := pq
      rw [hs] at h
      have h2 := congrArg List.length (split_some hs).1
      simp only [List.length_append, List.length_cons] at h2
      rcases List.mem_cons.1 h with rfl | h
      · omega
      · have := cutG_each b n q p h
        omega
end Go.Proofs.YtkollpgacheeoaaGreatDoor

namespace Go.Proofs.YtkollpgacheeoaaGreatDoor
open Go.RowKit

theorem rw_same {w w' : World} {b o : Nat} {cs : List Value} (hs : w'.heap[b]? = w.heap[b]?) (h : w.rangeAt b o cs) : w'.rangeAt b o cs :=
  fun j v hv => by rw [← h j v hv]; exact World.cell?_of_block (w := w) hs

theorem rw_cell {W w1 : World} (hb : Below W.heap.size W w1) : (∀ b o, b < W.heap.size → w1.cell? ⟨b, o, none⟩ = W.cell? ⟨b, o, none⟩) ∧ (∀ b o, b < W.heap.size → w1.frozen? ⟨b, o, none⟩ = W.frozen? ⟨b, o, none⟩) :=
  ⟨fun b o h => hb.cell (p := ⟨b, o, none⟩) h, fun b o h => hb.frozen (p := ⟨b, o, none⟩) h⟩

theorem rw_frozen_set (w : World) (p q : Addr) (v : Value) : (w.setCell p v).frozen? q = w.frozen? q := by
  unfold World.frozen? World.setCell
  simp only [Array.getElem?_modify]
  by_cases h : p.block = q.block
  · rw [if_pos h]
    cases hq : w.heap[q.block]? with
    | none => rfl
    | some o => cases o <;> rfl
  · rw [if_neg h]
theorem rw_unfrozen_new (w : World) (b o : Nat) (h : w.heap.size ≤ b) : w.frozen? ⟨b, o, none⟩ = false := by
  unfold World.frozen?
  rw [Array.getElem?_eq_none h]

/-- The things l lie in w as the slice value v, n cells each, in a block of which S holds. -/
def RowOf {α : Type} (n : Nat) (f : α → List Value) (w : World) (S : Nat → Prop) (l : List α) (v : Value) : Prop :=
  ∃ a cap, v = .slice a l.length cap ∧ ∀ i x, l[i]? = some x → ∃ b off, S b ∧ a = some ⟨b, off, none⟩ ∧ w.rangeAt b (off + i * n) (f x)

section
variable {α : Type} {n : Nat} {f : α → List Value} {w w' : World} {S S' : Nat → Prop} {l : List α} {v : Value}
theorem RowOf.same (h : RowOf n f w S l v) (hs : ∀ b, S b → w'.heap[b]? = w.heap[b]? ∧ S' b) : RowOf n f w' S' l v := by
  obtain ⟨a, cap, rfl, h⟩ := h
  refine ⟨a, cap, rfl, fun i x hi => ?_⟩
  obtain ⟨b, off, hb, rfl, hr⟩ := h i x hi
  exact ⟨b, off, (hs b hb).2, rfl, rw_same (hs b hb).1 hr⟩
theorem RowOf.keep {B B' : Nat} (h : RowOf n f w (· < B) l v) (hb : Below B w w') (hB : B ≤ B') : RowOf n f w' (· < B') l v :=
  h.same fun b hlt => ⟨hb.block b hlt, Nat.lt_of_lt_of_le hlt hB⟩
theorem RowOf.drew (h : RowOf n f w S l v) : RowOf n f w.drew S l v := h.same fun _ hb => ⟨rfl, hb⟩
theorem RowOf.slice (h : RowOf n f w S l v) : ∃ a cap, v = .slice a l.length cap := by
  obtain ⟨a, cap, rfl, _⟩ := h
  exact ⟨a, cap, rfl⟩
theorem RowOf.at {a : Option Addr} {cap m : Nat} (h : RowOf n f w S l (.slice a m cap)) (i : Nat) (hi : i < l.length) : ∃ b off, S b ∧ a = some ⟨b, off, none⟩ ∧ w.rangeAt b (off + i * n) (f l[i]) := by
  obtain ⟨a', cap', he, h⟩ := h
  obtain ⟨rfl, rfl, rfl⟩ : a = a' ∧ m = l.length ∧ cap = cap' := by simpa using he
  exact h i _ (List.getElem?_eq_getElem hi)
theorem RowOf.nil (a : Option Addr) (cap : Nat) : RowOf n f w S [] (.slice a 0 cap) := ⟨a, cap, rfl, fun i x h => by simp at h⟩
end

theorem rw_heap_setCells (b : Nat) : ∀ (vs : List Value) (o : Nat) (w : World) (k : Nat), k ≠ b → (w.setCells b o vs).heap[k]? = w.heap[k]?
  | [], _, _, _, _ => rfl
  | v :: r, o, w, k, h => by
    rw [World.setCells, rw_heap_setCells b r (o + 1) _ k h]
    exact Below.heap_setCell _ _ _ _ h
theorem rw_size_setCells (b : Nat) : ∀ (vs : List Value) (o : Nat) (w : World), (w.setCells b o vs).heap.size = w.heap.size
  | [], _, _ => rfl
  | v :: r, o, w => by
    rw [World.setCells, rw_size_setCells b r (o + 1)]
    simp [World.setCell]
theorem rw_below_setCells {B b : Nat} {a : World} (hB : B ≤ b) : ∀ (vs : List Value) (o : Nat) (w : World), Below B a w → Below B a (w.setCells b o vs)
  | [], _, _, h => h
  | v :: r, o, w, h => by
    rw [World.setCells]
    exact rw_below_setCells hB r (o + 1) _ (h.setCell (p := ⟨b, o, none⟩) hB v)
theorem rw_there_made (w : World) (z : Array Value) (n : Nat) (t : TypeId) : (w.alloc (.cells (madeCells z n) t)).there w.heap.size 0 n := fun j hj => by
  have hb : (w.alloc (.cells (madeCells z n) t)).heap[w.heap.size]? = some (.cells (madeCells z n) t) := heap_alloc_new _ _
  refine ⟨?_, ?_⟩
  · rw [cell_of_row _ _ _ _ _ _ hb]; simp [size_madeCells, hj]
  · unfold World.frozen?
    rw [hb]
    simp
theorem rw_there_part {w : World} {b o n k : Nat} (h : w.there b 0 n) (hn : o + k ≤ n) : w.there b o k := fun j hj => by
  have := h (o + j) (by omega)
  simpa using this
theorem rw_there_same {w w' : World} {b o n : Nat} (hs : w'.heap[b]? = w.heap[b]?) (h : w.there b o n) : w'.there b o n := fun j hj => by
  obtain ⟨h1, h2⟩ := h j hj
  exact ⟨by rw [World.cell?_of_block (w := w) hs]; exact h1, by rw [World.frozen?_of_block (w := w) hs]; exact h2⟩

/-- The first m of l are copied into block nb. -/
def CopyTo {α : Type} (n : Nat) (f : α → List Value) (w : World) (nb : Nat) (l : List α) (m : Nat) : Prop := ∀ i x, i < m → l[i]? = some x → w.rangeAt nb (i * n) (f x)
theorem CopyTo.zero {α : Type} {n : Nat} {f : α → List Value} {w : World} {nb : Nat} {l : List α} : CopyTo n f w nb l 0 := fun i x h => absurd h (by omega)
theorem CopyTo.next {α : Type} {n : Nat} {f : α → List Value} {wr w2 : World} {nb : Nat} {l : List α} {m : Nat} (hd : CopyTo n f wr nb l m) (hf : ∀ x, (f x).length = n) (hlt : m < l.length) (hb : w2.heap[nb]? = wr.heap[nb]?)
    (hth : w2.there nb (m * n) n) : CopyTo n f (w2.setCells nb (m * n) (f l[m])) nb l (m + 1) := by
  intro i x hi hx
  by_cases h : i < m
  · refine World.rangeAt_setCells_apart (rw_same hb (hd i x h hx)) _ _ _ (Or.inr (Or.inl ?_))
    rw [hf]
    have : (i + 1) * n ≤ m * n := Nat.mul_le_mul_right _ h
    rw [Nat.succ_mul] at this
    exact this
  · obtain rfl : i = m := by omega
    rw [List.getElem?_eq_getElem hlt] at hx
    cases hx
    exact World.rangeAt_setCells_same w2 nb (i * n) (f l[i]) (by rw [hf]; exact hth)
theorem CopyTo.all {α : Type} {n : Nat} {f : α → List Value} {w : World} {nb : Nat} {l : List α} (hd : CopyTo n f w nb l l.length) {S : Nat → Prop} (hS : S nb) (cap : Nat) : RowOf n f w S l (.slice (some ⟨nb, 0, none⟩) l.length cap) :=
  ⟨_, _, rfl, fun i x hi => ⟨nb, 0, hS, rfl, by have := hd i x (List.getElem?_eq_some_iff.1 hi).1 hi; simpa using this⟩⟩
end Go.Proofs.YtkollpgacheeoaaGreatDoor

