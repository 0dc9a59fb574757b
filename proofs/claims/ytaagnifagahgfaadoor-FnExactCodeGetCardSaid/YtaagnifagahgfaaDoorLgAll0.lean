/-
  A text cut at a byte, so many times at most. Mathematics; no program is named here.
  The lines of a text. Mathematics; no program is named here.
  A range over an iterator that keeps a cell of its own (its captured text, say), whose body is always left at its end: what the iterator owes, what the caller owes. No program is named here.
-/
import Derived.Lib.Bytealg
import Derived.RangeFuncNested
import Derived.RangeFuncBound
import Derived.RangeFuncCalls
import Derived.RangeFuncLeaves
import Derived.Shelf.Abstract
import Derived.Shelf.RegionOpen
import Derived.WalkKit
import Derived.OwnWalkIn
import Derived.TacticsInMore
import Derived.LoopNIn
import Derived.LoopIn
namespace Go.Proofs.YtaagnifagahgfaaDoor

def splitB (b : UInt8) : List UInt8 → Option (List UInt8 × List UInt8)
  | [] => none
  | x :: l => if x = b then some ([], l) else match splitB b l with
    | none => none
    | some (p, q) => some (x :: p, q)
/-- A text cut at a byte, so many times at most. -/
def cutG (b : UInt8) : Nat → List UInt8 → List (List UInt8)
  | 0, l => [l]
  | n + 1, l => match splitB b l with
    | none => [l]
    | some (p, q) => p :: cutG b n q
theorem split_none {b : UInt8} : ∀ {l : List UInt8}, b ∉ l → splitB b l = none
  | [], _ => rfl
  | x :: l, h => by
    rw [splitB, if_neg (fun e => h (by simp [e])), split_none (fun e => h (by simp [e]))]
theorem split_hit {b : UInt8} : ∀ {p : List UInt8} (q : List UInt8), b ∉ p → splitB b (p ++ b :: q) = some (p, q)
  | [], q, _ => by rw [List.nil_append, splitB, if_pos rfl]
  | x :: p, q, h => by
    rw [List.cons_append, splitB, if_neg (fun e => h (by simp [e])), split_hit q (fun e => h (by simp [e]))]
theorem split_some {b : UInt8} : ∀ {l p q : List UInt8}, splitB b l = some (p, q) → l = p ++ b :: q ∧ b ∉ p
  | [], p, q, h => by cases h
  | x :: l, p, q, h => by
    rw [splitB] at h
    split at h
    · rename_i e
      cases h
      subst e
      exact ⟨rfl, by simp⟩
    · rename_i e
      cases hs : splitB b l with
      | none => rw [hs] at h; cases h
      | some pq =>
        obtain ⟨p', q'⟩ := pq
        rw [hs] at h
        cases h
        obtain ⟨h1, h2⟩ := split_some hs
        exact ⟨by rw [h1]; rfl, by simp only [List.mem_cons, not_or]; exact ⟨fun e' => e e'.symm, h2⟩⟩
theorem cutG_none {b : UInt8} {l : List UInt8} (h : b ∉ l) : ∀ n, cutG b n l = [l]
  | 0 => rfl
  | n + 1 => by rw [cutG, split_none h]
theorem cutG_hit {b : UInt8} {p : List UInt8} (q : List UInt8) (h : b ∉ p) (n : Nat) : cutG b (n + 1) (p ++ b :: q) = p :: cutG b n q := by
  rw [cutG, split_hit q h]
theorem cutG_len (b : UInt8) : ∀ (n : Nat) (l : List UInt8), 1 ≤ (cutG b n l).length ∧ (cutG b n l).length ≤ n + 1 ∧ (cutG b n l).length ≤ l.length + 1
  | 0, l => by simp [cutG]
  | n + 1, l => by
    rw [cutG]
    cases hs : splitB b l with
    | none => simp
    | some pq =>
      obtain ⟨p, q⟩ := pq
      have h1 := cutG_len b n q
      have h2 := congrArg List.length (split_some hs).1
      simp only [List.length_append, List.length_cons] at h2 ⊢
      omega
theorem cutG_each (b : UInt8) : ∀ (n : Nat) (l p : List UInt8), p ∈ cutG b n l → p.length ≤ l.length
  | 0, l, p, h => by
    rw [cutG] at h
    simp at h
    rw [h]
    exact Nat.le_refl _
  | n + 1, l, p, h => by
    rw [cutG] at h
    cases hs : splitB b l with
    | none =>
      rw [hs] at h
      simp at h
      rw [h]
      exact Nat.le_refl _
    | some pq =>
      obtain ⟨p', q⟩ := pq
      rw [hs] at h
      have h2 := congrArg List.length (split_some hs).1
      simp only [List.length_append, List.length_cons] at h2
      rcases List.mem_cons.1 h with rfl | h
      · omega
      · have := cutG_each b n q p h
        omega
end Go.Proofs.YtaagnifagahgfaaDoor

namespace Go.Proofs.YtaagnifagahgfaaDoor

/-- A text's first line, with its newline, and what stands behind. -/
def cutLine : List UInt8 → List UInt8 × List UInt8
  | [] => ([], [])
  | b :: l => if b = 10 then ([10], l) else (b :: (cutLine l).1, (cutLine l).2)
theorem index_ge : ∀ (l : List UInt8), -1 ≤ Lib.indexByte l 10 ∧ Lib.indexByte l 10 < l.length
  | [] => by decide
  | b :: l => by
    have h := index_ge l
    rw [Lib.indexByte, List.length_cons]
    split
    · omega
    · split
      · omega
      · omega
theorem cut_index : ∀ (l : List UInt8), (0 ≤ Lib.indexByte l 10 → cutLine l = (l.take ((Lib.indexByte l 10).toNat + 1), l.drop ((Lib.indexByte l 10).toNat + 1))) ∧ (¬ 0 ≤ Lib.indexByte l 10 → cutLine l = (l, []))
  | [] => ⟨fun h => absurd h (by decide), fun _ => rfl⟩
  | b :: l => by
    obtain ⟨h1, h2⟩ := cut_index l
    have hg := index_ge l
    by_cases hb : b = 10
    · subst hb
      have e : Lib.indexByte (10 :: l) 10 = 0 := by rw [Lib.indexByte]; rfl
      rw [e, cutLine, if_pos rfl]
      exact ⟨fun _ => rfl, fun h => absurd (Int.le_refl _) h⟩
    · have hbb : ¬ ((b == 10) = true) := by simpa using hb
      rw [cutLine, if_neg hb]
      by_cases hl : 0 ≤ Lib.indexByte l 10
      · have hne : ¬ ((Lib.indexByte l 10 == -1) = true) := by simp; omega
        have e : Lib.indexByte (b :: l) 10 = Lib.indexByte l 10 + 1 := by
          rw [Lib.indexByte, if_neg hbb, if_neg hne]
        rw [e, h1 hl, show (Lib.indexByte l 10 + 1).toNat = (Lib.indexByte l 10).toNat + 1 by omega]
        exact ⟨fun _ => rfl, fun h => absurd (by omega) h⟩
      · have hy : (Lib.indexByte l 10 == -1) = true := by simp; omega
        have e : Lib.indexByte (b :: l) 10 = -1 := by
          rw [Lib.indexByte, if_neg hbb, if_pos hy]
        rw [e, h2 hl]
        exact ⟨fun h => absurd h (by decide), fun _ => rfl⟩
theorem cut_app : ∀ (l : List UInt8), (cutLine l).1 ++ (cutLine l).2 = l
  | [] => rfl
  | b :: l => by
    rw [cutLine]
    split
    · rename_i h
      subst h
      rfl
    · show b :: ((cutLine l).1 ++ (cutLine l).2) = _
      rw [cut_app l]
theorem cut_less {l : List UInt8} (h : l ≠ []) : (cutLine l).2.length < l.length := by
  cases l with
  | nil => exact absurd rfl h
  | cons b l =>
    have := congrArg List.length (cut_app l)
    rw [List.length_append] at this
    rw [cutLine]
    split
    · simp
    · simp; omega
/-- What stands behind k lines. -/
def restL : Nat → List UInt8 → List UInt8
  | 0, l => l
  | k + 1, l => restL k (cutLine l).2
def lineL (k : Nat) (l : List UInt8) : List UInt8 := (cutLine (restL k l)).1
def cntF : Nat → List UInt8 → Nat
  | 0, _ => 0
  | _ + 1, [] => 0
  | n + 1, b :: l => cntF n (cutLine (b :: l)).2 + 1
/-- How many lines. -/
def cntL (l : List UInt8) : Nat := cntF l.length l
theorem rest_next : ∀ (k : Nat) (l : List UInt8), restL (k + 1) l = (cutLine (restL k l)).2
  | 0, _ => rfl
  | k + 1, l => by rw [restL, rest_next k]; rfl
theorem rest_len : ∀ (k : Nat) (l : List UInt8), (restL k l).length ≤ l.length
  | 0, _ => Nat.le_refl _
  | k + 1, l => by
    rw [restL]
    have h1 := rest_len k (cutLine l).2
    have := congrArg List.length (cut_app l)
    rw [List.length_append] at this
    omega
theorem line_len_le (k : Nat) (l : List UInt8) : (lineL k l).length ≤ l.length := by
  have h1 := rest_len k l
  have := congrArg List.length (cut_app (restL k l))
  rw [List.length_append] at this
  unfold lineL
  omega
theorem cut_nil : cutLine [] = ([], []) := rfl
theorem rest_nil : ∀ k, restL k [] = []
  | 0 => rfl
  | k + 1 => by rw [restL]; exact rest_nil k
theorem cntF_spec : ∀ (n : Nat) (l : List UInt8), l.length ≤ n → (∀ k, k < cntF n l → restL k l ≠ []) ∧ restL (cntF n l) l = [] ∧ cntF n l ≤ l.length
  | 0, l, h => by
    have : l = [] := List.length_eq_zero_iff.1 (by omega)
    subst this
    exact ⟨fun k hk => absurd hk (Nat.not_lt_zero _), rfl, Nat.le_refl _⟩
  | n + 1, [], _ => ⟨fun k hk => absurd hk (Nat.not_lt_zero _), rfl, Nat.le_refl _⟩
  | n + 1, b :: l, h => by
    have hl := cut_less (l := b :: l) (by simp)
    obtain ⟨h1, h2, h3⟩ := cntF_spec n (cutLine (b :: l)).2 (by simp at h hl ⊢; omega)
    refine ⟨fun k hk => ?_, h2, by rw [cntF]; omega⟩
    cases k with
    | zero => simp [restL]
    | succ k =>
      rw [restL]
      exact h1 k (by rw [cntF] at hk; omega)
theorem lns_rest {l : List UInt8} {k : Nat} (h : k < cntL l) : restL k l ≠ [] := (cntF_spec _ l (Nat.le_refl _)).1 k h
theorem lns_end (l : List UInt8) : restL (cntL l) l = [] := (cntF_spec _ l (Nat.le_refl _)).2.1
theorem lns_le (l : List UInt8) : cntL l ≤ l.length := (cntF_spec _ l (Nat.le_refl _)).2.2
theorem lns_stop {l : List UInt8} {k : Nat} (hk : k ≤ cntL l) (h : restL k l = []) : k = cntL l := by
  apply Decidable.byContradiction
  intro hn
  exact lns_rest (by omega) h
end Go.Proofs.YtaagnifagahgfaaDoor

namespace Go.Proofs.YtaagnifagahgfaaDoor
open Go.RowKit

/-- But for the iterator's cell and the loop's two records all stands. -/
structure Aside (s d : Nat) (A B : World) : Prop where
  os : B.os = A.os
  tape : B.tape = A.tape
  output : B.output = A.output
  size : A.heap.size ≤ B.heap.size
  block : ∀ k, k < A.heap.size → k ≠ s → k ≠ d → k ≠ d + 1 → B.heap[k]? = A.heap[k]?
theorem Aside.grown {s d : Nat} {A B : World} (h : A.grownBy B (some s)) : Aside s d A B := ⟨h.os, h.tape, h.output, h.size, fun k hk h1 _ _ => h.block k hk (by simpa using h1)⟩
theorem Aside.put (s d : Nat) (A : World) (l : Nat) (o : Obj) (h : l = d ∨ l = d + 1) : Aside s d A (A.putObj l o) :=
  ⟨rfl, rfl, rfl, by simp, fun k _ _ h1 h2 => World.putObj_heap_other (by omega)⟩
theorem Aside.below {s d : Nat} {A B : World} (h : Below A.heap.size A B) : Aside s d A B := ⟨h.os, h.tape, h.output, h.size, fun k hk _ _ _ => h.block k hk⟩

/-- WHAT THE ITERATOR OWES: it calls yield with the N things in turn, and turns nothing but its own cell s. -/
def Hands (n : Nat) (P : Program) (gf : Nat) (lb : Array Value) (s N : Nat) (encs : Nat → Array Value) (St : World → Prop) : Prop :=
  ∀ (l : Nat) (J : Nat → World → Prop) (W : World), s < W.heap.size → (∀ k A B, J k A → A.grownBy B (some s) → J k B) →
    (∀ k A, k < N → J k A → s < A.heap.size → YieldAt Fence.wide (n - 1) P l (encs k) A fun e B => e = .returned (.bool true) ∧ J (k + 1) B ∧ A.heap.size ≤ B.heap.size ∧ B.heap[s]? = A.heap[s]?) →
    St W → J 0 W → CallsIn Fence.wide n P gf (#[.func (.yield l) #[] #[]] ++ lb) W fun e W' => (∃ v, e = .returned v) ∧ J N W'

/-- What is asked where a round's body ends. -/
def roundEnd (s d : Nat) (W : World) (I : World → Prop) (e : Exit) (_ : Act) (B : World) : Prop :=
  e = .normal ∧ I B ∧ W.heap.size ≤ B.heap.size ∧ B.heap[s]? = W.heap[s]? ∧ B.heap[d]? = W.heap[d]? ∧ B.heap[d + 1]? = W.heap[d + 1]?

theorem range_each {P : Program} {n : Nat} {g : Operand} {ps : Array Tmp} {assign body : Code} {Q : Exit → Act → World → Prop} {a : Act} {w : World} (h1 : 1 ≤ n) {gf : Nat} {lb : Array Value}
    (hg : a.eval g = .func (.func gf) #[] lb) (eg : ∀ args w, (callFunc gf args).run P w = .ok (.enter gf args) w)
    {s N : Nat} (hs : s < w.heap.size) {encs : Nat → Array Value} (hps : ∀ k, (encs k).size = ps.size) {St : World → Prop} (hit : Hands (n - 1) P gf lb s N encs St) (hSt : ∀ W, Below w.heap.size w W → St W)
    (I : Nat → World → Prop) (hI : ∀ k A B, I k A → w.heap.size + 1 < A.heap.size → Aside s w.heap.size A B → I k B) (h0 : ∀ W, Below w.heap.size w W → I 0 W) (a₁ : Nat → Act)
    (hassign : ∀ k W K, k < N → K (a₁ k) W → assign.wpIn (Fence.wide.inRound (w.heap.size + 1)) (n - 1 - 1) P (Exit.then K (fun _ _ _ => False)) { tmps := (ps.zip (encs k)).foldl (fun t (p, v) => t.setIfInBounds p v) a.tmps, defers := [] } W)
    (hbody : ∀ k W, k < N → I k W → w.heap.size + 1 < W.heap.size → body.wpIn (Fence.wide.inRound (w.heap.size + 1)) (n - 1 - 1) P (roundEnd s w.heap.size W (I (k + 1))) (a₁ k) W)
    (hdone : ∀ W, I N W → w.heap.size + 1 < W.heap.size → W.heap[w.heap.size]? = some (.deferred (some [])) → Q .normal { a with defers := { target := .collected w.heap.size, args := #[] } :: a.defers } W) :
    (Code.rangeFunc g ps assign body).wpIn Fence.wide n P Q a w := by
  refine wpIn_rangeFunc fun fn hfn => ?_
  obtain ⟨d, hd⟩ : ∃ d, d = w.heap.size := ⟨_, rfl⟩
  obtain ⟨r, hr⟩ : ∃ r : LoopState → Loop, r = fun st => { state := st, pending := none, fn, tmps := a.tmps, params := ps, assign, body, defers := w.heap.size } := ⟨_, rfl⟩
  obtain ⟨W1, hW1⟩ : ∃ W1, W1 = (w.alloc (.deferred (some []))).alloc (.loop (r .ready)) := ⟨_, rfl⟩
  have hb1 : Below w.heap.size w W1 := by rw [hW1]; exact ((Below.refl _ w).alloc (Nat.le_refl _) _).alloc (by simp) _
  have hz1 : W1.heap.size = w.heap.size + 2 := by rw [hW1]; simp
  have hl1 : W1.heap[w.heap.size + 1]? = some (.loop (r .ready)) := by
    rw [hW1]
    have := World.alloc_heap_new (w.alloc (.deferred (some []))) (.loop (r .ready))
    rwa [World.size_alloc] at this
  have hd1 : W1.heap[w.heap.size]? = some (.deferred (some [])) := by
    rw [hW1]
    exact (Below.heap_alloc _ _ _ (by simp)).trans (World.alloc_heap_new w _)
  refine ⟨w.heap.size + 1, [{ target := .collected w.heap.size, args := #[] }], W1, { target := .fn (.func gf) lb, args := #[.func (.yield (w.heap.size + 1)) #[] #[]] }, W1, gf, #[.func (.yield (w.heap.size + 1)) #[] #[]] ++ lb, W1, ?_, ?_, fun _ _ => trivial, ?_, fun h => ?_, ?_⟩
  · rw [hW1, hr]
    exact run_enterLoop_outer _ _ _ _ _
  · simp only [resolve, hg]
    simp [go_sem]
  · simp [invoke, go_sem, eg]
  · exact h1
  refine (hit (w.heap.size + 1) (fun k W => I k W ∧ w.heap.size + 1 < W.heap.size ∧ W.heap[w.heap.size + 1]? = some (.loop (r .ready)) ∧ W.heap[w.heap.size]? = some (.deferred (some []))) W1 (by omega) ?_ ?_ (hSt W1 hb1) ⟨h0 W1 hb1, by omega, hl1, hd1⟩).mono ?_
  · rintro k A B ⟨hi, hz, hl, hk⟩ hgr
    exact ⟨hI k A B hi hz (Aside.grown hgr), by have := hgr.size; omega, by rw [hgr.block _ hz (by simp; omega)]; exact hl, by rw [hgr.block _ (by omega) (by simp; omega)]; exact hk⟩
  · rintro k A hkN ⟨hi, hz, hl, hk⟩ hsA
    have hy := run_yield (P := P) (args := encs k) hl (by rw [hr]; exact hps k)
    rw [hr] at hy
    refine ⟨fn, _, assign, body, hy, roundIn_of_wpIn hfn (hassign k A _ hkN ⟨_, run_beginRound hl (by rw [hr]), ?_⟩)⟩
    refine wpIn_mono (hbody k _ hkN (hI k _ _ hi hz (Aside.put s w.heap.size A _ _ (Or.inr rfl))) (by simpa using hz)) ?_
    rintro e a3 B ⟨rfl, hi3, hz3, hs3, hd3, hl3⟩
    have hA2 : (A.putObj (w.heap.size + 1) (.loop { r .ready with state := .busy })).heap[w.heap.size + 1]? = some (.loop { r .ready with state := .busy }) := World.putObj_heap_same hz
    have hl4 := hl3.trans hA2
    have hzB : w.heap.size + 1 < B.heap.size := by simp at hz3; omega
    refine ⟨_, _, run_endRound (P := P) none hl4, rfl, ⟨hI _ _ _ hi3 hzB (Aside.put s w.heap.size B _ _ (Or.inr rfl)), by simpa using hzB, ?_, ?_⟩, ?_, ?_⟩
    · rw [World.putObj_heap_same hzB]
      rw [hr]
      rfl
    · rw [World.putObj_heap_other (by omega), hd3, World.putObj_heap_other (by omega)]
      exact hk
    · simp at hz3 ⊢; omega
    · rw [World.putObj_heap_other (by omega), hs3, World.putObj_heap_other (by omega)]
  · rintro e W2 ⟨⟨v, rfl⟩, hi, hz, hl, hk⟩
    refine ⟨none, _, (run_endLoop (P := P) hl (by rw [hr]; simp)).trans (by rw [hr]), ?_⟩
    exact hdone _ (hI _ _ _ hi hz (Aside.put s w.heap.size W2 _ _ (Or.inr rfl))) (by simpa using hz) (by rw [World.putObj_heap_other (by omega)]; exact hk)
end Go.Proofs.YtaagnifagahgfaaDoor

