/-
  Expressions in memory of their own: each row of parts in a block, no two rows in one. No walk.
-/
import Derived.Test.YtkkjpiikilhobaaGreatDoorExTo
namespace Go.Proofs.YtkkjpiikilhobaaGreatDoor
open Go.RowKit

/-- The parts es lie in w as the slice v, each row in a block of its own, from lo on and below hi. -/
inductive Tree (w : World) : Nat → Nat → List Ex → Value → Prop
  | none (lo hi : Nat) (a : Option Addr) (cap : Nat) : Tree w lo hi [] (.slice a 0 cap)
  | some (lo hi nb cap : Nat) (es : List Ex) (ss : List Value) (m : Nat → Nat) (h0 : lo ≤ nb) (h1 : nb < m 0) (hm : ∀ i, i < es.length → m i ≤ m (i + 1)) (hh : m es.length ≤ hi) (hl : ss.length = es.length)
      (ht : w.there nb 0 (es.length * 5))
      (hc : ∀ (i : Nat) (e : Ex) (s : Value), es[i]? = Option.some e → ss[i]? = Option.some s → w.rangeAt nb (i * 5) (e.cells s))
      (hk : ∀ (i : Nat) (e : Ex) (s : Value), es[i]? = Option.some e → ss[i]? = Option.some s → Tree w (m i) (m (i + 1)) e.kids s) :
      Tree w lo hi es (.slice (Option.some ⟨nb, 0, Option.none⟩) es.length cap)

theorem chain_le {m : Nat → Nat} {n : Nat} (hm : ∀ i, i < n → m i ≤ m (i + 1)) : ∀ (j i : Nat), i ≤ j → j ≤ n → m i ≤ m j
  | 0, i, h, _ => by obtain rfl : i = 0 := by omega
                     exact Nat.le_refl _
  | j + 1, i, h, hn => by
    by_cases e : i = j + 1
    · subst e; exact Nat.le_refl _
    · exact Nat.le_trans (chain_le hm j i (by omega) (by omega)) (hm j (by omega))

theorem Tree.same {w w' : World} {lo hi : Nat} {es : List Ex} {v : Value} (h : Tree w lo hi es v) : (∀ b, lo ≤ b → b < hi → w'.heap[b]? = w.heap[b]?) → Tree w' lo hi es v := by
  induction h with
  | none lo hi a cap => intro _; exact .none lo hi a cap
  | some lo hi nb cap es ss m h0 h1 hm hh hl ht hc hk ih =>
    intro hs
    have hnb : w'.heap[nb]? = w.heap[nb]? := hs nb h0 (by have := chain_le hm es.length 0 (by omega) (Nat.le_refl _); omega)
    refine .some lo hi nb cap es ss m h0 h1 hm hh hl (there_same hnb ht) (fun i e s h1 h2 => rangeAt_same hnb (hc i e s h1 h2)) (fun i e s he hs' => ih i e s he hs' (fun b hb1 hb2 => hs b ?_ ?_))
    · have hi' := (List.getElem?_eq_some_iff.1 he).1
      have := chain_le hm i 0 (by omega) (by omega)
      omega
    · have hi' := (List.getElem?_eq_some_iff.1 he).1
      have := chain_le hm es.length (i + 1) (by omega) (Nat.le_refl _)
      omega

theorem Tree.wide {w : World} {lo hi lo' hi' : Nat} {es : List Ex} {v : Value} (h : Tree w lo hi es v) (hl : lo' ≤ lo) (hh' : hi ≤ hi') : Tree w lo' hi' es v := by
  cases h with
  | none _ _ a cap => exact .none _ _ a cap
  | some _ _ nb cap es ss m h0 h1 hm hh hl' ht hc hk => exact .some _ _ nb cap es ss m (by omega) h1 hm (by omega) hl' ht hc hk

theorem Tree.keep {w w' : World} {lo hi B : Nat} {es : List Ex} {v : Value} (h : Tree w lo hi es v) (hb : Below B w w') (hB : hi ≤ B) : Tree w' lo hi es v :=
  h.same fun b _ hlt => hb.block b (by omega)

theorem Tree.lies {w : World} {lo hi : Nat} {es : List Ex} {v : Value} (h : Tree w lo hi es v) : Lies w (fun b => lo ≤ b ∧ b < hi) es v := by
  induction h with
  | none lo hi a cap => exact .none a cap
  | some lo hi nb cap es ss m h0 h1 hm hh hl ht hc hk ih =>
    have hz := chain_le hm es.length 0 (by omega) (Nat.le_refl _)
    refine .some nb 0 cap es ss ⟨h0, by omega⟩ hl (fun i e s h1 h2 => by simpa using hc i e s h1 h2) (fun i e s he hs' => (ih i e s he hs').same fun b hb => ⟨rfl, ?_, ?_⟩)
    · have hi' := (List.getElem?_eq_some_iff.1 he).1
      have := chain_le hm i 0 (by omega) (by omega)
      have := hb.1
      omega
    · have hi' := (List.getElem?_eq_some_iff.1 he).1
      have := chain_le hm es.length (i + 1) (by omega) (Nat.le_refl _)
      have := hb.2
      omega

theorem Tree.slice {w : World} {lo hi : Nat} {es : List Ex} {v : Value} (h : Tree w lo hi es v) : ∃ a cap, v = .slice a es.length cap := h.lies.slice

/-- A part, and what comes of the whole where that part alone is turned. -/
theorem Tree.at {w : World} {lo hi : Nat} {es : List Ex} {v : Value} (h : Tree w lo hi es v) {i : Nat} (hi' : i < es.length) :
    ∃ nb cap s a b, v = .slice (Option.some ⟨nb, 0, Option.none⟩) es.length cap ∧ lo ≤ nb ∧ nb < a ∧ a ≤ b ∧ b ≤ hi ∧ w.there nb 0 (es.length * 5) ∧ w.rangeAt nb (i * 5) (es[i].cells s) ∧ Tree w a b es[i].kids s ∧
      ∀ (w' : World) (e' : Ex), w'.there nb 0 (es.length * 5) → (∀ j, j < i * 5 ∨ i * 5 + 5 ≤ j → w'.cell? ⟨nb, j, Option.none⟩ = w.cell? ⟨nb, j, Option.none⟩) →
        (∀ x, lo ≤ x → x < hi → x ≠ nb → x < a ∨ b ≤ x → w'.heap[x]? = w.heap[x]?) → w'.rangeAt nb (i * 5) (e'.cells s) → Tree w' a b e'.kids s → Tree w' lo hi (es.set i e') v := by
  cases h with
  | none _ _ a cap => simp at hi'
  | some _ _ nb cap es ss m h0 h1 hm hh hl ht hc hk =>
    have hiS : i < ss.length := by omega
    have he := List.getElem?_eq_getElem hi'
    have hs := List.getElem?_eq_getElem hiS
    have hz := chain_le hm i 0 (by omega) (by omega)
    have hz2 := chain_le hm es.length (i + 1) (by omega) (Nat.le_refl _)
    refine ⟨nb, cap, ss[i], m i, m (i + 1), rfl, h0, by omega, hm i hi', by omega, ht, hc i _ _ he hs, hk i _ _ he hs, ?_⟩
    intro w' e' ht' hcell hblk hr' hk'
    have hlen : (es.set i e').length = es.length := by simp
    have := Tree.some (w := w') lo hi nb cap (es.set i e') ss m h0 h1 (by rw [hlen]; exact hm) (by rw [hlen]; exact hh) (by rw [hlen]; exact hl) (by rw [hlen]; exact ht') ?_ ?_
    · rw [hlen] at this; exact this
    · intro j e s hj hsj
      by_cases hji : j = i
      · subst hji
        rw [List.getElem?_set_self (by omega)] at hj
        rw [hs] at hsj
        cases hj; cases hsj
        exact hr'
      · rw [List.getElem?_set_ne (by omega)] at hj
        have h5 := hc j e s hj hsj
        intro q u hq
        have hq5 : q < 5 := by have := (List.getElem?_eq_some_iff.1 hq).1; simpa [Ex.cells] using this
        rw [hcell (j * 5 + q) (by omega)]
        exact h5 q u hq
    · intro j e s hj hsj
      by_cases hji : j = i
      · subst hji
        rw [List.getElem?_set_self (by omega)] at hj
        rw [hs] at hsj
        cases hj; cases hsj
        exact hk'
      · rw [List.getElem?_set_ne (by omega)] at hj
        have hjl := (List.getElem?_eq_some_iff.1 hj).1
        refine (hk j e s hj hsj).same fun b hb1 hb2 => ?_
        have hy := chain_le hm j 0 (by omega) (by omega)
        have hy2 := chain_le hm es.length (j + 1) (by omega) (Nat.le_refl _)
        refine hblk b (by omega) (by omega) (by omega) ?_
        by_cases hlt : j < i
        · have := chain_le hm i (j + 1) (by omega) (by omega); omega
        · have := chain_le hm j (i + 1) (by omega) (by omega); omega

/-- The first k of es have come to lie in the row nb, their parts behind it. -/
def Grow (w : World) (nb : Nat) (es : List Ex) (k : Nat) : Prop :=
  ∃ (ss : List Value) (m : Nat → Nat), ss.length = k ∧ nb < m 0 ∧ (∀ i, i < k → m i ≤ m (i + 1)) ∧ m k ≤ w.heap.size ∧
    ∀ (i : Nat) (e : Ex) (s : Value), es[i]? = some e → ss[i]? = some s → w.rangeAt nb (i * 5) (e.cells s) ∧ Tree w (m i) (m (i + 1)) e.kids s

theorem Grow.start {w : World} {nb : Nat} (es : List Ex) (h : nb < w.heap.size) : Grow w nb es 0 :=
  ⟨[], fun _ => w.heap.size, rfl, h, fun _ h => by omega, Nat.le_refl _, fun i e s _ h => by simp at h⟩
theorem Grow.lt {w : World} {nb : Nat} {es : List Ex} {k : Nat} (h : Grow w nb es k) : nb < w.heap.size := by
  obtain ⟨ss, m, _, h1, h2, h3, _⟩ := h
  have := chain_le h2 k 0 (by omega) (Nat.le_refl _)
  omega
theorem Grow.keep {w w' : World} {nb : Nat} {es : List Ex} {k : Nat} (h : Grow w nb es k) (hb : Below w.heap.size w w') : Grow w' nb es k := by
  have hlt := h.lt
  obtain ⟨ss, m, h0, h1, h2, h3, h4⟩ := h
  refine ⟨ss, m, h0, h1, h2, Nat.le_trans h3 hb.size, fun i e s he hs => ⟨rangeAt_same (hb.block nb hlt) (h4 i e s he hs).1, (h4 i e s he hs).2.keep hb ?_⟩⟩
  have hi := (List.getElem?_eq_some_iff.1 hs).1
  have := chain_le h2 k (i + 1) (by omega) (Nat.le_refl _)
  omega
theorem Grow.next {w w2 : World} {nb lo : Nat} {es : List Ex} {s : Value} {k : Nat} (h : Grow w nb es k) (hlt : k < es.length) (hb : Below w.heap.size w w2) (hth : w2.there nb (k * 5) 5) (hlo : w.heap.size ≤ lo)
    (hs : Tree w2 lo w2.heap.size es[k].kids s) : Grow (w2.setCells nb (k * 5) (es[k].cells s)) nb es (k + 1) := by
  have hnb := h.lt
  obtain ⟨ss, m, h0, h1, h2, h3, h4⟩ := h
  have hsz := hb.size
  refine ⟨ss ++ [s], fun i => if i ≤ k then m i else w2.heap.size, by simp; omega, by simpa using h1, fun i hi => ?_, by rw [size_setCells]; simp only [show ¬ k + 1 ≤ k by omega, if_false]; exact Nat.le_refl _, ?_⟩
  · by_cases e : i = k
    · subst e; simp only [Nat.le_refl, if_true, show ¬ i + 1 ≤ i by omega, if_false]; omega
    · have h6 := h2 i (by omega)
      simp only [show i ≤ k by omega, show i + 1 ≤ k by omega, if_true]; exact h6
  · intro i e s' hi hs'
    by_cases hik : i < k
    · rw [List.getElem?_append_left (by omega)] at hs'
      obtain ⟨h5, h6⟩ := h4 i e s' hi hs'
      have hc := chain_le h2 k (i + 1) (by omega) (Nat.le_refl _)
      have hc0 := chain_le h2 i 0 (by omega) (by omega)
      refine ⟨World.rangeAt_setCells_apart (rangeAt_same (hb.block nb hnb) h5) _ _ _ (Or.inr (Or.inl ?_)), ?_⟩
      · simp [Ex.cells]; omega
      · simp only [show i ≤ k by omega, show i + 1 ≤ k by omega, if_true]
        refine h6.same fun b hb1 hb2 => ?_
        rw [heap_setCells _ _ _ _ _ (by omega)]; exact hb.block b (by omega)
    · have hik : i = k := by
        have := (List.getElem?_eq_some_iff.1 hs').1
        simp at this; omega
      subst hik
      rw [List.getElem?_append_right (by omega)] at hs'
      simp [h0] at hs'
      subst hs'
      rw [List.getElem?_eq_getElem hlt] at hi
      cases hi
      refine ⟨World.rangeAt_setCells_same w2 nb (i * 5) (es[i].cells s) hth, ?_⟩
      simp only [Nat.le_refl, if_true, show ¬ i + 1 ≤ i by omega, if_false]
      refine Tree.same (Tree.wide hs (by omega) (Nat.le_refl _)) fun b hb1 hb2 => heap_setCells _ _ _ _ _ ?_
      have := chain_le h2 i 0 (by omega) (Nat.le_refl _)
      omega
theorem Grow.all {w : World} {nb lo : Nat} {es : List Ex} (h : Grow w nb es es.length) (hth : w.there nb 0 (es.length * 5)) (hlo : lo ≤ nb) (cap : Nat) : Tree w lo w.heap.size es (.slice (some ⟨nb, 0, none⟩) es.length cap) := by
  obtain ⟨ss, m, h0, h1, h2, h3, h4⟩ := h
  exact .some lo _ nb cap es ss m hlo h1 h2 h3 h0 hth (fun i e s a b => (h4 i e s a b).1) (fun i e s a b => (h4 i e s a b).2)
end Go.Proofs.YtkkjpiikilhobaaGreatDoor
