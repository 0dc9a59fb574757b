/-
  The pairs that were looked at, as a map in memory; what a walk over pairs of words holds in memory.
-/
import Derived.Test.YtpocmljbfcenfaaPmQue
import Derived.Test.YtpocmljbfcenfaaSmTop
import Derived.Maps.Views
import Derived.Maps.OwnOps
namespace Go.Proofs.Ytpocmljbfcenfaa
open Go.RowKit Go.Maps Go.WideMaps

theorem heap_wordP {cs : List Ce} (h : heapM cs = true) : ∀ c ∈ cs, wordP cs.length c.a.tag c.a.num ∧ wordP cs.length c.b.tag c.b.num := by
  rw [heapM, Bool.and_eq_true, List.all_eq_true] at h
  intro c hc
  have := of_decide_eq_true (h.2 c hc)
  unfold cellQ at this
  exact ⟨this.1, this.2.1⟩
theorem words_ok {cs : List Ce} {d : Wd} (h : heapM cs = true) (hd : wordP cs.length d.tag d.num) : ∀ e ∈ wordsL cs d, wordP cs.length e.tag e.num := by
  intro e he
  rcases List.mem_cons.1 he with rfl | he
  · exact hd
  · obtain ⟨c, hc, he⟩ := List.mem_flatMap.1 he
    simp only [List.mem_cons, List.not_mem_nil, or_false] at he
    rcases he with rfl | rfl
    · exact (heap_wordP h c hc).1
    · exact (heap_wordP h c hc).2
theorem wf_of_word {n : Nat} (hn : n ≤ 1000) {d : Wd} (h : wordP n d.tag d.num) : (Lit.int .i64 d.tag).wf = true ∧ (Lit.int .i64 d.num).wf = true := by
  unfold wordP at h
  have h1 : IntKind.min .i64 = -9223372036854775808 := by decide
  have h2 : IntKind.max .i64 = 9223372036854775807 := by decide
  simp only [Lit.wf, Bool.and_eq_true, decide_eq_true_eq, h1, h2]
  omega
/-- What holds of each pair that can come up. -/
def Pfine (x y : List Ce) (p : Pw) : Prop := p.fine ∧ refOk x.length p.x ∧ refOk y.length p.y
theorem pair_fine {x y : List Ce} {d u : Wd} (hx : heapM x = true) (hy : heapM y = true) (hd : wordP x.length d.tag d.num) (hu : wordP y.length u.tag u.num) {p : Pw} (hp : p ∈ pairsL x y d u) : Pfine x y p := by
  obtain ⟨h1, h2⟩ := pairsL_mem.1 hp
  have w1 := words_ok hx hd _ h1
  have w2 := words_ok hy hu _ h2
  have l1 := (heap_refs hx).1
  have l2 := (heap_refs hy).1
  obtain ⟨a, b⟩ := wf_of_word (by omega) w1
  obtain ⟨c, e⟩ := wf_of_word (by omega) w2
  exact ⟨⟨a, b, c, e⟩, ref_of_word w1, ref_of_word w2⟩
/-- A map says which pairs are in a list. -/
def SetIs (D : DataW Unit) (S : List Pw) : Prop := ∀ p : Pw, p.fine → (has D (keyL p) = true ↔ p ∈ S)
theorem SetIs.start : SetIs (.map []) [] := fun p _ => by
  constructor
  · intro h
    cases h
  · intro h
    cases h
theorem SetIs.yes {D : DataW Unit} {S : List Pw} (h : SetIs D S) {p : Pw} (hp : p.fine) (hs : p ∈ S) : has D (keyL p) = true := (h p hp).2 hs
theorem SetIs.no {D : DataW Unit} {S : List Pw} (h : SetIs D S) {p : Pw} (hp : p.fine) (hs : p ∉ S) : has D (keyL p) = false := by
  cases e : has D (keyL p)
  · rfl
  · exact absurd ((h p hp).1 e) hs
theorem SetIs.put {w : World} {b n : Nat} {D : DataW Unit} {S : List Pw} (h : SetIs D S) (hown : w.ownsMap Try.prog 43 unitElem b n D) {p : Pw} (hp : p.fine) : SetIs (D.put (keyL p) (.agg [])) (p :: S) := by
  have hmap : IsMap D := by obtain ⟨es, cl, _, _, _, hd⟩ := hown; exact ⟨_, hd⟩
  intro q hq
  by_cases e : q = p
  · subst e
    rw [has_put_same hmap (by trivial)]
    simp
  · rw [has_put_other (fun hk => e (key_inj hq hp hk)), h q hq]
    simp [e]
/-- A walk under way, in memory. -/
structure PmW (w0 w : World) (mb : Nat) (x y : List Ce) (d u : Wd) (S O : List Pw) (vq : Value) : Prop where
  map : ∃ D, w.ownsMap Try.prog 43 unitElem mb S.length D ∧ SetIs D S
  que : QueP w w0.heap.size O vq
  apart : qBP vq ≠ some mb
  low : w0.heap.size ≤ mb
  inv : PmInv x y d u S O
  sub : ∀ p ∈ S ++ O, p ∈ pairsL x y d u
  bel : Below w0.heap.size w0 w
def pmM (x y : List Ce) (S O : List Pw) : Nat := 3 * ((2 * x.length + 1) * (2 * y.length + 1) - S.length) + O.length
theorem PmW.len {w0 w : World} {mb : Nat} {x y : List Ce} {d u : Wd} {S O : List Pw} {vq : Value} (h : PmW w0 w mb x y d u S O vq) : S.length ≤ (2 * x.length + 1) * (2 * y.length + 1) := by
  rw [← pairsL_len x y d u]
  exact nodup_sub _ _ h.inv.nodup (fun a ha => h.sub a (List.mem_append_left _ ha))
theorem PmW.keep {w0 w w' : World} {mb : Nat} {x y : List Ce} {d u : Wd} {S O : List Pw} {vq : Value} (h : PmW w0 w mb x y d u S O vq) (hb : Below w.heap.size w w') : PmW w0 w' mb x y d u S O vq := by
  obtain ⟨D, h1, h2⟩ := h.map
  refine ⟨⟨D, ?_, h2⟩, h.que.keep hb, h.apart, h.low, h.inv, h.sub, hc_next h.bel hb⟩
  have hlt := h1.lt
  obtain ⟨es, clock, hbk, F, hs, hD⟩ := h1
  exact ⟨es, clock, (hb.block mb hlt).trans hbk, F, hs, hD⟩
end Go.Proofs.Ytpocmljbfcenfaa
