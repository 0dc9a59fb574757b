/-
  The names that walkFree finds are those of the specification's l3Free.
  The names that tidyNames finds are those of the specification's l3Next.
  bareCopy: an expression with room for its parts.
  Expressions in memory of their own: each row of parts in a block, no two rows in one. No walk.
  Expressions in which what is bound is named by how deep it is bound: plain mathematics.
  The law's own toExpr, toExprS: the copy's rows lie each in a block of its own.
-/
import Derived.Test.YtkjppjhmejkidaaDoorNtAll8
import Derived.Test.YtkjppjhmejkidaaDoorNtAll9
import Derived.Test.YtkjppjhmejkidaaDoorNtAll7
namespace Go.Proofs.YtkjppjhmejkidaaDoor
open Go.RowKit

theorem text_beq (x s : ByteArray) : (x.toList == s.toList) = true ↔ x = s := by
  rw [ByteArray.toList_eq, ByteArray.toList_eq, beq_iff_eq]
  exact ⟨text_ext, fun h => by rw [h]⟩
theorem mem_withM (l : List ByteArray) (s y : ByteArray) : y ∈ withM l s ↔ y ∈ l ∨ y = s := by
  induction l with
  | nil => simp [withM]
  | cons x xs ih =>
    rw [withM]
    split
    · simp [ih, or_assoc]
    · split
      · rename_i h
        obtain rfl := (text_beq x s).1 h
        simp only [List.mem_cons]
        exact ⟨fun h => Or.inl h, fun h => h.elim id Or.inl⟩
      · simp only [List.mem_cons]
        exact ⟨fun h => h.elim Or.inr Or.inl, fun h => h.elim Or.inr Or.inl⟩
theorem mem_allM (b : List ByteArray) : ∀ (a : List ByteArray) (y : ByteArray), y ∈ allM a b ↔ y ∈ a ∨ y ∈ b := by
  induction b with
  | nil => intro a y; simp [allM]
  | cons x b ih =>
    intro a y
    have := ih (withM a x) y
    simp only [allM, List.foldl_cons] at this ⊢
    rw [this, mem_withM, List.mem_cons, or_assoc]
theorem mem_lessM (l : List ByteArray) (s y : ByteArray) : y ∈ lessM l s ↔ y ∈ l ∧ y ≠ s := by
  rw [lessM, List.mem_filter]
  constructor
  · rintro ⟨h1, h2⟩
    refine ⟨h1, fun h => ?_⟩
    rw [(text_beq y s).2 h] at h2; simp at h2
  · rintro ⟨h1, h2⟩
    refine ⟨h1, ?_⟩
    cases hb : (y.toList == s.toList)
    · rfl
    · exact absurd ((text_beq y s).1 hb) h2
theorem mem_lessAll (bs : List ByteArray) : ∀ (l : List ByteArray) (y : ByteArray), y ∈ lessAll l bs ↔ y ∈ l ∧ y ∉ bs := by
  induction bs with
  | nil => intro l y; simp [lessAll]
  | cons x bs ih =>
    intro l y
    have := ih (lessM l x) y
    simp only [lessAll, List.foldl_cons] at this ⊢
    rw [this, mem_lessM, List.mem_cons, not_or, and_assoc]
theorem lastTo_mem (l : List ByteArray) (s : ByteArray) : ∀ k, k ≤ l.length → (lastTo l s k < 0 ↔ s ∉ l.take k)
  | 0, _ => by simp [lastTo]
  | k + 1, hk => by
    have ih := lastTo_mem l s k (by omega)
    rw [List.take_succ_eq_append_getElem (by omega), List.mem_append, not_or, List.mem_singleton]
    cases he : (l[k].toList == s.toList)
    · rw [lastTo_no l s k (by omega) he, ih]
      exact ⟨fun h => ⟨h, fun hs => by rw [(text_beq l[k] s).2 hs.symm] at he; cases he⟩, fun h => h.1⟩
    · rw [lastTo_yes l s k (by omega) he]
      exact ⟨fun h => by omega, fun h => absurd ((text_beq l[k] s).1 he).symm h.2⟩

theorem mem_all (y : ByteArray) (l : List ByteArray) (bs : Int → List ByteArray) : ∀ (es : List Ex) (i : Int) (out : List ByteArray), (∀ e ∈ es, ∀ l, y ∈ occM e l ↔ y ∈ freeM e ∧ y ∉ l) → ((y ∈ freeAll es i bs out ∧ y ∉ l) ↔ (y ∈ out ∧ y ∉ l) ∨ y ∈ occAll es i (fun j => l ++ bs j))
  | [], i, out, _ => by simp [freeAll, occAll]
  | e :: es, i, out, h => by
    rw [freeAll, occAll, mem_all y l bs es (i + 1) _ (fun x hx => h x (by simp [hx])), List.mem_append, h e (by simp), mem_allM, mem_lessAll, List.mem_append, not_or]
    constructor
    · rintro (⟨h1 | h1, h2⟩ | h1)
      · exact Or.inl ⟨h1, h2⟩
      · exact Or.inr (Or.inl ⟨h1.1, h2, h1.2⟩)
      · exact Or.inr (Or.inr h1)
    · rintro (h1 | ⟨h1, h2, h3⟩ | h1)
      · exact Or.inl ⟨Or.inl h1.1, h1.2⟩
      · exact Or.inl ⟨Or.inr ⟨h1, h3⟩, h2⟩
      · exact Or.inr h1
theorem mem_occM (e : Ex) (d : Int) (hd : sizeM e d ≤ 60) : ∀ (l : List ByteArray) (y : ByteArray), y ∈ occM e l ↔ y ∈ freeM e ∧ y ∉ l := by
  induction e using Ex.ind generalizing d with
  | h e ih =>
    intro l y
    have hp := (sizeM_parts e d hd).2
    have hall := mem_all y l e.bindsAt e.kids 0 [] (fun x hx l => ih x hx (d + 1) (hp x hx) l y)
    rw [occM_eq, freeM_eq]
    by_cases h3 : e.kind = 3
    · have hk0 : e.kids = [] := by
        rw [sizeM_eq] at hd
        split at hd
        · omega
        · rename_i hn
          have : (e.kids.length : Int) = kidsN e.kind := by
            apply Decidable.byContradiction; intro hc; exact hn (Or.inr (Or.inl hc))
          rw [h3] at this; simp [kidsN] at this; exact this
      have hl := lastTo_mem l e.name l.length (Nat.le_refl _)
      rw [List.take_length] at hl
      rw [if_pos h3, hk0, occAll, List.append_nil]
      by_cases hm : e.name ∈ l
      · rw [if_neg (fun h => (hl.1 h.2) hm)]
        simp only [List.not_mem_nil, List.mem_singleton, false_iff]
        rintro ⟨rfl, h⟩; exact h hm
      · rw [if_pos ⟨h3, hl.2 hm⟩]
        simp only [List.mem_singleton]
        exact ⟨fun h => ⟨h, by rw [h]; exact hm⟩, fun h => h.1⟩
    · rw [if_neg (fun h => h3 h.1), if_neg h3, List.nil_append, hall]
      simp
theorem oft_zero (l : List ByteArray) (s : ByteArray) : oft l s = 0 ↔ s ∉ l := by
  rw [oft, List.countP_eq_zero]
  constructor
  · intro h hs; have := h s hs; simp at this
  · intro h x hx hb
    have : x = s := text_ext (by simpa using hb)
    subst this; exact h hx
theorem oft_same (e : Ex) (d : Int) (hd : sizeM e d ≤ 60) (s : ByteArray) : oft (occM e []) s = 0 ↔ oft (freeM e) s = 0 := by
  rw [oft_zero, oft_zero, mem_occM e d hd]; simp
end Go.Proofs.YtkjppjhmejkidaaDoor

namespace Go.Proofs.YtkjppjhmejkidaaDoor
open Go.RowKit

theorem tidyTo_same {os fl : List ByteArray} (h : ∀ s, oft os s = 0 ↔ oft fl s = 0) : ∀ k, tidyTo os k = tidyTo fl k
  | 0 => rfl
  | k + 1 => by
    rw [tidyTo, tidyTo, tidyTo_same h k]
    by_cases h0 : oft fl (wName k) = 0
    · rw [if_pos h0, if_pos ((h _).2 h0)]
    · rw [if_neg h0, if_neg (fun h1 => h0 ((h _).1 h1))]
theorem tidyTo_get (os : List ByteArray) (k : Nat) (h : oft os (wName k) = 0) : ∀ n, k < n → (tidyTo os n)[(tidyTo os k).length]? = some (wName k)
  | 0, hn => by omega
  | n + 1, hn => by
    rw [tidyTo]
    by_cases hk : k = n
    · subst hk; rw [if_pos h]; simp
    · have ih := tidyTo_get os k h n (by omega)
      split
      · rw [List.getElem?_append_left (List.getElem?_eq_some_iff.1 ih).1]; exact ih
      · exact ih
end Go.Proofs.YtkjppjhmejkidaaDoor

namespace Go.Proofs.YtkjppjhmejkidaaDoor
open Go.RowKit

/-- How bareCopy ends. -/
def Bared (w w' : World) (e : Ex) (r : Ending) : Prop := ∃ v', r = .returned (e.val v') ∧ Below w.heap.size w w' ∧ ((e.kids.length = 0 ∧ v' = .slice none 0 0) ∨ ∃ g, v' = .slice (some ⟨g, 0, none⟩) e.kids.length e.kids.length ∧ w.heap.size ≤ g ∧ g < w'.heap.size ∧ w'.there g 0 (e.kids.length * 5))

set_option maxHeartbeats 400000 in
theorem impl_bareCopy (e : Ex) (a : Option Addr) (cap : Nat) (w : World) (hk : e.kids.length ≤ 1048576) :
    Calls Tryd.prog 30 #[e.val (.slice a e.kids.length cap)] w fun r w' => Bared w w' e r := by
  have hmk := make_exprs e.kids.length hk
  by_cases h0 : e.kids.length = 0
  · go_enter Tryd.func30, Tryd.ntmps30
    go_wp2_with fail
    refine bodyPost_ret (v := e.val (.slice none 0 0)) (by simp [results, Tryd.results30, go_sem]) rfl ⟨_, rfl, below_al (below_al (below_al0 _ _)), Or.inl ⟨h0, rfl⟩⟩
  · go_enter Tryd.func30, Tryd.ntmps30
    go_wp2_with fail
    refine bodyPost_ret (v := e.val (.slice (some ⟨w.heap.size + 1 + 1 + 1, 0, none⟩) e.kids.length e.kids.length)) (by simp [results, Tryd.results30, go_sem]) rfl ⟨_, rfl, below_al (below_al (below_al (below_al0 _ _))), Or.inr ⟨_, rfl, by omega, by simp, ?_⟩⟩
    have := there_made (((w.alloc (.cells #[.int .i64 e.kind, .string e.name, .string e.tail, .int .i64 e.num, .slice a e.kids.length cap] 28)).alloc (.cells #[.int .i64 e.kind, .string e.name, .string e.tail, .int .i64 e.num, .slice (some ⟨w.heap.size + 1 + 1 + 1, 0, none⟩) e.kids.length e.kids.length] 28)).alloc (.cells #[.int .i64 e.kind, .string e.name, .string e.tail, .int .i64 e.num, .slice (some ⟨w.heap.size + 1 + 1 + 1, 0, none⟩) e.kids.length e.kids.length] 28)) #[.int .i64 0, .string ⟨#[]⟩, .string ⟨#[]⟩, .int .i64 0, .slice none 0 0] (e.kids.length * 5) 28
    simpa only [World.size_alloc] using this
end Go.Proofs.YtkjppjhmejkidaaDoor

namespace Go.Proofs.YtkjppjhmejkidaaDoor
open Go.RowKit

/-- The parts es lie in w as the slice v, each row in a block of its own, from lo on and below hi. -/
inductive Tree (w : World) : Nat → Nat → List Ex → Value → Prop
  | none (lo hi : Nat) (a : Option Addr) (cap : Nat) : Tree w lo hi [] (.slice a 0 cap)
  | some (lo hi nb cap : Nat) (es : List Ex) (ss : List Value) (m : Nat → Nat) (h0 : lo ≤ nb) (h1 : nb < m 0) (hm : ∀ i, i < es.length → m i ≤ m (i + 1)) (hh : m es.length ≤ hi) (hl : ss.length = es.length)
      (ht : w.there nb 0 (es.length * 5))
      (hc : ∀ (i : Nat) (e : Ex) (s : Value), es[i]? = Option.some e → ss[i]? = Option.some s → w.rangeAt nb (i * 5) (e.cells s))
      (hk : ∀ (i : Nat) (e : Ex) (s : Value), es[i]? = Option.some e → ss[i]? = Option.some s → Tree w (m i) (m (i + 1)) e.kids s) :
      Tree w lo hi es (.slice (Option.some ⟨nb, 0, Option.none⟩) es.length cap)

theorem chain_le {m : Nat → Nat} {n : Nat} (hm : ∀ i, i < n → m i ≤ m (i + 1)) : ∀ (j i : Nat), i ≤ j → j ≤ n → m i ≤ m j
  | 0, i, h, _ => by obtain rfl : i = 0 := by omega
                     exact Nat.le_refl _
  | j + 1, i, h, hn => by
    by_cases e : i = j + 1
    · subst e; exact Nat.le_refl _
    · exact Nat.le_trans (chain_le hm j i (by omega) (by omega)) (hm j (by omega))

theorem Tree.same {w w' : World} {lo hi : Nat} {es : List Ex} {v : Value} (h : Tree w lo hi es v) : (∀ b, lo ≤ b → b < hi → w'.heap[b]? = w.heap[b]?) → Tree w' lo hi es v := by
  induction h with
  | none lo hi a cap => intro _; exact .none lo hi a cap
  | some lo hi nb cap es ss m h0 h1 hm hh hl ht hc hk ih =>
    intro hs
    have hnb : w'.heap[nb]? = w.heap[nb]? := hs nb h0 (by have := chain_le hm es.length 0 (by omega) (Nat.le_refl _); omega)
    refine .some lo hi nb cap es ss m h0 h1 hm hh hl (there_same hnb ht) (fun i e s h1 h2 => rangeAt_same hnb (hc i e s h1 h2)) (fun i e s he hs' => ih i e s he hs' (fun b hb1 hb2 => hs b ?_ ?_))
    · have hi' := (List.getElem?_eq_some_iff.1 he).1
      have := chain_le hm i 0 (by omega) (by omega)
      omega
    · have hi' := (List.getElem?_eq_some_iff.1 he).1
      have := chain_le hm es.length (i + 1) (by omega) (Nat.le_refl _)
      omega

theorem Tree.wide {w : World} {lo hi lo' hi' : Nat} {es : List Ex} {v : Value} (h : Tree w lo hi es v) (hl : lo' ≤ lo) (hh' : hi ≤ hi') : Tree w lo' hi' es v := by
  cases h with
  | none _ _ a cap => exact .none _ _ a cap
  | some _ _ nb cap es ss m h0 h1 hm hh hl' ht hc hk => exact .some _ _ nb cap es ss m (by omega) h1 hm (by omega) hl' ht hc hk

theorem Tree.keep {w w' : World} {lo hi B : Nat} {es : List Ex} {v : Value} (h : Tree w lo hi es v) (hb : Below B w w') (hB : hi ≤ B) : Tree w' lo hi es v :=
  h.same fun b _ hlt => hb.block b (by omega)

theorem Tree.lies {w : World} {lo hi : Nat} {es : List Ex} {v : Value} (h : Tree w lo hi es v) : Lies w (fun b => lo ≤ b ∧ b < hi) es v := by
  induction h with
  | none lo hi a cap => exact .none a cap
  | some lo hi nb cap es ss m h0 h1 hm hh hl ht hc hk ih =>
    have hz := chain_le hm es.length 0 (by omega) (Nat.le_refl _)
    refine .some nb 0 cap es ss ⟨h0, by omega⟩ hl (fun i e s h1 h2 => by simpa using hc i e s h1 h2) (fun i e s he hs' => (ih i e s he hs').same fun b hb => ⟨rfl, ?_, ?_⟩)
    · have hi' := (List.getElem?_eq_some_iff.1 he).1
      have := chain_le hm i 0 (by omega) (by omega)
      have := hb.1
      omega
    · have hi' := (List.getElem?_eq_some_iff.1 he).1
      have := chain_le hm es.length (i + 1) (by omega) (Nat.le_refl _)
      have := hb.2
      omega

theorem Tree.slice {w : World} {lo hi : Nat} {es : List Ex} {v : Value} (h : Tree w lo hi es v) : ∃ a cap, v = .slice a es.length cap := h.lies.slice

/-- A part, and what comes of the whole where that part alone is turned. -/
theorem Tree.at {w : World} {lo hi : Nat} {es : List Ex} {v : Value} (h : Tree w lo hi es v) {i : Nat} (hi' : i < es.length) :
    ∃ nb cap s a b, v = .slice (Option.some ⟨nb, 0, Option.none⟩) es.length cap ∧ lo ≤ nb ∧ nb < a ∧ a ≤ b ∧ b ≤ hi ∧ w.there nb 0 (es.length * 5) ∧ w.rangeAt nb (i * 5) (es[i].cells s) ∧ Tree w a b es[i].kids s ∧
      ∀ (w' : World) (e' : Ex), w'.there nb 0 (es.length * 5) → (∀ j, j < i * 5 ∨ i * 5 + 5 ≤ j → w'.cell? ⟨nb, j, Option.none⟩ = w.cell? ⟨nb, j, Option.none⟩) →
        (∀ x, lo ≤ x → x < hi → x ≠ nb → x < a ∨ b ≤ x → w'.heap[x]? = w.heap[x]?) → w'.rangeAt nb (i * 5) (e'.cells s) → Tree w' a b e'.kids s → Tree w' lo hi (es.set i e') v := by
  cases h with
  | none _ _ a cap => simp at hi'
  | some _ _ nb cap es ss m h0 h1 hm hh hl ht hc hk =>
    have hiS : i < ss.length := by omega
    have he := List.getElem?_eq_getElem hi'
    have hs := List.getElem?_eq_getElem hiS
    have hz := chain_le hm i 0 (by omega) (by omega)
    have hz2 := chain_le hm es.length (i + 1) (by omega) (Nat.le_refl _)
    refine ⟨nb, cap, ss[i], m i, m (i + 1), rfl, h0, by omega, hm i hi', by omega, ht, hc i _ _ he hs, hk i _ _ he hs, ?_⟩
    intro w' e' ht' hcell hblk hr' hk'
    have hlen : (es.set i e').length = es.length := by simp
    have := Tree.some (w := w') lo hi nb cap (es.set i e') ss m h0 h1 (by rw [hlen]; exact hm) (by rw [hlen]; exact hh) (by rw [hlen]; exact hl) (by rw [hlen]; exact ht') ?_ ?_
    · rw [hlen] at this; exact this
    · intro j e s hj hsj
      by_cases hji : j = i
      · subst hji
        rw [List.getElem?_set_self (by omega)] at hj
        rw [hs] at hsj
        cases hj; cases hsj
        exact hr'
      · rw [List.getElem?_set_ne (by omega)] at hj
        have h5 := hc j e s hj hsj
        intro q u hq
        have hq5 : q < 5 := by have := (List.getElem?_eq_some_iff.1 hq).1; simpa [Ex.cells] using this
        rw [hcell (j * 5 + q) (by omega)]
        exact h5 q u hq
    · intro j e s hj hsj
      by_cases hji : j = i
      · subst hji
        rw [List.getElem?_set_self (by omega)] at hj
        rw [hs] at hsj
        cases hj; cases hsj
        exact hk'
      · rw [List.getElem?_set_ne (by omega)] at hj
        have hjl := (List.getElem?_eq_some_iff.1 hj).1
        refine (hk j e s hj hsj).same fun b hb1 hb2 => ?_
        have hy := chain_le hm j 0 (by omega) (by omega)
        have hy2 := chain_le hm es.length (j + 1) (by omega) (Nat.le_refl _)
        refine hblk b (by omega) (by omega) (by omega) ?_
        by_cases hlt : j < i
        · have := chain_le hm i (j + 1) (by omega) (by omega); omega
        · have := chain_le hm j (i + 1) (by omega) (by omega); omega

/-- The first k of es have come to lie in the row nb, their parts behind it. -/
def Grow (w : World) (nb : Nat) (es : List Ex) (k : Nat) : Prop :=
  ∃ (ss : List Value) (m : Nat → Nat), ss.length = k ∧ nb < m 0 ∧ (∀ i, i < k → m i ≤ m (i + 1)) ∧ m k ≤ w.heap.size ∧
    ∀ (i : Nat) (e : Ex) (s : Value), es[i]? = some e → ss[i]? = some s → w.rangeAt nb (i * 5) (e.cells s) ∧ Tree w (m i) (m (i + 1)) e.kids s

theorem Grow.start {w : World} {nb : Nat} (es : List Ex) (h : nb < w.heap.size) : Grow w nb es 0 :=
  ⟨[], fun _ => w.heap.size, rfl, h, fun _ h => by omega, Nat.le_refl _, fun i e s _ h => by simp at h⟩
theorem Grow.lt {w : World} {nb : Nat} {es : List Ex} {k : Nat} (h : Grow w nb es k) : nb < w.heap.size := by
  obtain ⟨ss, m, _, h1, h2, h3, _⟩ := h
  have := chain_le h2 k 0 (by omega) (Nat.le_refl _)
  omega
theorem Grow.keep {w w' : World} {nb : Nat} {es : List Ex} {k : Nat} (h : Grow w nb es k) (hb : Below w.heap.size w w') : Grow w' nb es k := by
  have hlt := h.lt
  obtain ⟨ss, m, h0, h1, h2, h3, h4⟩ := h
  refine ⟨ss, m, h0, h1, h2, Nat.le_trans h3 hb.size, fun i e s he hs => ⟨rangeAt_same (hb.block nb hlt) (h4 i e s he hs).1, (h4 i e s he hs).2.keep hb ?_⟩⟩
  have hi := (List.getElem?_eq_some_iff.1 hs).1
  have := chain_le h2 k (i + 1) (by omega) (Nat.le_refl _)
  omega
theorem Grow.next {w w2 : World} {nb lo : Nat} {es : List Ex} {s : Value} {k : Nat} (h : Grow w nb es k) (hlt : k < es.length) (hb : Below w.heap.size w w2) (hth : w2.there nb (k * 5) 5) (hlo : w.heap.size ≤ lo)
    (hs : Tree w2 lo w2.heap.size es[k].kids s) : Grow (w2.setCells nb (k * 5) (es[k].cells s)) nb es (k + 1) := by
  have hnb := h.lt
  obtain ⟨ss, m, h0, h1, h2, h3, h4⟩ := h
  have hsz := hb.size
  refine ⟨ss ++ [s], fun i => if i ≤ k then m i else w2.heap.size, by simp; omega, by simpa using h1, fun i hi => ?_, by rw [size_setCells]; simp only [show ¬ k + 1 ≤ k by omega, if_false]; exact Nat.le_refl _, ?_⟩
  · by_cases e : i = k
    · subst e; simp only [Nat.le_refl, if_true, show ¬ i + 1 ≤ i by omega, if_false]; omega
    · have h6 := h2 i (by omega)
      simp only [show i ≤ k by omega, show i + 1 ≤ k by omega, if_true]; exact h6
  · intro i e s' hi hs'
    by_cases hik : i < k
    · rw [List.getElem?_append_left (by omega)] at hs'
      obtain ⟨h5, h6⟩ := h4 i e s' hi hs'
      have hc := chain_le h2 k (i + 1) (by omega) (Nat.le_refl _)
      have hc0 := chain_le h2 i 0 (by omega) (by omega)
      refine ⟨World.rangeAt_setCells_apart (rangeAt_same (hb.block nb hnb) h5) _ _ _ (Or.inr (Or.inl ?_)), ?_⟩
      · simp [Ex.cells]; omega
      · simp only [show i ≤ k by omega, show i + 1 ≤ k by omega, if_true]
        refine h6.same fun b hb1 hb2 => ?_
        rw [heap_setCells _ _ _ _ _ (by omega)]; exact hb.block b (by omega)
    · have hik : i = k := by
        have := (List.getElem?_eq_some_iff.1 hs').1
        simp at this; omega
      subst hik
      rw [List.getElem?_append_right (by omega)] at hs'
      simp [h0] at hs'
      subst hs'
      rw [List.getElem?_eq_getElem hlt] at hi
      cases hi
      refine ⟨World.rangeAt_setCells_same w2 nb (i * 5) (es[i].cells s) hth, ?_⟩
      simp only [Nat.le_refl, if_true, show ¬ i + 1 ≤ i by omega, if_false]
      refine Tree.same (Tree.wide hs (by omega) (Nat.le_refl _)) fun b hb1 hb2 => heap_setCells _ _ _ _ _ ?_
      have := chain_le h2 i 0 (by omega) (Nat.le_refl _)
      omega
theorem Grow.all {w : World} {nb lo : Nat} {es : List Ex} (h : Grow w nb es es.length) (hth : w.there nb 0 (es.length * 5)) (hlo : lo ≤ nb) (cap : Nat) : Tree w lo w.heap.size es (.slice (some ⟨nb, 0, none⟩) es.length cap) := by
  obtain ⟨ss, m, h0, h1, h2, h3, h4⟩ := h
  exact .some lo _ nb cap es ss m hlo h1 h2 h3 h0 hth (fun i e s a b => (h4 i e s a b).1) (fun i e s a b => (h4 i e s a b).2)
end Go.Proofs.YtkjppjhmejkidaaDoor

namespace Go.Proofs.YtkjppjhmejkidaaDoor
open Go.RowKit

/-- The Name that a part gets, the names being ns, l what is bound around it. -/
def newName (ns : List ByteArray) (k : Int) (n : ByteArray) (l : List ByteArray) : ByteArray :=
  if k = 3 then (if 0 ≤ lastTo l n l.length then ns.getD (lastTo l n l.length).toNat ⟨#[]⟩ else n) else if k = 4 ∨ k = 6 ∨ k = 7 ∨ k = 14 then ns.getD l.length ⟨#[]⟩ else n
/-- The Tail that it gets. -/
def newTail (ns : List ByteArray) (k : Int) (t : ByteArray) (l : List ByteArray) : ByteArray := if k = 7 ∨ k = 14 then ns.getD (l.length + 1) ⟨#[]⟩ else t
mutual
/-- An expression tidied. -/
def tidyM (ns : List ByteArray) : Ex → List ByteArray → Ex
  | .mk k n t u ks, l => .mk k (newName ns k n l) (newTail ns k t l) u (tidyAll ns ks 0 (fun i => l ++ bindsL k n t i))
def tidyAll (ns : List ByteArray) : List Ex → Int → (Int → List ByteArray) → List Ex
  | [], _, _ => []
  | e :: es, i, f => tidyM ns e (f i) :: tidyAll ns es (i + 1) f
end
/-- Its parts. -/
def tidyKids (ns : List ByteArray) (e : Ex) (l : List ByteArray) : List Ex := tidyAll ns e.kids 0 (fun i => l ++ e.bindsAt i)
theorem tidyM_eq (ns : List ByteArray) (e : Ex) (l : List ByteArray) : tidyM ns e l = .mk e.kind (newName ns e.kind e.name l) (newTail ns e.kind e.tail l) e.num (tidyKids ns e l) := by
  cases e; rw [tidyM]; rfl
theorem tidyAll_length (ns : List ByteArray) (es : List Ex) : ∀ (i : Int) (f : Int → List ByteArray), (tidyAll ns es i f).length = es.length := by
  induction es with
  | nil => intro i f; rw [tidyAll]
  | cons e es ih => intro i f; rw [tidyAll, List.length_cons, List.length_cons, ih]
theorem tidyAll_get (ns : List ByteArray) (es : List Ex) : ∀ (i : Int) (f : Int → List ByteArray) (k : Nat) (h : k < es.length), (tidyAll ns es i f)[k]? = some (tidyM ns es[k] (f (i + k))) := by
  induction es with
  | nil => intro i f k h; simp at h
  | cons e es ih =>
    intro i f k h
    rw [tidyAll]
    cases k with
    | zero => simp
    | succ k =>
      rw [List.getElem?_cons_succ, ih (i + 1) f k (by simpa using h), List.getElem_cons_succ]
      have : i + 1 + (k : Int) = i + ((k + 1 : Nat) : Int) := by omega
      rw [this]
theorem tidyKids_length (ns : List ByteArray) (e : Ex) (l : List ByteArray) : (tidyKids ns e l).length = e.kids.length := tidyAll_length _ _ _ _
theorem tidyKids_get (ns : List ByteArray) (e : Ex) (l : List ByteArray) (k : Nat) (h : k < e.kids.length) (h' : k < (tidyKids ns e l).length) : (tidyKids ns e l)[k] = tidyM ns e.kids[k] (l ++ e.bindsAt k) := by
  have := tidyAll_get ns e.kids 0 (fun i => l ++ e.bindsAt i) k h
  rw [Int.zero_add] at this
  exact Option.some.inj ((List.getElem?_eq_getElem h').symm.trans this)

/-- What an expression that is ok has, by its kind. -/
theorem ok_has (e : Ex) (d : Int) (h : sizeM e d ≤ 60) : d ≤ 14 ∧ (e.kids.length : Int) = kidsN e.kind ∧ bareC e.kind e.name e.tail e.num = true := by
  rw [sizeM_eq] at h
  split at h
  · omega
  · rename_i hn
    refine ⟨by omega, ?_, ?_⟩
    · apply Decidable.byContradiction; intro hc; exact hn (Or.inr (Or.inl hc))
    · cases hb : bareC e.kind e.name e.tail e.num
      · exact absurd (Or.inr (Or.inr hb)) hn
      · rfl
theorem name_some (s : ByteArray) (h : nameB s = true) : ¬ s.toList = [] := by
  intro hs
  have h1 : s.size = 0 := by
    rw [ByteArray.toList_eq] at hs
    show s.data.size = 0
    rw [← Array.length_toList, hs]; rfl
  rw [nameB_size s (by omega)] at h
  cases h
theorem bare_tail0 (k : Int) (a b : ByteArray) (u : Int) (h : bareC k a b u = true) (hk : ¬ (k = 7 ∨ k = 14)) : b.toList = [] := by
  apply Decidable.byContradiction
  intro hb
  by_cases h1 : k = 3 ∨ k = 4 ∨ k = 6
  · rw [bare1_b k a b u (by rw [namesN, if_pos h1]) hb] at h; cases h
  · rw [bare0_b k a b u (by rw [namesN, if_neg h1, if_neg hk]) hb] at h; cases h
theorem bare_tail2 (k : Int) (a b : ByteArray) (u : Int) (h : bareC k a b u = true) (hk : k = 7 ∨ k = 14) : ¬ b.toList = [] := by
  refine name_some b ?_
  cases hb : nameB b
  · rw [bare2_b k a b u (by rw [namesN, if_neg (by omega), if_pos hk]) hb] at h; cases h
  · rfl
theorem bare_name0 (k : Int) (a b : ByteArray) (u : Int) (h : bareC k a b u = true) (h3 : k ≠ 3) (hk : ¬ (k = 4 ∨ k = 6 ∨ k = 7 ∨ k = 14)) : a.toList = [] := by
  apply Decidable.byContradiction
  intro ha
  rw [bare0_a k a b u (by rw [namesN, if_neg (by omega), if_neg (by omega)]) ha] at h; cases h
theorem bare_name1 (k : Int) (a b : ByteArray) (u : Int) (h : bareC k a b u = true) (hk : k = 4 ∨ k = 6 ∨ k = 7 ∨ k = 14) : ¬ a.toList = [] := by
  refine name_some a ?_
  cases hb : nameB a
  · by_cases h1 : k = 4 ∨ k = 6
    · rw [bare1_a k a b u (by rw [namesN, if_pos (by omega)]) hb] at h; cases h
    · rw [bare2_a k a b u (by rw [namesN, if_neg (by omega), if_pos (by omega)]) hb] at h; cases h
  · rfl
theorem kids_none (k : Int) (n : Nat) (h : (n : Int) = kidsN k) (hk : k = 3) : n = 0 := by
  subst hk; simp [kidsN] at h; exact h
theorem kids_some (k : Int) (n : Nat) (h : (n : Int) = kidsN k) (hk : k = 4 ∨ k = 6 ∨ k = 7 ∨ k = 14) : 0 < n := by
  rcases hk with rfl | rfl | rfl | rfl <;> simp [kidsN] at h <;> omega

/-- Names in memory. -/
theorem names_open {w : World} {ns : List ByteArray} {v : Value} (h : Env w ns v) (h1 : 0 < ns.length) : ∃ g cap, v = .slice (some ⟨g, 0, none⟩) ns.length cap ∧ g < w.heap.size ∧ ∀ (j : Nat) (hj : j < ns.length), w.cell? ⟨g, j, none⟩ = some (.string ns[j]) := by
  obtain ⟨a, cap, rfl, hc⟩ := h.open
  obtain ⟨g, rfl, h0⟩ := hc 0 h1
  refine ⟨g, cap, rfl, ?_, fun j hj => ?_⟩
  · apply Decidable.byContradiction
    intro hg
    have : w.heap[g]? = none := Array.getElem?_eq_none (by omega)
    unfold World.cell? at h0
    simp [this] at h0
  · obtain ⟨g', hg', hj'⟩ := hc j hj
    obtain rfl : g = g' := by simpa using hg'
    exact hj'

/-- How what makes an expression ends. -/
def MadeE (w w' : World) (e : Ex) (r : Ending) : Prop := ∃ s', r = .returned (e.val s') ∧ Tree w' w.heap.size w'.heap.size e.kids s' ∧ Below w.heap.size w w'

/-- Whether a kind binds names. -/
def binderB (k : Int) : Bool := decide (k = 4 ∨ k = 6 ∨ k = 7 ∨ k = 14)
theorem binder_no (k : Int) (h : (k == 4) = false ∧ (k == 6) = false ∧ (k == 7) = false ∧ (k == 14) = false) : binderB k = false := by
  simp at h; simp [binderB]; omega
set_option maxHeartbeats 1000000 in
theorem impl_binds (k : Int) (a b : ByteArray) (u : Int) (s : Value) (w : World) :
    Calls Tryd.prog 32 #[.agg #[.int .i64 k, .string a, .string b, .int .i64 u, s]] w fun r w' => r = .returned (.bool (binderB k)) ∧ w' = w.alloc (.cells #[.int .i64 k, .string a, .string b, .int .i64 u, s] 28) := by
  rcases binder_cases k with rfl | rfl | rfl | rfl | h
  case inr.inr.inr.inr =>
    have HN : Hid (binderB k = false) := binder_no k h
    obtain ⟨h4, h6, h7, h14⟩ := h
    go_enter Tryd.func32, Tryd.ntmps32
    go_wp2_with fail
    go_ret
    exact ⟨ret_bool HN.out.symm, rfl⟩
  all_goals
    go_enter Tryd.func32, Tryd.ntmps32
    go_wp2_with fail
    go_ret
    exact ⟨ret_bool (by decide), rfl⟩

theorem step_store_mid {P : Program} {ops : Array Oper} {o : Oper} {a : Act} {w : World} {K : Act → World → Prop} {Q : Exit → Act → World → Prop} {E : Prop}
    (hg : o.guard = none) (ty : TypeId) (x y : Operand) (ho : o.op = .store ty x y) (b off : Nat) (cells : Array Value) (hx : a.eval x = .pointer (some ⟨b, off, none⟩)) (hy : a.eval y = .agg cells)
    (ht : w.there b off cells.size) (hi : (P.info? ty).map (·.size) = some cells.size) (h1 : cells.all (·.oneCell') = true) (hK : K (a.put o.dst undef) (w.setCells b off cells.toList)) :
    if Region.wanted o (yielded ops a.tmps) = true then Oper.wp P o a w K Q else E := by
  have hw : Region.wanted o (yielded ops a.tmps) = true := by simp [Region.wanted, hg]
  rw [if_pos hw]
  exact wp_store_mid ty x y ho b off cells hx hy ht hi h1 hK
theorem but_set (w : World) (nb o : Nat) (vs : List Value) : w.grownBy (w.setCells nb o vs) (some nb) := by
  have h := Below.setCells (B := 0) (Nat.zero_le nb) vs o w (Below.refl 0 w)
  exact ⟨h.os, h.tape, h.output, h.size, fun k _ hn => heap_setCells nb vs o w k (fun e => hn (by rw [e]))⟩
end Go.Proofs.YtkjppjhmejkidaaDoor

namespace Go.Proofs.YtkjppjhmejkidaaDoor
open Go.RowKit

/-- What toExpr does with one expression. -/
def ToT (e : Ex) : Prop := ∀ (w : World) (s : Value), Lies w (· < w.heap.size) e.kids s →
  Calls Tryd.prog 6 #[e.val s] w fun r w' => ∃ s', r = .returned (e.val s') ∧ Tree w' w.heap.size w'.heap.size e.kids s' ∧ Below w.heap.size w w'

set_option maxHeartbeats 400000 in
theorem toTS (es : List Ex) (hlen : es.length ≤ 1048576) (ih : ∀ e ∈ es, ToT e) (w : World) (v : Value) (hv : Lies w (· < w.heap.size) es v) :
    Calls Tryd.prog 15 #[v] w fun r w' => ∃ v', r = .returned v' ∧ Tree w' w.heap.size w'.heap.size es v' ∧ Below w.heap.size w w' := by
  obtain ⟨a, cap, rfl⟩ := hv.slice
  have hmk := make_exprs es.length hlen
  go_enter Tryd.func15, Tryd.ntmps15
  go_wp2_with fail
  go_loopw [4] (fun i wr => ∃ (k : Nat), k ≤ es.length ∧ i = .int .i64 k ∧ Grow wr w.heap.size es k ∧ wr.there w.heap.size 0 (es.length * 5) ∧ Below w.heap.size w wr) (fun i _ => es.length - (intOf i).toNat)
  case atStart => exact ⟨0, by omega, rfl, Grow.start es (by simp), there_made _ _ _ _, (Below.refl _ _).alloc (Nat.le_refl _) _⟩
  case round =>
    obtain ⟨k, hk, rfl, hG, hth, hb⟩ := hrel
    by_cases hlt : k < es.length
    · obtain ⟨b, off, cap', s, hS, hsl, hr, hl⟩ := hv.at (List.getElem?_eq_getElem hlt)
      obtain ⟨rfl, rfl⟩ : a = some ⟨b, off, none⟩ ∧ cap = cap' := by simpa using hsl
      obtain ⟨c0, c1, c2, c3, c4⟩ := Ex.five (rangeAt_same (hb.block b hS) hr)
      have hl' := (hl.keep hb hb.size)
      have hnb := hG.lt
      clear hr hl hsl
      have HT : ∀ w2, Below wr.heap.size wr w2 → w2.there w.heap.size (k * 5) 5 := fun w2 hb2 => there_part (there_same (hb2.block _ hnb) hth) (by omega)
      go_wp2_with (first | (go_at_call 6; refine (ih es[k] (List.getElem_mem hlt) _ _ hl').mono ?_; rintro e w2 ⟨s', rfl, hl2, hb2⟩) | (refine wpList_store_mid rfl 28 _ _ rfl w.heap.size (k * 5) #[.int .i64 es[k].kind, .string es[k].name, .string es[k].tail, .int .i64 es[k].num, s'] ?hx ?hy ?ht ?hi ?h1 ?_))
      case hx => rfl
      case hy => rfl
      case ht => exact HT w2 hb2
      case hi => exact exprSize
      case h1 => exact one_cells es[k] hl2.lies
      go_roundw
      case rel => exact ⟨k + 1, by omega, by go_num, hG.next hlt hb2 (HT w2 hb2) (Nat.le_refl _) hl2, World.there_setCells (there_same (hb2.block _ hnb) hth) _ _ _, Below.setCells (Nat.le_refl _) _ _ _ (hb.trans (hb2.mono hb.size))⟩
      case measure => simp [intOf]; omega
    · obtain rfl : k = es.length := by omega
      go_wp2_with fail
      go_ret
      exact ⟨_, rfl, hG.all hth (Nat.le_refl _) _, hb⟩

theorem tree_set {w : World} {lo hi : Nat} {es : List Ex} {v : Value} {p : Addr} {u : Value} (h : Tree w lo hi es v) (hp : p.block < lo) : Tree (w.setCell p u) lo hi es v :=
  h.same fun b hb _ => Below.heap_setCell _ _ _ _ (by omega)

set_option maxHeartbeats 400000 in
theorem toT (e : Ex) : e.Wee → ToT e := by
  induction e using Ex.ind with
  | h e ih =>
    intro hf w s hv
    obtain ⟨_, hk, hx⟩ := hf
    have ihS := toTS e.kids hk (fun x hx' => ih x hx' (hx x hx'))
    have hv' : ∀ o1 o2 o3, Lies (((w.alloc o1).alloc o2).alloc o3) (· < (((w.alloc o1).alloc o2).alloc o3).heap.size) e.kids s := fun o1 o2 o3 => hv.keep ((((Below.refl _ _).alloc (Nat.le_refl _) o1).alloc (by simp) o2).alloc (by simp; omega) o3) (by simp; omega)
    go_enter Tryd.func6, Tryd.ntmps6
    go_wp2_with (go_at_call 15; refine (ihS _ _ (hv' _ _ _)).mono ?_; rintro r w2 ⟨s', rfl, hl2, hb2⟩; obtain ⟨a', cap', rfl⟩ := hl2.slice; obtain ⟨hc, hf⟩ := bcell hb2; have hz := hb2.size; simp at hz)
    refine bodyPost_ret (v := e.val (.slice a' e.kids.length cap')) (by simp [results, Tryd.results6, go_sem, hc]) rfl ⟨_, rfl, ?_, ?_⟩
    · have hl3 : Tree w2 (w.heap.size + 1 + 1 + 1) w2.heap.size e.kids (.slice a' e.kids.length cap') := by simpa using hl2
      clear hc hf hb2 ihS hv' hl2
      refine Tree.wide (lo := w.heap.size + 1 + 1 + 1) (hi := w2.heap.size) ?_ (by omega) (by simp [World.setCell])
      repeat (refine tree_set ?_ (by dsimp only; omega))
      exact hl3
    · have hb3 : Below w.heap.size w w2 := ((((Below.refl _ _).alloc (Nat.le_refl _) _).alloc (by simp) _).alloc (by simp; omega) _).trans (hb2.mono (by simp; omega))
      clear hc hf hb2 ihS hv' hl2
      repeat (refine Below.setCell ?_ (by dsimp only; omega) _)
      exact hb3
end Go.Proofs.YtkjppjhmejkidaaDoor

