/-
  Copying cells, each once, behind others, as they are come to: mathematics. No program is named here.
  Rows of the call's own, so many cells each; marks of plain numbers. No program is named here.
-/
import Derived.Test.YtlkbgmgnjkkfgaaDoorLvAll0
import Derived.Deep.MidRow
import Derived.OwnWalk
namespace Go.Proofs.YtlkbgmgnjkkfgaaDoor

/-- No cell. -/
def ce0 : Ce := ⟨0, 0, ⟨0, 0⟩, ⟨0, 0⟩⟩
/-- What was copied so far, and where each went, below 0 if it did not. -/
structure St where
  to : List Ce
  mv : List Int
/-- The cell of a place is come to. -/
def comeS (fr : List Ce) (s : St) (p : Nat) : St := if s.mv.getD p 0 < 0 then ⟨s.to ++ [fr.getD p ce0], s.mv.set p s.to.length⟩ else s
/-- Where it went. -/
def placeS (fr : List Ce) (s : St) (p : Nat) : Int := (comeS fr s p).mv.getD p 0
/-- A word is copied. -/
def moveS (fr : List Ce) (s : St) (w : Wd) : St := if w.tag = 4 then comeS fr s w.num.toNat else s
def moveW (fr : List Ce) (s : St) (w : Wd) : Wd := if w.tag = 4 then ⟨4, placeS fr s w.num.toNat⟩ else w
/-- The words of the cell that was copied to a place are copied. -/
def stepS (fr : List Ce) (s : St) (i : Nat) : St :=
  let c := s.to.getD i ce0
  let s1 := moveS fr s c.a
  let s2 := moveS fr s1 c.b
  ⟨s2.to.set i ⟨c.kind, c.num, moveW fr s c.a, moveW fr s1 c.b⟩, s2.mv⟩
/-- And so on, as long as there are some. -/
def loopS (fr : List Ce) : Nat → St → Nat → St
  | 0, s, _ => s
  | n + 1, s, i => if i < s.to.length then loopS fr n (stepS fr s i) (i + 1) else s
/-- Words are copied, one by one. -/
def wordsS (fr : List Ce) (s : St) : List Wd → St
  | [] => s
  | w :: l => wordsS fr (moveS fr s w) l
def wordsW (fr : List Ce) (s : St) : List Wd → List Wd
  | [] => []
  | w :: l => moveW fr s w :: wordsW fr (moveS fr s w) l
theorem wordsS_snoc (fr : List Ce) : ∀ (l : List Wd) (s : St) (w : Wd), wordsS fr s (l ++ [w]) = moveS fr (wordsS fr s l) w
  | [], _, _ => rfl
  | _ :: l, _, w => wordsS_snoc fr l _ w
theorem wordsW_snoc (fr : List Ce) : ∀ (l : List Wd) (s : St) (w : Wd), wordsW fr s (l ++ [w]) = wordsW fr s l ++ [moveW fr (wordsS fr s l) w]
  | [], _, _ => rfl
  | x :: l, s, w => by rw [List.cons_append, wordsW, wordsW_snoc fr l, wordsW, List.cons_append, wordsS]
theorem wordsW_length (fr : List Ce) : ∀ (l : List Wd) (s : St), (wordsW fr s l).length = l.length
  | [], _ => rfl
  | _ :: l, s => by rw [wordsW, List.length_cons, wordsW_length fr l, List.length_cons]

/-- A word that leads to a cell leads to one of n. -/
def refOk (n : Nat) (w : Wd) : Prop := w.tag = 4 → 0 ≤ w.num ∧ w.num < n
/-- What holds as long as cells are copied, b being there first, those from i on not being gone through yet. -/
structure Inv (fr : List Ce) (b i : Nat) (s : St) : Prop where
  len : s.mv.length = fr.length
  cnt : s.to.length = b + s.mv.countP (fun x => decide (0 ≤ x))
  refs : ∀ j c, i ≤ j → s.to[j]? = some c → refOk fr.length c.a ∧ refOk fr.length c.b
theorem Inv.le {fr : List Ce} {b i : Nat} {s : St} (h : Inv fr b i s) : s.to.length ≤ b + fr.length := by
  have := List.countP_le_length (p := fun x : Int => decide (0 ≤ x)) (l := s.mv)
  have := h.cnt
  have := h.len
  omega
theorem Inv.come {fr : List Ce} {b i : Nat} {s : St} (h : Inv fr b i s) (hfr : ∀ c ∈ fr, refOk fr.length c.a ∧ refOk fr.length c.b) {p : Nat} (hp : p < fr.length) : Inv fr b i (comeS fr s p) := by
  unfold comeS
  by_cases hn : s.mv.getD p 0 < 0
  · rw [if_pos hn]
    have hpl : p < s.mv.length := by rw [h.len]; exact hp
    have hg : s.mv.getD p 0 = s.mv[p] := by rw [List.getD_eq_getElem?_getD, List.getElem?_eq_getElem hpl]; rfl
    refine ⟨by rw [List.length_set]; exact h.len, ?_, fun j c hj hc => ?_⟩
    · rw [hg] at hn
      have e1 : decide (0 ≤ s.mv[p]) = false := decide_eq_false (by omega)
      have e2 : decide (0 ≤ (s.to.length : Int)) = true := decide_eq_true (by omega)
      have hc := h.cnt
      rw [List.length_append, List.countP_set hpl, e1, e2]
      simp
      omega
    · by_cases hl : j < s.to.length
      · rw [List.getElem?_append_left hl] at hc
        exact h.refs j c hj hc
      · rw [List.getElem?_append_right (by omega)] at hc
        have : fr.getD p ce0 = fr[p] := by rw [List.getD_eq_getElem?_getD, List.getElem?_eq_getElem hp]; rfl
        rw [this] at hc
        have hc' : fr[p] = c := by
          cases hq : j - s.to.length with
          | zero => rw [hq] at hc; simpa using hc
          | succ q => rw [hq] at hc; simp at hc
        rw [← hc']
        exact hfr _ (List.getElem_mem hp)
  · rw [if_neg hn]; exact h
theorem Inv.move {fr : List Ce} {b i : Nat} {s : St} (h : Inv fr b i s) (hfr : ∀ c ∈ fr, refOk fr.length c.a ∧ refOk fr.length c.b) {w : Wd} (hw : refOk fr.length w) : Inv fr b i (moveS fr s w) := by
  unfold moveS
  by_cases ht : w.tag = 4
  · rw [if_pos ht]
    have := hw ht
    exact h.come hfr (by omega)
  · rw [if_neg ht]; exact h
theorem come_len {fr : List Ce} {s : St} {p : Nat} : s.to.length ≤ (comeS fr s p).to.length := by
  unfold comeS; split <;> simp
theorem move_len {fr : List Ce} {s : St} {w : Wd} : s.to.length ≤ (moveS fr s w).to.length := by
  unfold moveS; split
  · exact come_len
  · exact Nat.le_refl _
theorem come_get {fr : List Ce} {s : St} {p i : Nat} (hi : i < s.to.length) : (comeS fr s p).to[i]? = s.to[i]? := by
  unfold comeS; split
  · exact List.getElem?_append_left hi
  · rfl
theorem move_get {fr : List Ce} {s : St} {w : Wd} {i : Nat} (hi : i < s.to.length) : (moveS fr s w).to[i]? = s.to[i]? := by
  unfold moveS; split
  · exact come_get hi
  · rfl
theorem Inv.step {fr : List Ce} {b i : Nat} {s : St} (h : Inv fr b i s) (hfr : ∀ c ∈ fr, refOk fr.length c.a ∧ refOk fr.length c.b) (hi : i < s.to.length) : Inv fr b (i + 1) (stepS fr s i) := by
  obtain ⟨hA, hB⟩ := h.refs i s.to[i] (Nat.le_refl _) (List.getElem?_eq_getElem hi)
  have hg : s.to.getD i ce0 = s.to[i] := by rw [List.getD_eq_getElem?_getD, List.getElem?_eq_getElem hi]; rfl
  have h2 := (h.move hfr hA).move hfr hB
  unfold stepS
  rw [hg]
  refine ⟨h2.len, by rw [List.length_set]; exact h2.cnt, fun j c hj hc => ?_⟩
  rw [List.getElem?_set_ne (by omega)] at hc
  exact h2.refs j c (by omega) hc
theorem loopS_step {fr : List Ce} {n : Nat} {s : St} {i : Nat} (hi : i < s.to.length) : loopS fr (n + 1) s i = loopS fr n (stepS fr s i) (i + 1) := by rw [loopS, if_pos hi]
theorem loopS_end {fr : List Ce} {n : Nat} {s : St} {i : Nat} (hi : ¬ i < s.to.length) : loopS fr n s i = s := by
  cases n with
  | zero => rfl
  | succ n => rw [loopS, if_neg hi]
/-- Nothing is copied yet. -/
def st0 (fr to : List Ce) : St := ⟨to, List.replicate fr.length (-1)⟩
theorem inv0 (fr to : List Ce) : Inv fr to.length to.length (st0 fr to) := by
  refine ⟨by simp [st0], ?_, fun j c hj hc => ?_⟩
  · have : (st0 fr to).mv.countP (fun x => decide (0 ≤ x)) = 0 := by
      rw [List.countP_eq_zero]
      intro x hx
      simp [st0] at hx
      rw [hx.2]
      decide
    rw [this]; rfl
  · have := (List.getElem?_eq_some_iff.1 hc).1
    simp [st0] at this
    omega
theorem Inv.words {fr : List Ce} {b i : Nat} (hfr : ∀ c ∈ fr, refOk fr.length c.a ∧ refOk fr.length c.b) : ∀ (l : List Wd) (s : St), Inv fr b i s → (∀ w ∈ l, refOk fr.length w) → Inv fr b i (wordsS fr s l)
  | [], _, h, _ => h
  | w :: l, s, h, hl => Inv.words hfr l _ (h.move hfr (hl w (by simp))) (fun x hx => hl x (by simp [hx]))
/-- All that words lead to, behind some cells. -/
def copyS (fr to : List Ce) (ws : List Wd) : St := loopS fr (fr.length + 1) (wordsS fr (st0 fr to) ws) to.length
end Go.Proofs.YtlkbgmgnjkkfgaaDoor

namespace Go.Proofs.YtlkbgmgnjkkfgaaDoor
open Go.RowKit

/-- The things l lie in w as v, n cells each, in a block of the call's own from B on. -/
def OwnR {α : Type} (n : Nat) (f : α → List Value) (E : TypeId) (w : World) (B : Nat) (l : List α) (v : Value) : Prop := w.ownsRow B E n v l.length (l.flatMap f)

theorem ow_keep {w w' : World} {B n s : Nat} {e : TypeId} {v : Value} {xs : List Value} (h : w.ownsRow B e s v n xs) (hb : Below w.heap.size w w') : w'.ownsRow B e s v n xs := by
  obtain ⟨h1, h2⟩ := h
  refine ⟨h1, ?_⟩
  rcases h2 with h2 | ⟨g, cap, cur, hv, hg, hh, r⟩
  · exact Or.inl h2
  · exact Or.inr ⟨g, cap, cur, hv, hg, by rw [hb.block g (Array.getElem?_eq_some_iff.1 hh).1]; exact hh, r⟩
theorem ow_base {w : World} {B B' n s : Nat} {e : TypeId} {v : Value} {xs : List Value} (h : w.ownsRow B e s v n xs) (hB : B' ≤ B) : w.ownsRow B' e s v n xs := by
  obtain ⟨h1, h2⟩ := h
  refine ⟨h1, ?_⟩
  rcases h2 with h2 | ⟨g, cap, cur, hv, hg, r⟩
  · exact Or.inl h2
  · exact Or.inr ⟨g, cap, cur, hv, Nat.le_trans hB hg, r⟩
theorem ow_but {w w' : World} {B n s : Nat} {e : TypeId} {v : Value} {xs : List Value} {row : Option Nat} (h : w.ownsRow B e s v n xs) (hg : w.grownBy w' row) (hr : ∀ k, row = some k → k < B) : w'.ownsRow B e s v n xs := by
  refine h.kept hg ?_
  cases hv : v.ownBlock with
  | none => exact Or.inl rfl
  | some k =>
    refine Or.inr fun e => ?_
    have := hr k e.symm
    have := (h.lt k hv).1
    omega
theorem ow_cells_new (w : World) (cs : Array Value) (T : TypeId) : ∀ j u, cs.toList[j]? = some u → (w.alloc (.cells cs T)).cell? ((⟨w.heap.size, 0, none⟩ : Addr).add j) = some u := fun j u hj => by
  rw [Addr.add_mid, cell_of_row _ _ _ _ _ _ (heap_alloc_new _ _)]
  simpa using hj
theorem ow_but_below {w w' : World} (row : Option Nat) (h : Below w.heap.size w w') : w.grownBy w' row := ⟨h.os, h.tape, h.output, h.size, fun k hk _ => h.block k hk⟩
theorem ow_but_set (w : World) (g j : Nat) (v : Value) : w.grownBy (w.setCell ⟨g, j, none⟩ v) (some g) := by
  have h := (Below.refl 0 w).setCell (p := ⟨g, j, none⟩) (Nat.zero_le _) v
  exact ⟨h.os, h.tape, h.output, h.size, fun k _ hn => Below.heap_setCell _ _ _ _ (fun e => hn (by rw [e]))⟩
theorem ow_grown_trans {a b c : World} {row : Option Nat} (h : a.grownBy b row) (k : b.grownBy c row) : a.grownBy c row :=
  ⟨k.os.trans h.os, k.tape.trans h.tape, k.output.trans h.output, Nat.le_trans h.size k.size, fun i hi hne => (k.block i (Nat.lt_of_lt_of_le hi h.size) hne).trans (h.block i hi hne)⟩
theorem ow_below {w w' : World} {B : Nat} {row : Option Nat} (h : w.grownBy w' row) (hr : ∀ k, row = some k → B ≤ k) (hB : B ≤ w.heap.size) : Below B w w' :=
  (Below.refl B w).grown h hB hr

theorem ow_flat_get {α : Type} {n : Nat} {f : α → List Value} (hf : ∀ x, (f x).length = n) : ∀ (l : List α) (i j : Nat) (x : α) (u : Value), l[i]? = some x → (f x)[j]? = some u → (l.flatMap f)[i * n + j]? = some u
  | [], i, j, x, u, h, _ => by simp at h
  | y :: l, 0, j, x, u, h, hu => by
    have h' : y = x := by simpa using h
    subst h'
    have hj : j < (f y).length := (List.getElem?_eq_some_iff.1 hu).1
    rw [List.flatMap_cons, Nat.zero_mul, Nat.zero_add, List.getElem?_append_left hj]
    exact hu
  | y :: l, i + 1, j, x, u, h, hu => by
    have h' : l[i]? = some x := by simpa using h
    rw [List.flatMap_cons, List.getElem?_append_right (by rw [hf, Nat.succ_mul]; omega), hf, show (i + 1) * n + j - n = i * n + j by rw [Nat.succ_mul]; omega]
    exact ow_flat_get hf l i j x u h' hu
theorem ow_flat_len {α : Type} {n : Nat} {f : α → List Value} (hf : ∀ x, (f x).length = n) : ∀ l : List α, (l.flatMap f).length = l.length * n
  | [] => by simp
  | y :: l => by rw [List.flatMap_cons, List.length_append, hf, ow_flat_len hf l, List.length_cons, Nat.succ_mul]; omega

section
variable {α : Type} {n : Nat} {f : α → List Value} {E : TypeId} {w w' : World} {B : Nat} {l : List α} {v : Value}
theorem OwnR.keep (h : OwnR n f E w B l v) (hb : Below w.heap.size w w') : OwnR n f E w' B l v := ow_keep h hb
theorem OwnR.base {B' : Nat} (h : OwnR n f E w B l v) (hB : B' ≤ B) : OwnR n f E w B' l v := ow_base h hB
theorem OwnR.row (h : OwnR n f E w B l v) (hf : ∀ x, (f x).length = n) : RowOf n f w (fun b => B ≤ b ∧ b < w.heap.size) l v := by
  have h0 := h
  obtain ⟨_, ⟨rfl, hn⟩ | ⟨g, cap, cur, rfl, hg, hh, _⟩⟩ := h
  · refine ⟨none, 0, by rw [hn], fun i x hi => ?_⟩
    have := (List.getElem?_eq_some_iff.1 hi).1
    omega
  · refine ⟨_, cap, rfl, fun i x hi => ⟨g, 0, ⟨hg, (Array.getElem?_eq_some_iff.1 hh).1⟩, rfl, fun j u hj => ?_⟩⟩
    have := World.ownsRow.cells h0 (g := g) rfl (i * n + j) u (ow_flat_get hf l i j x u hi hj)
    rw [Addr.add_mid] at this
    simpa using this
theorem OwnR.nil : OwnR n f E w B [] (.slice none 0 0) := World.ownsRow_nil _ _ _ _
theorem OwnR.snoc {x : α} (h : w.ownsRow B E n v (l.length + 1) (l.flatMap f ++ f x)) : OwnR n f E w B (l ++ [x]) v := by
  unfold OwnR
  rw [List.length_append, List.flatMap_append]
  simpa using h
theorem OwnR.lt (h : OwnR n f E w B l v) : ∀ k, v.ownBlock = some k → B ≤ k ∧ k < w.heap.size := World.ownsRow.lt h
end

/-- m numbers from k on. -/
def marksI (m k : Nat) : List Value := (List.range m).map fun i => .int .i64 ((k + i : Nat) : Int)
theorem marksI_length (m k : Nat) : (marksI m k).length = m := by simp [marksI]
theorem marksI_get {m k i : Nat} (h : i < m) : (marksI m k)[i]? = some (.int .i64 ((k + i : Nat) : Int)) := by simp [marksI, h]
/-- The first i of xs are marks. -/
def marksIn (xs : List Value) (k i : Nat) : List Value := (marksI xs.length k).take i ++ xs.drop i
theorem marksIn_length (xs : List Value) (k i : Nat) (h : i ≤ xs.length) : (marksIn xs k i).length = xs.length := by simp [marksIn, marksI]; omega
theorem marksIn_zero (xs : List Value) (k : Nat) : marksIn xs k 0 = xs := by simp [marksIn]
theorem marksIn_end (xs : List Value) (k : Nat) : marksIn xs k xs.length = marksI xs.length k := by
  rw [marksIn, List.take_of_length_le (by rw [marksI_length]; exact Nat.le_refl _), List.drop_length, List.append_nil]
theorem marksIn_next (xs : List Value) (k i : Nat) (h : i < xs.length) : (marksIn xs k i).set i (.int .i64 ((k + i : Nat) : Int)) = marksIn xs k (i + 1) := by
  have hl : ((marksI xs.length k).take i).length = i := by rw [List.length_take, marksI_length]; omega
  have hm : i < (marksI xs.length k).length := by rw [marksI_length]; exact h
  have hg : (marksI xs.length k)[i] = .int .i64 ((k + i : Nat) : Int) := by simp [marksI]
  rw [marksIn, List.set_append_right _ _ (by omega), hl, Nat.sub_self, List.drop_eq_getElem_cons h, List.set_cons_zero, marksIn, List.take_succ_eq_append_getElem hm, hg, List.append_assoc]
  rfl
theorem ow_set {w : World} {B g n s cap : Nat} {e : TypeId} {xs : List Value} (h : w.ownsRow B e s (.slice (some ⟨g, 0, none⟩) n cap) n xs) (i : Nat) (u : Value) : (w.setCell ⟨g, i, none⟩ u).ownsRow B e s (.slice (some ⟨g, 0, none⟩) n cap) n (xs.set i u) := by
  obtain ⟨h1, ⟨h2, _⟩ | ⟨g', cap', cur, hv, hg, hh, hn, hm, hs, ht⟩⟩ := h
  · cases h2
  · obtain ⟨rfl, rfl⟩ : g = g' ∧ cap = cap' := by simpa using hv
    refine ⟨by simpa using h1, Or.inr ⟨g, cap, cur.setIfInBounds i u, rfl, hg, ?_, hn, hm, by simpa using hs, ?_⟩⟩
    · unfold World.setCell
      simp only [Array.getElem?_modify]
      simp
      exact ⟨_, hh, by simp⟩
    · rw [Array.toList_setIfInBounds, List.take_set, ht]
theorem ow_cell {w : World} {B g n s cap : Nat} {e : TypeId} {xs : List Value} (h : w.ownsRow B e s (.slice (some ⟨g, 0, none⟩) n cap) n xs) (i : Nat) (hi : i < xs.length) : w.cell? ⟨g, i, none⟩ = some xs[i] ∧ w.frozen? ⟨g, i, none⟩ = false := by
  have hc := h.cells (g := g) rfl i xs[i] (by simp [hi])
  rw [Addr.add_mid] at hc
  obtain ⟨h1, ⟨h2, _⟩ | ⟨g', cap', cur, hv, hg, hh, hn, hm, hs, ht⟩⟩ := h
  · cases h2
  · obtain ⟨rfl, rfl⟩ : g = g' ∧ cap = cap' := by simpa using hv
    refine ⟨by simpa using hc, ?_⟩
    unfold World.frozen?
    rw [hh]
    simp
/-- How a marking ends: n things of s numbers each from k on. -/
def MarkedI (E : TypeId) (s : Nat) (w w' : World) (B n k : Nat) (v : Value) (r : Ending) : Prop := r = .returned (.int .i64 ((k + n * s : Nat) : Int)) ∧ w'.ownsRow B E s v n (marksI (n * s) k) ∧ w.grownBy w' v.ownBlock
end Go.Proofs.YtlkbgmgnjkkfgaaDoor

