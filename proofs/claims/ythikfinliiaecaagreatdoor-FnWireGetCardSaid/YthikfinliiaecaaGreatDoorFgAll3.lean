/-
  Copying cells, each once, behind others, as they are come to: mathematics. No program is named here.
  A worklist in memory: a struct that leads to what is copied from, what was copied, and where each went. No program is named here.
-/
import Derived.Test.YthikfinliiaecaaGreatDoorFgAll2
import Derived.Test.YthikfinliiaecaaGreatDoorFgAll0
namespace Go.Proofs.YthikfinliiaecaaGreatDoor

/-- No cell. -/
def ce0 : Ce := ⟨0, 0, ⟨0, 0⟩, ⟨0, 0⟩⟩
/-- What was copied so far, and where each went, below 0 if it did not. -/
structure St where
  to : List Ce
  mv : List Int
/-- The cell of a place is come to. -/
def comeS (fr : List Ce) (s : St) (p : Nat) : St := if s.mv.getD p 0 < 0 then ⟨s.to ++ [fr.getD p ce0], s.mv.set p s.to.length⟩ else s
/-- Where it went. -/
def placeS (fr : List Ce) (s : St) (p : Nat) : Int := (comeS fr s p).mv.getD p 0
/-- A word is copied. -/
def moveS (fr : List Ce) (s : St) (w : Wd) : St := if w.tag = 4 then comeS fr s w.num.toNat else s
def moveW (fr : List Ce) (s : St) (w : Wd) : Wd := if w.tag = 4 then ⟨4, placeS fr s w.num.toNat⟩ else w
/-- The words of the cell that was copied to a place are copied. -/
def stepS (fr : List Ce) (s : St) (i : Nat) : St :=
  let c := s.to.getD i ce0
  let s1 := moveS fr s c.a
  let s2 := moveS fr s1 c.b
  ⟨s2.to.set i ⟨c.kind, c.num, moveW fr s c.a, moveW fr s1 c.b⟩, s2.mv⟩
/-- And so on, as long as there are some. -/
def loopS (fr : List Ce) : Nat → St → Nat → St
  | 0, s, _ => s
  | n + 1, s, i => if i < s.to.length then loopS fr n (stepS fr s i) (i + 1) else s
/-- Words are copied, one by one. -/
def wordsS (fr : List Ce) (s : St) : List Wd → St
  | [] => s
  | w :: l => wordsS fr (moveS fr s w) l
def wordsW (fr : List Ce) (s : St) : List Wd → List Wd
  | [] => []
  | w :: l => moveW fr s w :: wordsW fr (moveS fr s w) l
theorem wordsS_snoc (fr : List Ce) : ∀ (l : List Wd) (s : St) (w : Wd), wordsS fr s (l ++ [w]) = moveS fr (wordsS fr s l) w
  | [], _, _ => rfl
  | _ :: l, _, w => wordsS_snoc fr l _ w
theorem wordsW_snoc (fr : List Ce) : ∀ (l : List Wd) (s : St) (w : Wd), wordsW fr s (l ++ [w]) = wordsW fr s l ++ [moveW fr (wordsS fr s l) w]
  | [], _, _ => rfl
  | x :: l, s, w => by rw [List.cons_append, wordsW, wordsW_snoc fr l, wordsW, List.cons_append, wordsS]
theorem wordsW_length (fr : List Ce) : ∀ (l : List Wd) (s : St), (wordsW fr s l).length = l.length
  | [], _ => rfl
  | _ :: l, s => by rw [wordsW, List.length_cons, wordsW_length fr l, List.length_cons]

/-- A word that leads to a cell leads to one of n. -/
def refOk (n : Nat) (w : Wd) : Prop := w.tag = 4 → 0 ≤ w.num ∧ w.num < n
/-- What holds as long as cells are copied, b being there first, those from i on not being gone through yet. -/
structure Inv (fr : List Ce) (b i : Nat) (s : St) : Prop where
  len : s.mv.length = fr.length
  cnt : s.to.length = b + s.mv.countP (fun x => decide (0 ≤ x))
  refs : ∀ j c, i ≤ j → s.to[j]? = some c → refOk fr.length c.a ∧ refOk fr.length c.b
theorem Inv.le {fr : List Ce} {b i : Nat} {s : St} (h : Inv fr b i s) : s.to.length ≤ b + fr.length := by
  have := List.countP_le_length (p := fun x : Int => decide (0 ≤ x)) (l := s.mv)
  have := h.cnt
  have := h.len
  omega
theorem Inv.come {fr : List Ce} {b i : Nat} {s : St} (h : Inv fr b i s) (hfr : ∀ c ∈ fr, refOk fr.length c.a ∧ refOk fr.length c.b) {p : Nat} (hp : p < fr.length) : Inv fr b i (comeS fr s p) := by
  unfold comeS
  by_cases hn : s.mv.getD p 0 < 0
  · rw [if_pos hn]
    have hpl : p < s.mv.length := by rw [h.len]; exact hp
    have hg : s.mv.getD p 0 = s.mv[p] := by rw [List.getD_eq_getElem?_getD, List.getElem?_eq_getElem hpl]; rfl
    refine ⟨by rw [List.length_set]; exact h.len, ?_, fun j c hj hc => ?_⟩
    · rw [hg] at hn
      have e1 : decide (0 ≤ s.mv[p]) = false := decide_eq_false (by omega)
      have e2 : decide (0 ≤ (s.to.length : Int)) = true := decide_eq_true (by omega)
      have hc := h.cnt
      rw [List.length_append, List.countP_set hpl, e1, e2]
      simp
      omega
    · by_cases hl : j < s.to.length
      · rw [List.getElem?_append_left hl] at hc
        exact h.refs j c hj hc
      · rw [List.getElem?_append_right (by omega)] at hc
        have : fr.getD p ce0 = fr[p] := by rw [List.getD_eq_getElem?_getD, List.getElem?_eq_getElem hp]; rfl
        rw [this] at hc
        have hc' : fr[p] = c := by
          cases hq : j - s.to.length with
          | zero => rw [hq] at hc; simpa using hc
          | succ q => rw [hq] at hc; simp at hc
        rw [← hc']
        exact hfr _ (List.getElem_mem hp)
  · rw [if_neg hn]; exact h
theorem Inv.move {fr : List Ce} {b i : Nat} {s : St} (h : Inv fr b i s) (hfr : ∀ c ∈ fr, refOk fr.length c.a ∧ refOk fr.length c.b) {w : Wd} (hw : refOk fr.length w) : Inv fr b i (moveS fr s w) := by
  unfold moveS
  by_cases ht : w.tag = 4
  · rw [if_pos ht]
    have := hw ht
    exact h.come hfr (by omega)
  · rw [if_neg ht]; exact h
theorem come_len {fr : List Ce} {s : St} {p : Nat} : s.to.length ≤ (comeS fr s p).to.length := by
  unfold comeS; split <;> simp
theorem move_len {fr : List Ce} {s : St} {w : Wd} : s.to.length ≤ (moveS fr s w).to.length := by
  unfold moveS; split
  · exact come_len
  · exact Nat.le_refl _
theorem come_get {fr : List Ce} {s : St} {p i : Nat} (hi : i < s.to.length) : (comeS fr s p).to[i]? = s.to[i]? := by
  unfold comeS; split
  · exact List.getElem?_append_left hi
  · rfl
theorem move_get {fr : List Ce} {s : St} {w : Wd} {i : Nat} (hi : i < s.to.length) : (moveS fr s w).to[i]? = s.to[i]? := by
  unfold moveS; split
  · exact come_get hi
  · rfl
theorem Inv.step {fr : List Ce} {b i : Nat} {s : St} (h : Inv fr b i s) (hfr : ∀ c ∈ fr, refOk fr.length c.a ∧ refOk fr.length c.b) (hi : i < s.to.length) : Inv fr b (i + 1) (stepS fr s i) := by
  obtain ⟨hA, hB⟩ := h.refs i s.to[i] (Nat.le_refl _) (List.getElem?_eq_getElem hi)
  have hg : s.to.getD i ce0 = s.to[i] := by rw [List.getD_eq_getElem?_getD, List.getElem?_eq_getElem hi]; rfl
  have h2 := (h.move hfr hA).move hfr hB
  unfold stepS
  rw [hg]
  refine ⟨h2.len, by rw [List.length_set]; exact h2.cnt, fun j c hj hc => ?_⟩
  rw [List.getElem?_set_ne (by omega)] at hc
  exact h2.refs j c (by omega) hc
theorem loopS_step {fr : List Ce} {n : Nat} {s : St} {i : Nat} (hi : i < s.to.length) : loopS fr (n + 1) s i = loopS fr n (stepS fr s i) (i + 1) := by rw [loopS, if_pos hi]
theorem loopS_end {fr : List Ce} {n : Nat} {s : St} {i : Nat} (hi : ¬ i < s.to.length) : loopS fr n s i = s := by
  cases n with
  | zero => rfl
  | succ n => rw [loopS, if_neg hi]
/-- Nothing is copied yet. -/
def st0 (fr to : List Ce) : St := ⟨to, List.replicate fr.length (-1)⟩
theorem inv0 (fr to : List Ce) : Inv fr to.length to.length (st0 fr to) := by
  refine ⟨by simp [st0], ?_, fun j c hj hc => ?_⟩
  · have : (st0 fr to).mv.countP (fun x => decide (0 ≤ x)) = 0 := by
      rw [List.countP_eq_zero]
      intro x hx
      simp [st0] at hx
      rw [hx.2]
      decide
    rw [this]; rfl
  · have := (List.getElem?_eq_some_iff.1 hc).1
    simp [st0] at this
    omega
theorem Inv.words {fr : List Ce} {b i : Nat} (hfr : ∀ c ∈ fr, refOk fr.length c.a ∧ refOk fr.length c.b) : ∀ (l : List Wd) (s : St), Inv fr b i s → (∀ w ∈ l, refOk fr.length w) → Inv fr b i (wordsS fr s l)
  | [], _, h, _ => h
  | w :: l, s, h, hl => Inv.words hfr l _ (h.move hfr (hl w (by simp))) (fun x hx => hl x (by simp [hx]))
/-- All that words lead to, behind some cells. -/
def copyS (fr to : List Ce) (ws : List Wd) : St := loopS fr (fr.length + 1) (wordsS fr (st0 fr to) ws) to.length
end Go.Proofs.YthikfinliiaecaaGreatDoor

namespace Go.Proofs.YthikfinliiaecaaGreatDoor
open Go.RowKit

/-- Numbers as values. -/
def intsV (l : List Int) : List Value := l.map (.int .i64 ·)
theorem intsV_get {l : List Int} {i : Nat} (h : i < l.length) : (intsV l)[i]? = some (.int .i64 l[i]) := by simp [intsV, h]
theorem intsV_length (l : List Int) : (intsV l).length = l.length := by simp [intsV]
theorem intsV_set (l : List Int) (i : Nat) (x : Int) : intsV (l.set i x) = (intsV l).set i (.int .i64 x) := by simp [intsV, List.map_set]

structure WL (C I T : TypeId) (sh : Value → Value → Value → Array Value) (w : World) (B g : Nat) (fr : List Ce) (s : St) (vf vt vm : Value) : Prop where
  hB : B ≤ g
  blk : w.heap[g]? = some (.cells (sh vf vt vm) T)
  frm : Cells w (· < B) fr vf
  ownT : w.ownsRow B C 6 vt s.to.length (s.to.flatMap Ce.cells)
  ownM : w.ownsRow B I 1 vm s.mv.length (intsV s.mv)
  tg : vt.ownBlock ≠ some g
  mg : vm.ownBlock ≠ some g
  tm : vt.ownBlock = none ∨ vt.ownBlock ≠ vm.ownBlock

/-- The world has grown; of what was there the worklist's own blocks alone may have turned. -/
structure Moved (w w' : World) (g : Nat) (vt vt' vm : Value) : Prop where
  os : w'.os = w.os
  tape : w'.tape = w.tape
  output : w'.output = w.output
  size : w.heap.size ≤ w'.heap.size
  block : ∀ k, k < w.heap.size → k ≠ g → some k ≠ vt.ownBlock → some k ≠ vm.ownBlock → w'.heap[k]? = w.heap[k]?
  new : ∀ k, k < w.heap.size → some k ≠ vt.ownBlock → some k ≠ vt'.ownBlock

section
variable {C I T : TypeId} {sh : Value → Value → Value → Array Value} {w w' w'' : World} {B g : Nat} {fr : List Ce} {s : St} {vf vt vt' vt'' vm : Value}
theorem WL.lt (h : WL C I T sh w B g fr s vf vt vm) : g < w.heap.size := (Array.getElem?_eq_some_iff.1 h.blk).1
theorem WL.same (h : WL C I T sh w B g fr s vf vt vm) (hs : ∀ k, k < w.heap.size → (k = g ∨ k < B ∨ some k = vt.ownBlock ∨ some k = vm.ownBlock) → w'.heap[k]? = w.heap[k]?) : WL C I T sh w' B g fr s vf vt vm := by
  have own : ∀ {e : TypeId} {n m : Nat} {v : Value} {xs : List Value}, (∀ k, k < w.heap.size → some k = v.ownBlock → w'.heap[k]? = w.heap[k]?) → w.ownsRow B e n v m xs → w'.ownsRow B e n v m xs := fun {e n m v xs} hk ho => by
    obtain ⟨h1, ⟨h2, h3⟩ | ⟨b, cap, cur, rfl, hb, hh, r⟩⟩ := ho
    · exact ⟨h1, Or.inl ⟨h2, h3⟩⟩
    · exact ⟨h1, Or.inr ⟨b, cap, cur, rfl, hb, by rw [hk b (Array.getElem?_eq_some_iff.1 hh).1 rfl]; exact hh, r⟩⟩
  refine ⟨h.hB, by rw [hs g h.lt (Or.inl rfl)]; exact h.blk, ?_, own (fun k h1 h2 => hs k h1 (Or.inr (Or.inr (Or.inl h2)))) h.ownT, own (fun k h1 h2 => hs k h1 (Or.inr (Or.inr (Or.inr h2)))) h.ownM, h.tg, h.mg, h.tm⟩
  exact h.frm.same fun k hk => ⟨hs k (by have := h.hB; have := h.lt; omega) (Or.inr (Or.inl hk)), hk⟩
theorem WL.keep (h : WL C I T sh w B g fr s vf vt vm) (hb : Below w.heap.size w w') : WL C I T sh w' B g fr s vf vt vm := h.same fun k hk _ => hb.block k hk
theorem WL.drew (h : WL C I T sh w B g fr s vf vt vm) : WL C I T sh w.drew B g fr s vf vt vm := h.same fun _ _ _ => rfl
/-- A block that is none of the worklist's. -/
theorem WL.setOther (h : WL C I T sh w B g fr s vf vt vm) {b o : Nat} {u : Value} (hB : B ≤ b) (h1 : b ≠ g) (h2 : some b ≠ vt.ownBlock) (h3 : some b ≠ vm.ownBlock) : WL C I T sh (w.setCell ⟨b, o, none⟩ u) B g fr s vf vt vm :=
  h.same fun k _ hk => Below.heap_setCell _ _ _ _ (by
    show k ≠ b
    rcases hk with rfl | hk | hk | hk
    · exact fun e => h1 e.symm
    · omega
    · exact fun e => h2 (by rw [← e]; exact hk)
    · exact fun e => h3 (by rw [← e]; exact hk))
theorem WL.below (h : WL C I T sh w B g fr s vf vt vm) (hm : Moved w w' g vt vt' vm) : Below B w w' := by
  have := h.hB
  have := h.lt
  refine ⟨hm.os, hm.tape, hm.output, hm.size, fun k hk => hm.block k (by omega) (by omega) (fun e => ?_) (fun e => ?_)⟩
  · have := (h.ownT.lt k e.symm).1; omega
  · have := (h.ownM.lt k e.symm).1; omega
theorem Moved.refl : Moved w w g vt vt vm := ⟨rfl, rfl, rfl, Nat.le_refl _, fun _ _ _ _ _ => rfl, fun _ _ h => h⟩
theorem Moved.trans (h : Moved w w' g vt vt' vm) (k : Moved w' w'' g vt' vt'' vm) : Moved w w'' g vt vt'' vm :=
  ⟨k.os.trans h.os, k.tape.trans h.tape, k.output.trans h.output, Nat.le_trans h.size k.size,
    fun i hi h1 h2 h3 => (k.block i (Nat.lt_of_lt_of_le hi h.size) h1 (h.new i hi h2) h3).trans (h.block i hi h1 h2 h3),
    fun i hi h2 => k.new i (Nat.lt_of_lt_of_le hi h.size) (h.new i hi h2)⟩
theorem Moved.ofBelow (h : Below w.heap.size w w') : Moved w w' g vt vt vm := ⟨h.os, h.tape, h.output, h.size, fun k hk _ _ _ => h.block k hk, fun _ _ h => h⟩
/-- A block of one's own stays, and stays apart. -/
theorem Moved.own (h : Moved w w' g vt vt' vm) {b : Nat} (hb : b < w.heap.size) (h1 : b ≠ g) (h2 : some b ≠ vt.ownBlock) (h3 : some b ≠ vm.ownBlock) : w'.heap[b]? = w.heap[b]? ∧ b < w'.heap.size ∧ some b ≠ vt'.ownBlock :=
  ⟨h.block b hb h1 h2 h3, Nat.lt_of_lt_of_le hb h.size, h.new b hb h2⟩
/-- A new block is none of the worklist's. -/
theorem WL.apart (h : WL C I T sh w B g fr s vf vt vm) {b : Nat} (hb : w.heap.size ≤ b) : b ≠ g ∧ some b ≠ vt.ownBlock ∧ some b ≠ vm.ownBlock := by
  have := h.lt
  refine ⟨by omega, fun e => ?_, fun e => ?_⟩
  · have := (h.ownT.lt b e.symm).2; omega
  · have := (h.ownM.lt b e.symm).2; omega
/-- Where the words went. -/
theorem WL.rowM (h : WL C I T sh w B g fr s vf vt vm) {p : Nat} (hp : p < s.mv.length) : ∃ mb cap, vm = .slice (some ⟨mb, 0, none⟩) s.mv.length cap ∧ w.cell? ⟨mb, p, none⟩ = some (.int .i64 s.mv[p]) ∧ w.frozen? ⟨mb, p, none⟩ = false ∧ mb ≠ g ∧ mb < w.heap.size ∧ B ≤ mb := by
  have ho := h.ownM
  have hmg := h.mg
  rcases ho.2 with ⟨_, hn⟩ | ⟨mb, cap, cur, rfl, hb, hh, _⟩
  · omega
  · have hc := ow_cell ho p (by rw [intsV_length]; exact hp)
    have hg : (intsV s.mv)[p]'(by rw [intsV_length]; exact hp) = .int .i64 s.mv[p] := by simp [intsV]
    rw [hg] at hc
    exact ⟨mb, cap, rfl, hc.1, hc.2, fun e => hmg (by rw [e]; rfl), (Array.getElem?_eq_some_iff.1 hh).1, hb⟩
/-- A place is written. -/
theorem WL.setM {mb cap n p : Nat} {x : Int} (h : WL C I T sh w B g fr s vf vt (.slice (some ⟨mb, 0, none⟩) n cap)) (hn : s.mv.length = n) : WL C I T sh (w.setCell ⟨mb, p, none⟩ (.int .i64 x)) B g fr ⟨s.to, s.mv.set p x⟩ vf vt (.slice (some ⟨mb, 0, none⟩) n cap) := by
  have hmg : mb ≠ g := fun e => h.mg (by rw [e]; rfl)
  have hBm := (h.ownM.lt mb rfl).1
  have hk : ∀ k, k ≠ mb → (w.setCell ⟨mb, p, none⟩ (.int .i64 x)).heap[k]? = w.heap[k]? := fun k hk => Below.heap_setCell _ _ _ _ hk
  refine ⟨h.hB, by rw [hk g (Ne.symm hmg)]; exact h.blk, h.frm.same fun k hlt => ⟨hk k (by omega), hlt⟩, ?_, ?_, h.tg, h.mg, h.tm⟩
  · refine h.ownT.kept (ow_but_set w mb p _) ?_
    rcases h.tm with e | e
    · exact Or.inl e
    · exact Or.inr e
  · have := h.ownM
    rw [hn] at this
    have h2 := ow_set this p (.int .i64 x)
    rw [intsV_set, List.length_set, hn]
    exact h2
end
/-- How a call over a worklist ends. -/
def CameR (C I T : TypeId) (sh : Value → Value → Value → Array Value) (w w' : World) (B g : Nat) (fr : List Ce) (s : St) (vf vt vm : Value) (e r : Ending) : Prop := r = e ∧ ∃ vt', WL C I T sh w' B g fr s vf vt' vm ∧ Moved w w' g vt vt' vm
/-- Something is copied behind all others. -/
theorem WL.setTo {C I T : TypeId} {sh : Value → Value → Value → Array Value} {W w5 : World} {B g t cap : Nat} {fr : List Ce} {s : St} {c : Ce} {vf vt vm : Value} (h : WL C I T sh W B g fr s vf vt vm) (hO : w5.ownsRow B C 6 (.slice (some ⟨t, 0, none⟩) (s.to.length + 1) cap) (s.to.length + 1) (s.to.flatMap Ce.cells ++ c.cells)) (hG : W.grownBy w5 vt.ownBlock) (hor : vt.ownBlock = some t ∨ t = W.heap.size) (j : Nat) (hj : ∀ v', (sh vf vt vm).setIfInBounds j v' = sh vf v' vm) :
    WL C I T sh (w5.setCell ⟨g, j, none⟩ (.slice (some ⟨t, 0, none⟩) (s.to.length + 1) cap)) B g fr ⟨s.to ++ [c], s.mv⟩ vf (.slice (some ⟨t, 0, none⟩) (s.to.length + 1) cap) vm ∧ Moved W (w5.setCell ⟨g, j, none⟩ (.slice (some ⟨t, 0, none⟩) (s.to.length + 1) cap)) g vt (.slice (some ⟨t, 0, none⟩) (s.to.length + 1) cap) vm := by
  have hgl := h.lt
  have hgB := h.hB
  have htg : t ≠ g := by
    rcases hor with e | e
    · exact fun e2 => h.tg (by rw [e, e2])
    · omega
  have hk : ∀ (k : Nat), k ≠ g → (w5.setCell ⟨g, j, none⟩ (.slice (some ⟨t, 0, none⟩) (s.to.length + 1) cap)).heap[k]? = w5.heap[k]? := fun k hk => Below.heap_setCell _ _ _ _ hk
  have hg5 : w5.heap[g]? = some (.cells (sh vf vt vm) T) := by rw [hG.block g hgl (fun e => h.tg e.symm)]; exact h.blk
  have hsz : (w5.setCell ⟨g, j, none⟩ (.slice (some ⟨t, 0, none⟩) (s.to.length + 1) cap)).heap.size = w5.heap.size := by simp [World.setCell]
  have htm : some t ≠ vm.ownBlock := by
    rcases hor with e | e
    · rcases h.tm with e2 | e2
      · rw [e] at e2; cases e2
      · rw [← e]; exact e2
    · exact fun e2 => by have := (h.ownM.lt t e2.symm).2; omega
  refine ⟨⟨h.hB, ?_, ?_, ?_, ?_, fun e => htg (by simpa [Value.ownBlock] using e), h.mg, Or.inr htm⟩, ⟨hG.os, hG.tape, hG.output, ?_, ?_, ?_⟩⟩
  · unfold World.setCell
    simp only [Array.getElem?_modify, if_true]
    rw [hg5]
    simp [hj]
  · refine h.frm.same fun k hlt => ⟨?_, hlt⟩
    rw [hk k (by omega), hG.block k (by omega) (fun e => by have := (h.ownT.lt k e.symm).1; omega)]
  · have := ow_but hO (ow_but_set w5 g j (.slice (some ⟨t, 0, none⟩) (s.to.length + 1) cap)) (B := B)
    rw [List.length_append, List.flatMap_append]
    have h2 : (w5.setCell ⟨g, j, none⟩ (.slice (some ⟨t, 0, none⟩) (s.to.length + 1) cap)).ownsRow B C 6 (.slice (some ⟨t, 0, none⟩) (s.to.length + 1) cap) (s.to.length + 1) (s.to.flatMap Ce.cells ++ c.cells) := hO.kept (ow_but_set w5 g j _) (Or.inr (fun e => htg (by simpa [Value.ownBlock] using e)))
    simpa using h2
  · refine (h.ownM.kept hG ?_).kept (ow_but_set w5 g j _) (Or.inr h.mg)
    rcases h.tm with e | e
    · rw [e]; cases vm.ownBlock <;> simp
    · exact Or.inr (Ne.symm e)
  · rw [hsz]; exact hG.size
  · intro k hlt h1 h2 _
    rw [hk k h1]
    exact hG.block k hlt h2
  · intro k hlt h2 e
    have e' : k = t := by simpa [Value.ownBlock] using e
    rcases hor with e3 | e3
    · exact h2 (by rw [e3, e'])
    · omega
end Go.Proofs.YthikfinliiaecaaGreatDoor

