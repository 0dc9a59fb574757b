/-
  A worklist in memory: a struct that leads to what is copied from, what was copied, and where each went. No program is named here.
-/
import Derived.Test.YthmpgeppicbhlaaDoorWlMath
import Derived.Test.YthmpgeppicbhlaaDoorOwRow
namespace Go.Proofs.YthmpgeppicbhlaaDoor
open Go.RowKit

/-- Numbers as values. -/
def intsV (l : List Int) : List Value := l.map (.int .i64 ·)
theorem intsV_get {l : List Int} {i : Nat} (h : i < l.length) : (intsV l)[i]? = some (.int .i64 l[i]) := by simp [intsV, h]
theorem intsV_length (l : List Int) : (intsV l).length = l.length := by simp [intsV]
theorem intsV_set (l : List Int) (i : Nat) (x : Int) : intsV (l.set i x) = (intsV l).set i (.int .i64 x) := by simp [intsV, List.map_set]

structure WL (C I T : TypeId) (sh : Value → Value → Value → Array Value) (w : World) (B g : Nat) (fr : List Ce) (s : St) (vf vt vm : Value) : Prop where
  hB : B ≤ g
  blk : w.heap[g]? = some (.cells (sh vf vt vm) T)
  frm : Cells w (· < B) fr vf
  ownT : w.ownsRow B C 6 vt s.to.length (s.to.flatMap Ce.cells)
  ownM : w.ownsRow B I 1 vm s.mv.length (intsV s.mv)
  tg : vt.ownBlock ≠ some g
  mg : vm.ownBlock ≠ some g
  tm : vt.ownBlock = none ∨ vt.ownBlock ≠ vm.ownBlock

/-- The world has grown; of what was there the worklist's own blocks alone may have turned. -/
structure Moved (w w' : World) (g : Nat) (vt vt' vm : Value) : Prop where
  os : w'.os = w.os
  tape : w'.tape = w.tape
  output : w'.output = w.output
  size : w.heap.size ≤ w'.heap.size
  block : ∀ k, k < w.heap.size → k ≠ g → some k ≠ vt.ownBlock → some k ≠ vm.ownBlock → w'.heap[k]? = w.heap[k]?
  new : ∀ k, k < w.heap.size → some k ≠ vt.ownBlock → some k ≠ vt'.ownBlock

section
variable {C I T : TypeId} {sh : Value → Value → Value → Array Value} {w w' w'' : World} {B g : Nat} {fr : List Ce} {s : St} {vf vt vt' vt'' vm : Value}
theorem WL.lt (h : WL C I T sh w B g fr s vf vt vm) : g < w.heap.size := (Array.getElem?_eq_some_iff.1 h.blk).1
theorem WL.same (h : WL C I T sh w B g fr s vf vt vm) (hs : ∀ k, k < w.heap.size → (k = g ∨ k < B ∨ some k = vt.ownBlock ∨ some k = vm.ownBlock) → w'.heap[k]? = w.heap[k]?) : WL C I T sh w' B g fr s vf vt vm := by
  have own : ∀ {e : TypeId} {n m : Nat} {v : Value} {xs : List Value}, (∀ k, k < w.heap.size → some k = v.ownBlock → w'.heap[k]? = w.heap[k]?) → w.ownsRow B e n v m xs → w'.ownsRow B e n v m xs := fun {e n m v xs} hk ho => by
    obtain ⟨h1, ⟨h2, h3⟩ | ⟨b, cap, cur, rfl, hb, hh, r⟩⟩ := ho
    · exact ⟨h1, Or.inl ⟨h2, h3⟩⟩
    · exact ⟨h1, Or.inr ⟨b, cap, cur, rfl, hb, by rw [hk b (Array.getElem?_eq_some_iff.1 hh).1 rfl]; exact hh, r⟩⟩
  refine ⟨h.hB, by rw [hs g h.lt (Or.inl rfl)]; exact h.blk, ?_, own (fun k h1 h2 => hs k h1 (Or.inr (Or.inr (Or.inl h2)))) h.ownT, own (fun k h1 h2 => hs k h1 (Or.inr (Or.inr (Or.inr h2)))) h.ownM, h.tg, h.mg, h.tm⟩
  exact h.frm.same fun k hk => ⟨hs k (by have := h.hB; have := h.lt; omega) (Or.inr (Or.inl hk)), hk⟩
theorem WL.keep (h : WL C I T sh w B g fr s vf vt vm) (hb : Below w.heap.size w w') : WL C I T sh w' B g fr s vf vt vm := h.same fun k hk _ => hb.block k hk
theorem WL.drew (h : WL C I T sh w B g fr s vf vt vm) : WL C I T sh w.drew B g fr s vf vt vm := h.same fun _ _ _ => rfl
/-- A block that is none of the worklist's. -/
theorem WL.setOther (h : WL C I T sh w B g fr s vf vt vm) {b o : Nat} {u : Value} (hB : B ≤ b) (h1 : b ≠ g) (h2 : some b ≠ vt.ownBlock) (h3 : some b ≠ vm.ownBlock) : WL C I T sh (w.setCell ⟨b, o, none⟩ u) B g fr s vf vt vm :=
  h.same fun k _ hk => Below.heap_setCell _ _ _ _ (by
    show k ≠ b
    rcases hk with rfl | hk | hk | hk
    · exact fun e => h1 e.symm
    · omega
    · exact fun e => h2 (by rw [← e]; exact hk)
    · exact fun e => h3 (by rw [← e]; exact hk))
theorem WL.below (h : WL C I T sh w B g fr s vf vt vm) (hm : Moved w w' g vt vt' vm) : Below B w w' := by
  have := h.hB
  have := h.lt
  refine ⟨hm.os, hm.tape, hm.output, hm.size, fun k hk => hm.block k (by omega) (by omega) (fun e => ?_) (fun e => ?_)⟩
  · have := (h.ownT.lt k e.symm).1; omega
  · have := (h.ownM.lt k e.symm).1; omega
theorem Moved.refl : Moved w w g vt vt vm := ⟨rfl, rfl, rfl, Nat.le_refl _, fun _ _ _ _ _ => rfl, fun _ _ h => h⟩
theorem Moved.trans (h : Moved w w' g vt vt' vm) (k : Moved w' w'' g vt' vt'' vm) : Moved w w'' g vt vt'' vm :=
  ⟨k.os.trans h.os, k.tape.trans h.tape, k.output.trans h.output, Nat.le_trans h.size k.size,
    fun i hi h1 h2 h3 => (k.block i (Nat.lt_of_lt_of_le hi h.size) h1 (h.new i hi h2) h3).trans (h.block i hi h1 h2 h3),
    fun i hi h2 => k.new i (Nat.lt_of_lt_of_le hi h.size) (h.new i hi h2)⟩
theorem Moved.ofBelow (h : Below w.heap.size w w') : Moved w w' g vt vt vm := ⟨h.os, h.tape, h.output, h.size, fun k hk _ _ _ => h.block k hk, fun _ _ h => h⟩
/-- A block of one's own stays, and stays apart. -/
theorem Moved.own (h : Moved w w' g vt vt' vm) {b : Nat} (hb : b < w.heap.size) (h1 : b ≠ g) (h2 : some b ≠ vt.ownBlock) (h3 : some b ≠ vm.ownBlock) : w'.heap[b]? = w.heap[b]? ∧ b < w'.heap.size ∧ some b ≠ vt'.ownBlock :=
  ⟨h.block b hb h1 h2 h3, Nat.lt_of_lt_of_le hb h.size, h.new b hb h2⟩
/-- A new block is none of the worklist's. -/
theorem WL.apart (h : WL C I T sh w B g fr s vf vt vm) {b : Nat} (hb : w.heap.size ≤ b) : b ≠ g ∧ some b ≠ vt.ownBlock ∧ some b ≠ vm.ownBlock := by
  have := h.lt
  refine ⟨by omega, fun e => ?_, fun e => ?_⟩
  · have := (h.ownT.lt b e.symm).2; omega
  · have := (h.ownM.lt b e.symm).2; omega
/-- Where the words went. -/
theorem WL.rowM (h : WL C I T sh w B g fr s vf vt vm) {p : Nat} (hp : p < s.mv.length) : ∃ mb cap, vm = .slice (some ⟨mb, 0, none⟩) s.mv.length cap ∧ w.cell? ⟨mb, p, none⟩ = some (.int .i64 s.mv[p]) ∧ w.frozen? ⟨mb, p, none⟩ = false ∧ mb ≠ g ∧ mb < w.heap.size ∧ B ≤ mb := by
  have ho := h.ownM
  have hmg := h.mg
  rcases ho.2 with ⟨_, hn⟩ | ⟨mb, cap, cur, rfl, hb, hh, _⟩
  · omega
  · have hc := ow_cell ho p (by rw [intsV_length]; exact hp)
    have hg : (intsV s.mv)[p]'(by rw [intsV_length]; exact hp) = .int .i64 s.mv[p] := by simp [intsV]
    rw [hg] at hc
    exact ⟨mb, cap, rfl, hc.1, hc.2, fun e => hmg (by rw [e]; rfl), (Array.getElem?_eq_some_iff.1 hh).1, hb⟩
/-- A place is written. -/
theorem WL.setM {mb cap n p : Nat} {x : Int} (h : WL C I T sh w B g fr s vf vt (.slice (some ⟨mb, 0, none⟩) n cap)) (hn : s.mv.length = n) : WL C I T sh (w.setCell ⟨mb, p, none⟩ (.int .i64 x)) B g fr ⟨s.to, s.mv.set p x⟩ vf vt (.slice (some ⟨mb, 0, none⟩) n cap) := by
  have hmg : mb ≠ g := fun e => h.mg (by rw [e]; rfl)
  have hBm := (h.ownM.lt mb rfl).1
  have hk : ∀ k, k ≠ mb → (w.setCell ⟨mb, p, none⟩ (.int .i64 x)).heap[k]? = w.heap[k]? := fun k hk => Below.heap_setCell _ _ _ _ hk
  refine ⟨h.hB, by rw [hk g (Ne.symm hmg)]; exact h.blk, h.frm.same fun k hlt => ⟨hk k (by omega), hlt⟩, ?_, ?_, h.tg, h.mg, h.tm⟩
  · refine h.ownT.kept (ow_but_set w mb p _) ?_
    rcases h.tm with e | e
    · exact Or.inl e
    · exact Or.inr e
  · have := h.ownM
    rw [hn] at this
    have h2 := ow_set this p (.int .i64 x)
    rw [intsV_set, List.length_set, hn]
    exact h2
end
/-- How a call over a worklist ends. -/
def CameR (C I T : TypeId) (sh : Value → Value → Value → Array Value) (w w' : World) (B g : Nat) (fr : List Ce) (s : St) (vf vt vm : Value) (e r : Ending) : Prop := r = e ∧ ∃ vt', WL C I T sh w' B g fr s vf vt' vm ∧ Moved w w' g vt vt' vm
/-- Something is copied behind all others. -/
theorem WL.setTo {C I T : TypeId} {sh : Value → Value → Value → Array Value} {W w5 : World} {B g t cap : Nat} {fr : List Ce} {s : St} {c : Ce} {vf vt vm : Value} (h : WL C I T sh W B g fr s vf vt vm) (hO : w5.ownsRow B C 6 (.slice (some ⟨t, 0, none⟩) (s.to.length + 1) cap) (s.to.length + 1) (s.to.flatMap Ce.cells ++ c.cells)) (hG : W.grownBy w5 vt.ownBlock) (hor : vt.ownBlock = some t ∨ t = W.heap.size) (j : Nat) (hj : ∀ v', (sh vf vt vm).setIfInBounds j v' = sh vf v' vm) :
    WL C I T sh (w5.setCell ⟨g, j, none⟩ (.slice (some ⟨t, 0, none⟩) (s.to.length + 1) cap)) B g fr ⟨s.to ++ [c], s.mv⟩ vf (.slice (some ⟨t, 0, none⟩) (s.to.length + 1) cap) vm ∧ Moved W (w5.setCell ⟨g, j, none⟩ (.slice (some ⟨t, 0, none⟩) (s.to.length + 1) cap)) g vt (.slice (some ⟨t, 0, none⟩) (s.to.length + 1) cap) vm := by
  have hgl := h.lt
  have hgB := h.hB
  have htg : t ≠ g := by
    rcases hor with e | e
    · exact fun e2 => h.tg (by rw [e, e2])
    · omega
  have hk : ∀ (k : Nat), k ≠ g → (w5.setCell ⟨g, j, none⟩ (.slice (some ⟨t, 0, none⟩) (s.to.length + 1) cap)).heap[k]? = w5.heap[k]? := fun k hk => Below.heap_setCell _ _ _ _ hk
  have hg5 : w5.heap[g]? = some (.cells (sh vf vt vm) T) := by rw [hG.block g hgl (fun e => h.tg e.symm)]; exact h.blk
  have hsz : (w5.setCell ⟨g, j, none⟩ (.slice (some ⟨t, 0, none⟩) (s.to.length + 1) cap)).heap.size = w5.heap.size := by simp [World.setCell]
  have htm : some t ≠ vm.ownBlock := by
    rcases hor with e | e
    · rcases h.tm with e2 | e2
      · rw [e] at e2; cases e2
      · rw [← e]; exact e2
    · exact fun e2 => by have := (h.ownM.lt t e2.symm).2; omega
  refine ⟨⟨h.hB, ?_, ?_, ?_, ?_, fun e => htg (by simpa [Value.ownBlock] using e), h.mg, Or.inr htm⟩, ⟨hG.os, hG.tape, hG.output, ?_, ?_, ?_⟩⟩
  · unfold World.setCell
    simp only [Array.getElem?_modify, if_true]
    rw [hg5]
    simp [hj]
  · refine h.frm.same fun k hlt => ⟨?_, hlt⟩
    rw [hk k (by omega), hG.block k (by omega) (fun e => by have := (h.ownT.lt k e.symm).1; omega)]
  · have := ow_but hO (ow_but_set w5 g j (.slice (some ⟨t, 0, none⟩) (s.to.length + 1) cap)) (B := B)
    rw [List.length_append, List.flatMap_append]
    have h2 : (w5.setCell ⟨g, j, none⟩ (.slice (some ⟨t, 0, none⟩) (s.to.length + 1) cap)).ownsRow B C 6 (.slice (some ⟨t, 0, none⟩) (s.to.length + 1) cap) (s.to.length + 1) (s.to.flatMap Ce.cells ++ c.cells) := hO.kept (ow_but_set w5 g j _) (Or.inr (fun e => htg (by simpa [Value.ownBlock] using e)))
    simpa using h2
  · refine (h.ownM.kept hG ?_).kept (ow_but_set w5 g j _) (Or.inr h.mg)
    rcases h.tm with e | e
    · rw [e]; cases vm.ownBlock <;> simp
    · exact Or.inr (Ne.symm e)
  · rw [hsz]; exact hG.size
  · intro k hlt h1 h2 _
    rw [hk k h1]
    exact hG.block k hlt h2
  · intro k hlt h2 e
    have e' : k = t := by simpa [Value.ownBlock] using e
    rcases hor with e3 | e3
    · exact h2 (by rw [e3, e'])
    · omega
end Go.Proofs.YthmpgeppicbhlaaDoor
