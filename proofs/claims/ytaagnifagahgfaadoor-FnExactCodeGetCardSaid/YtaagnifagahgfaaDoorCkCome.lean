/-
  The specification's come: its table in memory.
-/
import Derived.Test.YtaagnifagahgfaaDoorLgAll29
import Derived.Test.YtaagnifagahgfaaDoorLgAll17
import Derived.Test.YtaagnifagahgfaaDoorLgAll7
import Derived.Deep.QuietTactic
import Derived.BigQuiet
namespace Go.Proofs.YtaagnifagahgfaaDoor
open Go.RowKit

def stateV : Option Sd → List Value
  | some s => [.int .i64 s.n, .int .i64 s.v, .bool true]
  | none => [.int .i64 0, .int .i64 0, .bool false]
theorem stateV_len : ∀ o, (stateV o).length = 3
  | some _ => rfl
  | none => rfl
/-- The specification's check, in memory. -/
structure SW (w : World) (B g : Nat) (ops : List Wd) (vl : Value) (C : Tb × Bool) (vt : Value) : Prop where
  hB : B ≤ g
  blk : w.heap[g]? = some (.cells #[vl, vt, .bool C.2] 49)
  list : Words w (· < B) ops vl
  tab : w.ownsRow B 53 3 vt C.1.length (C.1.flatMap stateV)
  tg : vt.ownBlock ≠ some g
/-- What may have turned. -/
structure Sm (w w' : World) (g : Nat) (vt : Value) : Prop where
  os : w'.os = w.os
  tape : w'.tape = w.tape
  output : w'.output = w.output
  size : w.heap.size ≤ w'.heap.size
  block : ∀ k, k < w.heap.size → k ≠ g → some k ≠ vt.ownBlock → w'.heap[k]? = w.heap[k]?
section
variable {w w' w2 : World} {B g : Nat} {ops : List Wd} {vl : Value} {C : Tb × Bool} {vt : Value}
theorem SW.lt (h : SW w B g ops vl C vt) : g < w.heap.size := (Array.getElem?_eq_some_iff.1 h.blk).1
theorem SW.same (h : SW w B g ops vl C vt) (hs : ∀ k, k < w.heap.size → (k = g ∨ k < B ∨ some k = vt.ownBlock) → w'.heap[k]? = w.heap[k]?) : SW w' B g ops vl C vt := by
  refine ⟨h.hB, by rw [hs g h.lt (Or.inl rfl)]; exact h.blk, ?_, ?_, h.tg⟩
  · exact h.list.same fun k hk => ⟨hs k (by have := h.hB; have := h.lt; omega) (Or.inr (Or.inl hk)), hk⟩
  · obtain ⟨h1, ⟨h2, h3⟩ | ⟨b, cap, cur, rfl, hb, hh, r⟩⟩ := h.tab
    · exact ⟨h1, Or.inl ⟨h2, h3⟩⟩
    · exact ⟨h1, Or.inr ⟨b, cap, cur, rfl, hb, by rw [hs b (Array.getElem?_eq_some_iff.1 hh).1 (Or.inr (Or.inr rfl))]; exact hh, r⟩⟩
theorem SW.keep (h : SW w B g ops vl C vt) (hb : Below w.heap.size w w') : SW w' B g ops vl C vt := h.same fun k hk _ => hb.block k hk
theorem Sm.refl (w : World) (g : Nat) (vt : Value) : Sm w w g vt := ⟨rfl, rfl, rfl, Nat.le_refl _, fun _ _ _ _ => rfl⟩
theorem Sm.ofBelow (h : Below w.heap.size w w') : Sm w w' g vt := ⟨h.os, h.tape, h.output, h.size, fun k hk _ _ => h.block k hk⟩
theorem Sm.trans (h : Sm w w' g vt) (k : Sm w' w2 g vt) : Sm w w2 g vt :=
  ⟨k.os.trans h.os, k.tape.trans h.tape, k.output.trans h.output, Nat.le_trans h.size k.size, fun i hi h1 h2 => (k.block i (Nat.lt_of_lt_of_le hi h.size) h1 h2).trans (h.block i hi h1 h2)⟩
theorem SW.below (h : SW w B g ops vl C vt) (hm : Sm w w' g vt) : Below B w w' := by
  have := h.hB
  have := h.lt
  refine ⟨hm.os, hm.tape, hm.output, hm.size, fun k hk => hm.block k (by omega) (by omega) (fun e => ?_)⟩
  have := (h.tab.lt k e.symm).1; omega
theorem SW.cells (h : SW w B g ops vl C vt) : w.cell? ⟨g, 0, none⟩ = some vl ∧ w.cell? ⟨g, 1, none⟩ = some vt ∧ w.cell? ⟨g, 2, none⟩ = some (.bool C.2) ∧ w.frozen? ⟨g, 2, none⟩ = false := by
  have hb := h.blk
  refine ⟨?_, ?_, ?_, ?_⟩
  · rw [cell_of_row _ _ _ _ _ _ hb]; rfl
  · rw [cell_of_row _ _ _ _ _ _ hb]; rfl
  · rw [cell_of_row _ _ _ _ _ _ hb]; rfl
  · unfold World.frozen?; rw [hb]; simp
theorem SW.at (h : SW w B g ops vl C vt) {i : Nat} (hi : i < C.1.length) : ∃ tb cap, vt = .slice (some ⟨tb, 0, none⟩) C.1.length cap ∧ B ≤ tb ∧ tb < w.heap.size ∧ tb ≠ g ∧ w.rangeAt tb (i * 3) (stateV C.1[i]) ∧ ∀ o, w.frozen? ⟨tb, o, none⟩ = false := by
  have hO := h.tab
  obtain ⟨h1, ⟨h2, h3⟩ | ⟨b, cap, cur, e, hb, hh, r⟩⟩ := hO
  · omega
  · subst e
    refine ⟨b, cap, rfl, hb, (Array.getElem?_eq_some_iff.1 hh).1, fun e => h.tg (by rw [e]; rfl), fun j u hj => ?_, fun o => ?_⟩
    · have := h.tab.cells (g := b) rfl (i * 3 + j) u (ow_flat_get stateV_len C.1 i j _ u (List.getElem?_eq_getElem hi) hj)
      rw [Addr.add_mid] at this
      simpa using this
    · unfold World.frozen?; rw [hh]; simp
theorem SW.put (h : SW w B g ops vl C vt) {p tb cap n : Nat} (s : Sd) (hv : vt = .slice (some ⟨tb, 0, none⟩) n cap) (hp : p < C.1.length) :
    SW (w.setCells tb (p * 3) (stateV (some s))) B g ops vl (C.1.set p (some s), C.2) vt ∧ Sm w (w.setCells tb (p * 3) (stateV (some s))) g vt := by
  subst hv
  have hn : n = C.1.length := by
    obtain ⟨h1, ⟨h2, h3⟩ | ⟨b, cap', cur, e, hb, hh, r⟩⟩ := h.tab
    · cases h2
    · simp at e
      omega
  have hk : ∀ k, k ≠ tb → (w.setCells tb (p * 3) (stateV (some s))).heap[k]? = w.heap[k]? := fun k hk => rw_heap_setCells tb _ _ w k hk
  have htg : tb ≠ g := fun e => h.tg (by rw [e]; rfl)
  have hBt := (h.tab.lt tb rfl).1
  have hz := rw_size_setCells tb (stateV (some s)) (p * 3) w
  have hb0 := rw_below_setCells (B := 0) (b := tb) (Nat.zero_le _) (stateV (some s)) (p * 3) w (Below.refl _ _)
  refine ⟨⟨h.hB, by rw [hk g (Ne.symm htg)]; exact h.blk, h.list.same fun k hlt => ⟨hk k (by omega), hlt⟩, ?_, h.tg⟩, ⟨hb0.os, hb0.tape, hb0.output, by omega, fun k _ _ h2 => hk k (fun e => h2 (by rw [e]; rfl))⟩⟩
  have h1 := h.tab
  rw [hn] at h1
  have h2 := ow_setCells (stateV (some s)) (p * 3) w _ h1
  rw [flat_set stateV_len (some s) C.1 p hp] at h2
  show World.ownsRow _ B _ 3 _ (C.1.set p (some s)).length ((C.1.set p (some s)).flatMap stateV)
  rw [List.length_set, hn]
  exact h2
theorem SW.fell (h : SW w B g ops vl C vt) (b : Bool) : SW (w.setCell ⟨g, 2, none⟩ (.bool b)) B g ops vl (C.1, b) vt ∧ Sm w (w.setCell ⟨g, 2, none⟩ (.bool b)) g vt := by
  have hk : ∀ k, k ≠ g → (w.setCell ⟨g, 2, none⟩ (.bool b)).heap[k]? = w.heap[k]? := fun k hk => Below.heap_setCell _ _ _ _ hk
  have hz : (w.setCell ⟨g, 2, none⟩ (.bool b)).heap.size = w.heap.size := by simp [World.setCell]
  have hB := h.hB
  have hgl := h.lt
  refine ⟨⟨h.hB, ?_, h.list.same fun k hlt => ⟨hk k (by omega), hlt⟩, ?_, h.tg⟩, ⟨rfl, rfl, rfl, by omega, fun k _ h1 _ => hk k h1⟩⟩
  · unfold World.setCell
    simp only [Array.getElem?_modify]
    rw [h.blk]
    simp
  · obtain ⟨h1, ⟨h2, h3⟩ | ⟨b', cap, cur, rfl, hb, hh, r⟩⟩ := h.tab
    · exact ⟨h1, Or.inl ⟨h2, h3⟩⟩
    · refine ⟨h1, Or.inr ⟨b', cap, cur, rfl, hb, ?_, r⟩⟩
      rw [hk b' (fun e => h.tg (by rw [← e]; rfl))]
      exact hh
end
/-- Something is come to. -/
def comeM (C : Tb × Bool) (x : Nat × Sd) : Tb × Bool :=
  if C.1.length ≤ x.1 ∨ x.2.n < 0 ∨ x.2.v < 0 then (C.1, true)
  else match C.1.getD x.1 none with
    | some s => if s = x.2 then (C.1, C.2) else (C.1, true)
    | none => (C.1.set x.1 (some x.2), C.2)
end Go.Proofs.YtaagnifagahgfaaDoor

