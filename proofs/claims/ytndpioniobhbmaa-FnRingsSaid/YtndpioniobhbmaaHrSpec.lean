/-
  HeapReach: the specification's.
-/
import Derived.Test.YtndpioniobhbmaaHrImpl
namespace Go.Proofs.Ytndpioniobhbmaa
open Go.RowKit

theorem boInfo : (Try.prog.info? 4).map (fun i => (i.zero, i.size, i.bytes)) = some (some (.bool false), 1, 1) := by kernel_rfl
theorem make_bools (n : Nat) (hn : n ≤ 1048576) (w : World) : (Instr.makeSlice 53 (.int .i64 (n : Int)) (.int .i64 (n : Int))).run Try.prog w =
    .ok (.slice (some ⟨w.heap.size, 0, none⟩) n n) (w.alloc (.cells (madeCells #[.bool false] n) 4)) := by
  obtain ⟨i, hi, hz, hs, hb⟩ := info_parts boInfo
  have hr := run_make (P := Try.prog) w 53 4 i _ Try.underlying53 hi hz .i64 .i64 n n (by omega) (Int.le_refl _) (by rw [hb]; omega) (by omega)
  simpa [hs, Value.cells] using hr
theorem made_bools (w : World) (n B : Nat) (hB : B ≤ w.heap.size) (hn : n ≤ 1048576) : (w.alloc (.cells (madeCells #[.bool false] n) 4)).ownsRow B 4 1 (.slice (some ⟨w.heap.size, 0, none⟩) n n) n (boolsV (List.replicate n false)) := by
  refine ⟨by simp [boolsV], Or.inr ⟨w.heap.size, n, madeCells #[.bool false] n, rfl, hB, heap_alloc_new _ _, Nat.le_refl _, by unfold maxLen; omega, by simp [size_madeCells], ?_⟩⟩
  rw [toList_madeCells_one]
  simp [boolsV]
/-- What l7Reach holds: which cells were come to, and their places. -/
structure Rch (w : World) (B ib n : Nat) (s : St) (todo : List Nat) (v : Value) : Prop where
  ins : w.ownsRow B 4 1 (.slice (some ⟨ib, 0, none⟩) n n) n (boolsV (inM s))
  todo : w.ownsRow B 3 1 v todo.length (natsV todo)
  apart : v.ownBlock ≠ some ib
theorem Rch.keep {w w' : World} {B ib n : Nat} {s : St} {t : List Nat} {v : Value} (h : Rch w B ib n s t v) (hb : Below w.heap.size w w') : Rch w' B ib n s t v := ⟨ow_keep h.ins hb, ow_keep h.todo hb, h.apart⟩
theorem Rch.cell {w : World} {B ib n : Nat} {s : St} {t : List Nat} {v : Value} (h : Rch w B ib n s t v) {p : Nat} (hp : p < s.mv.length) : w.cell? ⟨ib, p, none⟩ = some (.bool (decide (0 ≤ s.mv[p]))) ∧ w.frozen? ⟨ib, p, none⟩ = false ∧ ib < w.heap.size := by
  have := ow_cell h.ins p (by rw [boolsV_length, inM_length]; exact hp)
  have e : (boolsV (inM s))[p]'(by rw [boolsV_length, inM_length]; exact hp) = .bool (decide (0 ≤ s.mv[p])) := by simp [boolsV, inM]
  rw [e] at this
  exact ⟨this.1, this.2, (h.ins.lt ib rfl).2⟩
/-- A cell is come to. -/
theorem Rch.next {w w8 : World} {B ib n p : Nat} {fr : List Ce} {s : St} {t : List Nat} {v v8 : Value} (h : Rch w B ib n s t v) (hB : B ≤ w.heap.size) (hins : inM ⟨s.to ++ [fr.getD p ce0], s.mv.set p s.to.length⟩ = (inM s).set p true)
    (hO : w8.ownsRow B 3 1 v8 (t.length + 1) (natsV t ++ [.int .i64 (p : Int)])) (hG : ((w.setCell ⟨ib, p, none⟩ (.bool true)).alloc (.cells #[.int .i64 (p : Int)] 3)).grownBy w8 v.ownBlock) (hor : v8.ownBlock = v.ownBlock ∨ v8.ownBlock = some (w.heap.size + 1)) :
    Rch w8 B ib n ⟨s.to ++ [fr.getD p ce0], s.mv.set p s.to.length⟩ (t ++ [p]) v8 ∧ Below B w w8 := by
  have hil := (h.ins.lt ib rfl).2
  have hiB := (h.ins.lt ib rfl).1
  have hsz : (w.setCell ⟨ib, p, none⟩ (.bool true)).heap.size = w.heap.size := by simp [World.setCell]
  have h1 := (ow_set h.ins p (.bool true)).alloc (.cells #[.int .i64 (p : Int)] 3)
  have h2 := h1.kept hG (Or.inr (fun e => h.apart e.symm))
  refine ⟨⟨?_, nats_snoc rfl hO, ?_⟩, ?_⟩
  · rw [hins]
    have e : boolsV ((inM s).set p true) = (boolsV (inM s)).set p (.bool true) := by simp [boolsV, List.map_set]
    rw [e]
    exact h2
  · rcases hor with e | e
    · rw [e]; exact h.apart
    · rw [e]; simp; omega
  · refine ((((Below.refl B w).setCell (p := ⟨ib, p, none⟩) hiB (.bool true)).alloc (by rw [hsz]; exact hB) _).grown hG (by simp [hsz]; omega) (fun k hk => (h.todo.lt k hk).1))
/-- How l7Reach ends. -/
def InR (w w' : World) (s : St) (r : Ending) : Prop := ∃ v, r = .returned v ∧ w'.ownsRow w.heap.size 4 1 v (inM s).length (boolsV (inM s)) ∧ Below w.heap.size w w'
end Go.Proofs.Ytndpioniobhbmaa
