/-
  The specification's l6Ok: how its rounds begin; what was gone through.
-/
import Derived.Test.YtlkbgmgnjkkfgaaDoorLvAll32
import Derived.Test.YtlkbgmgnjkkfgaaDoorLvAll14
namespace Go.Proofs.YtlkbgmgnjkkfgaaDoor
open Go.RowKit

def flagsV (l : List Bool) : List Value := l.map (.bool ·)
theorem flagsV_length (l : List Bool) : (flagsV l).length = l.length := by simp [flagsV]
theorem make_flags (n : Nat) (hn : n ≤ 1048576) (w : World) : (Instr.makeSlice 34 (.int .i64 (n : Int)) (.int .i64 (n : Int))).run Tryd.prog w =
    .ok (.slice (some ⟨w.heap.size, 0, none⟩) n n) (w.alloc (.cells (madeCells #[.bool false] n) 4)) := by
  have hinfo : (Tryd.prog.info? 4).map (fun i => (i.zero, i.size, i.bytes)) = some (some (.bool false), 1, 1) := by kernel_rfl
  obtain ⟨i, hi, hz⟩ := Option.map_eq_some_iff.1 hinfo
  simp only [Prod.mk.injEq] at hz
  obtain ⟨hz, hs, hb⟩ := hz
  have hr := run_make (P := Tryd.prog) w 34 4 i _ Tryd.underlying34 hi hz .i64 .i64 n n (by omega) (Int.le_refl _) (by rw [hb]; omega) (by omega)
  simpa [hs, Value.cells] using hr
theorem make_known (n : Nat) (hn : n ≤ 1048576) (w : World) : (Instr.makeSlice 49 (.int .i64 (n : Int)) (.int .i64 (n : Int))).run Tryd.prog w =
    .ok (.slice (some ⟨w.heap.size, 0, none⟩) n n) (w.alloc (.cells (madeCells #[.int .i64 0, .int .i64 0, .bool false] (n * 3)) 54)) := by
  have hinfo : (Tryd.prog.info? 54).map (fun i => (i.zero, i.size, i.bytes)) = some (some (.agg #[.int .i64 0, .int .i64 0, .bool false]), 3, 24) := by kernel_rfl
  obtain ⟨i, hi, hz⟩ := Option.map_eq_some_iff.1 hinfo
  simp only [Prod.mk.injEq] at hz
  obtain ⟨hz, hs, hb⟩ := hz
  have hr := run_make (P := Tryd.prog) w 49 54 i _ Tryd.underlying49 hi hz .i64 .i64 n n (by omega) (Int.le_refl _) (by rw [hb]; omega) (by omega)
  simpa [hs, Value.cells] using hr
/-- What was gone through, in memory. -/
def Flags (w : World) (z : Nat) (D : List Bool) : Prop := w.ownsRow z 4 1 (.slice (some ⟨z, 0, none⟩) D.length D.length) D.length (flagsV D)
theorem Flags.keep {w w' : World} {z : Nat} {D : List Bool} (h : Flags w z D) (hs : w'.heap[z]? = w.heap[z]?) : Flags w' z D := by
  obtain ⟨h1, ⟨h2, h3⟩ | ⟨b, cap, cur, e, hb, hh, r⟩⟩ := h
  · cases h2
  · have : z = b := by simp at e; exact e.1
    subst this
    exact ⟨h1, Or.inr ⟨z, cap, cur, e, hb, by rw [hs]; exact hh, r⟩⟩
theorem Flags.at {w : World} {z : Nat} {D : List Bool} (h : Flags w z D) {k : Nat} (hk : k < D.length) : w.cell? ⟨z, k, none⟩ = some (.bool D[k]) ∧ w.frozen? ⟨z, k, none⟩ = false ∧ z < w.heap.size := by
  obtain ⟨h1, h2⟩ := ow_cell h k (by rw [flagsV_length]; exact hk)
  refine ⟨?_, h2, (World.ownsRow.lt h z rfl).2⟩
  rw [h1]
  simp [flagsV]
theorem Flags.set {w : World} {z : Nat} {D : List Bool} (h : Flags w z D) (k : Nat) : Flags (w.setCell ⟨z, k, none⟩ (.bool true)) z (D.set k true) := by
  have h1 := ow_set h k (.bool true)
  unfold Flags
  rw [List.length_set]
  have e : flagsV (D.set k true) = (flagsV D).set k (.bool true) := by simp [flagsV, List.map_set]
  rw [e]
  exact h1
/-- The rounds as they begin. -/
theorem sw_start (w : World) (ops : List Wd) (vl : Value) (h : Words w (· < w.heap.size) ops vl) (hl : ops.length ≤ 200) :
    SW (((w.alloc (.cells (madeCells #[.int .i64 0, .int .i64 0, .bool false] (ops.length * 3)) 54)).alloc (.cells #[vl, .slice (some ⟨w.heap.size, 0, none⟩) ops.length ops.length, .bool false] 51)).alloc (.cells (madeCells #[.bool false] ops.length) 4)) w.heap.size (w.heap.size + 1) ops vl (List.replicate ops.length none, false) (.slice (some ⟨w.heap.size, 0, none⟩) ops.length ops.length) ∧
    Flags (((w.alloc (.cells (madeCells #[.int .i64 0, .int .i64 0, .bool false] (ops.length * 3)) 54)).alloc (.cells #[vl, .slice (some ⟨w.heap.size, 0, none⟩) ops.length ops.length, .bool false] 51)).alloc (.cells (madeCells #[.bool false] ops.length) 4)) (w.heap.size + 2) (List.replicate ops.length false) ∧
    Below w.heap.size w (((w.alloc (.cells (madeCells #[.int .i64 0, .int .i64 0, .bool false] (ops.length * 3)) 54)).alloc (.cells #[vl, .slice (some ⟨w.heap.size, 0, none⟩) ops.length ops.length, .bool false] 51)).alloc (.cells (madeCells #[.bool false] ops.length) 4)) := by
  have hz1 : (w.alloc (.cells (madeCells #[.int .i64 0, .int .i64 0, .bool false] (ops.length * 3)) 54)).heap.size = w.heap.size + 1 := by simp
  have hz2 : ((w.alloc (.cells (madeCells #[.int .i64 0, .int .i64 0, .bool false] (ops.length * 3)) 54)).alloc (.cells #[vl, .slice (some ⟨w.heap.size, 0, none⟩) ops.length ops.length, .bool false] 51)).heap.size = w.heap.size + 2 := by simp
  have hb2 : Below w.heap.size w ((w.alloc (.cells (madeCells #[.int .i64 0, .int .i64 0, .bool false] (ops.length * 3)) 54)).alloc (.cells #[vl, .slice (some ⟨w.heap.size, 0, none⟩) ops.length ops.length, .bool false] 51)) := ((Below.refl _ _).alloc (Nat.le_refl _) _).alloc (by omega) _
  have hS : SW ((w.alloc (.cells (madeCells #[.int .i64 0, .int .i64 0, .bool false] (ops.length * 3)) 54)).alloc (.cells #[vl, .slice (some ⟨w.heap.size, 0, none⟩) ops.length ops.length, .bool false] 51)) w.heap.size (w.heap.size + 1) ops vl (List.replicate ops.length none, false) (.slice (some ⟨w.heap.size, 0, none⟩) ops.length ops.length) := by
    refine ⟨by omega, ?_, h.same fun k hk => ⟨hb2.block k hk, hk⟩, ?_, fun e => ?_⟩
    · have := heap_alloc_new (w.alloc (.cells (madeCells #[.int .i64 0, .int .i64 0, .bool false] (ops.length * 3)) 54)) (.cells #[vl, .slice (some ⟨w.heap.size, 0, none⟩) ops.length ops.length, .bool false] 51)
      rw [hz1] at this
      exact this
    · have h0 := made3_own w (.int .i64 0) (.int .i64 0) (.bool false) ops.length w.heap.size 54 (Nat.le_refl _) (by omega)
      have e : (List.replicate ops.length (none : Option Sd)).flatMap stateV = (List.replicate ops.length [Value.int .i64 0, .int .i64 0, .bool false]).flatten := by
        rw [List.flatMap_def, List.map_replicate]
        rfl
      show World.ownsRow _ _ _ 3 _ (List.replicate ops.length (none : Option Sd)).length _
      rw [List.length_replicate, e]
      exact h0.alloc _
    · simp [Value.ownBlock] at e
  refine ⟨hS.keep ((Below.refl _ _).alloc (Nat.le_refl _) _), ?_, hb2.alloc (by omega) _⟩
  unfold Flags
  rw [List.length_replicate]
  refine ⟨by simp [flagsV], Or.inr ⟨w.heap.size + 2, ops.length, madeCells #[.bool false] ops.length, rfl, Nat.le_refl _, ?_, Nat.le_refl _, by unfold maxLen; omega, by simp [size_madeCells], ?_⟩⟩
  · have := heap_alloc_new ((w.alloc (.cells (madeCells #[.int .i64 0, .int .i64 0, .bool false] (ops.length * 3)) 54)).alloc (.cells #[vl, .slice (some ⟨w.heap.size, 0, none⟩) ops.length ops.length, .bool false] 51)) (.cells (madeCells #[.bool false] ops.length) 4)
    rw [hz2] at this
    exact this
  · rw [toList_madeCells_one]
    simp [flagsV]
end Go.Proofs.YtlkbgmgnjkkfgaaDoor

