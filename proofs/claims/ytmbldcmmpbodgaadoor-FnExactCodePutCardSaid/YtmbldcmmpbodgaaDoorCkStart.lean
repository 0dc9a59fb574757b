/-
  The program's standsFit: how it begins, how a place is taken.
-/
import Derived.Test.YtmbldcmmpbodgaaDoorCkFol
import Derived.Test.YtmbldcmmpbodgaaDoorCkBound
namespace Go.Proofs.YtmbldcmmpbodgaaDoor
open Go.RowKit

theorem make_stands (n : Nat) (hn : n ≤ 1048576) (w : World) : (Instr.makeSlice 68 (.int .i64 (n : Int)) (.int .i64 (n : Int))).run Tryd.prog w =
    .ok (.slice (some ⟨w.heap.size, 0, none⟩) n n) (w.alloc (.cells (madeCells #[.bool false, .int .i64 0, .int .i64 0] (n * 3)) 74)) := by
  have hinfo : (Tryd.prog.info? 74).map (fun i => (i.zero, i.size, i.bytes)) = some (some (.agg #[.bool false, .int .i64 0, .int .i64 0]), 3, 24) := by kernel_rfl
  obtain ⟨i, hi, hz⟩ := Option.map_eq_some_iff.1 hinfo
  simp only [Prod.mk.injEq] at hz
  obtain ⟨hz, hs, hb⟩ := hz
  have hr := run_make (P := Tryd.prog) w 68 74 i _ Tryd.underlying68 hi hz .i64 .i64 n n (by omega) (Int.le_refl _) (by rw [hb]; omega) (by omega)
  simpa [hs, Value.cells] using hr
/-- The walk as it begins. -/
theorem cw_start (w : World) (ops : List Wd) (vl : Value) (h : Words w (· < w.heap.size) ops vl) (hl : ops.length ≤ 200) :
    CW ((w.alloc (.cells (madeCells #[.bool false, .int .i64 0, .int .i64 0] (ops.length * 3)) 74)).alloc (.cells #[vl, .slice (some ⟨w.heap.size, 0, none⟩) ops.length ops.length, .slice none 0 0] 71)) w.heap.size (w.heap.size + 1) ops vl (List.replicate ops.length none, []) (.slice (some ⟨w.heap.size, 0, none⟩) ops.length ops.length) (.slice none 0 0) ∧
    Below w.heap.size w ((w.alloc (.cells (madeCells #[.bool false, .int .i64 0, .int .i64 0] (ops.length * 3)) 74)).alloc (.cells #[vl, .slice (some ⟨w.heap.size, 0, none⟩) ops.length ops.length, .slice none 0 0] 71)) := by
  have hz1 : (w.alloc (.cells (madeCells #[.bool false, .int .i64 0, .int .i64 0] (ops.length * 3)) 74)).heap.size = w.heap.size + 1 := by simp
  have hb : Below w.heap.size w ((w.alloc (.cells (madeCells #[.bool false, .int .i64 0, .int .i64 0] (ops.length * 3)) 74)).alloc (.cells #[vl, .slice (some ⟨w.heap.size, 0, none⟩) ops.length ops.length, .slice none 0 0] 71)) := ((Below.refl _ _).alloc (Nat.le_refl _) _).alloc (by omega) _
  refine ⟨⟨by omega, ?_, h.same fun k hk => ⟨hb.block k hk, hk⟩, ?_, ⟨none, 0, rfl, Nat.le_refl _, by simp [maxLen], fun _ => rfl, fun a ha => (by cases ha)⟩, fun e => ?_, fun e => (by cases e), Or.inl rfl⟩, hb⟩
  · have := heap_alloc_new (w.alloc (.cells (madeCells #[.bool false, .int .i64 0, .int .i64 0] (ops.length * 3)) 74)) (.cells #[vl, .slice (some ⟨w.heap.size, 0, none⟩) ops.length ops.length, .slice none 0 0] 71)
    rw [hz1] at this
    exact this
  · have h0 := made3_own w (.bool false) (.int .i64 0) (.int .i64 0) ops.length w.heap.size 74 (Nat.le_refl _) (by omega)
    have e : (List.replicate ops.length (none : Option Sd)).flatMap standV = (List.replicate ops.length [Value.bool false, .int .i64 0, .int .i64 0]).flatten := by
      rw [List.flatMap_def, List.map_replicate]
      rfl
    show World.ownsRow _ _ _ 3 _ (List.replicate ops.length (none : Option Sd)).length _
    rw [List.length_replicate, e]
    exact h0.alloc _
  · simp [Value.ownBlock] at e
/-- The list is another one, and is noted. -/
theorem CW.note {w : World} {B g : Nat} {ops : List Wd} {vl vt vq : Value} {S : Tq} (h : CW w B g ops vl S vt vq) {q : List Nat} {v' : Value} (hq : Queue w B q v') (hnew : qB v' = qB vq) :
    CW (w.setCell ⟨g, 2, none⟩ v') B g ops vl (S.1, q) vt v' ∧ Mv w (w.setCell ⟨g, 2, none⟩ v') g vt vq v' := by
  have hgl := h.lt
  have hk : ∀ k, k ≠ g → (w.setCell ⟨g, 2, none⟩ v').heap[k]? = w.heap[k]? := fun k hk => Below.heap_setCell _ _ _ _ hk
  have hz : (w.setCell ⟨g, 2, none⟩ v').heap.size = w.heap.size := by simp [World.setCell]
  have hqg' : qB v' ≠ some g := by rw [hnew]; exact h.qg
  have hB := h.hB
  refine ⟨⟨h.hB, ?_, h.list.same fun k hlt => ⟨hk k (by omega), hlt⟩, ?_, hq.same (by omega) fun k _ he => hk k (fun e => hqg' (by rw [← he, e])), h.tg, hqg', by rw [hnew]; exact h.qt⟩, ⟨rfl, rfl, rfl, by omega, fun k h1 h2 _ _ => hk k h2, fun k h1 h2 => by rw [hnew]; exact h2⟩⟩
  · unfold World.setCell
    simp only [Array.getElem?_modify]
    rw [h.blk]
    simp
  · obtain ⟨h1, ⟨h2, h3⟩ | ⟨b, cap, cur, rfl, hb, hh, r⟩⟩ := h.tab
    · exact ⟨h1, Or.inl ⟨h2, h3⟩⟩
    · refine ⟨h1, Or.inr ⟨b, cap, cur, rfl, hb, ?_, r⟩⟩
      rw [hk b (fun e => h.tg (by rw [← e]; rfl))]
      exact hh
/-- The first of a list. -/
theorem Queue.first {w : World} {B p : Nat} {q : List Nat} {v : Value} (h : Queue w B (p :: q) v) : ∃ ob off cap, v = .slice (some ⟨ob, off, none⟩) (q.length + 1) cap ∧ q.length + 1 ≤ cap ∧ ob < w.heap.size ∧ w.cell? ⟨ob, off, none⟩ = some (.int .i64 (p : Int)) ∧
    ∀ ao', (0 < cap - 1 → ao' = some ⟨ob, off + 1, none⟩) → (∃ o s, ao' = some ⟨ob, o, s⟩) → Queue w B q (.slice ao' q.length (cap - 1)) := by
  obtain ⟨ao, cap, rfl, h1, h2, h3, h4⟩ := h.ex
  simp only [List.length_cons] at h1
  cases hao : ao with
  | none => have := h3 hao; omega
  | some a0 =>
    obtain ⟨b1, b2, b3⟩ := h4 a0 hao
    obtain ⟨ob, off, cur, rfl, hh, hsz, hx⟩ := b3 (by omega)
    refine ⟨ob, off, cap, rfl, h1, b2, ?_, fun ao' h5 h6 => ⟨ao', cap - 1, rfl, by omega, by omega, fun e => ?_, fun a ha => ?_⟩⟩
    · rw [cell_of_row _ _ _ _ _ _ hh]
      exact hx 0 p rfl
    · obtain ⟨o, s, e'⟩ := h6
      rw [e'] at e
      cases e
    · obtain ⟨o, s, e'⟩ := h6
      rw [e'] at ha
      cases ha
      refine ⟨b1, b2, fun hc => ?_⟩
      have h7 := h5 hc
      rw [e'] at h7
      cases h7
      refine ⟨ob, off + 1, cur, rfl, hh, by omega, fun i y hi => ?_⟩
      have := hx (i + 1) y hi
      rw [show off + 1 + i = off + (i + 1) by omega]
      exact this
end Go.Proofs.YtmbldcmmpbodgaaDoor
