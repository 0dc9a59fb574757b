/-
  Pairs of words as keys of a map.
-/
import Derived.Test.YtpocmljbfcenfaaRows
import Derived.Test.YtpocmljbfcenfaaCeWords
import Derived.Maps.OwnSet
import Derived.DeepKeys4
namespace Go.Proofs.Ytpocmljbfcenfaa
open Go.RowKit Go.Maps

/-- A pair of words, as four numbers. -/
structure Pw where
  x : Wd
  y : Wd
def Pw.cells (p : Pw) : List Value := [.int .i64 p.x.tag, .int .i64 p.x.num, .int .i64 p.y.tag, .int .i64 p.y.num]
def Pw.val (p : Pw) : Value := .agg #[.int .i64 p.x.tag, .int .i64 p.x.num, .int .i64 p.y.tag, .int .i64 p.y.num]
def Pw.fine (p : Pw) : Prop := (Lit.int .i64 p.x.tag).wf = true ∧ (Lit.int .i64 p.x.num).wf = true ∧ (Lit.int .i64 p.y.tag).wf = true ∧ (Lit.int .i64 p.y.num).wf = true
def keyL (p : Pw) : Lit := .string (keyBytes [.int .i64 p.x.tag, .int .i64 p.x.num, .int .i64 p.y.tag, .int .i64 p.y.num])
theorem pmLaid : laidOutB Try.prog = true := by kernel_rfl
theorem pmLaw : WideMaps.KeyLaw Try.prog 43 := deep_law_laid pmLaid (m := Try.prog.types.size + 1) (of_decide_eq_true (by kernel_rfl)) (of_decide_eq_true (by kernel_rfl)) (by kernel_rfl) (by kernel_rfl)
theorem pmKeyed : Keyed Try.prog 43 := Keyed.of_law pmLaw
theorem key_of {p : Pw} (h : p.fine) : keyOf Try.prog 43 p.val = some (keyL p) := by
  obtain ⟨h1, h2, h3, h4⟩ := h
  have hc1 : Try.prog.cellsOf 43 = 4 := by kernel_rfl
  have hc2 : Try.prog.cellsOf 29 = 2 := by kernel_rfl
  have hc3 : Try.prog.cellsOf 3 = 1 := by kernel_rfl
  have hkt : Try.prog.keyType 43 = true := by kernel_rfl
  obtain ⟨m, hm⟩ : ∃ m, Try.prog.types.size = m + 3 := ⟨Try.prog.types.size - 3, by kernel_rfl⟩
  unfold keyOf
  simp only [Try.underlying43]
  rw [if_pos (by simp [hkt, Value.formed, Try.underlying43, hc1, Pw.val]), hm]
  simp [Program.keyLits, Try.underlying43, Try.underlying29, Try.underlying3, hc1, hc2, hc3, Pw.val, Value.cells, h1, h2, h3, h4, keyL]
  split
  · rfl
  · rename_i h
    refine absurd (fun i hi => ?_) h
    match i, hi with
    | 0, _ => simp
    | 1, _ => simp
theorem key_inj {p q : Pw} (hp : p.fine) (hq : q.fine) (h : keyL p = keyL q) : p = q := by
  have h1 := key_of hp
  have h2 := key_of hq
  rw [← h] at h2
  have := keyOf_inj_deep (P := Try.prog) (m := Try.prog.types.size + 1) (by kernel_rfl) (by kernel_rfl) h1 h2
  obtain ⟨⟨a, b⟩, ⟨c, d⟩⟩ := p
  obtain ⟨⟨a', b'⟩, ⟨c', d'⟩⟩ := q
  simp only [Pw.val] at this
  simp at this
  obtain ⟨rfl, rfl, rfl, rfl⟩ := this
  rfl
end Go.Proofs.Ytpocmljbfcenfaa
