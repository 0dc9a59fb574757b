/-
  Cells and words as they are written down.
-/
import Derived.Test.YthmpgeppicbhlaaDoorHtDecA
import Derived.Test.YthmpgeppicbhlaaDoorWlWords
namespace Go.Proofs.YthmpgeppicbhlaaDoor
open Go.RowKit

def trueB : List UInt8 := [116, 114, 117, 101]
def falseB : List UInt8 := [102, 97, 108, 115, 101]
def wordT (d : Wd) : List UInt8 :=
  if d.tag = 1 then Lib.itoa d.num else if d.tag = 2 then (if d.num = 1 then trueB else falseB) else if d.tag = 3 then [112, 105, 100] ++ Lib.itoa d.num else if d.tag = 4 then [97, 116] ++ Lib.itoa d.num else [110, 105, 108]
/-- The word of a kind. -/
def kindB (k : Int) : List UInt8 := if k = 1 then [112, 97, 105, 114] else if k = 2 then [99, 111, 110, 115] else if k = 3 then [101, 110, 118] else if k = 4 then [102, 117, 110] else [114, 101, 99]
def midT (c : Ce) : List UInt8 := if c.kind = 4 ∨ c.kind = 5 then Lib.itoa c.num else wordT c.a
def cellB (c : Ce) : List UInt8 := kindB c.kind ++ [32] ++ midT c ++ [32] ++ wordT c.b
def lineT (c : Ce) : List UInt8 := cellB c ++ [10]
def wireT (cs : List Ce) (d : Wd) : List UInt8 := wordT d ++ [10] ++ cs.flatMap lineT
/-- A cell that can be written: of a kind, its numbers of 64 bits. -/
structure Ce.Fine (c : Ce) : Prop where
  kind : 1 ≤ c.kind ∧ c.kind ≤ 5
  num : In64 c.num
  a : In64 c.a.num ∧ (c.a.tag = 2 → c.a.num = 0 ∨ c.a.num = 1)
  b : In64 c.b.num ∧ (c.b.tag = 2 → c.b.num = 0 ∨ c.b.num = 1)
theorem word_len {d : Wd} (h : In64 d.num) : (wordT d).length ≤ 23 := by
  have := itoa_len d.num h
  unfold wordT trueB falseB
  repeat' split
  all_goals (simp; try omega)
theorem kind_len (k : Int) : (kindB k).length ≤ 4 := by
  unfold kindB
  repeat' split
  all_goals simp
theorem line_len {c : Ce} (h : c.Fine) : (lineT c).length ≤ 60 := by
  have h1 := kind_len c.kind
  have h2 := word_len h.a.1
  have h3 := word_len h.b.1
  have h4 := itoa_len c.num h.num
  have h5 : (midT c).length ≤ 23 := by
    unfold midT
    split <;> omega
  simp only [lineT, cellB, List.length_append, List.length_cons, List.length_nil]
  omega
theorem lines_len : ∀ (l : List Ce), (∀ c ∈ l, c.Fine) → (l.flatMap lineT).length ≤ 60 * l.length
  | [], _ => by simp
  | x :: l, h => by
    have h1 := line_len (h x (by simp))
    have h2 := lines_len l (fun y hy => h y (by simp [hy]))
    rw [List.flatMap_cons, List.length_append, List.length_cons]
    omega
theorem word_fine {n : Nat} {d : Wd} (hn : n ≤ 1000) (h : wordP n d.tag d.num) : In64 d.num ∧ (d.tag = 2 → d.num = 0 ∨ d.num = 1) := by
  unfold wordP at h
  exact ⟨by unfold In64; omega, fun h2 => by omega⟩
theorem cell_fine {cs : List Ce} (h : heapM cs = true) : ∀ c ∈ cs, c.Fine := by
  intro c hc
  rw [heapM, Bool.and_eq_true, List.all_eq_true] at h
  have hl : cs.length ≤ 120 := of_decide_eq_true h.1
  have hp : cellP cs c := of_decide_eq_true (h.2 c hc)
  unfold cellP cellQ at hp
  obtain ⟨w1, w2, w3⟩ := hp
  refine ⟨by omega, by unfold In64; omega, word_fine (by omega) w1, word_fine (by omega) w2⟩
theorem take_lines (l : List Ce) (k : Nat) (h : k < l.length) : (l.take (k + 1)).flatMap lineT = (l.take k).flatMap lineT ++ lineT l[k] := by
  rw [List.take_succ_eq_append_getElem h, List.flatMap_append]
  simp
end Go.Proofs.YthmpgeppicbhlaaDoor
