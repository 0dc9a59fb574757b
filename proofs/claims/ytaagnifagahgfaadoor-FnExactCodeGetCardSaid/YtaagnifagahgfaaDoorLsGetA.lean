/-
  What CodeGet answers, and its lines.
-/
import Derived.Test.YtaagnifagahgfaaDoorLgAll29
import Derived.Test.YtaagnifagahgfaaDoorCwSpec
namespace Go.Proofs.YtaagnifagahgfaaDoor
open Go.RowKit

theorem get_some {l : List UInt8} {X : List Wd} (h : getM l = some X) : codeM X = true ∧ codeT X = l ∧ l.length ≤ 2400 := by
  unfold getM at h
  split at h
  · rename_i hc
    cases h
    exact ⟨hc.2.1, hc.2.2, hc.1⟩
  · cases h
theorem get_intro {l : List UInt8} {X : List Wd} (h1 : codeM X = true) (h2 : codeT X = l) (h3 : l.length ≤ 2400) : getM l = some X := by
  have hf := (codeM_fit' h1).2
  have ho := ops_own hf
  rw [h2] at ho
  unfold getM
  rw [ho, if_pos ⟨h3, h1, h2⟩]
theorem get_none {l : List UInt8} (h : ∀ X, codeM X = true → codeT X = l → l.length ≤ 2400 → False) : getM l = none := by
  cases hg : getM l with
  | none => rfl
  | some X =>
    obtain ⟨h1, h2, h3⟩ := get_some hg
    exact (h X h1 h2 h3).elim
theorem code_last {X : List Wd} (h : X ≠ []) : (codeT X).getLast? = some 10 := by
  have key : ∀ (X : List Wd) (o : Wd), (codeT (o :: X)).getLast? = some 10 := by
    intro X
    induction X with
    | nil => intro o; simp [codeT, opT_word]
    | cons x X ih =>
      intro o
      show (opT o ++ codeT (x :: X)).getLast? = _
      rw [List.getLast?_append, ih x]
      rfl
  cases X with
  | nil => exact absurd rfl h
  | cons o X => exact key X o
theorem codeM_ne {X : List Wd} (h : codeM X = true) : X ≠ [] := by
  rintro rfl
  have := (codeM_fit' h).1
  simp at this
/-- All lines of a text. -/
def linesS (l : List UInt8) : List (List UInt8) := cutG 10 l.length (l.take (l.length - 1))
theorem lines_of {l : List UInt8} {X : List Wd} (h1 : codeM X = true) (h2 : codeT X = l) : linesS l = X.map wordL ∧ ∀ j (hj : j < X.length), Reads ((X.map wordL)[j]'(by simpa using hj)) X[j] := by
  have hf := (codeM_fit' h1).2
  refine ⟨?_, fun j hj => by rw [List.getElem_map]; exact reads_own (hf _ (List.getElem_mem hj))⟩
  unfold linesS
  rw [← List.dropLast_eq_take]
  cases X with
  | nil => exact absurd rfl (codeM_ne h1)
  | cons o X =>
    rw [← h2]
    refine lines_own o X _ ?_ hf
    have hlen : ∀ (X : List Wd), X.length ≤ (codeT X).length := by
      intro X
      induction X with
      | nil => exact Nat.zero_le _
      | cons x X ih =>
        show _ ≤ (opT x ++ codeT X).length
        rw [List.length_append, opT_word, List.length_append, List.length_cons]
        simp
        omega
    have := hlen (o :: X)
    simp at this
    omega
theorem read_all {l : List UInt8} {X Y : List Wd} (h1 : codeM X = true) (h2 : codeT X = l) (hl : Y.length = (linesS l).length) (hY : ∀ j (hj : j < Y.length) (hj' : j < (linesS l).length), Reads (linesS l)[j] Y[j]) : Y = X := by
  obtain ⟨e, hX⟩ := lines_of h1 h2
  apply List.ext_getElem
  · rw [hl, e]; simp
  · intro j hj hj2
    have a := hY j hj (by omega)
    have b := hX j hj2
    have c : (linesS l)[j]'(by omega) = (X.map wordL)[j]'(by simpa using hj2) := by
      congr 1
    rw [c] at a
    exact reads_unique a b


theorem not_reads {l : List UInt8} {k : Nat} (hk : k < (linesS l).length) (h : ∀ op, ¬ Reads (linesS l)[k] op) : getM l = none := get_none fun X h1 h2 _ => by
  obtain ⟨e, hX⟩ := lines_of h1 h2
  have hk2 : k < X.length := by rw [e] at hk; simpa using hk
  have b := hX k hk2
  have c : (linesS l)[k] = (X.map wordL)[k]'(by simpa using hk2) := by congr 1
  rw [← c] at b
  exact h _ b
/-- What l1Find answers of a word of ops. -/
def FindP (word : List UInt8) (n : Int) : Prop := (n = -1 ∧ ∀ j, j < 25 → tabs0.getD j [] ≠ word) ∨ ∃ k : Nat, k < 25 ∧ n = (k : Int) ∧ tabs0.getD k [] = word
theorem tab_word : ∀ i, i < 24 → codeTab.getD i [] ≠ [] := by decide
theorem find_tag {word : List UInt8} {n t : Int} (h : FindP word n) (ht : 1 ≤ t ∧ t ≤ 24) (hw : word = codeB t) : n = t := by
  have hx : tabs0.getD t.toNat [] = codeB t := by
    obtain ⟨m, hm⟩ : ∃ m, t.toNat = m + 1 := ⟨t.toNat - 1, by omega⟩
    unfold codeB
    rw [hm]
    rfl
  rcases h with ⟨_, h⟩ | ⟨k, hk, rfl, h⟩
  · exact absurd (hx.trans hw.symm) (h t.toNat (by omega))
  · cases k with
    | zero =>
      have : ([] : List UInt8) = codeB t := by rw [← hw, ← h]; rfl
      exact absurd this.symm (tab_word _ (by omega))
    | succ m =>
      have h' : codeTab.getD m [] = codeTab.getD (t.toNat - 1) [] := by
        rw [hw] at h
        exact h
      have := tab_inj m (by omega) (t.toNat - 1) (by omega) h'
      omega
theorem find_word {word : List UInt8} {n : Int} (h : FindP word n) (h1 : 1 ≤ n) : n ≤ 24 ∧ word = codeB n := by
  rcases h with ⟨h, _⟩ | ⟨k, hk, rfl, h⟩
  · omega
  · obtain ⟨m, rfl⟩ : ∃ m, k = m + 1 := ⟨k - 1, by omega⟩
    refine ⟨by omega, ?_⟩
    rw [← h]
    unfold codeB
    rw [show (((m + 1 : Nat) : Int)).toNat - 1 = m by omega]
    rfl
theorem find_bd {word : List UInt8} {n : Int} (h : FindP word n) : -1 ≤ n ∧ n ≤ 24 := by
  rcases h with ⟨h, _⟩ | ⟨k, hk, rfl, h⟩ <;> omega
section
variable {line : List UInt8} {C : List (List UInt8)} {n : Int}
theorem rd_tag (hC : cutG 32 2 line = C) (h0 : 0 < C.length) (hF : FindP C[0] n) {op : Wd} (h : Reads line op) : n = op.tag := by
  refine find_tag hF h.kind ?_
  rcases h.cut with ⟨_, h, _⟩ | ⟨_, d, h, _⟩
  · have : C = [codeB op.tag] := hC.symm.trans h
    subst this
    rfl
  · have : C = [codeB op.tag, d] := hC.symm.trans h
    subst this
    rfl
theorem rd_len (hC : cutG 32 2 line = C) {op : Wd} (h : Reads line op) : (hasM op.tag = false ∧ C.length = 1) ∨ (hasM op.tag = true ∧ C.length = 2) := by
  rcases h.cut with ⟨a, h, _⟩ | ⟨a, d, h, _⟩
  · exact Or.inl ⟨a, by rw [← hC, h]; rfl⟩
  · exact Or.inr ⟨a, by rw [← hC, h]; rfl⟩
theorem rd_make1 (hC : cutG 32 2 line = C) (h0 : 0 < C.length) (hF : FindP C[0] n) (h1 : 1 ≤ n) (hl : C.length = 1) (hm : hasM n = false) : Reads line ⟨n, 0⟩ := by
  obtain ⟨h2, h3⟩ := find_word hF h1
  refine ⟨⟨h1, h2⟩, Or.inl ⟨hm, ?_, rfl⟩⟩
  rw [hC]
  clear hF hC
  match C, h0, hl, h3 with
  | [a], _, _, h3 => exact congrArg (fun x => [x]) h3
theorem rd_make2 (hC : cutG 32 2 line = C) (h0 : 0 < C.length) (hF : FindP C[0] n) (h1 : 1 ≤ n) (hl : C.length = 2) (hm : hasM n = true) : Reads line ⟨n, numM (C[1]'(by omega))⟩ := by
  obtain ⟨h2, h3⟩ := find_word hF h1
  refine ⟨⟨h1, h2⟩, Or.inr ⟨hm, C[1]'(by omega), ?_, rfl⟩⟩
  rw [hC]
  clear hF hC
  match C, h0, hl, h3 with
  | [a, b], _, _, h3 => exact congrArg (fun x => [x, b]) h3
end
theorem row_strs {w : World} {B : Nat} {v : Value} {C : List (List UInt8)} (h : w.ownsRow B 9 1 v C.length (strsV C)) (h0 : 0 < C.length) : ∃ g cap, v = .slice (some ⟨g, 0, none⟩) C.length cap ∧ B ≤ g ∧ g < w.heap.size ∧ ∀ j (hj : j < C.length), w.cell? ⟨g, j, none⟩ = some (.string (bx C[j])) := by
  have h2 := h
  obtain ⟨_, ⟨_, hn⟩ | ⟨g, cap, cur, rfl, hg, hh, _⟩⟩ := h2
  · omega
  · refine ⟨g, cap, rfl, hg, (Array.getElem?_eq_some_iff.1 hh).1, fun j hj => ?_⟩
    have := (ow_cell h j (by rw [strsV_length]; exact hj)).1
    rw [this]
    simp [strsV]
theorem line_short {l : List UInt8} {k : Nat} (hk : k < (linesS l).length) : ((linesS l)[k]).length ≤ l.length := by
  have := cutG_each 10 l.length (l.take (l.length - 1)) (linesS l)[k] (List.getElem_mem hk)
  rw [List.length_take] at this
  omega
theorem lines_len (l : List UInt8) : (linesS l).length ≤ l.length + 1 := by
  have := (cutG_len 10 l.length (l.take (l.length - 1))).2.1
  exact this
end Go.Proofs.YtaagnifagahgfaaDoor

