/-
  What can be read as cells is a row of them.
-/
import Derived.Test.YtpocmljbfcenfaaCeData
import Derived.Test.YtpocmljbfcenfaaRwOpen
namespace Go.Proofs.Ytpocmljbfcenfaa
open Go.ChangeShapes Go.WideShapes Go.ChangeAt Go.RowKit

instance : Inhabited Ce := ⟨⟨0, 0, ⟨0, 0⟩, ⟨0, 0⟩⟩⟩
theorem ceInt : Try.prog.cellsOf 3 = 1 := by kernel_rfl
theorem ceWord : Try.prog.cellsOf 24 = 2 := by kernel_rfl
theorem ceCell : Try.prog.cellsOf 39 = 6 := by kernel_rfl

set_option maxRecDepth 100000 in
theorem open_word {H : Type} {enc : TypeId × Value → H} {w : World} {base : Nat} {sp : Nat → Bool} {held : Bool} (fuel : Nat) (cs : List Value) (x : DataW H × List MemPlace)
    (h : DataW.trod enc Try.prog w base sp held fuel 24 cs = some x) : ∃ d : Wd, cs = d.cells := by
  obtain ⟨xs, n, rfl, _, hlen, hxs, hat⟩ := DataW.trod_struct Try.underlying24 h
  rw [ceWord] at hlen
  have h0 := hat 0 _ rfl
  have h1 := hat 1 _ rfl
  have hxs' : xs.length = 2 := hxs
  rw [List.getElem?_eq_getElem (by omega)] at h0 h1
  obtain ⟨t, e0, _, _⟩ := DataW.trod_int Try.underlying3 h0
  obtain ⟨u, e1, _, _⟩ := DataW.trod_int Try.underlying3 h1
  have e0 : (cs.drop 0).take (Try.prog.cellsOf 3) = [.int .i64 t] := e0
  have e1 : (cs.drop 1).take (Try.prog.cellsOf 3) = [.int .i64 u] := e1
  rw [ceInt] at e0 e1
  match cs, hlen, e0, e1 with
  | [x0, x1], _, e0, e1 =>
    simp at e0 e1
    subst e0 e1
    exact ⟨⟨t, u⟩, rfl⟩

set_option maxRecDepth 100000 in
theorem open_cell {H : Type} {enc : TypeId × Value → H} {w : World} {base : Nat} {sp : Nat → Bool} {held : Bool} (fuel : Nat) (cs : List Value) (x : DataW H × List MemPlace)
    (h : DataW.trod enc Try.prog w base sp held fuel 39 cs = some x) : ∃ c : Ce, cs = c.cells := by
  obtain ⟨xs, n, rfl, _, hlen, hxs, hat⟩ := DataW.trod_struct Try.underlying39 h
  rw [ceCell] at hlen
  have h0 := hat 0 _ rfl
  have h1 := hat 1 _ rfl
  have h2 := hat 2 _ rfl
  have h3 := hat 3 _ rfl
  have hxs' : xs.length = 4 := hxs
  rw [List.getElem?_eq_getElem (by omega)] at h0 h1 h2 h3
  obtain ⟨k, e0, _, _⟩ := DataW.trod_int Try.underlying3 h0
  obtain ⟨u, e1, _, _⟩ := DataW.trod_int Try.underlying3 h1
  obtain ⟨a, e2⟩ := open_word _ _ _ h2
  obtain ⟨b, e3⟩ := open_word _ _ _ h3
  have e0 : (cs.drop 0).take (Try.prog.cellsOf 3) = [.int .i64 k] := e0
  have e1 : (cs.drop 1).take (Try.prog.cellsOf 3) = [.int .i64 u] := e1
  have e2 : (cs.drop 2).take (Try.prog.cellsOf 24) = a.cells := e2
  have e3 : (cs.drop 4).take (Try.prog.cellsOf 24) = b.cells := e3
  rw [ceInt] at e0 e1
  rw [ceWord] at e2 e3
  match cs, hlen, e0, e1, e2, e3 with
  | [x0, x1, x2, x3, x4, x5], _, e0, e1, e2, e3 =>
    simp [Wd.cells] at e0 e1 e2 e3
    obtain ⟨e2, e2'⟩ := e2
    obtain ⟨e3, e3'⟩ := e3
    subst e0 e1 e2 e2' e3 e3'
    exact ⟨⟨k, u, a, b⟩, rfl⟩

theorem open_cells {H : Type} {enc : TypeId × Value → H} {W : World} {base b0 : Nat} {sp : Nat → Bool} {held : Bool} {v : Value} {d : DataW H} {p : List MemPlace} (hok : Value.okWide Try.prog W .any b0 22 v) (h : DataW.Trod enc Try.prog W base sp held 22 v d p) :
    ∃ cs : List Ce, Cells W (· < W.heap.size) cs v ∧ cs.length ≤ maxLen := by
  obtain ⟨fuel, hf⟩ := h
  obtain ⟨a, len, cap, rfl⟩ := okWide_slice Try.underlying22 hok
  obtain ⟨l, s, hs, hr, hl⟩ := open_row (f := Ce.cells) Try.underlying22 ceCell (by omega) (fun x => ⟨x.kind, _, rfl⟩) open_cell hf
  have hs' : [Value.slice a len cap] = [s] := hs
  obtain rfl : Value.slice a len cap = s := by simpa using hs'
  exact ⟨l, hr, hl⟩
end Go.Proofs.Ytpocmljbfcenfaa
