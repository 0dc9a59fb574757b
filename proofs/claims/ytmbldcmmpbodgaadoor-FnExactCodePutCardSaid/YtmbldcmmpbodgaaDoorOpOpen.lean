/-
  What can be read as ops is a row of them.
-/
import Derived.Test.YtmbldcmmpbodgaaDoorOpRow
import Derived.Test.YtmbldcmmpbodgaaDoorRwOpen
namespace Go.Proofs.YtmbldcmmpbodgaaDoor
open Go.ChangeShapes Go.WideShapes Go.ChangeAt Go.RowKit

instance : Inhabited Wd := ⟨⟨0, 0⟩⟩
theorem opInt : Tryd.prog.cellsOf 3 = 1 := by kernel_rfl
theorem opCells : Tryd.prog.cellsOf 33 = 2 := by kernel_rfl

set_option maxRecDepth 100000 in
theorem open_op {H : Type} {enc : TypeId × Value → H} {w : World} {base : Nat} {sp : Nat → Bool} {held : Bool} (fuel : Nat) (cs : List Value) (x : DataW H × List MemPlace)
    (h : DataW.trod enc Tryd.prog w base sp held fuel 33 cs = some x) : ∃ d : Wd, cs = d.cells := by
  obtain ⟨xs, n, rfl, _, hlen, hxs, hat⟩ := DataW.trod_struct Tryd.underlying33 h
  rw [opCells] at hlen
  have h0 := hat 0 _ rfl
  have h1 := hat 1 _ rfl
  have hxs' : xs.length = 2 := hxs
  rw [List.getElem?_eq_getElem (by omega)] at h0 h1
  obtain ⟨t, e0, _, _⟩ := DataW.trod_int Tryd.underlying3 h0
  obtain ⟨u, e1, _, _⟩ := DataW.trod_int Tryd.underlying3 h1
  have e0 : (cs.drop 0).take (Tryd.prog.cellsOf 3) = [.int .i64 t] := e0
  have e1 : (cs.drop 1).take (Tryd.prog.cellsOf 3) = [.int .i64 u] := e1
  rw [opInt] at e0 e1
  match cs, hlen, e0, e1 with
  | [x0, x1], _, e0, e1 =>
    simp at e0 e1
    subst e0 e1
    exact ⟨⟨t, u⟩, rfl⟩

set_option maxRecDepth 100000 in
theorem open_ops {H : Type} {enc : TypeId × Value → H} {W : World} {base b0 : Nat} {sp : Nat → Bool} {held : Bool} {v : Value} {d : DataW H} {p : List MemPlace} (hok : Value.okWide Tryd.prog W .any b0 22 v) (h : DataW.Trod enc Tryd.prog W base sp held 22 v d p) :
    ∃ ops : List Wd, Words W (· < W.heap.size) ops v ∧ ops.length ≤ maxLen := by
  obtain ⟨fuel, hf⟩ := h
  obtain ⟨a, len, cap, rfl⟩ := okWide_slice Tryd.underlying22 hok
  obtain ⟨l, s, hs, hr, hl⟩ := open_row (f := Wd.cells) Tryd.underlying22 opCells (by omega) (fun x => ⟨x.tag, _, rfl⟩) open_op hf
  have hs' : [Value.slice a len cap] = [s] := hs
  obtain rfl : Value.slice a len cap = s := by simpa using hs'
  exact ⟨l, hr, hl⟩
end Go.Proofs.YtmbldcmmpbodgaaDoor
