/-
  What can be read as an answer is three rows, of numbers of 64 bits.
-/
import Derived.Test.YtnmmhicgodfpcaaDoorAnMath
import Derived.Test.YtnmmhicgodfpcaaDoorRwOpen
namespace Go.Proofs.YtnmmhicgodfpcaaDoor
open Go.ChangeShapes Go.WideShapes Go.ChangeAt Go.RowKit

theorem anInt : Tryd.prog.cellsOf 3 = 1 := by kernel_rfl
theorem anTold : Tryd.prog.cellsOf 53 = 2 := by kernel_rfl
theorem anTolds : Tryd.prog.cellsOf 22 = 1 := by kernel_rfl
theorem anInts : Tryd.prog.cellsOf 23 = 1 := by kernel_rfl
theorem anAns : Tryd.prog.cellsOf 25 = 3 := by kernel_rfl
theorem wf64 {n : Int} (h : (Lit.int .i64 n).wf = true) : In64 n := by
  unfold Lit.wf at h
  rw [Bool.and_eq_true] at h
  have h1 : IntKind.min .i64 ≤ n := of_decide_eq_true h.1
  have h2 : n ≤ IntKind.max .i64 := of_decide_eq_true h.2
  have e1 : IntKind.min .i64 = -9223372036854775808 := by decide
  have e2 : IntKind.max .i64 = 9223372036854775807 := by decide
  rw [e1] at h1
  rw [e2] at h2
  exact ⟨h1, h2⟩
theorem row_map {α β : Type} {n : Nat} {f : β → List Value} {g : α → β} {w : World} {S : Nat → Prop} {l : List α} {v : Value} (h : RowOf n (fun x => f (g x)) w S l v) : RowOf n f w S (l.map g) v := by
  obtain ⟨a, cap, rfl, h⟩ := h
  refine ⟨a, cap, by simp, fun i x hi => ?_⟩
  rw [List.getElem?_map] at hi
  obtain ⟨y, hy, rfl⟩ := Option.map_eq_some_iff.1 hi
  exact h i y hy
/-- Two numbers of 64 bits; one. -/
abbrev Told64 := { x : Wd // In64 x.tag ∧ In64 x.num }
abbrev Int64s := { n : Int // In64 n }
instance : Inhabited Told64 := ⟨⟨⟨0, 0⟩, by decide, by decide⟩⟩
instance : Inhabited Int64s := ⟨⟨0, by decide⟩⟩
theorem open_told {H : Type} {enc : TypeId × Value → H} {w : World} {base : Nat} {sp : Nat → Bool} {held : Bool} (fuel : Nat) (cs : List Value) (x : DataW H × List MemPlace)
    (h : DataW.trod enc Tryd.prog w base sp held fuel 53 cs = some x) : ∃ d : Told64, cs = d.1.cells := by
  obtain ⟨xs, n, rfl, _, hlen, hxs, hat⟩ := DataW.trod_struct Tryd.underlying53 h
  rw [anTold] at hlen
  have h0 := hat 0 _ rfl
  have h1 := hat 1 _ rfl
  have hxs' : xs.length = 2 := hxs
  rw [List.getElem?_eq_getElem (by omega)] at h0 h1
  obtain ⟨t, e0, _, f0⟩ := DataW.trod_int Tryd.underlying3 h0
  obtain ⟨u, e1, _, f1⟩ := DataW.trod_int Tryd.underlying3 h1
  have e0 : (cs.drop 0).take (Tryd.prog.cellsOf 3) = [.int .i64 t] := e0
  have e1 : (cs.drop 1).take (Tryd.prog.cellsOf 3) = [.int .i64 u] := e1
  rw [anInt] at e0 e1
  match cs, hlen, e0, e1 with
  | [x0, x1], _, e0, e1 =>
    simp at e0 e1
    subst e0 e1
    exact ⟨⟨⟨t, u⟩, wf64 f0, wf64 f1⟩, rfl⟩
theorem open_num {H : Type} {enc : TypeId × Value → H} {w : World} {base : Nat} {sp : Nat → Bool} {held : Bool} (fuel : Nat) (cs : List Value) (x : DataW H × List MemPlace)
    (h : DataW.trod enc Tryd.prog w base sp held fuel 3 cs = some x) : ∃ d : Int64s, cs = Int.cells d.1 := by
  obtain ⟨t, rfl, _, f0⟩ := DataW.trod_int Tryd.underlying3 h
  exact ⟨⟨t, wf64 f0⟩, rfl⟩
theorem open_answer {H : Type} {enc : TypeId × Value → H} {W : World} {base b0 : Nat} {sp : Nat → Bool} {held : Bool} {v : Value} {d : DataW H} {p : List MemPlace} (hok : Value.okWide Tryd.prog W .any b0 25 v) (h : DataW.Trod enc Tryd.prog W base sp held 25 v d p) :
    ∃ (a : An) (s0 s1 s2 : Value), v = .agg #[s0, s1, s2] ∧ a.Ok ∧ AnAt W (· < W.heap.size) a s0 s1 s2 ∧ a.outs.length ≤ maxLen ∧ a.ends.length ≤ maxLen ∧ a.boxes.length ≤ maxLen := by
  unfold Value.okWide at hok
  rw [Tryd.underlying25] at hok
  obtain ⟨cs, rfl, hsz, _⟩ := hok
  obtain ⟨fuel, hf⟩ := h
  obtain ⟨xs, n, rfl, _, hlen, hxs, hat⟩ := DataW.trod_struct Tryd.underlying25 hf
  have h0 := hat 0 _ rfl
  have h1 := hat 1 _ rfl
  have h2 := hat 2 _ rfl
  have hxs' : xs.length = 3 := hxs
  rw [List.getElem?_eq_getElem (by omega)] at h0 h1 h2
  obtain ⟨l0, s0, e0, r0, m0⟩ := open_row (α := Told64) (f := fun x => Wd.cells x.1) Tryd.underlying22 anTold (by omega) (fun x => ⟨x.1.tag, _, rfl⟩) open_told h0
  obtain ⟨l1, s1, e1, r1, m1⟩ := open_row (α := Int64s) (f := fun x => Int.cells x.1) Tryd.underlying23 anInt (by omega) (fun x => ⟨x.1, _, rfl⟩) open_num h1
  obtain ⟨l2, s2, e2, r2, m2⟩ := open_row (α := Int64s) (f := fun x => Int.cells x.1) Tryd.underlying23 anInt (by omega) (fun x => ⟨x.1, _, rfl⟩) open_num h2
  have e0 : (cs.toList.drop 0).take (Tryd.prog.cellsOf 22) = [s0] := e0
  have e1 : (cs.toList.drop 1).take (Tryd.prog.cellsOf 23) = [s1] := e1
  have e2 : (cs.toList.drop 2).take (Tryd.prog.cellsOf 23) = [s2] := e2
  rw [anTolds] at e0
  rw [anInts] at e1 e2
  rw [anAns] at hsz
  refine ⟨⟨l0.map (·.1), l1.map (·.1), l2.map (·.1)⟩, s0, s1, s2, ?_, ⟨?_, ?_, ?_⟩, ⟨row_map r0, row_map r1, row_map r2⟩, by simpa using m0, by simpa using m1, by simpa using m2⟩
  · obtain ⟨cl⟩ := cs
    match cl, hsz, e0, e1, e2 with
    | [x0, x1, x2], _, e0, e1, e2 =>
      simp at e0 e1 e2
      subst e0 e1 e2
      rfl
  · intro x hx
    obtain ⟨y, _, rfl⟩ := List.mem_map.1 hx
    exact y.2
  · intro x hx
    obtain ⟨y, _, rfl⟩ := List.mem_map.1 hx
    exact y.2
  · intro x hx
    obtain ⟨y, _, rfl⟩ := List.mem_map.1 hx
    exact y.2
end Go.Proofs.YtnmmhicgodfpcaaDoor
