/-
  append of texts onto texts of the call's own, as one step of a region that draws its order.
-/
import Derived.Test.YtmjbfenjalmnlaaDoorNkClone
import Derived.Deep.RegionLawGrows
namespace Go.Proofs.YtmjbfenjalmnlaaDoor
open Go.RowKit

theorem run_append_none (ty : TypeId) (v : Value) (w : World) (hv : (∃ ad n cap, v = .slice (some ad) n cap ∧ n ≤ cap) ∨ v = .slice none 0 0) :
    (Builtin.append_ #[38, 38] ty #[v, .slice none 0 0]).run Tryd.prog w = .ok v w := by
  obtain ⟨i0, hi, hz0, hz1, hz2⟩ := strInfo'
  rcases hv with ⟨ad, n, cap, rfl, hn⟩ | rfl
  · simp [Builtin.append_, run_underlying Tryd.underlying38, sizeOf, typeInfo, hi, Builtin.lenOf, Builtin.firstCells, loadCells, hn, storeCells]
  · simp [Builtin.append_, run_underlying Tryd.underlying38, sizeOf, typeInfo, hi, Builtin.lenOf, Builtin.firstCells]
theorem run_append_empty (ty : TypeId) (ad ad2 : Addr) (c : Nat) (w : World) :
    (Builtin.append_ #[38, 38] ty #[.slice (some ad) 0 0, .slice (some ad2) 0 c]).run Tryd.prog w = .ok (.slice (some ad) 0 0) w := by
  obtain ⟨i0, hi, hz0, hz1, hz2⟩ := strInfo'
  simp [Builtin.append_, run_underlying Tryd.underlying38, sizeOf, typeInfo, hi, Builtin.lenOf, Builtin.firstCells, loadCells, loadCellsFrom, storeCells]

theorem own_append {w : World} {B : Nat} {l m : List ByteArray} {v : Value} (h : w.ownsRow B 9 1 v (l.length + m.length) (l.map .string ++ m.map .string)) : App w B (l ++ m) v :=
  Or.inl (by simpa using h)

theorem run_append_app (ty : TypeId) (w : World) (B : Nat) (l m : List ByteArray) (v y : Value) (hv : App w B l v) (hy : Env w m y) (hl : l.length ≤ 1000) (hm : m.length ≤ 1000) (hB : B ≤ w.heap.size) :
    ∃ v' w', (Builtin.append_ #[38, 38] ty #[v, y]).run Tryd.prog w = .ok v' w' ∧ App w' B (l ++ m) v' ∧ Below B w w' := by
  obtain ⟨i0, hi, hz0, hz1, hz2⟩ := strInfo'
  rcases App.cases hy with ⟨rfl, rfl⟩ | ⟨ad2, c, rfl, hc⟩
  · refine ⟨v, w, run_append_none ty v w ?_, by simpa using hv, Below.refl _ _⟩
    rcases hv with h | ⟨ad, rfl, _⟩
    · obtain ⟨_, ⟨rfl, _⟩ | ⟨g, cap, cur, rfl, _, _, hn, _⟩⟩ := h
      · exact Or.inr rfl
      · exact Or.inl ⟨_, _, _, rfl, hn⟩
    · exact Or.inl ⟨_, _, _, rfl, Nat.le_refl _⟩
  · rcases hv with h | ⟨ad, rfl, rfl⟩
    · obtain ⟨v', w', hr, h2, h3, _⟩ := run_append_own (P := Tryd.prog) w B 38 ty 9 i0 (.string ⟨#[]⟩) 1 16 Tryd.underlying38 hi hz0 hz1 hz2 rfl (by decide) v l.length (l.map .string) h ad2 m.length c (m.map .string) (by simp) hc (strs_one m) (by unfold maxLen; omega) (by omega) hB
      exact ⟨v', w', hr, own_append h2, (Below.refl _ _).grown h3 hB (fun k hk => (h.lt k hk).1)⟩
    · cases m with
      | nil => exact ⟨_, w, run_append_empty ty ad ad2 c w, Or.inr ⟨ad, rfl, rfl⟩, Below.refl _ _⟩
      | cons s m =>
        obtain ⟨v', w', hr, h2, h3⟩ := run_append_arg_grows (P := Tryd.prog) w 38 ty 9 i0 (.string ⟨#[]⟩) 1 16 Tryd.underlying38 hi hz0 hz1 hz2 rfl (by decide) ad 0 0 [] rfl (fun j u hj => by simp at hj) ad2 (s :: m).length c ((s :: m).map .string) (by simp) hc (by simp) (by unfold maxLen; omega) (by omega)
        exact ⟨v', w', hr, App.base (own_append (l := []) (by simpa using h2)) hB, (Below.refl _ _).grown h3 hB (fun k hk => by cases hk)⟩

theorem step_append_app {ops : Array Oper} {o : Oper} {a : Act} {w : World} {K : Act → World → Prop} {Q : Exit → Act → World → Prop} {E : Prop}
    (hg : o.guard = none) (s x : Operand) (hop : o.op = Op.call { callee := Callee.builtin Builtin.append, args := #[s, x], argTypes := #[38, 38] })
    (B : Nat) (l m : List ByteArray) (v y : Value) (hs : a.eval s = v) (hx : a.eval x = y) (hv : App w B l v) (hy : Env w m y) (hl : l.length ≤ 1000) (hm : m.length ≤ 1000) (hB : B ≤ w.heap.size)
    (hK : ∀ v' w', App w' B (l ++ m) v' → Below B w w' → K (a.put o.dst v') w') :
    if Region.wanted o (yielded ops a.tmps) = true then Oper.wp Tryd.prog o a w K Q else E := by
  have hw : Region.wanted o (yielded ops a.tmps) = true := by simp [Region.wanted, hg]
  rw [if_pos hw]
  obtain ⟨v', w', hrun, r1, r2⟩ := run_append_app o.type w B l m v y hv hy hl hm hB
  unfold Oper.wp
  simp [execOp, hop, resolve, invoke, builtin, hs, hx, hrun, Result.andThen]
  exact hK v' w' r1 r2

theorem below_al {w w1 : World} {o : Obj} (h : Below w.heap.size w w1) : Below w.heap.size w (w1.alloc o) := h.alloc h.size o
theorem below_al0 (w : World) (o : Obj) : Below w.heap.size w (w.alloc o) := (Below.refl _ _).alloc (Nat.le_refl _) o
theorem below_pre {w1 w2 : World} {o : Obj} (h : Below (w1.alloc o).heap.size (w1.alloc o) w2) : Below w1.heap.size w1 w2 := (below_al0 w1 o).trans (h.mono (by simp))
theorem below_next {w w1 w2 : World} (h : Below w.heap.size w w1) (h2 : Below w1.heap.size w1 w2) : Below w.heap.size w w2 := h.trans (h2.mono h.size)
theorem below_nextB {w w1 w2 : World} {B : Nat} (h : Below w.heap.size w w1) (hB : w.heap.size ≤ B) (h2 : Below B w1 w2) : Below w.heap.size w w2 := h.trans (h2.mono hB)
theorem below_base {w w1 w2 : World} (h : Below w.heap.size w w1) (_ : Below w1.heap.size w1 w2) : w.heap.size ≤ w1.heap.size := h.size
theorem size_al (w : World) (o : Obj) : w.heap.size ≤ (w.alloc o).heap.size := by simp
end Go.Proofs.YtmjbfenjalmnlaaDoor
