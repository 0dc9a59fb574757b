/-
  Marks in memory: putting a place in; the place of the lowest bit (the library's bits.TrailingZeros64, by the shelf).
-/
import Derived.Test.YthcifgpkiclkiaaDoorBtMath
import Derived.Test.YthcifgpkiclkiaaDoorRows
import Derived.Test.YthcifgpkiclkiaaDoorOwRow
import Derived.WalkKit
import Derived.Shelf.Spec.TrailingZeros
import Derived.Shelf.Lay
import Derived.Ground.Names7Prog
import Derived.Lib.LaidTab
import Derived.Lib.AppendIntMem
import Derived.Lib.Builder
import Derived.RegionTactic
import Derived.ChangeAlike
import Derived.Laws.Bits64
import Derived.Laws.Bits64b
namespace Go.Proofs.YthcifgpkiclkiaaDoor
open Go.RowKit Go.Shelf

shelf_lay Lays7.n29 Nm7 29 at Tryd as lays29

/-- The library's table is as it is laid. -/
abbrev BitTab (w : World) : Prop := Lib.TabIs Tryd.prog w "math/bits.deBruijn64tab" .u8 (Lib.deBruijn64tab.map fun (n : Nat) => (n : Int))
/-- Marks lie in a block. -/
def mkBox (m : Mks) : Obj := .cells #[.int .u64 m.a, .int .u64 m.b, .int .u64 m.c, .int .u64 m.d] 38
def MkAt (w : World) (g : Nat) (m : Mks) : Prop := w.heap[g]? = some (mkBox m)
theorem MkAt.cell {w : World} {g : Nat} {m : Mks} (h : MkAt w g m) {i : Nat} (hi : i < 4) : w.cell? ⟨g, i, none⟩ = some (.int .u64 (m.get i)) := by
  match i, hi with
  | 0, _ => exact cell_of_row _ _ 0 _ _ _ h
  | 1, _ => exact cell_of_row _ _ 1 _ _ _ h
  | 2, _ => exact cell_of_row _ _ 2 _ _ _ h
  | 3, _ => exact cell_of_row _ _ 3 _ _ _ h
theorem MkAt.lt {w : World} {g : Nat} {m : Mks} (h : MkAt w g m) : g < w.heap.size := (Array.getElem?_eq_some_iff.1 h).1
theorem MkAt.keep {w w' : World} {g : Nat} {m : Mks} (h : MkAt w g m) (hb : Below w.heap.size w w') : MkAt w' g m := (hb.block g h.lt).trans h
theorem MkAt.frozen {w : World} {g : Nat} {m : Mks} (h : MkAt w g m) (i : Nat) : w.frozen? ⟨g, i, none⟩ = false := Lib.frozen_of_heap h _

theorem MkAt.set {w : World} {g : Nat} {m : Mks} (h : MkAt w g m) {i : Nat} (hi : i < 4) (x : Nat) : MkAt (w.setCell ⟨g, i, none⟩ (.int .u64 x)) g (m.put i x) := by
  obtain ⟨hlt, hk⟩ := Array.getElem?_eq_some_iff.1 h
  show (w.heap.modify g _)[g]? = _
  rw [Array.getElem?_eq_getElem (by rw [Array.size_modify]; exact hlt), Array.getElem_modify_self, hk]
  match i, hi with
  | 0, _ => rfl
  | 1, _ => rfl
  | 2, _ => rfl
  | 3, _ => rfl
theorem MkAt.drew {w : World} {g : Nat} {m : Mks} (h : MkAt w g m) : MkAt w.drew g m := h
theorem bt_grown_drew {w w' : World} {b : Option Nat} (h : w.grownBy w' b) : w.grownBy w'.drew b := ⟨h.os, h.tape, h.output, h.size, h.block⟩
theorem bt_or (x p : Nat) (hx : x < 18446744073709551616) : bits .or .u64 (x : Int) (IntKind.u64.wrap (2 ^ (p % 64))) = ((x ||| 2 ^ (p % 64) : Nat) : Int) := by
  have h2 : (2 : Nat) ^ (p % 64) < 18446744073709551616 := Nat.pow_lt_pow_right (n := 64) (by decide) (by omega)
  have e0 : ((2 : Int) ^ (p % 64)) = ((2 ^ (p % 64) : Nat) : Int) := by simp
  rw [e0]
  generalize (2 : Nat) ^ (p % 64) = y at *
  have e : IntKind.u64.wrap (y : Int) = (y : Int) := by
    rw [IntKind.wrap_u64]
    omega
  rw [e]
  exact bits_or_u64_nat x _ hx h2

set_option maxRecDepth 100000 in
set_option maxHeartbeats 2000000 in
theorem impl_add (m : Mks) (hm : m.ok) (p : Nat) (hp : p < 256) (w : World) (g : Nat) (h : MkAt w g m) :
    Calls Tryd.prog 23 #[.pointer (some ⟨g, 0, none⟩), .int .i64 (p : Int)] w fun r w' => r = .returned (.tuple #[]) ∧ MkAt w' g (m.add p) ∧ w.grownBy w' (some g) := by
  have hc := h.cell (i := p / 64) (by omega)
  have hf := h.frozen (p / 64)
  go_enter Tryd.func23, Tryd.ntmps23
  go_wp2_with fail
  go_region
  refine bodyPost_end (v := .tuple #[]) (by simp [results, Tryd.results23, go_sem]) rfl ?_
  rw [bt_or _ _ (Mks.get_lt hm _)]
  exact ⟨rfl, (h.set (by omega) _).drew, bt_grown_drew (ow_but_set _ _ _ _)⟩

theorem tab_at {w : World} (h : BitTab w) : TabAt 0 Lib.deBruijn64tab w := fun j hj => by
  have := Lib.TabIs.cell h (g := 0) (by kernel_rfl) j (by simpa using hj)
  rw [this]
  simp [List.getD_eq_getElem?_getD, List.getElem?_eq_getElem hj]
theorem BitTab.keep {w w' : World} (h : BitTab w) (hb : Below w.heap.size w w') : BitTab w' := Lib.tabBelow_of_tabIs h w' hb
theorem impl_ctz (x : Nat) (hx : x < 18446744073709551616) (w : World) (hT : BitTab w) :
    Calls Tryd.prog 24 #[.int .u64 (x : Int)] w fun r w' => r = .returned (.int .i64 (Lib.ctz 64 x)) ∧ w' = w :=
  Any7.bits_TrailingZeros64 lays29 x hx w (fun _ => tab_at hT)
end Go.Proofs.YthcifgpkiclkiaaDoor
