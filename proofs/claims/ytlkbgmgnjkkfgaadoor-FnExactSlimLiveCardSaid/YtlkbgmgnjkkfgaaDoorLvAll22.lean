/-
  Marks in memory: putting a place in; the place of the lowest bit (the library's bits.TrailingZeros64, by the shelf).
  Marks in memory: all places, ascending.
-/
import Derived.Test.YtlkbgmgnjkkfgaaDoorBtMath
import Derived.Test.YtlkbgmgnjkkfgaaDoorRows
import Derived.Test.YtlkbgmgnjkkfgaaDoorLvAll3
import Derived.WalkKit
import Derived.Shelf.Spec.TrailingZeros
import Derived.Shelf.Lay
import Derived.Ground.Names7Prog
import Derived.Lib.LaidTab
import Derived.Lib.AppendIntMem
import Derived.Lib.Builder
import Derived.RegionTactic
import Derived.ChangeAlike
import Derived.Laws.Bits64
import Derived.Laws.Bits64b
import Derived.WalkSpells
import Derived.WalkLawsBesides
import Derived.RowKit3
import Derived.OwnWalk
import Derived.Deep.QuietTactic
import Derived.BigQuiet
import Derived.Deep.RegionHeld3
import Derived.Deep.Cut
namespace Go.Proofs.YtlkbgmgnjkkfgaaDoor
open Go.RowKit Go.Shelf

shelf_lay Lays7.n29 Nm7 29 at Tryd as lays29

/-- The library's table is as it is laid. -/
abbrev BitTab (w : World) : Prop := Lib.TabIs Tryd.prog w "math/bits.deBruijn64tab" .u8 (Lib.deBruijn64tab.map fun (n : Nat) => (n : Int))
/-- Marks lie in a block. -/
def mkBox (m : Mks) : Obj := .cells #[.int .u64 m.a, .int .u64 m.b, .int .u64 m.c, .int .u64 m.d] 42
def MkAt (w : World) (g : Nat) (m : Mks) : Prop := w.heap[g]? = some (mkBox m)
theorem MkAt.cell {w : World} {g : Nat} {m : Mks} (h : MkAt w g m) {i : Nat} (hi : i < 4) : w.cell? ⟨g, i, none⟩ = some (.int .u64 (m.get i)) := by
  match i, hi with
  | 0, _ => exact cell_of_row _ _ 0 _ _ _ h
  | 1, _ => exact cell_of_row _ _ 1 _ _ _ h
  | 2, _ => exact cell_of_row _ _ 2 _ _ _ h
  | 3, _ => exact cell_of_row _ _ 3 _ _ _ h
theorem MkAt.lt {w : World} {g : Nat} {m : Mks} (h : MkAt w g m) : g < w.heap.size := (Array.getElem?_eq_some_iff.1 h).1
theorem MkAt.keep {w w' : World} {g : Nat} {m : Mks} (h : MkAt w g m) (hb : Below w.heap.size w w') : MkAt w' g m := (hb.block g h.lt).trans h
theorem MkAt.frozen {w : World} {g : Nat} {m : Mks} (h : MkAt w g m) (i : Nat) : w.frozen? ⟨g, i, none⟩ = false := Lib.frozen_of_heap h _

theorem MkAt.set {w : World} {g : Nat} {m : Mks} (h : MkAt w g m) {i : Nat} (hi : i < 4) (x : Nat) : MkAt (w.setCell ⟨g, i, none⟩ (.int .u64 x)) g (m.put i x) := by
  obtain ⟨hlt, hk⟩ := Array.getElem?_eq_some_iff.1 h
  show (w.heap.modify g _)[g]? = _
  rw [Array.getElem?_eq_getElem (by rw [Array.size_modify]; exact hlt), Array.getElem_modify_self, hk]
  match i, hi with
  | 0, _ => rfl
  | 1, _ => rfl
  | 2, _ => rfl
  | 3, _ => rfl
theorem MkAt.drew {w : World} {g : Nat} {m : Mks} (h : MkAt w g m) : MkAt w.drew g m := h
theorem bt_grown_drew {w w' : World} {b : Option Nat} (h : w.grownBy w' b) : w.grownBy w'.drew b := ⟨h.os, h.tape, h.output, h.size, h.block⟩
theorem bt_or (x p : Nat) (hx : x < 18446744073709551616) : bits .or .u64 (x : Int) (IntKind.u64.wrap (2 ^ (p % 64))) = ((x ||| 2 ^ (p % 64) : Nat) : Int) := by
  have h2 : (2 : Nat) ^ (p % 64) < 18446744073709551616 := Nat.pow_lt_pow_right (n := 64) (by decide) (by omega)
  have e0 : ((2 : Int) ^ (p % 64)) = ((2 ^ (p % 64) : Nat) : Int) := by simp
  rw [e0]
  generalize (2 : Nat) ^ (p % 64) = y at *
  have e : IntKind.u64.wrap (y : Int) = (y : Int) := by
    rw [IntKind.wrap_u64]
    omega
  rw [e]
  exact bits_or_u64_nat x _ hx h2

set_option maxRecDepth 100000 in
set_option maxHeartbeats 2000000 in
theorem impl_add (m : Mks) (hm : m.ok) (p : Nat) (hp : p < 256) (w : World) (g : Nat) (h : MkAt w g m) :
    Calls Tryd.prog 26 #[.pointer (some ⟨g, 0, none⟩), .int .i64 (p : Int)] w fun r w' => r = .returned (.tuple #[]) ∧ MkAt w' g (m.add p) ∧ w.grownBy w' (some g) := by
  have hc := h.cell (i := p / 64) (by omega)
  have hf := h.frozen (p / 64)
  go_enter Tryd.func26, Tryd.ntmps26
  go_wp2_with fail
  go_region
  refine bodyPost_end (v := .tuple #[]) (by simp [results, Tryd.results26, go_sem]) rfl ?_
  rw [bt_or _ _ (Mks.get_lt hm _)]
  exact ⟨rfl, (h.set (by omega) _).drew, bt_grown_drew (ow_but_set _ _ _ _)⟩

theorem tab_at {w : World} (h : BitTab w) : TabAt 0 Lib.deBruijn64tab w := fun j hj => by
  have := Lib.TabIs.cell h (g := 0) (by kernel_rfl) j (by simpa using hj)
  rw [this]
  simp [List.getD_eq_getElem?_getD, List.getElem?_eq_getElem hj]
theorem BitTab.keep {w w' : World} (h : BitTab w) (hb : Below w.heap.size w w') : BitTab w' := Lib.tabBelow_of_tabIs h w' hb
theorem impl_ctz (x : Nat) (hx : x < 18446744073709551616) (w : World) (hT : BitTab w) :
    Calls Tryd.prog 28 #[.int .u64 (x : Int)] w fun r w' => r = .returned (.int .i64 (Lib.ctz 64 x)) ∧ w' = w :=
  Any7.bits_TrailingZeros64 lays29 x hx w (fun _ => tab_at hT)
end Go.Proofs.YtlkbgmgnjkkfgaaDoor

namespace Go.Proofs.YtlkbgmgnjkkfgaaDoor
open Go.RowKit

theorem btInfo : (Tryd.prog.info? 3).map (fun i => (i.zero, i.size, i.bytes)) = some (some (.int .i64 0), 1, 8) := by kernel_rfl
def btV (l : List Nat) : List Value := l.map fun (n : Nat) => .int .i64 (n : Int)
theorem btV_length (l : List Nat) : (btV l).length = l.length := by simp [btV]
/-- How a function ends that answers places. -/
def PlacesR (w w' : World) (l : List Nat) (r : Ending) : Prop := ∃ v, r = .returned v ∧ w'.ownsRow w.heap.size 3 1 v l.length (btV l) ∧ Below w.heap.size w w'
theorem bt_snoc {w : World} {B k n : Nat} {l : List Nat} {v : Value} (hn : l.length + 1 = n) (h : w.ownsRow B 3 1 v n (btV l ++ [.int .i64 (k : Int)])) : w.ownsRow B 3 1 v (l ++ [k]).length (btV (l ++ [k])) := by
  rw [List.length_append, show l.length + [k].length = n from hn]
  simpa [btV] using h
theorem bt_wr (n : Int) (h0 : -1000000 ≤ n) (h1 : n ≤ 1000000) : IntKind.i64.wrap n = n := by
  simp [IntKind.wrap, IntKind.bits, IntKind.signed]
  omega
theorem bt_and (x : Nat) (hx : x < 18446744073709551616) (h0 : x ≠ 0) : bits .and .u64 (x : Int) ((x : Int) - 1) = ((x &&& (x - 1) : Nat) : Int) := by
  rw [show (x : Int) - 1 = ((x - 1 : Nat) : Int) by omega]
  exact bits_and_u64_nat x _ hx (by omega)

set_option maxRecDepth 100000 in
set_option maxHeartbeats 2000000 in
theorem impl_places (m : Mks) (hm : m.ok) (w : World) (g : Nat) (h : MkAt w g m) (hT : BitTab w) :
    Calls Tryd.prog 18 #[.pointer (some ⟨g, 0, none⟩)] w fun r w' => PlacesR w w' m.places r := by
  obtain ⟨i1, hi1, hiz1, his1, hib1⟩ := info_parts btInfo
  go_enter Tryd.func18, Tryd.ntmps18
  go_wp2_with fail
  go_loopg [3, 7] 4 (fun k v i wr => ∃ j : Nat, j + k = 4 ∧ i = .int .i64 j ∧ wr.ownsRow w.heap.size 3 1 v (m.upto j).length (btV (m.upto j)) ∧ Below w.heap.size w wr)
  case atStart => exact ⟨0, by omega, rfl, World.ownsRow_nil _ _ _ _, Below.refl _ _⟩
  case round =>
    obtain ⟨j, hj, rfl, hO, hB⟩ := hrel
    have hz := hB.size
    have hlen := m.upto_len j
    by_cases hlt : j < 4
    · have hji : (j : Int) < 4 := by omega
      have hcell := (h.keep hB).cell hlt
      have hxl := Mks.get_lt hm j
      have hsucc := m.upto_succ j
      generalize hx0 : m.get j = x0 at *
      go_wp2_with fail
      go_region
      have hO1 : wr.drew.ownsRow w.heap.size 3 1 u3 (m.upto j).length (btV (m.upto j)) := ow_keep hO (Below.refl _ _).drew
      have hB1 : Below w.heap.size w wr.drew := hB.drew
      generalize wr.drew = w1 at *
      have hcell0 := hcell
      clear hcell hO hB
      go_wp2_with fail
      go_loopg [3, 5] x0 (fun k v i wq => ∃ pre : List Nat, i = .int .u64 (k : Int) ∧ k < 18446744073709551616 ∧ pre ++ bitsN 64 k = bitsN 64 x0 ∧ wq.ownsRow w.heap.size 3 1 v (m.upto j ++ pre.map fun b => j * 64 + b).length (btV (m.upto j ++ pre.map fun b => j * 64 + b)) ∧ Below w.heap.size w wq)
      case atStart => exact ⟨[], rfl, hxl, by simp, by simpa using hO1, hB1⟩
      case round =>
        rename World => wq
        obtain ⟨pre, rfl, hk, hpre, hO, hB⟩ := hrel
        have hz2 := hB.size
        by_cases h0 : gk = 0
        · subst h0
          have e : pre = bitsN 64 x0 := by simpa [bitsN_zero] using hpre
          subst e
          rw [← hsucc] at hO
          clear hpre hsucc
          go_wp2_with fail
          go_roundg (4 - (j + 1))
          case measure => omega
          case rel => exact ⟨j + 1, by omega, by go_num, hO, hB⟩
        · have hk0 : ((gk : Int) != 0) = true := by
            rw [bne_iff_ne]
            omega
          have hnx := bitsN_next h0 hk
          have hcl := (Lib.lowest_bit 64 gk h0 (by simpa using hk)).2
          have hlow := and_lt gk h0
          have hA : Hid (bits .and .u64 (gk : Int) ((gk : Int) - 1) = ((gk &&& (gk - 1) : Nat) : Int)) := bt_and gk hk h0
          rw [hnx] at hpre
          have hct := fun w' hT' => impl_ctz gk hk w' hT'
          generalize Lib.ctz 64 gk = c at *
          have w1' : IntKind.i64.wrap ((j : Int) * 64) = (j : Int) * 64 := bt_wr _ (by omega) (by omega)
          have w2' : IntKind.i64.wrap ((j : Int) * 64 + (c : Int)) = (j : Int) * 64 + (c : Int) := bt_wr _ (by omega) (by omega)
          have hV : Hid (((j * 64 + c : Nat) : Int) = (j : Int) * 64 + (c : Int)) := by show _ = _; simp
          have hpl : pre.length ≤ 64 := by
            have := congrArg List.length hpre
            have h3 := bitsN_len 64 x0
            simp at this
            omega
          have hll : (m.upto j ++ pre.map fun b => j * 64 + b).length ≤ 1000 := by
            rw [List.length_append, List.length_map]
            omega
          have hE : Hid (m.upto j ++ (pre ++ [c]).map (fun b => j * 64 + b) = (m.upto j ++ pre.map fun b => j * 64 + b) ++ [j * 64 + c]) := by show _ = _; simp
          have hP : Hid ((pre ++ [c]) ++ bitsN 64 (gk &&& (gk - 1)) = bitsN 64 x0) := by show _ = _; rw [← hpre]; simp
          clear hpre hnx hsucc hO1 hB1
          generalize (m.upto j ++ pre.map fun b => j * 64 + b) = L at *
          have hTq := hT.keep hB
          go_wp2_with (first
            | (go_at_call 28; refine (hct _ hTq).mono ?_; rintro r w5 ⟨rfl, hw5⟩; have hw6 := hw5.symm; clear hw5; subst hw6)
            | (at_builtin; refine wpList_append_own _ rfl _ _ 24 rfl w.heap.size 3 i1 (.int .i64 0) 1 8 Tryd.underlying24 hi1 hiz1 his1 hib1 rfl (by decide) _ _ _ rfl (hO.alloc _) ⟨wq.heap.size, 0, none⟩ 1 1 [.int .i64 ((j : Int) * 64 + (c : Int))] rfl rfl (ow_cells_new wq _ _) (fun u hu => by simp at hu; subst hu; rfl) (by unfold maxLen; omega) (by omega) (by simp; omega) ?_; intro v8 w8 hO8 hG8 _))
          go_roundg (gk &&& (gk - 1))
          case measure => exact hlow
          case rel => exact ⟨pre ++ [c], by rw [hA.out], by omega, hP.out, by rw [hE.out]; exact bt_snoc rfl (by rw [hV.out]; exact hO8), (hB.alloc hz2 _).grown hG8 (by simp; omega) (fun k hk => (hO.lt k hk).1)⟩
    · obtain rfl : j = 4 := by omega
      go_wp2_with fail
      go_ret
      exact ⟨_, rfl, hO, hB⟩
end Go.Proofs.YtlkbgmgnjkkfgaaDoor

