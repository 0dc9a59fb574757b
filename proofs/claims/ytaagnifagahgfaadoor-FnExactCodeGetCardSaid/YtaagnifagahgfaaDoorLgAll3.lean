/-
  strings.Lines: what it hands.
  Words and cells as plain data. No program is named here.
-/
import Derived.Test.YtaagnifagahgfaaDoorLgAll0
import Derived.Test.YtaagnifagahgfaaDoorLgAll2
import Derived.Shelf.Small.Strs
import Derived.Shelf.Lay
import Derived.Ground.NamesProg
import Derived.Test.YtaagnifagahgfaaDoorLgAll1
namespace Go.Proofs.YtaagnifagahgfaaDoor
open Go.RowKit Go.Shelf
attribute [local go_sem] Oper.semAt_some

shelf_lay Lays.n137 Nm 137 at Tryd as lays137
theorem index_byte (t : List UInt8) (w : World) : Calls Tryd.prog 28 #[.string (bx t), .int .u8 10] w fun e w' => e = .returned (.int .i64 (Lib.indexByte t 10)) ∧ w' = w := Any.strings_IndexByte lays137 (bx t) 10 w
theorem bx_extract (l : List UInt8) (a b : Nat) : (bx l).extract a b = bx ((l.drop a).take (b - a)) := by
  apply ByteArray.ext
  simp [bx, ByteArray.data_extract]
theorem bx_front (l : List UInt8) (a : Nat) : (bx l).extract 0 a = bx (l.take a) := by rw [bx_extract]; rfl
theorem bx_back (l : List UInt8) (a : Nat) : (bx l).extract a l.length = bx (l.drop a) := by
  rw [bx_extract, List.take_of_length_le (by rw [List.length_drop]; exact Nat.le_refl _)]
/-- How much text is left in a box. -/
def leftB (s : Nat) (w : World) : Nat := match w.cell? ⟨s, 0, none⟩ with
  | some (.string t) => t.size
  | _ => 0
abbrev TextIn (s : Nat) (l : List UInt8) (w : World) : Prop := w.heap[s]? = some (.cells #[.string (bx l)] 9)
theorem TextIn.cell {s : Nat} {l : List UInt8} {w : World} (h : TextIn s l w) : w.cell? ⟨s, 0, none⟩ = some (.string (bx l)) ∧ w.frozen? ⟨s, 0, none⟩ = false := by
  refine ⟨by rw [cell_of_row _ _ _ _ _ _ h]; rfl, ?_⟩
  unfold World.frozen?
  rw [h]
  simp
theorem TextIn.left {s : Nat} {l : List UInt8} {w : World} (h : TextIn s l w) : leftB s w = l.length := by
  unfold leftB
  rw [h.cell.1]
  exact bx_size l

theorem text_set {s : Nat} {l : List UInt8} {w : World} (h : TextIn s l w) (m : List UInt8) : TextIn s m (w.setCell ⟨s, 0, none⟩ (.string (bx m))) := by
  unfold TextIn World.setCell
  simp only [Array.getElem?_modify]
  rw [h]
  simp
set_option maxRecDepth 100000 in
set_option maxHeartbeats 2000000 in
theorem lines_hands (l0 : List UInt8) (hl0 : l0.length ≤ 1048576) (s n : Nat) (hn : 2 ≤ n) : Hands n Tryd.prog 27 #[.pointer (some ⟨s, 0, none⟩)] s (cntL l0) (fun k => #[.string (bx (lineL k l0))]) (TextIn s l0) := by
  intro l J W hsW hJ hY hSt h0
  refine callsIn_of_wp Tryd.func27 rfl trivial ?_
  simp only [Tryd.ntmps27, List.size_toArray, List.length_cons, List.length_nil, Nat.reduceAdd, Nat.reduceSub, Array.replicate_succ, Array.replicate_zero, List.push_toArray, List.append_toArray, List.nil_append, List.cons_append]
  gi_wp2
  gi_loopw [] (fun wr => ∃ k, k ≤ cntL l0 ∧ TextIn s (restL k l0) wr ∧ J k wr ∧ s < wr.heap.size) (fun wr => leftB s wr)
  case atStart => exact ⟨0, Nat.zero_le _, hSt, h0, hsW⟩
  case round =>
    obtain ⟨k, hk, hT, hJk, hs⟩ := hrel
    obtain ⟨c0, cf⟩ := hT.cell
    by_cases hr : restL k l0 = []
    · obtain rfl := lns_stop hk hr
      rw [hr] at c0
      have hz : bx ([] : List UInt8) = ⟨#[]⟩ := rfl
      rw [hz] at c0
      clear hY hJ
      gi_wp2
      go_end0
      exact ⟨⟨_, rfl⟩, hJk⟩
    · have hkl : k < cntL l0 := by
        apply Decidable.byContradiction
        intro hn
        have : k = cntL l0 := by omega
        exact hr (by rw [this]; exact lns_end l0)
      have hln := rest_len k l0
      obtain ⟨ci1, ci2⟩ := cut_index (restL k l0)
      have hge := index_ge (restL k l0)
      have hnx := rest_next k l0
      have hli : lineL k l0 = (cutLine (restL k l0)).1 := rfl
      have hIB := fun w => index_byte (restL k l0) w
      have hpos : 0 < (restL k l0).length := List.length_pos_iff.2 hr
      generalize hrr : restL k l0 = r at *
      have hz : (bx r).size = r.length := bx_size r
      have hgt : (0 : Int) < ((bx r).size : Int) := by omega
      generalize hidx : Lib.indexByte r 10 = idx at *
      by_cases hi : 0 ≤ idx
      · have ci1 := ci1 hi
        clear ci2
        have hi1 : IntKind.i64.wrap (idx + 1) = idx + 1 := by simp [IntKind.wrap, IntKind.bits, IntKind.signed]; omega
        have hi2 : 0 ≤ idx + 1 := by omega
        have hi3 : idx + 1 ≤ ((bx r).size : Int) := by omega
        have e1 : (bx r).extract 0 (idx + 1).toNat = bx (lineL k l0) := by rw [bx_front, hli, ci1, show (idx + 1).toNat = idx.toNat + 1 by omega]
        have e2 : (bx r).extract (idx + 1).toNat r.length = bx (restL (k + 1) l0) := by rw [bx_back, hnx, ci1, show (idx + 1).toNat = idx.toNat + 1 by omega]
        have hless := cut_less hr
        rw [← hnx] at hless
        have hT2 : TextIn s (restL (k + 1) l0) (wr.setCell ⟨s, 0, none⟩ (.string ((bx r).extract (idx + 1).toNat r.length))).drew := by
          rw [e2]
          show (wr.setCell _ _).heap[s]? = _
          exact text_set hT _
        have hgr : wr.grownBy (wr.setCell ⟨s, 0, none⟩ (.string ((bx r).extract (idx + 1).toNat r.length))).drew (some s) := (ow_but_set wr s 0 _).trans (ow_but_below (some s) ((Below.refl _ _).drew))
        obtain ⟨fn, tmps, assign, body, hy, hR⟩ := hY k _ hkl (hJ k _ _ hJk hgr) (by have := hgr.size; omega)
        rw [← e1] at hy
        have hTL : Hid (TextIn s (restL (k + 1) l0) _) := hT2
        clear e1 e2 hY hT2 ci1 hli hnx hrr
        generalize bx r = t at *
        gi_wp2_with (refine ⟨trivial, fun _ => by omega, (callsIn_wide.2 (hIB _)).mono ?_⟩; rintro e w2 ⟨rfl, rfl⟩)
        gi_region
        gi_wp2
        refine ⟨fun _ => by omega, hR.mono ?_⟩
        rintro e W3 ⟨rfl, hJ3, hz3, hs3⟩
        have hT3 : TextIn s (restL (k + 1) l0) W3 := hs3.trans hTL.out
        gi_wp2
        go_roundw
        case rel => exact ⟨k + 1, by omega, hT3, hJ3, (Array.getElem?_eq_some_iff.1 hT3).1⟩
        case measure => rw [hT3.left, hT.left]; exact hless
      · have ci2 := ci2 hi
        clear ci1
        have e1 : bx r = bx (lineL k l0) := by rw [hli, ci2]
        have hT2 : TextIn s (restL (k + 1) l0) (wr.setCell ⟨s, 0, none⟩ (.string ⟨#[]⟩)) := by
          rw [hnx, ci2]
          exact text_set hT []
        have hless : (restL (k + 1) l0).length < r.length := by rw [hnx, ci2]; exact hpos
        have hgr : wr.grownBy (wr.setCell ⟨s, 0, none⟩ (.string ⟨#[]⟩)) (some s) := ow_but_set wr s 0 _
        obtain ⟨fn, tmps, assign, body, hy, hR⟩ := hY k _ hkl (hJ k _ _ hJk hgr) (by have := hgr.size; omega)
        rw [← e1] at hy
        have hTL : Hid (TextIn s (restL (k + 1) l0) _) := hT2
        clear e1 hY hT2 ci2 hli hnx hrr
        generalize bx r = t at *
        gi_wp2_with (refine ⟨trivial, fun _ => by omega, (callsIn_wide.2 (hIB _)).mono ?_⟩; rintro e w2 ⟨rfl, rfl⟩)
        refine ⟨fun _ => by omega, hR.mono ?_⟩
        rintro e W3 ⟨rfl, hJ3, hz3, hs3⟩
        have hT3 : TextIn s (restL (k + 1) l0) W3 := hs3.trans hTL.out
        gi_wp2
        go_roundw
        case rel => exact ⟨k + 1, by omega, hT3, hJ3, (Array.getElem?_eq_some_iff.1 hT3).1⟩
        case measure => rw [hT3.left, hT.left]; exact hless
end Go.Proofs.YtaagnifagahgfaaDoor

namespace Go.Proofs.YtaagnifagahgfaaDoor
open Go.RowKit

/-- A word: its tag, its number. -/
structure Wd where
  tag : Int
  num : Int
/-- A cell. -/
structure Ce where
  kind : Int
  num : Int
  a : Wd
  b : Wd
abbrev Wd.val (w : Wd) : Value := .agg #[.int .i64 w.tag, .int .i64 w.num]
abbrev Ce.val (c : Ce) : Value := .agg #[.int .i64 c.kind, .int .i64 c.num, .int .i64 c.a.tag, .int .i64 c.a.num, .int .i64 c.b.tag, .int .i64 c.b.num]
def Wd.cells (w : Wd) : List Value := [.int .i64 w.tag, .int .i64 w.num]
def Ce.cells (c : Ce) : List Value := [.int .i64 c.kind, .int .i64 c.num, .int .i64 c.a.tag, .int .i64 c.a.num, .int .i64 c.b.tag, .int .i64 c.b.num]
theorem Ce.six {w : World} {b o : Nat} {c : Ce} (h : w.rangeAt b o c.cells) :
    w.cell? ⟨b, o, none⟩ = some (.int .i64 c.kind) ∧ w.cell? ⟨b, o + 1, none⟩ = some (.int .i64 c.num) ∧ w.cell? ⟨b, o + 2, none⟩ = some (.int .i64 c.a.tag) ∧ w.cell? ⟨b, o + 3, none⟩ = some (.int .i64 c.a.num) ∧ w.cell? ⟨b, o + 4, none⟩ = some (.int .i64 c.b.tag) ∧ w.cell? ⟨b, o + 5, none⟩ = some (.int .i64 c.b.num) :=
  ⟨h 0 _ rfl, h 1 _ rfl, h 2 _ rfl, h 3 _ rfl, h 4 _ rfl, h 5 _ rfl⟩
theorem Wd.two {w : World} {b o : Nat} {c : Wd} (h : w.rangeAt b o c.cells) :
    w.cell? ⟨b, o, none⟩ = some (.int .i64 c.tag) ∧ w.cell? ⟨b, o + 1, none⟩ = some (.int .i64 c.num) :=
  ⟨h 0 _ rfl, h 1 _ rfl⟩
/-- The cells cs lie in w as v. -/
abbrev Cells (w : World) (S : Nat → Prop) (cs : List Ce) (v : Value) : Prop := RowOf 6 Ce.cells w S cs v

/-- Words lie in w as v. -/
abbrev Words (w : World) (S : Nat → Prop) (ws : List Wd) (v : Value) : Prop := RowOf 2 Wd.cells w S ws v
end Go.Proofs.YtaagnifagahgfaaDoor

