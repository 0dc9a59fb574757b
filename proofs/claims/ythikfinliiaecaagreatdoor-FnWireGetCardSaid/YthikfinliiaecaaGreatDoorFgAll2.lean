/-
  The reader of a code: one of a list; a word.
  Words and cells as plain data. No program is named here.
-/
import Derived.Test.YthikfinliiaecaaGreatDoorFgAll1
import Derived.Test.YthikfinliiaecaaGreatDoorFgAll0
namespace Go.Proofs.YthikfinliiaecaaGreatDoor
open Go.RowKit

/-- A list of numbers lies in block h. -/
def NumsAt (w : World) (h : Nat) (l : List Int) : Prop := ∀ i (hi : i < l.length), w.cell? ⟨h, i, none⟩ = some (.int .i64 l[i])
/-- How one of a list is drawn. -/
def Drawn (w w' : World) (g P : Nat) (l : List Int) (r : Ending) : Prop := ∃ z : Int, z ∈ l ∧ r = .returned (.int .i64 z) ∧ Rd w' g (P + 1) ∧ w.grownBy w' (some g)
theorem but_cell {w w' : World} {g h o : Nat} {v : Value} (hg : w.grownBy w' (some g)) (hh : h < w.heap.size) (hgh : h ≠ g) (hc : w.cell? ⟨h, o, none⟩ = some v) : w'.cell? ⟨h, o, none⟩ = some v := by
  rw [World.cell?_of_block (w := w) (hg.block h hh (by simp; omega))]; exact hc
set_option maxHeartbeats 1000000 in
theorem rd_one (w : World) (g h P : Nat) (l : List Int) (hR : Rd w g P) (hP : P ≤ 1000000) (hl0 : 0 < l.length) (hl : l.length ≤ 1000) (hN : NumsAt w h l) (hgh : h ≠ g) (hh : h < w.heap.size) :
    Calls Tryz.prog 38 #[.pointer (some ⟨g, 0, none⟩), .slice (some ⟨h, 0, none⟩) l.length l.length] w fun r w' => Drawn w w' g P l r := by
  have hp := rd_pick w g P l.length hR hP (by omega)
  go_enter Tryz.func38, Tryz.ntmps38
  go_wp2_with (go_at_call 14; (refine hp.mono ?_; rintro r w2 ⟨k, rfl, hk, hR2, hg2⟩; have hk' : k < l.length := (by omega); have hki : (k : Int) < (l.length : Int) := (by omega); have hc := but_cell hg2 hh hgh (hN k hk')))
  go_ret
  exact ⟨l[k], List.getElem_mem hk', rfl, hR2, hg2⟩

/-- A pick, whatever number it is asked for. -/
theorem rd_pickZ (w : World) (g P : Nat) (z : Int) (h : Rd w g P) (hP : P ≤ 1000000) (h0 : 0 ≤ z) (h1 : z ≤ 1000000) :
    Calls Tryz.prog 14 #[.pointer (some ⟨g, 0, none⟩), .int .i64 z] w fun r w' => ∃ k : Nat, r = .returned (.int .i64 (k : Int)) ∧ ((k : Int) < z ∨ k = 0) ∧ Rd w' g (P + 1) ∧ w.grownBy w' (some g) := by
  obtain ⟨n, rfl⟩ : ∃ n : Nat, z = (n : Int) := ⟨z.toNat, by omega⟩
  refine (rd_pick w g P n h hP (by omega)).mono ?_
  rintro r w' ⟨k, rfl, hk, hR, hg⟩
  exact ⟨k, rfl, by omega, hR, hg⟩
/-- How a word is drawn. -/
def WordDrawn (w w' : World) (g P : Nat) (r : Ending) : Prop := ∃ t z : Int, r = .returned (.agg #[.int .i64 t, .int .i64 z]) ∧ Rd w' g (P + 2) ∧ w.grownBy w' (some g)
theorem rd_alloc {w : World} {g P : Nat} (h : Rd w g P) (o : Obj) : Rd (w.alloc o) g P := h.keep ((Below.refl _ _).alloc (Nat.le_refl _) o)
theorem nums_new (w : World) (cs : Array Value) (T : TypeId) (l : List Int) (h : cs.toList = l.map (.int .i64 ·)) : NumsAt (w.alloc (.cells cs T)) w.heap.size l := fun i hi => by
  have := ow_cells_new w cs T i (.int .i64 l[i]) (by rw [h]; simp [hi])
  rw [Addr.add_mid] at this
  simpa using this

theorem rd_one5 (w : World) (g h P : Nat) (a b c d e : Int) (hR : Rd w g P) (hP : P ≤ 1000000) (hN : NumsAt w h [a, b, c, d, e]) (hgh : h ≠ g) (hh : h < w.heap.size) :
    Calls Tryz.prog 38 #[.pointer (some ⟨g, 0, none⟩), .slice (some ⟨h, 0, none⟩) 5 5] w fun r w' => Drawn w w' g P [a, b, c, d, e] r := rd_one w g h P [a, b, c, d, e] hR hP (by simp) (by simp) hN hgh hh
theorem rd_one3 (w : World) (g h P : Nat) (a b c : Int) (hR : Rd w g P) (hP : P ≤ 1000000) (hN : NumsAt w h [a, b, c]) (hgh : h ≠ g) (hh : h < w.heap.size) :
    Calls Tryz.prog 38 #[.pointer (some ⟨g, 0, none⟩), .slice (some ⟨h, 0, none⟩) 3 3] w fun r w' => Drawn w w' g P [a, b, c] r := rd_one w g h P [a, b, c] hR hP (by simp) (by simp) hN hgh hh
theorem but_alloc {w w' : World} {row : Option Nat} (h : w.grownBy w' row) (o : Obj) : w.grownBy (w'.alloc o) row :=
  ow_grown_trans h (ow_but_below row ((Below.refl _ _).alloc (Nat.le_refl _) o))
theorem but_set {w w' : World} {row : Option Nat} (h : w.grownBy w' row) {b o : Nat} (hb : w.heap.size ≤ b) (v : Value) : w.grownBy (w'.setCell ⟨b, o, none⟩ v) row := by
  have k := ow_but_set w' b o v
  exact ⟨k.os.trans h.os, k.tape.trans h.tape, k.output.trans h.output, Nat.le_trans h.size k.size, fun i hi hne => (Below.heap_setCell _ _ _ _ (by show i ≠ b; omega)).trans (h.block i hi hne)⟩
theorem rd_set {w : World} {g P b o : Nat} (h : Rd w g P) (hb : g < b) (v : Value) : Rd (w.setCell ⟨b, o, none⟩ v) g P :=
  h.same (fun k hk => Below.heap_setCell _ _ _ _ (by show k ≠ b; omega)) (by simp [World.setCell])
theorem box2_but {w wr : World} {g : Nat} {a b : Value} {t : TypeId} (h : (w.alloc (.cells #[a, b] t)).grownBy wr (some g)) (hg : g < w.heap.size) :
    wr.cell? ⟨w.heap.size, 0, none⟩ = some a ∧ wr.cell? ⟨w.heap.size, 1, none⟩ = some b ∧ (∀ o, wr.frozen? ⟨w.heap.size, o, none⟩ = false) ∧ w.heap.size < wr.heap.size := by
  have hb : wr.heap[w.heap.size]? = (w.alloc (.cells #[a, b] t)).heap[w.heap.size]? := h.block _ (by simp) (by simp; omega)
  have hz := h.size
  simp at hz
  refine ⟨?_, ?_, fun o => ?_, by omega⟩
  · rw [World.cell?_of_block (w := w.alloc (.cells #[a, b] t)) hb, cell_of_row _ _ _ _ _ _ (heap_alloc_new w _)]; rfl
  · rw [World.cell?_of_block (w := w.alloc (.cells #[a, b] t)) hb, cell_of_row _ _ _ _ _ _ (heap_alloc_new w _)]; rfl
  · rw [World.frozen?_of_block (w := w.alloc (.cells #[a, b] t)) hb]; simp

set_option maxHeartbeats 2000000 in
theorem rd_word (w : World) (g P n : Nat) (hR : Rd w g P) (hP : P ≤ 900000) (hn : n ≤ 1000000) :
    Calls Tryz.prog 13 #[.pointer (some ⟨g, 0, none⟩), .int .i64 n] w fun r w' => WordDrawn w w' g P r := by
  have hgl := hR.lt
  have HP := fun w' P' n' (h : Rd w' g P') (h1 : P' ≤ 1000000) (h2 : n' ≤ 1000000) => rd_pick w' g P' n' h h1 h2
  go_enter Tryz.func13, Tryz.ntmps13
  go_upto_region 2 with (go_at_call 14; refine (HP _ P 6 (rd_alloc hR _) (by omega) (by omega)).mono ?_; rintro r w2 ⟨k, rfl, hk, hR2, hg2⟩)
  obtain ⟨c0, c1, cf, cz⟩ := box2_but hg2 hgl
  have hw2 : w.grownBy w2 (some g) := ow_grown_trans (ow_but_below _ ((Below.refl _ _).alloc (Nat.le_refl _) _)) hg2
  clear hg2
  have hend : ∀ (w3 : World) (t z : Int), Rd w3 g (P + 2) → w.grownBy w3 (some g) → WordDrawn w ((w3.setCell ⟨w.heap.size, 0, none⟩ (.int .i64 t)).setCell ⟨w.heap.size, 1, none⟩ (.int .i64 z)) g P (.returned (.agg #[.int .i64 t, .int .i64 z])) := fun w3 t z h1 h2 =>
    ⟨t, z, rfl, rd_set (rd_set h1 hgl _) hgl _, but_set (but_set h2 (Nat.le_refl _) _) (Nat.le_refl _) _⟩
  have keep : ∀ w3, w2.grownBy w3 (some g) → (w3.cell? ⟨w.heap.size, 0, none⟩ = some (.int .i64 0) ∧ w3.cell? ⟨w.heap.size, 1, none⟩ = some (.int .i64 0) ∧ (∀ o, w3.frozen? ⟨w.heap.size, o, none⟩ = false) ∧ w.grownBy w3 (some g)) := fun w3 h3 =>
    ⟨but_cell h3 cz (by omega) c0, but_cell h3 cz (by omega) c1, fun o => by rw [World.frozen?_of_block (w := w2) (h3.block _ cz (by simp; omega))]; exact cf o, ow_grown_trans hw2 h3⟩
  have hR2' := hR2.mono (Nat.le_succ _)
  have hkk : k = 0 ∨ k = 1 ∨ k = 2 ∨ k = 3 ∨ k = 4 ∨ k = 5 := by omega
  have HV : ∀ (w3 : World) (t z : Int), w3.cell? ⟨w.heap.size, 0, none⟩ = some (.int .i64 0) → w3.cell? ⟨w.heap.size, 1, none⟩ = some (.int .i64 0) → (((w3.setCell ⟨w.heap.size, 0, none⟩ (.int .i64 t)).setCell ⟨w.heap.size, 1, none⟩ (.int .i64 z)).cell? ⟨w.heap.size, 0, none⟩ = some (.int .i64 t) ∧ ((w3.setCell ⟨w.heap.size, 0, none⟩ (.int .i64 t)).setCell ⟨w.heap.size, 1, none⟩ (.int .i64 z)).cell? ⟨w.heap.size, 1, none⟩ = some (.int .i64 z)) := fun w3 t z h0 h1 => by
    constructor
    · rw [World.cell?_setCell_other _ _ _ _ (by simp), World.cell?_setCell_same _ _ _ h0]
    · exact World.cell?_setCell_same _ _ _ (by rw [World.cell?_setCell_other _ _ _ _ (by simp)]; exact h1)
  rcases hkk with rfl | rfl | rfl | rfl | hk
  · go_wp2_with (go_at_call 38; refine (rd_one5 _ g w2.heap.size (P + 1) 0 5 (-7) 2147483647 (-2147483648) (rd_alloc hR2 _) (by omega) (nums_new _ _ _ _ rfl) (by omega) (by simp)).mono ?_; rintro r w3 ⟨z, _, rfl, hR3, hg3⟩; obtain ⟨d0, d1, df, hw3⟩ := keep w3 (ow_grown_trans (ow_but_below _ ((Below.refl _ _).alloc (Nat.le_refl _) _)) hg3))
    obtain ⟨v0, v1⟩ := HV w3 1 z d0 d1
    refine bodyPost_ret (v := .agg #[.int .i64 1, .int .i64 z]) (by simp [results, Tryz.results13, go_sem, v0, v1]) rfl (hend w3 1 z hR3 hw3)
  · go_wp2_with (go_at_call 14; refine (HP _ (P + 1) 2 hR2 (by omega) (by omega)).mono ?_; rintro r w3 ⟨z, rfl, _, hR3, hg3⟩; obtain ⟨d0, d1, df, hw3⟩ := keep w3 hg3)
    obtain ⟨v0, v1⟩ := HV w3 2 z d0 d1
    exact bodyPost_ret (v := .agg #[.int .i64 2, .int .i64 z]) (by simp [results, Tryz.results13, go_sem, v0, v1]) rfl (hend w3 2 z hR3 hw3)
  · go_wp2_with (go_at_call 14; refine (HP _ (P + 1) 6 hR2 (by omega) (by omega)).mono ?_; rintro r w3 ⟨z, rfl, _, hR3, hg3⟩; obtain ⟨d0, d1, df, hw3⟩ := keep w3 hg3)
    obtain ⟨v0, v1⟩ := HV w3 3 z d0 d1
    exact bodyPost_ret (v := .agg #[.int .i64 3, .int .i64 z]) (by simp [results, Tryz.results13, go_sem, v0, v1]) rfl (hend w3 3 z hR3 hw3)
  · go_wp2_with fail
    obtain ⟨v0, v1⟩ := HV w2 0 0 c0 c1
    exact bodyPost_ret (v := .agg #[.int .i64 0, .int .i64 0]) (by simp [results, Tryz.results13, go_sem, v0, v1]) rfl (hend w2 0 0 hR2' hw2)
  · have k0 : ¬ (k : Int) = 0 := by omega
    have k1 : ¬ (k : Int) = 1 := by omega
    have k2 : ¬ (k : Int) = 2 := by omega
    have k3 : ¬ (k : Int) = 3 := by omega
    have kb0 : ((k : Int) == 0) = false := by simp; omega
    have kb1 : ((k : Int) == 1) = false := by simp; omega
    have kb2 : ((k : Int) == 2) = false := by simp; omega
    have kb3 : ((k : Int) == 3) = false := by simp; omega
    rcases Nat.eq_zero_or_pos n with rfl | hpos
    · go_wp2_with fail
      obtain ⟨v0, v1⟩ := HV w2 0 0 c0 c1
      exact bodyPost_ret (v := .agg #[.int .i64 0, .int .i64 0]) (by simp [results, Tryz.results13, go_sem, v0, v1]) rfl (hend w2 0 0 hR2' hw2)
    · have hn0 : ((n : Int) == 0) = false := by simp; omega
      go_wp2_with (go_at_call 14; refine (HP _ (P + 1) n hR2 (by omega) (by omega)).mono ?_; rintro r w3 ⟨z, rfl, _, hR3, hg3⟩; obtain ⟨d0, d1, df, hw3⟩ := keep w3 hg3)
      obtain ⟨v0, v1⟩ := HV w3 4 z d0 d1
      exact bodyPost_ret (v := .agg #[.int .i64 4, .int .i64 z]) (by simp [results, Tryz.results13, go_sem, v0, v1]) rfl (hend w3 4 z hR3 hw3)
end Go.Proofs.YthikfinliiaecaaGreatDoor

namespace Go.Proofs.YthikfinliiaecaaGreatDoor
open Go.RowKit

/-- A word: its tag, its number. -/
structure Wd where
  tag : Int
  num : Int
/-- A cell. -/
structure Ce where
  kind : Int
  num : Int
  a : Wd
  b : Wd
abbrev Wd.val (w : Wd) : Value := .agg #[.int .i64 w.tag, .int .i64 w.num]
abbrev Ce.val (c : Ce) : Value := .agg #[.int .i64 c.kind, .int .i64 c.num, .int .i64 c.a.tag, .int .i64 c.a.num, .int .i64 c.b.tag, .int .i64 c.b.num]
def Wd.cells (w : Wd) : List Value := [.int .i64 w.tag, .int .i64 w.num]
def Ce.cells (c : Ce) : List Value := [.int .i64 c.kind, .int .i64 c.num, .int .i64 c.a.tag, .int .i64 c.a.num, .int .i64 c.b.tag, .int .i64 c.b.num]
theorem Ce.six {w : World} {b o : Nat} {c : Ce} (h : w.rangeAt b o c.cells) :
    w.cell? ⟨b, o, none⟩ = some (.int .i64 c.kind) ∧ w.cell? ⟨b, o + 1, none⟩ = some (.int .i64 c.num) ∧ w.cell? ⟨b, o + 2, none⟩ = some (.int .i64 c.a.tag) ∧ w.cell? ⟨b, o + 3, none⟩ = some (.int .i64 c.a.num) ∧ w.cell? ⟨b, o + 4, none⟩ = some (.int .i64 c.b.tag) ∧ w.cell? ⟨b, o + 5, none⟩ = some (.int .i64 c.b.num) :=
  ⟨h 0 _ rfl, h 1 _ rfl, h 2 _ rfl, h 3 _ rfl, h 4 _ rfl, h 5 _ rfl⟩
theorem Wd.two {w : World} {b o : Nat} {c : Wd} (h : w.rangeAt b o c.cells) :
    w.cell? ⟨b, o, none⟩ = some (.int .i64 c.tag) ∧ w.cell? ⟨b, o + 1, none⟩ = some (.int .i64 c.num) :=
  ⟨h 0 _ rfl, h 1 _ rfl⟩
/-- The cells cs lie in w as v. -/
abbrev Cells (w : World) (S : Nat → Prop) (cs : List Ce) (v : Value) : Prop := RowOf 6 Ce.cells w S cs v

/-- Words lie in w as v. -/
abbrev Words (w : World) (S : Nat → Prop) (ws : List Wd) (v : Value) : Prop := RowOf 2 Wd.cells w S ws v
end Go.Proofs.YthikfinliiaecaaGreatDoor

