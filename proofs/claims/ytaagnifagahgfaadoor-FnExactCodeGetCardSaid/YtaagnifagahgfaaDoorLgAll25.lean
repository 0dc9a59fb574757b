/-
  The library's strings.Cut, strings.TrimSuffix, strconv.Atoi at this program.
  The program's lineOp.
-/
import Derived.Test.YtaagnifagahgfaaDoorLgAll2
import Derived.Shelf.Strings.Cut
import Derived.Shelf.Strings.Prefix
import Derived.Shelf.Strconv.AtoiAll
import Derived.Shelf.Lay
import Derived.Ground.NamesProg
import Derived.Test.YtaagnifagahgfaaDoorCwImpl
import Derived.Deep.LoopGhost
namespace Go.Proofs.YtaagnifagahgfaaDoor
open Go.RowKit Go.Shelf

shelf_lay Lays.n102 Nm 102 at Tryd as lays102
shelf_lay Lays.n145 Nm 145 at Tryd as lays145
shelf_lay LaysC.n172 Nm 172 at Tryd as lays172

/-- What the library's reading of texts asks of the world: where its own variables lie something is. -/
structure RTab (w : World) : Prop where
  most : ∃ m : Int, w.cell? ⟨1, 0, none⟩ = some (.int .i64 m)
  odd : ∃ ev, w.cell? ⟨2, 0, none⟩ = some ev ∧ (ev = .nilIface ∨ ∃ te pe, ev = .iface te pe)
  far : ∃ ev, w.cell? ⟨3, 0, none⟩ = some ev ∧ (ev = .nilIface ∨ ∃ te pe, ev = .iface te pe)
theorem cell_lt {w : World} {a : Addr} {v : Value} (h : w.cell? a = some v) : a.block < w.heap.size := by
  apply Decidable.byContradiction
  intro hn
  unfold World.cell? at h
  rw [Array.getElem?_eq_none (by omega)] at h
  cases h
theorem RTab.keep {w w' : World} (h : RTab w) (hb : Below w.heap.size w w') : RTab w' := by
  obtain ⟨⟨m, h1⟩, ⟨e1, h2, h3⟩, ⟨e2, h4, h5⟩⟩ := h
  exact ⟨⟨m, by rw [hb.cell (cell_lt h1)]; exact h1⟩, ⟨e1, by rw [hb.cell (cell_lt h2)]; exact h2, h3⟩, ⟨e2, by rw [hb.cell (cell_lt h4)]; exact h4, h5⟩⟩
theorem trim_suffix (l p : List UInt8) (hl : l.length ≤ 1048576) (w : World) : Calls Tryd.prog 30 #[.string (bx l), .string (bx p)] w fun e w' => e = .returned (.string (bx (Lib.trimSuffix l p))) ∧ w' = w :=
  Any.strings_TrimSuffix lays102 (bx l) (bx p) w (by rw [bx_size]; omega)
theorem drewN_below (w : World) : ∀ n, Below w.heap.size w (w.drewN n) := fun _ => ⟨rfl, rfl, rfl, Nat.le_refl _, fun _ _ => rfl⟩
theorem str_cut (l p : List UInt8) (hl : l.length ≤ 1048576) (w : World) (h : RTab w) : Calls Tryd.prog 29 #[.string (bx l), .string (bx p)] w fun e w' => e = .returned (.tuple #[.string (bx (Lib.cut l p).1), .string (bx (Lib.cut l p).2.1), .bool (Lib.cut l p).2.2]) ∧ Below w.heap.size w w' := by
  obtain ⟨m, hm⟩ := h.most
  refine (Any.strings_Cut lays145 (bx l) (bx p) m w (by rw [bx_size]; omega) hm).mono ?_
  rintro e w' ⟨rfl, n, rfl⟩
  exact ⟨rfl, drewN_below w n⟩
/-- What strconv.Atoi answers, and whether it was a number. -/
def atoiV (l : List UInt8) : Int × Bool := match Lib.atoiAll l with
  | .ok v => (v, true)
  | .range => (Lib.atoiSat l, false)
  | .«syntax» => (0, false)
theorem str_atoi (l : List UInt8) (hl : l.length ≤ 1048576) (w : World) (h : RTab w) : Calls Tryd.prog 31 #[.string (bx l)] w fun e w' => (∃ ev, e = .returned (.tuple #[.int .i64 (atoiV l).1, ev]) ∧ ((atoiV l).2 = true → ev = .nilIface) ∧ ((atoiV l).2 = false → ∃ te pe, ev = .iface te pe)) ∧ Below w.heap.size w w' := by
  obtain ⟨_, ⟨e1, h2, h3⟩, ⟨e2, h4, h5⟩⟩ := h
  unfold atoiV
  cases ha : Lib.atoiAll l with
  | ok v =>
    refine (Any.strconv_Atoi_ok lays172 (bx l) (by rw [bx_size]; omega) v ha w).mono ?_
    rintro e w' ⟨rfl, hw⟩
    refine ⟨⟨_, rfl, fun _ => rfl, fun h => by cases h⟩, ?_⟩
    rcases hw with rfl | ⟨t, rfl⟩
    · exact Below.refl _ _
    · exact Lib.bytesWorld_below _ _ _
  | range =>
    refine (Any.strconv_Atoi_range lays172 (bx l) (by rw [bx_size]; omega) ha e2 w h4 h5).mono ?_
    rintro e w' ⟨N, rfl, _, _, hb⟩
    exact ⟨⟨_, rfl, fun h => (by cases h), fun _ => ⟨_, _, rfl⟩⟩, hb⟩
  | «syntax» =>
    refine (Any.strconv_Atoi_syntax lays172 (bx l) (by rw [bx_size]; omega) ha e1 w h2 h3).mono ?_
    rintro e w' ⟨N, rfl, _, _, hb⟩
    exact ⟨⟨_, rfl, fun h => (by cases h), fun _ => ⟨_, _, rfl⟩⟩, hb⟩
end Go.Proofs.YtaagnifagahgfaaDoor

namespace Go.Proofs.YtaagnifagahgfaaDoor
open Go.RowKit

/-- The kind of a word, by the first k words. -/
def kindAt (word : List UInt8) : Nat → Int
  | 0 => 0
  | k + 1 => if codeTab.getD k [] = word then (k : Int) + 1 else kindAt word k
/-- The op that a line may be. -/
def lineOpM (line : List UInt8) : Wd := ⟨kindAt (Lib.cut (Lib.trimSuffix line [10]) [32]).1 24, if (atoiV (Lib.cut (Lib.trimSuffix line [10]) [32]).2.1).2 = true then (atoiV (Lib.cut (Lib.trimSuffix line [10]) [32]).2.1).1 else 0⟩
theorem trim_le (l p : List UInt8) : (Lib.trimSuffix l p).length ≤ l.length := by
  unfold Lib.trimSuffix
  split
  · rw [List.length_take]; omega
  · exact Nat.le_refl _
theorem cut_le (l p : List UInt8) : (Lib.cut l p).1.length ≤ l.length ∧ (Lib.cut l p).2.1.length ≤ l.length := by
  unfold Lib.cut
  split
  · exact ⟨by rw [List.length_take]; omega, by rw [List.length_drop]; omega⟩
  · exact ⟨Nat.le_refl _, Nat.zero_le _⟩
theorem tab_at {k : Nat} (h : k < 24) : codeVals[k]? = some (.string (bx (codeTab.getD k []))) := by
  rw [code_tab h]
  unfold codeB
  rw [show ((k : Int) + 1).toNat - 1 = k by omega]
theorem bx_toList (l : List UInt8) : (bx l).toList = l := ByteArray.toList_eq (bx l)
theorem below24 (k : Nat) (h : k < 24) : k = 0 ∨ k = 1 ∨ k = 2 ∨ k = 3 ∨ k = 4 ∨ k = 5 ∨ k = 6 ∨ k = 7 ∨ k = 8 ∨ k = 9 ∨ k = 10 ∨ k = 11 ∨ k = 12 ∨ k = 13 ∨ k = 14 ∨ k = 15 ∨ k = 16 ∨ k = 17 ∨ k = 18 ∨ k = 19 ∨ k = 20 ∨ k = 21 ∨ k = 22 ∨ k = 23 := by omega
theorem index_code (k : Nat) (hk : k < 24) (w : World) : (Instr.index 60 (.agg codeVals) (.int .i64 (k : Int))).run Tryd.prog w = .ok (.string (bx (codeTab.getD k []))) w := by
  rcases below24 k hk with rfl | rfl | rfl | rfl | rfl | rfl | rfl | rfl | rfl | rfl | rfl | rfl | rfl | rfl | rfl | rfl | rfl | rfl | rfl | rfl | rfl | rfl | rfl | rfl <;> kernel_rfl

/-- A box of an op. -/
abbrev OpIn (b : Nat) (k n : Int) (w : World) : Prop := w.heap[b]? = some (.cells #[.int .i64 k, .int .i64 n] 33)
theorem OpIn.cells {b : Nat} {k n : Int} {w : World} (h : OpIn b k n w) : (w.cell? ⟨b, 0, none⟩ = some (.int .i64 k) ∧ w.cell? ⟨b, 1, none⟩ = some (.int .i64 n)) ∧ (w.frozen? ⟨b, 0, none⟩ = false ∧ w.frozen? ⟨b, 1, none⟩ = false) ∧ b < w.heap.size := by
  refine ⟨⟨by rw [cell_of_row _ _ _ _ _ _ h]; rfl, by rw [cell_of_row _ _ _ _ _ _ h]; rfl⟩, ⟨?_, ?_⟩, (Array.getElem?_eq_some_iff.1 h).1⟩
  · unfold World.frozen?; rw [h]; simp
  · unfold World.frozen?; rw [h]; simp
theorem OpIn.kind {b : Nat} {k n : Int} {w : World} (h : OpIn b k n w) (m : Int) : OpIn b m n (w.setCell ⟨b, 0, none⟩ (.int .i64 m)) := by
  unfold OpIn World.setCell
  simp only [Array.getElem?_modify]
  rw [h]
  simp
theorem OpIn.num {b : Nat} {k n : Int} {w : World} (h : OpIn b k n w) (m : Int) : OpIn b k m (w.setCell ⟨b, 1, none⟩ (.int .i64 m)) := by
  unfold OpIn World.setCell
  simp only [Array.getElem?_modify]
  rw [h]
  simp
theorem OpIn.other {b c o : Nat} {k n : Int} {w : World} (h : OpIn b k n w) (hne : b ≠ c) (v : Value) : OpIn b k n (w.setCell ⟨c, o, none⟩ v) := by
  unfold OpIn
  rw [Below.heap_setCell _ _ _ _ hne]
  exact h

set_option maxRecDepth 100000 in
set_option maxHeartbeats 4000000 in
theorem impl_lineOp (line : List UInt8) (hl : line.length ≤ 1048576) (w : World) (hC : OTab w) (hR : RTab w) :
    Calls Tryd.prog 17 #[.string (bx line)] w fun r w' => r = .returned (.agg #[.int .i64 (lineOpM line).tag, .int .i64 (lineOpM line).num]) ∧ Below w.heap.size w w' := by
  have hT := fun w => trim_suffix line [10] hl w
  have hle := trim_le line [10]
  unfold lineOpM
  generalize Lib.trimSuffix line [10] = tl at *
  have hCu := fun w h => str_cut tl [32] (by omega) w h
  have hle2 := cut_le tl [32]
  generalize Lib.cut tl [32] = c at *
  obtain ⟨word, num, found⟩ := c
  simp only at hCu hle2 ⊢
  have hA := fun w h => str_atoi num (by omega) w h
  generalize atoiV num = at' at *
  obtain ⟨nv, isn⟩ := at'
  simp only at hA ⊢
  have hb0 : Below w.heap.size w (w.alloc (.cells #[.int .i64 0, .int .i64 0] 33)) := (Below.refl _ _).alloc (Nat.le_refl _) _
  have hT1 : ∀ w', Calls Tryd.prog 30 #[.string (bx line), .string ⟨#[10]⟩] w' fun e w2 => e = .returned (.string (bx tl)) ∧ w2 = w' := fun w' => hT w'
  have hC1 : ∀ w', RTab w' → Calls Tryd.prog 29 #[.string (bx tl), .string ⟨#[32]⟩] w' fun e w2 => e = .returned (.tuple #[.string (bx word), .string (bx num), .bool found]) ∧ Below w'.heap.size w' w2 := fun w' h => hCu w' h
  generalize bx line = tline at *
  generalize bx tl = ttl at *
  generalize hwt : bx word = wt at *
  have HWT : Hid (wt.toList = word) := by
    rw [← hwt]
    exact bx_toList word
  clear hwt
  have hR0 := hR.keep hb0
  have hC0 := hC.keep hb0
  clear hT hCu
  generalize hfin : (if isn = true then nv else 0) = fin
  generalize hkf : kindAt word 24 = kfin
  have HFI : Hid ((if isn = true then nv else 0) = fin) := hfin
  have HKF : Hid (kindAt word 24 = kfin) := hkf
  clear hfin hkf
  go_enter Tryd.func17, Tryd.ntmps17
  go_upto_region 3 with (first
    | (go_at_call 30; refine (hT1 _).mono ?_; rintro r w2 ⟨rfl, rfl⟩)
    | (go_at_call 29; refine (hC1 _ hR0).mono ?_; rintro r w3 ⟨rfl, hb3⟩))
  have hbx : Below w.heap.size w (w3.alloc (.cells #[.int .i64 0, .int .i64 0] 33)) := (cw_next hb0 hb3).alloc (cw_next hb0 hb3).size _
  obtain ⟨tt, fr, hg⟩ := hC.keep hbx
  have hRx : (w3.alloc (.cells #[.int .i64 0, .int .i64 0] 33)).heap[w.heap.size]? = some (.cells #[.int .i64 0, .int .i64 0] 33) := by
    have hz : w.heap.size < (w.alloc (.cells #[.int .i64 0, .int .i64 0] 33)).heap.size := by simp
    rw [((Below.refl w3.heap.size w3).alloc (Nat.le_refl _) _).block _ (by have := hb3.size; omega), hb3.block _ hz]
    exact heap_alloc_new w _
  have hOx := heap_alloc_new w3 (.cells #[.int .i64 0, .int .i64 0] 33)
  have hzx : w.heap.size < w3.heap.size := by have := hb3.size; simp at this; omega
  generalize (w3.alloc (.cells #[.int .i64 0, .int .i64 0] 33)) = W at *
  generalize w3.heap.size = ob at *
  clear hT1 hC1 hC0 hR0 hb0 hb3
  go_wp2_with (refine wpList_load_row rfl 60 _ rfl 0 rfl tt _ fr _ hg Tryd.underlying60 rfl (by kernel_rfl) ?_)
  go_loopg [20] 24 (fun g i wr => ∃ k : Nat, k + g = 24 ∧ i = .int .i64 (k : Int) ∧ OpIn ob (kindAt word k) 0 wr ∧ OpIn w.heap.size 0 0 wr ∧ Below w.heap.size w wr)
  case atStart => exact ⟨0, by omega, rfl, hOx, hRx, hbx⟩
  case round =>
    clear hg hOx hRx hbx hle hle2
    obtain ⟨k, hk, rfl, hO, hX, hB⟩ := hrel
    obtain ⟨⟨c0, c1⟩, ⟨f0, f1⟩, hob⟩ := hO.cells
    obtain ⟨⟨x0, x1⟩, ⟨y0, y1⟩, hxb⟩ := hX.cells
    by_cases hlt : k < 24
    · have hki : (k : Int) < 24 := by omega
      have hix := index_code k hlt
      have wr2 : IntKind.i64.wrap ((k : Int) + 1) = (k : Int) + 1 := ck_wr _ (by omega) (by omega)
      have wr3 : IntKind.i64.wrap (1 + (k : Int)) = (k : Int) + 1 := by rw [Int.add_comm]; exact wr2
      have hkn : kindAt word (k + 1) = if codeTab.getD k [] = word then (k : Int) + 1 else kindAt word k := rfl
      by_cases he : codeTab.getD k [] = word
      · have hq : ((bx (codeTab.getD k [])).toList == wt.toList) = true := by rw [bx_toList, HWT.out, he]; simp
        rw [if_pos he] at hkn
        have hO2 : Hid (OpIn ob (kindAt word (k + 1)) 0 (wr.setCell ⟨ob, 0, none⟩ (.int .i64 ((k : Int) + 1)))) := by
          rw [hkn]
          exact hO.kind _
        have hX2 : Hid (OpIn w.heap.size 0 0 (wr.setCell ⟨ob, 0, none⟩ (.int .i64 ((k : Int) + 1)))) := hX.other (by omega) _
        have hB2 : Hid (Below w.heap.size w (wr.setCell ⟨ob, 0, none⟩ (.int .i64 ((k : Int) + 1)))) := hB.setCell (by show w.heap.size ≤ ob; omega) _
        clear hkn he hO hX hB
        generalize bx (codeTab.getD k []) = t1 at hix hq
        go_wp2_with fail
        go_roundg (24 - (k + 1))
        case measure => omega
        case rel => exact ⟨k + 1, by omega, by go_num, hO2.out, hX2.out, hB2.out⟩
      · have hq : ((bx (codeTab.getD k [])).toList == wt.toList) = false := by
          rw [bx_toList, HWT.out]
          simpa using he
        rw [if_neg he] at hkn
        have hO2 : Hid (OpIn ob (kindAt word (k + 1)) 0 wr) := by
          rw [hkn]
          exact hO
        clear hkn he hO
        generalize bx (codeTab.getD k []) = t1 at hix hq
        go_wp2_with fail
        go_roundg (24 - (k + 1))
        case measure => omega
        case rel => exact ⟨k + 1, by omega, by go_num, hO2.out, hX, hB⟩
    · obtain rfl : k = 24 := by omega
      have hki : ¬ (24 : Int) < 24 := by omega
      have hAt := hA wr (hR.keep hB)
      have hO2 : Hid (OpIn ob (kindAt word 24) 0 wr) := hO
      have hX2 : Hid (OpIn w.heap.size 0 0 wr) := hX
      clear hO hX
      rw [HKF.out] at c0 hO2
      cases isn with
      | true =>
        obtain rfl : nv = fin := HFI.out
        go_upto_region 10 with (go_at_call 31; refine hAt.mono ?_; rintro e w5 ⟨⟨ev, rfl, hev, _⟩, hb5⟩; obtain rfl := hev rfl)
        have hO5 : OpIn ob kfin 0 w5 := (hb5.block ob hob).trans hO2.out
        have hX5 : OpIn w.heap.size 0 0 w5 := (hb5.block w.heap.size hxb).trans hX2.out
        have hB5 := cw_next hB hb5
        obtain ⟨⟨d0, d1⟩, ⟨e0, e1⟩, ob5⟩ := hO5.cells
        obtain ⟨⟨z0, z1⟩, ⟨v0, v1⟩, xb5⟩ := hX5.cells
        go_wp2_with fail
        refine bodyPost_ret (v := .agg #[.int .i64 kfin, .int .i64 nv]) (by simp [results, Tryd.results17, go_sem, z0, z1]) rfl ⟨rfl, ?_⟩
        repeat (refine Below.setCell ?_ (by dsimp only; omega) _)
        exact cw_next hB hb5
      | false =>
        obtain rfl : 0 = fin := HFI.out
        go_upto_region 10 with (go_at_call 31; refine hAt.mono ?_; rintro e w5 ⟨⟨ev, rfl, _, hev⟩, hb5⟩; obtain ⟨te, pe, rfl⟩ := hev rfl)
        have hO5 : OpIn ob kfin 0 w5 := (hb5.block ob hob).trans hO2.out
        have hX5 : OpIn w.heap.size 0 0 w5 := (hb5.block w.heap.size hxb).trans hX2.out
        have hB5 := cw_next hB hb5
        obtain ⟨⟨d0, d1⟩, ⟨e0, e1⟩, ob5⟩ := hO5.cells
        obtain ⟨⟨z0, z1⟩, ⟨v0, v1⟩, xb5⟩ := hX5.cells
        go_wp2_with fail
        refine bodyPost_ret (v := .agg #[.int .i64 kfin, .int .i64 0]) (by simp [results, Tryd.results17, go_sem, z0, z1]) rfl ⟨rfl, ?_⟩
        repeat (refine Below.setCell ?_ (by dsimp only; omega) _)
        exact cw_next hB hb5
end Go.Proofs.YtaagnifagahgfaaDoor

