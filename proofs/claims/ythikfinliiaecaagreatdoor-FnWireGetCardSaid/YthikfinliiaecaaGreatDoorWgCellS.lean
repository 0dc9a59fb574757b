/-
  The specification's l12Cell.
-/
import Derived.Test.YthikfinliiaecaaGreatDoorWgGetW
import Derived.Test.YthikfinliiaecaaGreatDoorWgGet
import Derived.Test.YthikfinliiaecaaGreatDoorFgAll37
import Derived.Test.YthikfinliiaecaaGreatDoorFgAll31
import Derived.Deep.RegionHeld3
import Derived.Deep.DeepCutAuto
namespace Go.Proofs.YthikfinliiaecaaGreatDoor
open Go.RowKit

def tab6 : List (List UInt8) := [[], kindB 1, kindB 2, kindB 3, kindB 4, kindB 5]
theorem tab6_at {k : Nat} (h : k < 6) : kinds6[k]? = some (.string (bx (tab6.getD k []))) := by
  match k, h with
  | 0, _ | 1, _ | 2, _ | 3, _ | 4, _ | 5, _ => rfl
theorem find6_own : ∀ k, k < 6 → findK (tab6.getD k []) = (k : Int) := by decide
theorem find6_none {s : List UInt8} (h : ∀ j, j < 6 → tab6.getD j [] ≠ s) : findK s = -1 := by
  unfold findK
  rw [if_neg (fun e => h 0 (by omega) e.symm), if_neg (fun e => h 1 (by omega) e.symm), if_neg (fun e => h 2 (by omega) e.symm), if_neg (fun e => h 3 (by omega) e.symm), if_neg (fun e => h 4 (by omega) e.symm), if_neg (fun e => h 5 (by omega) e.symm)]
set_option maxHeartbeats 1000000 in
theorem spec_l1Find6 (word : List UInt8) (w : World) (g : Nat) (T : TypeId) (fr : Nat × Nat) (hg : w.heap[g]? = some (.cells kinds6 T fr)) :
    Calls Tryz.prog 51 #[.slice (some ⟨g, 0, none⟩) 6 6, .string (bx word)] w fun r w' => r = .returned (.int .i64 (findK word)) ∧ w = w' := by
  have hcell : Hid (∀ k, k < 6 → w.cell? ⟨g, k, none⟩ = some (.string (bx (tab6.getD k [])))) := fun k hk => by
    rw [cell_of_row _ _ _ _ _ _ hg]
    exact tab6_at hk
  obtain ⟨t, ht⟩ : ∃ t, t = bx word := ⟨_, rfl⟩
  have HW : Hid (t.toList = word) := by rw [ht]; exact bx_toList word
  rw [← ht]
  clear ht hg
  go_enter Tryz.func51, Tryz.ntmps51
  go_wp2_with fail
  go_loopg [5] 6 (fun m i wr => ∃ k : Nat, k + m = 6 ∧ i = .int .i64 (k : Int) ∧ Hid (∀ j, j < k → tab6.getD j [] ≠ word) ∧ wr = w)
  case atStart => exact ⟨0, by omega, rfl, (fun j hj => absurd hj (Nat.not_lt_zero _)), rfl⟩
  case round =>
    obtain ⟨k, hk, rfl, hno, rfl⟩ := hrel
    by_cases hlt : k < 6
    · have hki : (k : Int) < 6 := by omega
      have c0 := hcell.out k hlt
      by_cases he : tab6.getD k [] = word
      · have hq : ((bx (tab6.getD k [])).toList == t.toList) = true := by rw [bx_toList, HW.out, he]; simp
        have HE : Hid (findK word = (k : Int)) := by rw [← he]; exact find6_own k hlt
        generalize bx (tab6.getD k []) = tk at c0 hq
        clear he
        go_wp2_with fail
        go_ret
        exact ⟨congrArg (fun n => Ending.returned (.int .i64 n)) HE.out.symm, rfl⟩
      · have hq : ((bx (tab6.getD k [])).toList == t.toList) = false := by rw [bx_toList, HW.out]; simpa using he
        have hno2 : Hid (∀ j, j < k + 1 → tab6.getD j [] ≠ word) := fun j hj => by
          by_cases e : j = k
          · subst e; exact he
          · exact hno.out j (by omega)
        generalize bx (tab6.getD k []) = tk at c0 hq
        clear he hno
        have wr1 : IntKind.i64.wrap ((k : Int) + 1) = (k : Int) + 1 := ck_wr _ (by omega) (by omega)
        go_wp2_with fail
        go_roundg (6 - (k + 1))
        case measure => omega
        case rel => exact ⟨k + 1, by omega, by go_num, hno2, rfl⟩
    · obtain rfl : k = 6 := by omega
      have HE : Hid (findK word = -1) := find6_none hno.out
      clear hno
      go_wp2_with fail
      go_ret
      exact ⟨congrArg (fun n => Ending.returned (.int .i64 n)) HE.out.symm, rfl⟩

theorem cs_1 {w : World} {o : Obj} : (w.alloc o).drew.heap[w.heap.size]? = some o := heap_alloc_new w o
theorem cs_2 {w : World} {a o : Obj} : ((w.alloc a).alloc o).drew.heap[w.heap.size + 1]? = some o := by
  have := heap_alloc_new (w.alloc a) o
  rw [World.size_alloc] at this
  exact this
theorem cs_3 {w : World} {o o2 : Obj} : ((w.alloc o).alloc o2).drew.heap[w.heap.size]? = some o := (((Below.refl (w.alloc o).heap.size (w.alloc o)).alloc (Nat.le_refl _) o2).block _ (by simp)).trans (heap_alloc_new w o)
theorem ns_1 {w : World} {a o : Obj} : ((w.alloc a).alloc o).drew.heap[w.heap.size + 1]? = some o ∧ Below w.heap.size w ((w.alloc a).alloc o).drew := ⟨cs_2, (((Below.refl _ w).alloc (Nat.le_refl _) a).alloc (by simp) o).drew⟩
theorem ns_2 {w : World} {a o : Obj} : ((w.alloc o).alloc a).drew.heap[w.heap.size]? = some o ∧ Below w.heap.size w ((w.alloc o).alloc a).drew := ⟨cs_3, (((Below.refl _ w).alloc (Nat.le_refl _) o).alloc (by simp) a).drew⟩
theorem boxC_num {w : World} {b : Nat} {c : Ce} (h : w.heap[b]? = some (boxC c)) (n : Int) : (w.setCell ⟨b, 1, none⟩ (.int .i64 n)).heap[b]? = some (boxC ⟨c.kind, n, c.a, c.b⟩) := by
  unfold World.setCell
  simp only [Array.getElem?_modify, if_true]
  rw [h]
  rfl
theorem boxC_a {w : World} {b : Nat} {c : Ce} (h : w.heap[b]? = some (boxC c)) (d : Wd) : ((w.setCell ⟨b, 2, none⟩ (.int .i64 d.tag)).setCell ⟨b, 3, none⟩ (.int .i64 d.num)).heap[b]? = some (boxC ⟨c.kind, c.num, d, c.b⟩) := by
  unfold World.setCell
  simp only [Array.getElem?_modify, if_true]
  rw [h]
  rfl
theorem boxC_b {w : World} {b : Nat} {c : Ce} (h : w.heap[b]? = some (boxC c)) (d : Wd) : ((w.setCell ⟨b, 4, none⟩ (.int .i64 d.tag)).setCell ⟨b, 5, none⟩ (.int .i64 d.num)).heap[b]? = some (boxC ⟨c.kind, c.num, c.a, d⟩) := by
  unfold World.setCell
  simp only [Array.getElem?_modify, if_true]
  rw [h]
  rfl
theorem set_pair {w : World} {b i j c : Nat} {v0 v1 : Value} (hne : c ≠ b) : ((w.setCell ⟨b, i, none⟩ v0).setCell ⟨b, j, none⟩ v1).heap[c]? = w.heap[c]? := by
  rw [Below.heap_setCell _ _ _ _ hne, Below.heap_setCell _ _ _ _ hne]
/-- What stands while a cell is read: the pieces, the cell, the answer's box. -/
structure CS (w : World) (g b : Nat) (n : Nat) (C : List (List UInt8)) (c : Ce) (w' : World) : Prop where
  row : ∀ j (hj : j < C.length), w'.cell? ⟨g, j, none⟩ = some (.string (bx C[j]))
  box : w'.heap[b]? = some (boxC c)
  ans : w'.heap[n]? = some (boxC zeroC)
  below : Below w.heap.size w w'
  gs : g < w'.heap.size
theorem CS.keep {w w1 w2 : World} {g b n : Nat} {C : List (List UInt8)} {c : Ce} (h : CS w g b n C c w1) (hb : Below w1.heap.size w1 w2) : CS w g b n C c w2 :=
  ⟨fun j hj => (World.cell?_of_block (a := ⟨g, j, none⟩) (hb.block g h.gs)).trans (h.row j hj), box_keep h.box hb, box_keep h.ans hb, wi_next h.below hb, Nat.lt_of_lt_of_le h.gs hb.size⟩
theorem CS.setB {w w1 : World} {g b n : Nat} {C : List (List UInt8)} {c : Ce} (h : CS w g b n C c w1) (hg : g ≠ b) (hn : n ≠ b) (hw : w.heap.size ≤ b) (d : Wd) : CS w g b n C ⟨c.kind, c.num, c.a, d⟩ ((w1.setCell ⟨b, 4, none⟩ (.int .i64 d.tag)).setCell ⟨b, 5, none⟩ (.int .i64 d.num)) :=
  ⟨fun j hj => (World.cell?_of_block (a := ⟨g, j, none⟩) (set_pair hg)).trans (h.row j hj), boxC_b h.box d, (set_pair hn).trans h.ans, (h.below.setCell (p := ⟨b, 4, none⟩) hw _).setCell (p := ⟨b, 5, none⟩) hw _, by have := h.gs; simpa [World.setCell] using this⟩
theorem CS.setA {w w1 : World} {g b n : Nat} {C : List (List UInt8)} {c : Ce} (h : CS w g b n C c w1) (hg : g ≠ b) (hn : n ≠ b) (hw : w.heap.size ≤ b) (d : Wd) : CS w g b n C ⟨c.kind, c.num, d, c.b⟩ ((w1.setCell ⟨b, 2, none⟩ (.int .i64 d.tag)).setCell ⟨b, 3, none⟩ (.int .i64 d.num)) :=
  ⟨fun j hj => (World.cell?_of_block (a := ⟨g, j, none⟩) (set_pair hg)).trans (h.row j hj), boxC_a h.box d, (set_pair hn).trans h.ans, (h.below.setCell (p := ⟨b, 2, none⟩) hw _).setCell (p := ⟨b, 3, none⟩) hw _, by have := h.gs; simpa [World.setCell] using this⟩
/-- What the region leaves that finds the kind. -/
def Found (W0 : World) (x : Int) (s5 : Value) (wc : World) : Prop := ∃ b, s5 = .pointer (some ⟨b, 0, none⟩) ∧ W0.heap.size ≤ b ∧ wc.heap[b]? = some (boxC ⟨x, 0, ⟨0, 0⟩, ⟨0, 0⟩⟩) ∧ Below W0.heap.size W0 wc
set_option maxRecDepth 100000 in
set_option maxHeartbeats 4000000 in
theorem spec_l12Cell (line : List UInt8) (hl : line.length ≤ 1048576) (w : World) :
    Calls Tryz.prog 23 #[.string (bx line)] w fun r w' => r = .returned (.tuple #[(cellS line).1.val, .bool (cellS line).2]) ∧ Below w.heap.size w w' := by
  have hCu := spec_l1Cut line 32 3 hl (by omega) (w.alloc boxZ)
  have hc0 := (cutG_len 32 3 line).1
  have hcE : ∀ p ∈ cutG 32 3 line, p.length ≤ 1048576 := fun p hp => Nat.le_trans (cutG_each 32 3 _ p hp) hl
  unfold cellS
  generalize cutG 32 3 line = C at *
  obtain ⟨R, hR⟩ : ∃ R, R = piecesS C := ⟨_, rfl⟩
  rw [← hR]
  unfold piecesS at hR
  have hp0 : C.getD 0 [] = C[0]'hc0 := by rw [List.getD_eq_getElem?_getD, List.getElem?_eq_getElem hc0]; rfl
  rw [hp0] at hR
  have HR : Hid _ := hR
  clear hR hp0
  generalize bx line = tline at *
  go_enter Tryz.func23, Tryz.ntmps23
  go_upto_region 2 with (go_at_call 21; refine hCu.mono ?_; rintro r w3 ⟨⟨v4, rfl, hr4⟩, hb3⟩)
  obtain ⟨g, cap, rfl, hg, hgs, hrow⟩ := row_strs hr4 hc0
  have hB3 : Below w.heap.size w w3 := wi_next (wg_new _ _) hb3
  have hx3 : w3.heap[w.heap.size]? = some (boxC zeroC) := box_keep (heap_alloc_new w boxZ) hb3
  have hg1 : w.heap.size < g := by rw [World.size_alloc] at hg; omega
  have HROW : Hid (∀ j (hj : j < C.length), w3.cell? ⟨g, j, none⟩ = some (.string (bx C[j]))) := hrow
  have c7 := hrow 0 hc0
  have hFi : Hid (∀ (w : World) (g : Nat) (T : TypeId) (fr : Nat × Nat), w.heap[g]? = some (.cells kinds6 T fr) → Calls Tryz.prog 51 #[.slice (some ⟨g, 0, none⟩) 6 6, .string (bx (C[0]'hc0))] w fun r w' => r = .returned (.int .i64 (findK (C[0]'hc0))) ∧ w = w') := fun w g T fr h => spec_l1Find6 (C[0]'hc0) w g T fr h
  have hWo : Hid (∀ w, Calls Tryz.prog 52 #[] w fun r w' => r = .returned (.slice (some ⟨w.heap.size, 0, none⟩) 6 6) ∧ w' = w.alloc (.cells kinds6 9)) := fun w => spec_l12Kinds w
  have hxn := find_bd (C[0]'hc0)
  generalize hxx : findK (C[0]'hc0) = x at *
  clear hxx
  generalize kinds6 = CV at hFi hWo
  generalize htw : bx (C[0]'hc0) = tw at c7 hFi
  clear htw hr4 hrow hCu hg
  go_cut [5] (fun s5 wc => Found w3 x s5 wc)
  case first =>
    clear HR HROW hcE hb3 hB3 hx3 hg1 hxn
    go_region_with (first | (go_at_call 52; refine (hWo.out _).mono ?_; rintro e w4 ⟨rfl, rfl⟩) | (go_at_call 51; refine (hFi.out _ _ _ _ (by first | with_reducible exact cs_1 | with_reducible exact cs_2 | with_reducible exact cs_3)).mono ?_; rintro e w5 ⟨rfl, rfl⟩))
    all_goals
      go_wp2_with fail
      go_meet
      case rel =>
        first
          | exact ⟨_, rfl, Nat.le_succ _, ns_1.1, ns_1.2⟩
          | exact ⟨_, rfl, Nat.le_refl _, ns_2.1, ns_2.2⟩
  case rest =>
    obtain ⟨b, rfl, hbl, hbox, hbc⟩ := hcut
    have hz3 := hB3.size
    have S0 : CS w g b w.heap.size C ⟨x, 0, ⟨0, 0⟩, ⟨0, 0⟩⟩ wc := ⟨fun j hj => (World.cell?_of_block (a := ⟨g, j, none⟩) (hbc.block g hgs)).trans (HROW.out j hj), hbox, box_keep hx3 hbc, wi_next hB3 hbc, Nat.lt_of_lt_of_le hgs hbc.size⟩
    have hgb : g ≠ b := by omega
    have hnb : w.heap.size ≠ b := by omega
    have hwb : w.heap.size ≤ b := by omega
    clear hFi hWo c7 HROW hbox hbc hb3 hB3 hx3 hz3 hbl hgs
    obtain ⟨c0, c1, c2, c3, c4, c5⟩ := box_six S0.box
    obtain ⟨x0, x1, x2, x3, x4, x5⟩ := box_six S0.ans
    have f0 := box_froz S0.box
    have f1 := box_froz S0.ans
    by_cases hC3 : C.length = 3
    case neg =>
      have hRR : Hid (R = (⟨x, 0, ⟨0, 0⟩, ⟨0, 0⟩⟩, false)) := by show _ = _; rw [HR.out, if_pos (Or.inl hC3)]
      have hc3b : ((C.length : Int) != 3) = true := by simp; omega
      have hc3i : ¬ (C.length : Int) = 3 := by omega
      have hBB := S0.below
      clear HR hcE S0 hC3
      go_wp2_with fail
      refine bodyPost_ret (v := .tuple #[R.1.val, .bool R.2]) (by rw [hRR.out]; simp [results, Tryz.results23, go_sem, x0, x1, x2, x3, x4, x5]) rfl ⟨rfl, ?_⟩
      repeat (refine Below.setCell ?_ (by dsimp only; omega) _)
      exact hBB
    obtain ⟨p, q, r, rfl⟩ := three_of hC3
    have hc3b : (((3 : Nat) : Int) != 3) = false := by decide
    by_cases hx1 : x < 1
    · have hRR : Hid (R = (⟨x, 0, ⟨0, 0⟩, ⟨0, 0⟩⟩, false)) := by show _ = _; rw [HR.out, if_pos (Or.inr hx1)]
      have hBB := S0.below
      clear HR hcE S0
      go_wp2_with fail
      refine bodyPost_ret (v := .tuple #[R.1.val, .bool R.2]) (by rw [hRR.out]; simp [results, Tryz.results23, go_sem, x0, x1, x2, x3, x4, x5]) rfl ⟨rfl, ?_⟩
      repeat (refine Below.setCell ?_ (by dsimp only; omega) _)
      exact hBB
    have hRest : Hid (R = if 4 ≤ x then (⟨x, numM q, ⟨0, 0⟩, (wordS r).1⟩, (wordS r).2) else (⟨x, 0, (wordS q).1, (wordS r).1⟩, (wordS r).2 && (wordS q).2)) := by
      show _ = _
      rw [HR.out, if_neg (fun h => h.elim (fun e => e rfl) (fun e => hx1 e))]
      rfl
    have hGr := fun w' => spec_l12Get r (hcE r (by simp)) w'
    have hGq := fun w' => spec_l12Get q (hcE q (by simp)) w'
    have hNq := fun w' => spec_l1Num q (hcE q (by simp)) w'
    generalize wordS r = rr at *
    generalize wordS q = qq at *
    generalize numM q = nq at *
    obtain ⟨br, okr⟩ := rr
    obtain ⟨aq, okq⟩ := qq
    have r2 : wc.cell? ⟨g, 2, none⟩ = some (.string (bx r)) := S0.row 2 (by simp)
    have hR1 : ∀ {w'}, CS w g b w.heap.size [p, q, r] ⟨x, 0, ⟨0, 0⟩, br⟩ w' → w'.cell? ⟨g, 1, none⟩ = some (.string (bx q)) := fun h => h.row 1 (by simp)
    generalize bx r = tr at *
    generalize bx q = tq at *
    clear HR hcE
    go_upto_region 6 with (go_at_call 22; refine (hGr _).mono ?_; rintro e w4 ⟨rfl, hb4⟩)
    have S4 := S0.keep hb4
    have S5 := S4.setB hgb hnb hwb br
    have S6 := S5.keep (wg_new _ (boxW br))
    have hbs := (Array.getElem?_eq_some_iff.1 S4.box).1
    have hne4 : b ≠ w4.heap.size := by omega
    clear c0 c1 c2 c3 c4 c5 x0 x1 x2 x3 x4 x5 f0 f1
    obtain ⟨c0, c1, c2, c3, c4, c5⟩ := box_six S4.box
    have f0 := box_froz S4.box
    go_upto_region 7 with fail
    clear c0 c1 c2 c3 c4 c5 f0 hb4 hbs S4 S5 S0 r2
    generalize ((w4.setCell ⟨b, 4, none⟩ (.int .i64 br.tag)).setCell ⟨b, 5, none⟩ (.int .i64 br.num)).alloc (boxW br) = V at *
    obtain ⟨c0, c1, c2, c3, c4, c5⟩ := box_six S6.box
    have f0 := box_froz S6.box
    have r1 := hR1 S6
    by_cases h4 : 4 ≤ x
    · have hRR : Hid (R = (⟨x, nq, ⟨0, 0⟩, br⟩, okr)) := by show _ = _; rw [hRest.out, if_pos h4]
      clear hRest hGq hGr
      obtain ⟨x0, x1, x2, x3, x4, x5⟩ := box_six S6.ans
      have f1 := box_froz S6.ans
      have hBB := S6.below
      go_wp2_with (go_at_call 49; refine (hNq _).mono ?_; rintro e w5 ⟨rfl, rfl⟩)
      refine bodyPost_ret (v := .tuple #[R.1.val, .bool R.2]) (by rw [hRR.out]; simp [results, Tryz.results23, go_sem, x0, x1, x2, x3, x4, x5]) rfl ⟨rfl, ?_⟩
      repeat (refine Below.setCell ?_ (by dsimp only; omega) _)
      exact hBB
    · have hRR : Hid (R = (⟨x, 0, aq, br⟩, okr && okq)) := by show _ = _; rw [hRest.out, if_neg h4]
      clear hRest hNq hGr
      go_upto_region 11 with (go_at_call 22; refine (hGq _).mono ?_; rintro e w5 ⟨rfl, hb5⟩)
      have S7 := S6.keep hb5
      have hbs := (Array.getElem?_eq_some_iff.1 S7.box).1
      have hne5 : b ≠ w5.heap.size := by omega
      have has := (Array.getElem?_eq_some_iff.1 S7.ans).1
      have hne6 : w.heap.size ≠ w5.heap.size := by omega
      clear c0 c1 c2 c3 c4 c5 f0
      obtain ⟨c0, c1, c2, c3, c4, c5⟩ := box_six S7.box
      have f0 := box_froz S7.box
      have S8 := (S7.setA hgb hnb hwb aq).keep (wg_new _ (boxW aq))
      go_upto_region 12 with fail
      clear c0 c1 c2 c3 c4 c5 f0 hb5 hbs has S7 S6 hR1
      generalize ((w5.setCell ⟨b, 2, none⟩ (.int .i64 aq.tag)).setCell ⟨b, 3, none⟩ (.int .i64 aq.num)).alloc (boxW aq) = V2 at *
      obtain ⟨c0, c1, c2, c3, c4, c5⟩ := box_six S8.box
      have f0 := box_froz S8.box
      obtain ⟨x0, x1, x2, x3, x4, x5⟩ := box_six S8.ans
      have f1 := box_froz S8.ans
      have hBB := S8.below
      cases okr
      all_goals
        go_wp2_with fail
        refine bodyPost_ret (v := .tuple #[R.1.val, .bool R.2]) (by rw [hRR.out]; simp [results, Tryz.results23, go_sem, x0, x1, x2, x3, x4, x5]) rfl ⟨rfl, ?_⟩
        repeat (refine Below.setCell ?_ (by dsimp only; omega) _)
        exact hBB
end Go.Proofs.YthikfinliiaecaaGreatDoor

