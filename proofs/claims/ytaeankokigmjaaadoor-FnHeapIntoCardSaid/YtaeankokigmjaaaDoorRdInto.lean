/-
  What DrawHeapInto draws: some cells, a word, and other cells.
-/
import Derived.Test.YtaeankokigmjaaaDoorRdHeap
import Derived.Test.YtaeankokigmjaaaDoorRdOpen
namespace Go.Proofs.YtaeankokigmjaaaDoor
open Go.RowKit

theorem rd_openedI {w : World} {len : Nat} {v : Value} (hv : Bytes w w.heap.size len v) (hlen : len ≤ 2000) : Rd (w.alloc (.cells #[v, .int .i64 0] 59)) w.heap.size 0 := by
  obtain ⟨a, cap, rfl, _, _, h3⟩ := hv
  have key : ∀ j, (w.alloc (.cells #[.slice a len cap, .int .i64 0] 59)).cell? ⟨w.heap.size, j, none⟩ = (#[.slice a len cap, .int .i64 0] : Array Value)[j]? := fun j => cell_of_row _ _ _ _ _ _ (heap_alloc_new w _)
  refine ⟨a, len, cap, 0, hlen, Nat.le_refl _, by simp, key 0, key 1, by simp, fun i hi => ?_⟩
  obtain ⟨b, off, x, ha, hb, hc, hx⟩ := h3 i hi
  exact ⟨b, off, x, ha, hb, by rw [((Below.refl _ _).alloc (Nat.le_refl _) _ : Below w.heap.size w _).cell (p := ⟨b, off + i, none⟩) hb]; exact hc, hx⟩
theorem below_but {w w1 w2 : World} {g : Nat} (h : Below w.heap.size w w1) (hg : w1.grownBy w2 (some g)) (hB : w.heap.size ≤ g) : Below w.heap.size w w2 :=
  h.grown hg h.size (fun k hk => by cases hk; exact hB)

set_option maxRecDepth 100000 in
set_option maxHeartbeats 2000000 in
theorem spec_DrawHeapInto (w : World) (len : Nat) (v : Value) (hv : Bytes w w.heap.size len v) :
    Calls Tryd.prog 4 #[v] w fun r w' => ∃ (cs tl : List Ce) (d : Wd) (vc vt : Value), r = .returned (.tuple #[vc, .agg #[.int .i64 d.tag, .int .i64 d.num], vt]) ∧ cs.length ≤ 20 ∧ tl.length ≤ 117 ∧ Cells w' (· < w'.heap.size) cs vc ∧ Cells w' (· < w'.heap.size) tl vt ∧ Below w.heap.size w w' := by
  obtain ⟨i0, hi, hz0, hz1, hz2⟩ := info_parts ceInfo
  have hv1 : ∀ o, Bytes (w.alloc o) (w.alloc o).heap.size len v := fun o => hv.keep ((Below.refl _ _).alloc (Nat.le_refl _) o) (by simp)
  have hB1 : ∀ o, Below w.heap.size w (w.alloc o) := fun o => (Below.refl _ _).alloc (Nat.le_refl _) o
  go_enter Tryd.func4, Tryd.ntmps4
  go_upto_if 21 with (first
    | (go_at_call 11; refine (spec_l20Open _ len _ (hv1 _)).mono ?_; rintro r w2 ⟨v', len', rfl, hv', hle, rfl⟩; have hR2 : Rd ((w.alloc (.cells #[.int .i64 0, .int .i64 0] 25)).alloc (.cells #[v', .int .i64 0] 59)) (w.heap.size + 1) 0 := (by simpa using rd_openedI hv' hle); have hB2 : Below w.heap.size w ((w.alloc (.cells #[.int .i64 0, .int .i64 0] 25)).alloc (.cells #[v', .int .i64 0] 59)) := (hB1 _).alloc (by simp) _)
    | (go_at_call 12; first
      | (refine (rd_heap _ (w.heap.size + 1) _ (rd_alloc hR4 _) (by omega)).mono ?_; rintro r w5 ⟨tl, vt, rfl, htl, hO5, hR5, hg5⟩)
      | (refine (rd_heap _ (w.heap.size + 1) 0 hR2 (by omega)).mono ?_; rintro r w3 ⟨cs, vc, rfl, hcl, hO3, hR3, hg3⟩; have hB3 := below_but hB2 hg3 (by omega); (obtain ⟨a3, cap3, rfl⟩ : ∃ a cap, vc = .slice a cs.length cap := (hO3.row ce_len).slice)))
    | (go_at_call 13; refine (rd_word _ (w.heap.size + 1) _ _ hR3 (by omega) (by omega)).mono ?_; rintro r w4 ⟨t, z, rfl, hR4, hg4⟩; have hB4 := below_but hB3 hg4 (by omega))
    | (go_at_call 14; refine (rd_pickZ _ (w.heap.size + 1) _ _ hR5 (by omega) (by omega) (by omega)).mono ?_; rintro r w6 ⟨y, rfl, _, hR6, hg6⟩))
  have hgl3 := hR3.lt
  have hz4 := hg4.size
  have hg56 := ow_grown_trans hg5 hg6
  have hB5 : Below w.heap.size w (w4.alloc (.cells #[.int .i64 t, .int .i64 z] 25)) := hB4.alloc hB4.size _
  have hB6 := below_but hB5 hg56 (by omega)
  obtain ⟨D0, D1⟩ : w6.cell? ⟨w4.heap.size, 0, none⟩ = some (.int .i64 t) ∧ w6.cell? ⟨w4.heap.size, 1, none⟩ = some (.int .i64 z) := by
    have key : ∀ j, (w4.alloc (.cells #[.int .i64 t, .int .i64 z] 25)).cell? ⟨w4.heap.size, j, none⟩ = (#[.int .i64 t, .int .i64 z] : Array Value)[j]? := fun j => cell_of_row _ _ _ _ _ _ (heap_alloc_new w4 _)
    exact ⟨but_cell hg56 (by simp) (by omega) (key 0), but_cell hg56 (by simp) (by omega) (key 1)⟩
  have hR0 : w6.heap[w.heap.size]? = some (.cells #[.int .i64 0, .int .i64 0] 25) := by
    rw [hg56.block w.heap.size (by simp; omega) (by simp), (below_new w4 _).block w.heap.size (by omega), hg4.block w.heap.size (by omega) (by simp), hg3.block w.heap.size (by simp; omega) (by simp)]
    rw [((Below.refl _ _).alloc (Nat.le_refl _) _ : Below (w.alloc (.cells #[.int .i64 0, .int .i64 0] 25)).heap.size (w.alloc (.cells #[.int .i64 0, .int .i64 0] 25)) _).block w.heap.size (by simp)]
    exact heap_alloc_new w _
  have hrow : RowOf 6 Ce.cells w6 (fun b => w.heap.size + 2 ≤ b ∧ b < w4.heap.size) cs (.slice a3 cs.length cap3) := by
    refine (OwnR.row (rd_but hO3 hg4 (by simp)) ce_len).same fun b hb => ?_
    obtain ⟨h1, h2⟩ := hb
    simp at h1
    exact ⟨by rw [hg56.block b (by simp; omega) (by simp; omega)]; exact (below_new w4 _).block b h2, by omega, h2⟩
  have hT6 : OwnR 6 Ce.cells 43 w6 (w4.heap.size + 1) tl vt := ow_base (rd_but hO5 hg6 (by simp; omega)) (by simp)
  have hz6 : w4.heap.size + 1 ≤ w6.heap.size := by have := hg56.size; simpa using this
  clear hO3 hO5 hR2 hR3 hR4 hR5 hR6 hg3 hg4 hg5 hg6 hg56 hB2 hB3 hB4 hB5
  go_cut [8] from 22 (fun s8 wx => ∃ tl2 : List Ce, tl2.length ≤ 117 ∧ OwnR 6 Ce.cells 43 wx (w4.heap.size + 1) tl2 s8 ∧ Below (w4.heap.size + 1) w6 wx)
  case first =>
    by_cases hy : y = 0
    · subst hy
      go_wp2_with fail
      go_loopg [8] (117 - tl.length) (fun k v wr => ∃ tl2 : List Ce, tl2.length + k = 117 ∧ OwnR 6 Ce.cells 43 wr (w4.heap.size + 1) tl2 v ∧ Below (w4.heap.size + 1) w6 wr)
      case atStart => exact ⟨tl, by omega, hT6, Below.refl _ _⟩
      case round =>
        obtain ⟨tl2, hk, hO, hB⟩ := hrel
        have hzr := hB.size
        obtain ⟨a8, cap8, rfl⟩ : ∃ a cap, u8 = .slice a tl2.length cap := (hO.row ce_len).slice
        by_cases hlt : tl2.length < 117
        · have hli : (tl2.length : Int) < 117 := by omega
          go_wp2_with (at_builtin; refine wpList_append_own _ rfl _ _ 23 rfl (w4.heap.size + 1) 43 i0 (.agg #[.int .i64 0, .int .i64 0, .int .i64 0, .int .i64 0, .int .i64 0, .int .i64 0]) 6 48 Tryd.underlying23 hi hz0 hz1 hz2 rfl (by decide) _ _ _ rfl (World.ownsRow.alloc hO _) ⟨wr.heap.size, 0, none⟩ 1 1 [.int .i64 1, .int .i64 0, .int .i64 0, .int .i64 0, .int .i64 0, .int .i64 0] rfl rfl (ow_cells_new _ _ _) (rd_six _ _ _ _ _ _) (by unfold maxLen; omega) (by omega) (by simp; omega) ?_; intro v9 w9 hO9 hG9 hN9)
          go_roundg (gk - 1)
          case measure => omega
          case rel => exact ⟨tl2 ++ [(⟨1, 0, ⟨0, 0⟩, ⟨0, 0⟩⟩ : Ce)], by simp; omega, OwnR.snoc (x := (⟨1, 0, ⟨0, 0⟩, ⟨0, 0⟩⟩ : Ce)) hO9, (hB.alloc (by omega) _).grown hG9 (by simp; omega) (fun k hk => (hO.lt k hk).1)⟩
        · have hli : ¬ (tl2.length : Int) < 117 := by omega
          go_wp2_with fail
          go_meet
          case rel => exact ⟨tl2, by omega, hO, hB⟩
    · have hyb : ((y : Int) == 0) = false := by simp; omega
      go_wp2_with fail
      go_meet
      case rel => exact ⟨tl, by omega, hT6, Below.refl _ _⟩
  case rest =>
    obtain ⟨tl2, hl2, hO, hB⟩ := hcut
    have hzc := hB.size
    have q0 : wc.cell? ⟨w4.heap.size, 0, none⟩ = some (.int .i64 t) := by rw [hB.cell (p := ⟨w4.heap.size, 0, none⟩) (by dsimp only; omega)]; exact D0
    have q1 : wc.cell? ⟨w4.heap.size, 1, none⟩ = some (.int .i64 z) := by rw [hB.cell (p := ⟨w4.heap.size, 1, none⟩) (by dsimp only; omega)]; exact D1
    have hRc : wc.heap[w.heap.size]? = some (.cells #[.int .i64 0, .int .i64 0] 25) := by rw [hB.block w.heap.size (by omega)]; exact hR0
    have k0 : wc.cell? ⟨w.heap.size, 0, none⟩ = some (.int .i64 0) := by rw [cell_of_row _ _ _ _ _ _ hRc]; rfl
    have k1 : wc.cell? ⟨w.heap.size, 1, none⟩ = some (.int .i64 0) := by rw [cell_of_row _ _ _ _ _ _ hRc]; rfl
    have kf : ∀ o, wc.frozen? ⟨w.heap.size, o, none⟩ = false := fun o => by unfold World.frozen?; rw [hRc]; simp
    have hne : w.heap.size ≠ w4.heap.size := by omega
    obtain ⟨a8, cap8, rfl⟩ : ∃ a cap, u8 = .slice a tl2.length cap := (hO.row ce_len).slice
    go_upto_region 8 with fail
    go_region_held3 (fun w' => w'.cell? ⟨w4.heap.size, 0, none⟩ = some (.int .i64 t) ∧ w'.cell? ⟨w4.heap.size, 1, none⟩ = some (.int .i64 z)) (first | go_keep | exact ⟨q0, q1⟩) (fail)
    go_wp2_with fail
    have hS : ∀ b, w.heap.size < b → (((wc.setCell ⟨w.heap.size, 0, none⟩ (.int .i64 t)).setCell ⟨w.heap.size, 1, none⟩ (.int .i64 z)).drew).heap[b]? = wc.heap[b]? := fun b hb => by
      show ((wc.setCell _ _).setCell _ _).heap[b]? = _
      rw [Below.heap_setCell _ _ _ _ (by show b ≠ w.heap.size; omega), Below.heap_setCell _ _ _ _ (by show b ≠ w.heap.size; omega)]
    have hsz : (((wc.setCell ⟨w.heap.size, 0, none⟩ (.int .i64 t)).setCell ⟨w.heap.size, 1, none⟩ (.int .i64 z)).drew).heap.size = wc.heap.size := by
      show ((wc.setCell _ _).setCell _ _).heap.size = _
      rw [set_size, set_size]
    have e0 : (((wc.setCell ⟨w.heap.size, 0, none⟩ (.int .i64 t)).setCell ⟨w.heap.size, 1, none⟩ (.int .i64 z)).drew).cell? ⟨w.heap.size, 0, none⟩ = some (.int .i64 t) := by
      show ((wc.setCell _ _).setCell _ _).cell? _ = _
      rw [set_ne (by omega)]; exact World.cell?_setCell_same _ _ _ k0
    have e1 : (((wc.setCell ⟨w.heap.size, 0, none⟩ (.int .i64 t)).setCell ⟨w.heap.size, 1, none⟩ (.int .i64 z)).drew).cell? ⟨w.heap.size, 1, none⟩ = some (.int .i64 z) := by
      show ((wc.setCell _ _).setCell _ _).cell? _ = _
      exact World.cell?_setCell_same _ _ _ (by rw [set_ne (by omega)]; exact k1)
    have hBf : Below w.heap.size w (((wc.setCell ⟨w.heap.size, 0, none⟩ (.int .i64 t)).setCell ⟨w.heap.size, 1, none⟩ (.int .i64 z)).drew) :=
      (((hB6.trans (hB.mono (by omega))).setCell (p := ⟨w.heap.size, 0, none⟩) (Nat.le_refl _) _).setCell (p := ⟨w.heap.size, 1, none⟩) (Nat.le_refl _) _).drew
    generalize ((wc.setCell ⟨w.heap.size, 0, none⟩ (.int .i64 t)).setCell ⟨w.heap.size, 1, none⟩ (.int .i64 z)).drew = wf at *
    refine bodyPost_ret (v := .tuple #[.slice a3 cs.length cap3, .agg #[.int .i64 t, .int .i64 z], .slice a8 tl2.length cap8]) (by simp [results, Tryd.results4, go_sem, e0, e1]) rfl ⟨cs, tl2, ⟨t, z⟩, _, _, rfl, hcl, hl2, ?_, ?_, hBf⟩
    · refine hrow.same fun b hb => ?_
      obtain ⟨h1, h2⟩ := hb
      exact ⟨by rw [hS b (by omega)]; exact hB.block b (by omega), by show b < wf.heap.size; omega⟩
    · refine (OwnR.row hO ce_len).same fun b hb => ?_
      obtain ⟨h1, h2⟩ := hb
      exact ⟨hS b (by omega), by show b < wf.heap.size; omega⟩
end Go.Proofs.YtaeankokigmjaaaDoor
