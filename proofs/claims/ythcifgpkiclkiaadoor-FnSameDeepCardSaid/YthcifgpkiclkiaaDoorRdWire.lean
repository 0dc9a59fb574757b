/-
  What DrawWirePut draws: some cells, a word.
-/
import Derived.Test.YthcifgpkiclkiaaDoorRdOpened
namespace Go.Proofs.YthcifgpkiclkiaaDoor
open Go.RowKit

set_option maxRecDepth 100000 in
set_option maxHeartbeats 2000000 in
theorem spec_DrawWirePutB (w : World) (len : Nat) (v : Value) (hv : Bytes w w.heap.size len v) :
    Calls Tryd.prog 8 #[v] w fun r w' => ∃ (cs : List Ce) (d : Wd) (vc : Value), r = .returned (.tuple #[vc, .agg #[.int .i64 d.tag, .int .i64 d.num]]) ∧ cs.length ≤ 20 ∧ Cells w' (fun b => w.heap.size ≤ b ∧ b < w'.heap.size) cs vc ∧ Below w.heap.size w w' := by
  have hv1 : ∀ o, Bytes (w.alloc o) (w.alloc o).heap.size len v := fun o => hv.keep ((Below.refl _ _).alloc (Nat.le_refl _) o) (by simp)
  have hB1 : ∀ o, Below w.heap.size w (w.alloc o) := fun o => (Below.refl _ _).alloc (Nat.le_refl _) o
  have hfin : ∀ (w' : World) (t z : Int) (cs : List Ce) (vc : Value), Below w.heap.size w w' → OwnR 6 Ce.cells 30 w' (w.heap.size + 1) cs vc → cs.length ≤ 20 → Cells ((w'.setCell ⟨w.heap.size, 0, none⟩ (.int .i64 t)).setCell ⟨w.heap.size, 1, none⟩ (.int .i64 z)) (fun b => w.heap.size ≤ b ∧ b < ((w'.setCell ⟨w.heap.size, 0, none⟩ (.int .i64 t)).setCell ⟨w.heap.size, 1, none⟩ (.int .i64 z)).heap.size) cs vc ∧ Below w.heap.size w ((w'.setCell ⟨w.heap.size, 0, none⟩ (.int .i64 t)).setCell ⟨w.heap.size, 1, none⟩ (.int .i64 z)) := fun w' t z cs vc hB hO _ =>
    ⟨(OwnR.row hO ce_len).same fun b hb => ⟨set_twoV (by omega), ⟨by omega, by have := hb.2; simpa [World.setCell] using this⟩⟩, (hB.setCell (p := ⟨w.heap.size, 0, none⟩) (Nat.le_refl _) _).setCell (p := ⟨w.heap.size, 1, none⟩) (Nat.le_refl _) _⟩
  go_enter Tryd.func8, Tryd.ntmps8
  go_upto_region 3 with (first
    | (go_at_call 18; refine (spec_l20Open _ len _ (hv1 _)).mono ?_; rintro r w2 ⟨v', len', rfl, hv', hle, rfl⟩; have hR2 : Rd ((w.alloc (boxV ⟨0, 0⟩)).alloc (.cells #[v', .int .i64 0] 62)) (w.heap.size + 1) 0 := (by simpa using rd_openedW hv' hle); have hB2 : Below w.heap.size w ((w.alloc (boxV ⟨0, 0⟩)).alloc (.cells #[v', .int .i64 0] 62)) := (hB1 _).alloc (by simp) _; have hx2 : ((w.alloc (boxV ⟨0, 0⟩)).alloc (.cells #[v', .int .i64 0] 62)).heap[w.heap.size]? = some (boxV ⟨0, 0⟩) := ((below_new (w.alloc (boxV ⟨0, 0⟩)) _).block _ (by simp)).trans (heap_alloc_new w _))
    | (go_at_call 19; refine (rd_heap _ (w.heap.size + 1) 0 hR2 (by omega)).mono ?_; rintro r w3 ⟨cs, vc, rfl, hcl, hO3, hR3, hg3⟩; have hB3 := below_butW hB2 hg3 (by omega); have hx3 := (hg3.block w.heap.size (by simp; omega) (by simp)).trans hx2; (obtain ⟨a3, cap3, rfl⟩ : ∃ a cap, vc = .slice a cs.length cap := (hO3.row ce_len).slice)))
  have hO3' : OwnR 6 Ce.cells 30 w3 (w.heap.size + 1) cs (.slice a3 cs.length cap3) := ow_base hO3 (by simp)
  have hgl : w.heap.size + 1 < w3.heap.size := hR3.lt
  have hxs : w.heap.size < w3.heap.size := by omega
  have hge : ∀ b, (Value.slice a3 cs.length cap3).ownBlock = some b → w.heap.size + 2 ≤ b := fun b hb => by have := (hO3.lt b hb).1; simpa using this
  have hO4 : ∀ w4, w3.grownBy w4 (some (w.heap.size + 1)) → OwnR 6 Ce.cells 30 w4 (w.heap.size + 1) cs (.slice a3 cs.length cap3) := fun w4 hg => ow_base (rd_but hO3 hg (by simp)) (by simp)
  have hB4 : ∀ w4, w3.grownBy w4 (some (w.heap.size + 1)) → Below w.heap.size w w4 := fun w4 hg => below_butW hB3 hg (by omega)
  have hx4 : ∀ w4, w3.grownBy w4 (some (w.heap.size + 1)) → w4.heap[w.heap.size]? = some (boxV ⟨0, 0⟩) := fun w4 hg => (hg.block w.heap.size hxs (by simp)).trans hx3
  clear hx2 hB2 hR2 hg3 hO3 hv hv1
  by_cases h0 : cs.length = 0
  · have hli : ¬ (0 : Int) < (cs.length : Int) := by omega
    clear h0
    go_wp2_with (go_at_call 21; refine (rd_word _ (w.heap.size + 1) _ _ hR3 (by omega) (by omega)).mono ?_; rintro r w4 ⟨t, z, rfl, hR4, hg4⟩; (obtain ⟨⟨k0, k1⟩, kf⟩ := boxV_two (hx4 _ hg4)))
    obtain ⟨f1, f2⟩ := hfin w4 t z cs _ (hB4 _ hg4) (hO4 _ hg4) hcl
    exact bodyPost_ret (v := .tuple #[.slice a3 cs.length cap3, .agg #[.int .i64 t, .int .i64 z]]) (by simp [results, Tryd.results8, go_sem, k0, k1]) rfl ⟨cs, ⟨t, z⟩, _, rfl, hcl, f1, f2⟩
  · have hli : (0 : Int) < (cs.length : Int) := by omega
    have wr1 : IntKind.i64.wrap ((cs.length : Int) - 1) = (cs.length : Int) - 1 := by simp [IntKind.wrap, IntKind.bits, IntKind.signed]; omega
    go_upto_if 17 with (go_at_call 20; refine (rd_pickZ _ (w.heap.size + 1) _ _ hR3 (by omega) (by omega) (by omega)).mono ?_; rintro r w4 ⟨y, rfl, _, hR4, hg4⟩)
    obtain ⟨⟨k0, k1⟩, kf⟩ := boxV_two (hx4 _ hg4)
    by_cases hy : 0 < y
    · have hyi : (0 : Int) < (y : Int) := by omega
      go_wp2_with fail
      obtain ⟨f1, f2⟩ := hfin w4 4 ((cs.length : Int) - 1) cs _ (hB4 _ hg4) (hO4 _ hg4) hcl
      exact bodyPost_ret (v := .tuple #[.slice a3 cs.length cap3, .agg #[.int .i64 4, .int .i64 ((cs.length : Int) - 1)]]) (by simp [results, Tryd.results8, go_sem, k0, k1]) rfl ⟨cs, ⟨4, (cs.length : Int) - 1⟩, _, rfl, hcl, f1, f2⟩
    · have hyi : ¬ (0 : Int) < (y : Int) := by omega
      clear k0 k1 kf
      go_wp2_with (go_at_call 21; refine (rd_word _ (w.heap.size + 1) _ _ hR4 (by omega) (by omega)).mono ?_; rintro r w5 ⟨t, z, rfl, hR5, hg5⟩; have hg45 := ow_grown_trans hg4 hg5; (obtain ⟨⟨k0, k1⟩, kf⟩ := boxV_two (hx4 _ hg45)))
      obtain ⟨f1, f2⟩ := hfin w5 t z cs _ (hB4 _ hg45) (hO4 _ hg45) hcl
      exact bodyPost_ret (v := .tuple #[.slice a3 cs.length cap3, .agg #[.int .i64 t, .int .i64 z]]) (by simp [results, Tryd.results8, go_sem, k0, k1]) rfl ⟨cs, ⟨t, z⟩, _, rfl, hcl, f1, f2⟩
theorem spec_DrawWirePut (w : World) (len : Nat) (v : Value) (hv : Bytes w w.heap.size len v) :
    Calls Tryd.prog 8 #[v] w fun r w' => ∃ (cs : List Ce) (d : Wd) (vc : Value), r = .returned (.tuple #[vc, .agg #[.int .i64 d.tag, .int .i64 d.num]]) ∧ cs.length ≤ 20 ∧ Cells w' (· < w'.heap.size) cs vc ∧ Below w.heap.size w w' :=
  (spec_DrawWirePutB w len v hv).mono fun _ _ ⟨cs, d, vc, h1, h2, h3, h4⟩ => ⟨cs, d, vc, h1, h2, h3.same fun _ hb => ⟨rfl, hb.2⟩, h4⟩
end Go.Proofs.YthcifgpkiclkiaaDoor
