/-
  What DrawSameDeep draws: some cells, a word.
-/
import Derived.Test.YthcifgpkiclkiaaDoorRdWire
namespace Go.Proofs.YthcifgpkiclkiaaDoor
open Go.RowKit

set_option maxRecDepth 100000 in
set_option maxHeartbeats 1000000 in
theorem spec_DrawSameDeep (w : World) (len : Nat) (v : Value) (hv : Bytes w w.heap.size len v) :
    Calls Tryd.prog 4 #[v] w fun r w' => ∃ (cs : List Ce) (d : Wd) (vc : Value), r = .returned (.tuple #[vc, .agg #[.int .i64 d.tag, .int .i64 d.num]]) ∧ cs.length ≤ 20 ∧ Cells w' (· < w'.heap.size) cs vc ∧ Below w.heap.size w w' := by
  have hv1 : Bytes (w.alloc (boxV ⟨0, 0⟩)) (w.alloc (boxV ⟨0, 0⟩)).heap.size len v := hv.keep ((Below.refl _ _).alloc (Nat.le_refl _) _) (by simp)
  have hx1 : (w.alloc (boxV ⟨0, 0⟩)).heap[w.heap.size]? = some (boxV ⟨0, 0⟩) := heap_alloc_new w _
  have hB1 : Below w.heap.size w (w.alloc (boxV ⟨0, 0⟩)) := (Below.refl _ _).alloc (Nat.le_refl _) _
  have hz1 : (w.alloc (boxV ⟨0, 0⟩)).heap.size = w.heap.size + 1 := by simp
  have hD := spec_DrawWirePutB (w.alloc (boxV ⟨0, 0⟩)) len v hv1
  have KX : Hid (∀ w2, Below (w.alloc (boxV ⟨0, 0⟩)).heap.size (w.alloc (boxV ⟨0, 0⟩)) w2 → w2.heap[w.heap.size]? = some (boxV ⟨0, 0⟩)) := fun w2 h => (h.block _ (by omega)).trans hx1
  go_enter Tryd.func4, Tryd.ntmps4
  go_wp2_with (go_at_call 8; refine hD.mono ?_; rintro r w2 ⟨cs, d, vc, rfl, hcl, hC, hB2⟩; (obtain ⟨⟨k0, k1⟩, kf⟩ := boxV_two (KX.out _ hB2)))
  refine bodyPost_ret (v := .tuple #[vc, .agg #[.int .i64 d.tag, .int .i64 d.num]]) (by simp [results, Tryd.results4, go_sem, k0, k1]) rfl ⟨cs, d, _, rfl, hcl, hC.same fun b hb => ⟨set_twoV (by omega), by have := hb.2; simpa [World.setCell] using this⟩, ?_⟩
  have hB3 := hB1.trans (hB2.mono hB1.size)
  exact (hB3.setCell (p := ⟨w.heap.size, 0, none⟩) (Nat.le_refl _) _).setCell (p := ⟨w.heap.size, 1, none⟩) (Nat.le_refl _) _
end Go.Proofs.YthcifgpkiclkiaaDoor
