/-
  The law's own toWord, eqWord, toCell, eqCell.
-/
import Derived.Test.YtpocmljbfcenfaaRows
import Derived.Test.YtpocmljbfcenfaaCeWords
import Derived.WalkKit
import Derived.WalkSpells
import Derived.WalkLawsBesides
import Derived.RowKit3
import Derived.Deep.RegionWith
namespace Go.Proofs.Ytpocmljbfcenfaa
open Go.RowKit

set_option maxHeartbeats 400000 in
theorem law_toWord (t n : Int) (w : World) : Calls Try.prog 7 #[.agg #[.int .i64 t, .int .i64 n]] w fun r w' => r = .returned (.agg #[.int .i64 t, .int .i64 n]) ∧ Below w.heap.size w w' := by
  go_enter Try.func7, Try.ntmps7
  go_wp2_with fail
  refine bodyPost_ret (v := .agg #[.int .i64 t, .int .i64 n]) (by simp [results, Try.results7, go_sem]) rfl ⟨rfl, ?_⟩
  repeat (refine Below.setCell ?_ (by dsimp only; omega) _)
  exact (((Below.refl _ _).alloc (Nat.le_refl _) _).alloc (by simp) _).alloc (by simp; omega) _

set_option maxHeartbeats 400000 in
theorem law_eqWord (t n : Int) (w : World) : Calls Try.prog 24 #[.agg #[.int .i64 t, .int .i64 n], .agg #[.int .i64 t, .int .i64 n]] w fun r w' => r = .returned (.bool true) ∧ Below w.heap.size w w' := by
  go_enter Try.func24, Try.ntmps24
  go_wp2_with fail
  go_ret
  exact ⟨rfl, ((Below.refl _ _).alloc (Nat.le_refl _) _).alloc (by simp) _⟩

set_option maxHeartbeats 400000 in
theorem law_eqCell (c : Ce) (w : World) : Calls Try.prog 17 #[c.val, c.val] w fun r w' => r = .returned (.bool true) ∧ Below w.heap.size w w' := by
  go_enter Try.func17, Try.ntmps17
  go_wp2_with (first | (go_at_call_of 24 c.a.tag; refine (law_eqWord c.a.tag c.a.num _).mono ?_; rintro r w2 ⟨rfl, hb2⟩; obtain ⟨hc, hf⟩ := rw_cell hb2; have hz := hb2.size; simp at hz) | (go_at_call_of 24 c.b.tag; refine (law_eqWord c.b.tag c.b.num _).mono ?_; rintro r w3 ⟨rfl, hb3⟩))

  go_ret
  exact ⟨rfl, ((((Below.refl _ _).alloc (Nat.le_refl _) _).alloc (by simp) _).trans (hb2.mono (by simp; omega))).trans (hb3.mono (by omega))⟩

set_option maxHeartbeats 400000 in
theorem law_toCell (c : Ce) (w : World) : Calls Try.prog 13 #[c.val] w fun r w' => r = .returned c.val ∧ Below w.heap.size w w' := by
  go_enter Try.func13, Try.ntmps13
  go_wp2_with (go_at_call_of 7 c.a.tag; refine (law_toWord c.a.tag c.a.num _).mono ?_; rintro r w2 ⟨rfl, hb2⟩; obtain ⟨hc, hf⟩ := rw_cell hb2; have hz := hb2.size; simp at hz)
  go_at_call_of 7 c.b.tag
  refine (law_toWord c.b.tag c.b.num _).mono ?_
  rintro r w3 ⟨rfl, hb3⟩
  obtain ⟨hc3, hf3⟩ := rw_cell hb3
  have hz3 := hb3.size
  simp at hz3
  have hfs : ∀ o, w3.frozen? ⟨w.heap.size + 1 + 1, o, none⟩ = false := fun o => by
    rw [hf3 _ o (by simp [World.setCell]; omega), rw_frozen_set, rw_frozen_set, hf _ o (by simp)]; simp only [frozen?_alloc_cells]; exact rw_unfrozen_new _ _ _ (by omega)
  have hcs := fun o => hc3 (w.heap.size + 1 + 1) o (by simp [World.setCell]; omega)
  have hft : ∀ o, w3.frozen? ⟨w.heap.size + 1, o, none⟩ = false := fun o => by
    rw [hf3 _ o (by simp [World.setCell]; omega), rw_frozen_set, rw_frozen_set, hf _ o (by simp)]; simp only [frozen?_alloc_cells]; exact rw_unfrozen_new _ _ _ (by omega)
  have hct := fun o => hc3 (w.heap.size + 1) o (by simp [World.setCell]; omega)
  clear hc3 hf3
  go_wp2_with fail
  refine bodyPost_ret (v := c.val) (by simp [results, Try.results13, go_sem, hc, hct]) rfl ⟨rfl, ?_⟩
  repeat (refine Below.setCell ?_ (by dsimp only; omega) _)
  refine Below.trans ?_ (hb3.mono (by simp [World.setCell]; omega))
  repeat (refine Below.setCell ?_ (by dsimp only; omega) _)
  refine Below.trans ?_ (hb2.mono (by simp; omega))
  exact (((Below.refl _ _).alloc (Nat.le_refl _) _).alloc (by simp) _).alloc (by simp; omega) _
end Go.Proofs.Ytpocmljbfcenfaa
