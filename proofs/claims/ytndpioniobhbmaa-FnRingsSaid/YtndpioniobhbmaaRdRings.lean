/-
  What DrawSameRings draws: some cells.
-/
import Derived.Test.YtndpioniobhbmaaRdOpened
import Derived.Deep.Cut
namespace Go.Proofs.Ytndpioniobhbmaa
open Go.RowKit

theorem rg_set {w : World} {B g cap : Nat} {c d : Ce} {cs : List Ce} (h : w.ownsRow B 33 6 (.slice (some ⟨g, 0, none⟩) (c :: cs).length cap) (c :: cs).length ((c :: cs).flatMap Ce.cells)) :
    OwnR 6 Ce.cells 33 ((((((w.setCell ⟨g, 0, none⟩ (.int .i64 d.kind)).setCell ⟨g, 1, none⟩ (.int .i64 d.num)).setCell ⟨g, 2, none⟩ (.int .i64 d.a.tag)).setCell ⟨g, 3, none⟩ (.int .i64 d.a.num)).setCell ⟨g, 4, none⟩ (.int .i64 d.b.tag)).setCell ⟨g, 5, none⟩ (.int .i64 d.b.num)) B (d :: cs) (.slice (some ⟨g, 0, none⟩) (c :: cs).length cap) := by
  have h0 := ow_set (ow_set (ow_set (ow_set (ow_set (ow_set h 0 (.int .i64 d.kind)) 1 (.int .i64 d.num)) 2 (.int .i64 d.a.tag)) 3 (.int .i64 d.a.num)) 4 (.int .i64 d.b.tag)) 5 (.int .i64 d.b.num)
  exact h0
theorem rg_six {B g : Nat} {w w4 : World} {v0 v1 v2 v3 v4 v5 : Value} (h : Below B w w4) (hb : B ≤ g) : Below B w ((((((w4.setCell ⟨g, 0, none⟩ v0).setCell ⟨g, 1, none⟩ v1).setCell ⟨g, 2, none⟩ v2).setCell ⟨g, 3, none⟩ v3).setCell ⟨g, 4, none⟩ v4).setCell ⟨g, 5, none⟩ v5) := by
  repeat (refine Below.setCell ?_ (by exact hb) _)
  exact h

set_option maxRecDepth 100000 in
set_option maxHeartbeats 2000000 in
theorem spec_DrawSameRings (w : World) (len : Nat) (v : Value) (hv : Bytes w w.heap.size len v) :
    Calls Try.prog 4 #[v] w fun r w' => ∃ (cs : List Ce) (vc : Value), r = .returned vc ∧ cs.length ≤ 20 ∧ Cells w' (· < w'.heap.size) cs vc ∧ Below w.heap.size w w' := by
  go_enter Try.func4, Try.ntmps4
  go_upto_region 3 with (first
    | (go_at_call 10; refine (spec_l20Open _ len _ hv).mono ?_; rintro r w2 ⟨v', len', rfl, hv', hle, rfl⟩; have hR2 := rd_openedW hv' hle; have hB2 : Below w.heap.size w (w.alloc (.cells #[v', .int .i64 0] 49)) := (Below.refl _ _).alloc (Nat.le_refl _) _)
    | (go_at_call 11; refine (rd_heap _ w.heap.size 0 hR2 (by omega)).mono ?_; rintro r w3 ⟨cs, vc, rfl, hcl, hO3, hR3, hg3⟩; have hB3 := below_butW hB2 hg3 (Nat.le_refl _); (obtain ⟨a3, cap3, rfl⟩ : ∃ a cap, vc = .slice a cs.length cap := (hO3.row ce_len).slice)))
  clear hR2 hg3 hB2 hv hv'
  by_cases h1 : 1 < cs.length
  · have hi : (1 : Int) < (cs.length : Int) := by omega
    obtain ⟨g, rfl, hg⟩ : ∃ g, a3 = some ⟨g, 0, none⟩ ∧ w.heap.size < g := by
      have hlt := hO3.lt
      obtain ⟨_, ⟨e, hn⟩ | ⟨g, cap, cur, e, hg, hh, _⟩⟩ := hO3
      · omega
      · obtain ⟨rfl, _⟩ : a3 = some ⟨g, 0, none⟩ ∧ cap3 = cap := by simpa using e
        exact ⟨g, rfl, by have := (hlt g rfl).1; simp at this; omega⟩
    go_upto_region 4 with (go_at_call 12; refine (rd_pickZ _ w.heap.size _ _ hR3 (by omega) (by omega) (by omega)).mono ?_; rintro r w4 ⟨y, rfl, _, hR4, hg4⟩)
    · have hO4 := rd_but hO3 hg4 (by simp)
      have hB4 := below_butW hB3 hg4 (Nat.le_refl _)
      obtain ⟨c, rest, hcr⟩ : ∃ c rest, Hid (cs = c :: rest) := by
        cases cs with
        | nil => simp at h1
        | cons c rest => exact ⟨c, rest, rfl⟩
      have hfl : ∀ j, j < 6 → j < (cs.flatMap Ce.cells).length := by
        rw [hcr.out]
        intro j hj
        simp [Ce.cells]
        omega
      have hcell : ∀ w', w4.grownBy w' (some w.heap.size) → ∀ j, j < 6 → ∃ u, w'.cell? ⟨g, j, none⟩ = some u ∧ w'.frozen? ⟨g, j, none⟩ = false := fun w' hg' j hj =>
        ⟨_, ow_cell (rd_but hO4 hg' (by simp)) j (hfl j hj)⟩
      clear hO3 hg4 hR3 hB3 hfl h1
      go_wp2_with (go_at_call 12; refine (rd_pickZ _ w.heap.size _ _ hR4 (by omega) (by omega) (by omega)).mono ?_; rintro r w5 ⟨z, rfl, _, hR5, hg5⟩; (obtain ⟨u0, p0, f0⟩ := hcell _ hg5 0 (by omega)); (obtain ⟨u1, p1, f1⟩ := hcell _ hg5 1 (by omega)); (obtain ⟨u2, p2, f2⟩ := hcell _ hg5 2 (by omega)); (obtain ⟨u3, p3, f3⟩ := hcell _ hg5 3 (by omega)); (obtain ⟨u4, p4, f4⟩ := hcell _ hg5 4 (by omega)); (obtain ⟨u5, p5, f5⟩ := hcell _ hg5 5 (by omega)))
      go_ret
      have hO5 := rd_but hO4 hg5 (by simp)
      have hB5 := below_butW hB4 hg5 (Nat.le_refl _)
      have e := hcr.out
      subst e
      have hS := rg_set (d := ⟨1, 0, ⟨4, (z : Int)⟩, ⟨0, 0⟩⟩) hO5
      exact ⟨_, _, rfl, by simpa using hcl, (hS.row ce_len).same fun b hb => ⟨rfl, hb.2⟩, rg_six hB5 (by omega)⟩
    · go_ret
      exact ⟨cs, _, rfl, hcl, (OwnR.row (rd_but hO3 hg4 (by simp)) ce_len).same fun b hb => ⟨rfl, hb.2⟩, below_butW hB3 hg4 (Nat.le_refl _)⟩
  · have hi : ¬ (1 : Int) < (cs.length : Int) := by omega
    go_wp2_with fail
    go_ret
    exact ⟨cs, _, rfl, hcl, (hO3.row ce_len).same fun b hb => ⟨rfl, hb.2⟩, hB3⟩
end Go.Proofs.Ytndpioniobhbmaa
