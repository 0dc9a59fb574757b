/-
  What DrawHeapClean draws: some cells and some words.
-/
import Derived.Test.YtchblncpabhflaaDoorRdHeap
import Derived.Test.YtchblncpabhflaaDoorRdOpen
namespace Go.Proofs.YtchblncpabhflaaDoor
open Go.RowKit

theorem rd_opened {w : World} {len : Nat} {v : Value} (hv : Bytes w w.heap.size len v) (hlen : len ≤ 2000) : Rd (w.alloc (.cells #[v, .int .i64 0] 54)) w.heap.size 0 := by
  obtain ⟨a, cap, rfl, _, _, h3⟩ := hv
  have key : ∀ j, (w.alloc (.cells #[.slice a len cap, .int .i64 0] 54)).cell? ⟨w.heap.size, j, none⟩ = (#[.slice a len cap, .int .i64 0] : Array Value)[j]? := fun j => cell_of_row _ _ _ _ _ _ (heap_alloc_new w _)
  refine ⟨a, len, cap, 0, hlen, Nat.le_refl _, by simp, key 0, key 1, by simp, fun i hi => ?_⟩
  obtain ⟨b, off, x, ha, hb, hc, hx⟩ := h3 i hi
  exact ⟨b, off, x, ha, hb, by rw [((Below.refl _ _).alloc (Nat.le_refl _) _ : Below w.heap.size w _).cell (p := ⟨b, off + i, none⟩) hb]; exact hc, hx⟩
theorem below_of_but {w w1 w2 : World} (h : Below w.heap.size w w1) (hg : w1.grownBy w2 (some w.heap.size)) : Below w.heap.size w w2 :=
  h.grown hg h.size (fun k hk => by cases hk; exact Nat.le_refl _)

theorem wd_len : ∀ x, (Wd.cells x).length = 2 := fun _ => rfl
/-- A slice of n has room for as many. -/
def Roomy (n : Nat) (v : Value) : Prop := ∃ a cap, v = .slice a n cap ∧ n ≤ cap ∧ cap ≤ maxLen
theorem roomy_of {w : World} {B : Nat} {ws : List Wd} {v : Value} (h : OwnR 2 Wd.cells 32 w B ws v) : Roomy ws.length v := by
  obtain ⟨_, ⟨rfl, hn⟩ | ⟨g, cap, cur, rfl, _, _, hc, hm, _⟩⟩ := h
  · rw [hn]; exact ⟨none, 0, rfl, Nat.le_refl _, Nat.zero_le _⟩
  · exact ⟨_, cap, rfl, hc, hm⟩
set_option maxHeartbeats 1000000 in
theorem spec_DrawHeapClean (w : World) (len : Nat) (v : Value) (hv : Bytes w w.heap.size len v) :
    Calls Tryd.prog 4 #[v] w fun r w' => ∃ cs ws vc vw, r = .returned (.tuple #[vc, vw]) ∧ cs.length ≤ 20 ∧ ws.length ≤ 4 ∧ Cells w' (· < w'.heap.size) cs vc ∧ Words w' (· < w'.heap.size) ws vw ∧ Roomy ws.length vw ∧ Below w.heap.size w w' := by
  go_enter Tryd.func4, Tryd.ntmps4
  go_wp2_with (first
    | (go_at_call 12; refine (spec_l20Open _ len _ hv).mono ?_; rintro r w2 ⟨v', len', rfl, hv', hle, rfl⟩; have hR2 := rd_opened hv' hle; have hB2 : Below w.heap.size w (w.alloc (.cells #[v', .int .i64 0] 54)) := (Below.refl _ _).alloc (Nat.le_refl _) _)
    | (go_at_call 13; refine (rd_heap _ w.heap.size 0 hR2 (by omega)).mono ?_; rintro r w3 ⟨cs, vc, rfl, hcl, hO3, hR3, hg3⟩; have hB3 := below_of_but hB2 hg3; (obtain ⟨a3, cap3, rfl⟩ : ∃ a cap, vc = .slice a cs.length cap := (hO3.row ce_len).slice))
    | (go_at_call 14; refine (rd_words _ w.heap.size _ _ hR3 (by omega) (by omega)).mono ?_; rintro r w4 ⟨ws, vw, rfl, hwl, hO4, hR4, hg4⟩; have hB4 := below_of_but hB3 hg4; have hO34 := rd_but hO3 hg4 (by simp)))
  go_ret2
  exact ⟨cs, ws, _, _, rfl, hcl, hwl, (OwnR.row hO34 ce_len).same fun b hb => ⟨rfl, hb.2⟩, (OwnR.row hO4 wd_len).same fun b hb => ⟨rfl, hb.2⟩, roomy_of hO4, hB4⟩
end Go.Proofs.YtchblncpabhflaaDoor
