/-
  The reader of a code: words.
-/
import Derived.Test.YtchblncpabhflaaDoorRdOne
import Derived.Test.YtchblncpabhflaaDoorWlCopy
import Derived.Deep.LoopGhost
namespace Go.Proofs.YtchblncpabhflaaDoor
open Go.RowKit

/-- How words are drawn. -/
def WordsDrawn (w w' : World) (g P : Nat) (r : Ending) : Prop := ∃ ws v, r = .returned v ∧ ws.length ≤ 4 ∧ OwnR 2 Wd.cells 32 w' w.heap.size ws v ∧ Rd w' g (P + 20) ∧ w.grownBy w' (some g)
theorem rd_one2 (t z : Int) : ∀ u ∈ [Value.int .i64 t, .int .i64 z], u.oneCell' = true := fun u hu => by
  simp only [List.mem_cons, List.not_mem_nil, or_false] at hu
  rcases hu with rfl | rfl <;> rfl
theorem rd_but {w w' : World} {B n s g : Nat} {e : TypeId} {v : Value} {xs : List Value} (h : w.ownsRow B e s v n xs) (hg : w.grownBy w' (some g)) (hB : g < B) : w'.ownsRow B e s v n xs :=
  ow_but h hg (fun k hk => by cases hk; exact hB)
theorem rd_grow {w w' : World} {g P : Nat} {row : Option Nat} (h : Rd w g P) (hg : w.grownBy w' row) (hr : ∀ k, row = some k → g < k) : Rd w' g P :=
  h.same (fun k hk => hg.block k (by have := h.lt; omega) (fun e => by have := hr k e.symm; omega)) hg.size
theorem grow_on {w w1 w2 : World} {g : Nat} {row : Option Nat} (h : w.grownBy w1 (some g)) (hg : w1.grownBy w2 row) (hr : ∀ k, row = some k → w.heap.size ≤ k) : w.grownBy w2 (some g) :=
  ⟨hg.os.trans h.os, hg.tape.trans h.tape, hg.output.trans h.output, Nat.le_trans h.size hg.size, fun i hi hne => (hg.block i (Nat.lt_of_lt_of_le hi h.size) (fun e => by have := hr i e.symm; omega)).trans (h.block i hi hne)⟩

set_option maxHeartbeats 2000000 in
theorem rd_words (w : World) (g P n : Nat) (hR : Rd w g P) (hP : P ≤ 800000) (hn : n ≤ 1000000) :
    Calls Tryd.prog 14 #[.pointer (some ⟨g, 0, none⟩), .int .i64 n] w fun r w' => WordsDrawn w w' g P r := by
  obtain ⟨i0, hi, hz0, hz1, hz2⟩ := info_parts wdInfo
  have hgl := hR.lt
  have HP := fun w' P' n' (h : Rd w' g P') (h1 : P' ≤ 1000000) (h2 : n' ≤ 1000000) => rd_pick w' g P' n' h h1 h2
  go_enter Tryd.func14, Tryd.ntmps14
  go_wp2_with (go_at_call 27; refine (HP _ P 4 (rd_alloc hR _) (by omega) (by omega)).mono ?_; rintro r w2 ⟨k, rfl, hk, hR2, hg2⟩)
  have hO2 : OwnR 2 Wd.cells 32 w2 w.heap.size [] (.slice (some ⟨w.heap.size, 0, none⟩) 0 0) := rd_but (World.ownsRow_made w #[] 0 (Nat.le_refl _) (Nat.zero_le _) rfl) hg2 hgl
  have hw2 : w.grownBy w2 (some g) := ow_grown_trans (ow_but_below _ ((Below.refl _ _).alloc (Nat.le_refl _) _)) hg2
  clear hg2
  go_loopg [5, 6] k (fun m v i wr => ∃ ws : List Wd, i = .int .i64 (m : Int) ∧ ws.length + m ≤ 3 ∧ OwnR 2 Wd.cells 32 wr w.heap.size ws v ∧ Rd wr g (P + 1 + 2 * ws.length) ∧ w.grownBy wr (some g))
  case atStart => exact ⟨[], rfl, by simp; omega, hO2, hR2, hw2⟩
  case round =>
    obtain ⟨ws, rfl, hlm, hO, hRr, hwr⟩ := hrel
    have hzr := hwr.size
    by_cases hm : 0 < gk
    · have hmi : (0 : Int) < (gk : Int) := by omega
      go_wp2_with (first
        | (go_at_call 28; refine (rd_word _ g (P + 1 + 2 * ws.length) n hRr (by omega) hn).mono ?_; rintro r w3 ⟨t, z, rfl, hR3, hg3⟩; have hO3 := rd_but hO hg3 hgl; have hw3 := ow_grown_trans hwr hg3; have hz3 := hw3.size)
        | (at_builtin; refine wpList_append_own _ rfl _ _ 24 rfl w.heap.size 32 i0 (.agg #[.int .i64 0, .int .i64 0]) 2 16 Tryd.underlying24 hi hz0 hz1 hz2 rfl (by decide) _ _ _ rfl (hO3.alloc _) ⟨w3.heap.size, 0, none⟩ 1 1 [.int .i64 t, .int .i64 z] rfl rfl (ow_cells_new _ _ _) (rd_one2 t z) (by unfold maxLen; omega) (by omega) (by simp; omega) ?_; intro v4 w4 hO4 hG4 hN4))
      go_roundg (gk - 1)
      case measure => omega
      case rel => exact ⟨ws ++ [⟨t, z⟩], by go_num, by simp; omega, OwnR.snoc (x := (⟨t, z⟩ : Wd)) hO4, by rw [List.length_append]; exact (rd_grow (rd_alloc hR3 _) hG4 (fun k hk => by have := (hO3.lt k hk).1; omega)).mono (by simp; omega), grow_on (but_alloc hw3 _) hG4 (fun k hk => (hO3.lt k hk).1)⟩
    · obtain rfl : gk = 0 := by omega
      go_wp2_with (first
        | (go_at_call 27; first
          | (refine (rd_pickZ _ g _ _ hR3 (by omega) (by omega) (by omega)).mono ?_; rintro r w4 ⟨y2, rfl, _, hR4, hg4⟩; have hO4 := rd_but hO3 hg4 hgl; have hw4 := ow_grown_trans hw3 hg4; have hz4 := hw4.size)
          | (refine (rd_pickZ _ g _ _ hRr (by omega) (by omega) (by omega)).mono ?_; rintro r w3 ⟨y, rfl, _, hR3, hg3⟩; have hO3 := rd_but hO hg3 hgl; have hw3 := ow_grown_trans hwr hg3; have hz3 := hw3.size))
        | (at_builtin; refine wpList_append_own _ rfl _ _ 24 rfl w.heap.size 32 i0 (.agg #[.int .i64 0, .int .i64 0]) 2 16 Tryd.underlying24 hi hz0 hz1 hz2 rfl (by decide) _ _ _ rfl (hO4.alloc _) ⟨w4.heap.size, 0, none⟩ 1 1 [.int .i64 (y2 : Int), .int .i64 (n : Int)] rfl rfl (ow_cells_new _ _ _) (rd_one2 _ _) (by unfold maxLen; omega) (by omega) (by simp; omega) ?_; intro v5 w5 hO5 hG5 hN5))
      · go_ret
        exact ⟨ws ++ [⟨y2, n⟩], _, rfl, by simp; omega, OwnR.snoc (x := (⟨y2, n⟩ : Wd)) hO5, (rd_grow (rd_alloc hR4 _) hG5 (fun k hk => by have := (hO4.lt k hk).1; omega)).mono (by omega), grow_on (but_alloc hw4 _) hG5 (fun k hk => (hO4.lt k hk).1)⟩
      · go_ret
        exact ⟨ws, _, rfl, by omega, hO3, hR3.mono (by omega), hw3⟩
end Go.Proofs.YtchblncpabhflaaDoor
