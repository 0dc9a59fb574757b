/-
  The law of RunTurns.
-/
import Derived.Test.YtdfgimmnmfdegaaEvRow
import Derived.Test.YtdfgimmnmfdegaaTuRun
namespace Go.Proofs.Ytdfgimmnmfdegaa
open Go.RowKit

theorem tu_owns {w : World} {B n : Nat} {v : Value} (h : OwnR 2 Ev.cells 29 w B (turnL n) v) : w.ownsRow B 29 2 v n ((turnL n).flatMap Ev.cells) := by
  unfold OwnR at h; rw [turnL_length] at h; exact h

theorem tu_but {w w' : World} {B C : Nat} {l : List Ev} {v1 v2 : Value} (h : OwnR 2 Ev.cells 29 w B l v1) (hg : w.grownBy w' v2.ownBlock) (h1 : ∀ b, v1.ownBlock = some b → b < C) (h2 : ∀ b, v2.ownBlock = some b → C ≤ b) : OwnR 2 Ev.cells 29 w' B l v1 := by
  refine World.ownsRow.kept h hg ?_
  cases hv : v1.ownBlock with
  | none => exact Or.inl rfl
  | some k => exact Or.inr fun e => by have := h1 k hv; have := h2 k e.symm; omega

set_option maxHeartbeats 1000000 in
theorem law_RunTurns (r : Int) (w : World) : Calls Try.prog 3 #[.int .i64 r] w fun e w' => e = .returned (.bool true) ∧ Below w.heap.size w w' := by
  have hl : (turnL (turnsM r)).length ≤ 1048576 := by rw [turnL_length]; have := turnsM_le r; omega
  have hn := turnsM_le r
  generalize HN : turnsM r = n at hl hn
  have HI : ∀ w, Calls Try.prog 5 #[.int .i64 r] w fun e w' => Turned w w' n e := fun w => HN ▸ impl_RunTurns r w
  have HS : ∀ w, Calls Try.prog 4 #[.int .i64 r] w fun e w' => Turned w w' n e := fun w => HN ▸ spec_RunTurns r w
  clear HN
  go_enter Try.func3, Try.ntmps3
  go_upto_region 5 with (first
    | (go_at_call 4; refine (HS _).mono ?_; rintro e w1 ⟨v1, rfl, hO1, hB1⟩)
    | (go_at_call 5; refine (HI _).mono ?_; rintro e w2 ⟨v2, rfl, hO2, hB2⟩; have hB12 := tu_next hB1 hB2; have hO12 := hO1.keep hB2)
    | (go_at_call 6; refine (law_eqEventS (turnL n) hl _ _ _ (tu_row hO2) (tu_row hO12)).mono ?_; rintro e w3 ⟨rfl, hB3⟩; have hB13 := tu_next hB12 hB3; have hO13 := hO12.keep hB3; have hO23 := tu_owns (hO2.keep hB3); have hz := Nat.le_trans hB1.size (Nat.le_refl w1.heap.size)))
  have hlt1 : ∀ b, v1.ownBlock = some b → b < w1.heap.size := fun b hb => (hO1.lt b hb).2
  have hge2 : ∀ b, v2.ownBlock = some b → w1.heap.size ≤ b := fun b hb => (hO2.lt b hb).1
  have hz3 := Nat.le_trans hB2.size hB3.size
  clear hO1 hB1 hO2 hB2 hB12 hO12 hB3
  go_upto_region 13 with (first
    | (go_at_call 7; refine (law_markEventS n _ _ _ w1.heap.size 1 (by omega) (by omega) hO23).mono ?_; rintro e w4 ⟨rfl, hO24, hG4⟩; have hB14 := hB13.grown hG4 hB13.size (fun b hb => Nat.le_trans hz (hge2 b hb)); have hO14 := tu_but hO13 hG4 hlt1 hge2; rw [show ((1 + n * 2 : Nat) : Int) = 1 + (n : Int) * 2 by omega])
    | (go_at_call 8; refine (law_heldEventS n 1 _ _ w1.heap.size (by omega) (by omega) hO24).mono ?_; rintro e w5 ⟨rfl, hB5⟩; have hB15 := tu_next hB14 hB5; have hO15 := hO14.keep hB5; have hO25 := ow_keep hO24 hB5; rw [show ((1 + n * 2 : Nat) : Int) = 1 + (n : Int) * 2 by omega]))
  clear hO13 hB13 hO23 hO24 hG4 hB14 hO14 hB5 hlt1 hge2 hz hz3
  go_upto_region 16 with (first
    | (go_at_call 5; refine (HI _).mono ?_; rintro e w6 ⟨v6, rfl, hO6, hB6⟩; have hB16 := tu_next hB15 hB6; have hO16 := hO15.keep hB6; have hO26 := ow_keep hO25 hB6)
    | (go_at_call 6; refine (law_eqEventS (turnL n) hl _ _ _ (tu_row hO6) (tu_row hO16)).mono ?_; rintro e w7 ⟨rfl, hB7⟩; have hB17 := tu_next hB16 hB7; have hO27 := ow_keep hO26 hB7))
  clear hO15 hB15 hO25 hO6 hB6 hB16 hO16 hO26 hB7
  go_wp2_with (go_at_call 8; refine (law_heldEventS n 1 _ _ w1.heap.size (by omega) (by omega) hO27).mono ?_; rintro e w8 ⟨rfl, hB8⟩; have hB18 := tu_next hB17 hB8; rw [show ((1 + n * 2 : Nat) : Int) = 1 + (n : Int) * 2 by omega])
  go_ret
  exact ⟨rfl, hB18⟩
end Go.Proofs.Ytdfgimmnmfdegaa
