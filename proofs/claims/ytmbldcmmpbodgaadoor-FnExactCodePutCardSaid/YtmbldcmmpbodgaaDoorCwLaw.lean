/-
  The law of CodePut.
-/
import Derived.Test.YtmbldcmmpbodgaaDoorOpRow
import Derived.Test.YtmbldcmmpbodgaaDoorCwSpec
import Derived.Deep.Cut
namespace Go.Proofs.YtmbldcmmpbodgaaDoor
open Go.RowKit

theorem ops_lt {w : World} {B : Nat} {cs : List Wd} {v : Value} (h : Words w (fun b => B ≤ b ∧ b < w.heap.size) cs v) : Words w (· < w.heap.size) cs v := h.same fun _ hb => ⟨rfl, hb.2⟩

set_option maxHeartbeats 1000000 in
theorem spec_CodePut (ops : List Wd) (hl : ops.length ≤ 1048576) (w : World) (v : Value) (hv : Words w (· < w.heap.size) ops v) :
    Calls Tryd.prog 5 #[v] w fun r w' => r = .returned (.string (bx (putM ops))) ∧ Below w.heap.size w w' := by
  have hOk := fun w hv => spec_l6Ok ops hl w v hv
  unfold putM
  cases hM : codeM ops with
  | false =>
    rw [hM] at hOk
    rw [if_neg (by simp)]
    go_enter Tryd.func5, Tryd.ntmps5
    go_wp2_with (go_at_call 9; refine (hOk _ hv).mono ?_; rintro r w2 ⟨rfl, hb2⟩)
    go_ret
    exact ⟨rfl, hb2⟩
  | true =>
    obtain ⟨h1, h2⟩ := codeM_fine hM
    rw [hM] at hOk
    rw [if_pos rfl]
    generalize hc : codeT ops = ct
    go_enter Tryd.func5, Tryd.ntmps5
    go_wp2_with (first
      | (go_at_call 9; refine (hOk _ hv).mono ?_; rintro r w2 ⟨rfl, hb2⟩)
      | (go_at_call 10; refine (spec_l6Put ops h1 h2 _ v (hv.keep hb2 hb2.size)).mono ?_; rintro r w3 ⟨rfl, hb3⟩; rw [hc]))
    go_ret
    exact ⟨rfl, cw_next hb2 hb3⟩

set_option maxHeartbeats 1000000 in
theorem law_CodePut (ops : List Wd) (hlen : ops.length ≤ maxLen) (w : World) (v : Value) (hv : Words w (· < w.heap.size) ops v) (hT : PowTab w) (hC : OTab w) :
    Calls Tryd.prog 3 #[v] w fun r w' => r = .returned (.bool true) ∧ Below w.heap.size w w' := by
  obtain ⟨a, cap, rfl⟩ := hv.slice
  have hSp := fun hl w v hv => spec_CodePut ops hl w v hv
  have hIm := fun hl w v hv hT hC => impl_CodePut ops hl w v hv hT hC
  generalize bx (putM ops) = R at hSp hIm
  go_enter Tryd.func3, Tryd.ntmps3
  go_upto_region 5 with (go_at_call 4; refine (law_szOpL ops hlen _ a cap 1048576 (by omega)).mono ?_; rintro r w2 ⟨⟨n, rfl, _, hw⟩, hww⟩; subst hww; have hwee : Hid (0 ≤ n → ops.length ≤ 1048576) := fun h0 => (by have := hw h0; omega); clear hw)
  · go_ret
    exact ⟨rfl, Below.refl _ _⟩
  have hl := hwee.out (by omega)
  clear hwee
  go_upto_region 6 with (first
    | (go_at_call 6; refine (law_toOpS ops hl _ _ hv).mono ?_; rintro r w3 ⟨v3, rfl, h3, hb3⟩)
    | (go_at_call 5; refine (hSp hl _ _ (ops_lt h3)).mono ?_; rintro r w4 ⟨rfl, hb4⟩; have hB4 := cw_next hb3 hb4))
  have hv4 := hv.keep hB4 hB4.size
  clear hb3 hb4 h3
  go_upto_region 10 with (first
    | (go_at_call 6; refine (law_toOpS ops hl _ _ hv4).mono ?_; rintro r w5 ⟨v5, rfl, h5, hb5⟩; obtain ⟨a5, cap5, rfl⟩ := h5.slice; have hB5 := cw_next hB4 hb5)
    | (go_at_call 7; refine (hIm hl _ _ (ops_lt h5) (hT.keep hB5) (hC.keep hB5)).mono ?_; rintro r w6 ⟨rfl, hb6⟩; have hB6 := cw_next hB5 hb6; have h6 := (ops_lt h5).keep hb6 hb6.size))
  have hv6 := hv.keep hB6 hB6.size
  clear hb5 hb6 h5 hv4
  go_wp2_with (first
    | (go_at_call 6; refine (law_toOpS ops hl _ _ hv6).mono ?_; rintro r w7 ⟨v7, rfl, h7, hb7⟩; have hB7 := cw_next hB6 hb7)
    | (go_at_call 8; refine (law_eqOpS ops hl _ _ _ (h6.keep hb7 hb7.size) (ops_lt h7)).mono ?_; rintro r w8 ⟨rfl, hb8⟩; have hB8 := cw_next hB7 hb8))
  go_ret
  exact ⟨rfl, hB8⟩
end Go.Proofs.YtmbldcmmpbodgaaDoor
