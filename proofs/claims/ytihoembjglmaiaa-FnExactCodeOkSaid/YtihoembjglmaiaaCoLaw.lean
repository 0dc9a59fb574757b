/-
  The law of CodeOk.
-/
import Derived.Test.YtihoembjglmaiaaOpRow
import Derived.Test.YtihoembjglmaiaaCkTop
import Derived.Test.YtihoembjglmaiaaCkOk
import Derived.Deep.Cut
namespace Go.Proofs.Ytihoembjglmaiaa
open Go.RowKit

theorem co_next {w w2 w3 : World} (h1 : Below w.heap.size w w2) (h2 : Below w2.heap.size w2 w3) : Below w.heap.size w w3 := h1.trans (h2.mono h1.size)
theorem words_lt {w : World} {B : Nat} {cs : List Wd} {v : Value} (h : Words w (fun b => B ≤ b ∧ b < w.heap.size) cs v) : Words w (· < w.heap.size) cs v := h.same fun _ hb => ⟨rfl, hb.2⟩

set_option maxHeartbeats 400000 in
theorem spec_CodeOk (ops : List Wd) (hn : ops.length ≤ 1048576) (v : Value) (w : World) (hv : Words w (· < w.heap.size) ops v) :
    Calls Try.prog 5 #[v] w fun r w' => r = .returned (.bool (codeM ops)) ∧ Below w.heap.size w w' := by
  generalize hR : codeM ops = R
  go_enter Try.func5, Try.ntmps5
  go_wp2_with (go_at_call 9; refine (spec_l6Ok ops hn _ v hv).mono ?_; rintro r w2 ⟨rfl, hb2⟩; rw [hR])
  go_ret
  exact ⟨rfl, hb2⟩

set_option maxHeartbeats 1000000 in
theorem law_CodeOk (ops : List Wd) (hlen : ops.length ≤ maxLen) (w : World) (v : Value) (hv : Words w (· < w.heap.size) ops v) :
    Calls Try.prog 3 #[v] w fun r w' => r = .returned (.bool true) ∧ Below w.heap.size w w' := by
  obtain ⟨a, cap, rfl⟩ := hv.slice
  have hSp := fun hl v w hv => spec_CodeOk ops hl v w hv
  have hIm := fun hl w v hv => impl_CodeOk ops hl w v hv
  generalize codeM ops = R at hSp hIm
  go_enter Try.func3, Try.ntmps3
  go_upto_region 5 with (go_at_call 4; refine (law_szOpL ops hlen _ a cap 1048576 (by omega)).mono ?_; rintro r w2 ⟨⟨n, rfl, _, hw⟩, hww⟩; subst hww; have hwee : Hid (0 ≤ n → ops.length ≤ 1048576) := fun h0 => (by have := hw h0; omega); clear hw)
  · go_ret
    exact ⟨rfl, Below.refl _ _⟩
  have hl := hwee.out (by omega)
  clear hwee
  go_upto_region 6 with (first
    | (go_at_call 6; refine (law_toOpS ops hl _ _ hv).mono ?_; rintro r w3 ⟨v3, rfl, h3, hb3⟩)
    | (go_at_call 5; refine (hSp hl _ _ (words_lt h3)).mono ?_; rintro r w4 ⟨rfl, hb4⟩; have hB4 := co_next hb3 hb4))
  have hv4 := hv.keep hB4 hB4.size
  clear hb3 hb4 h3
  go_upto_region 10 with (first
    | (go_at_call 6; refine (law_toOpS ops hl _ _ hv4).mono ?_; rintro r w5 ⟨v5, rfl, h5, hb5⟩; obtain ⟨a5, cap5, rfl⟩ := h5.slice; have hB5 := co_next hB4 hb5)
    | (go_at_call 7; refine (hIm hl _ _ (words_lt h5)).mono ?_; rintro r w6 ⟨rfl, hb6⟩; have hB6 := co_next hB5 hb6; have h6 := (words_lt h5).keep hb6 hb6.size))
  have hv6 := hv.keep hB6 hB6.size
  clear hb5 hb6 h5 hv4
  go_wp2_with (first
    | (go_at_call 6; refine (law_toOpS ops hl _ _ hv6).mono ?_; rintro r w7 ⟨v7, rfl, h7, hb7⟩; have hB7 := co_next hB6 hb7)
    | (go_at_call 8; refine (law_eqOpS ops hl _ _ _ (h6.keep hb7 hb7.size) (words_lt h7)).mono ?_; rintro r w8 ⟨rfl, hb8⟩; have hB8 := co_next hB7 hb8))
  go_ret
  exact ⟨rfl, hB8⟩
end Go.Proofs.Ytihoembjglmaiaa
