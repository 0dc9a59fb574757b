/-
  The law of HeapOk.
-/
import Derived.Test.YtpkeacbmahalnaaCeRow
import Derived.Test.YtpkeacbmahalnaaHoSpec
import Derived.Deep.Cut
namespace Go.Proofs.Ytpkeacbmahalnaa
open Go.RowKit

theorem rw_next {w w2 w3 : World} (h1 : Below w.heap.size w w2) (h2 : Below w2.heap.size w2 w3) : Below w.heap.size w w3 := h1.trans (h2.mono h1.size)
theorem cells_lt {w : World} {B : Nat} {cs : List Ce} {v : Value} (h : Cells w (fun b => B ≤ b ∧ b < w.heap.size) cs v) : Cells w (· < w.heap.size) cs v := h.same fun _ hb => ⟨rfl, hb.2⟩

set_option maxHeartbeats 1000000 in
theorem law_HeapOk (cs : List Ce) (hlen : cs.length ≤ maxLen) (w : World) (v : Value) (hv : Cells w (· < w.heap.size) cs v) :
    Calls Try.prog 3 #[v] w fun r w' => r = .returned (.bool true) ∧ Below w.heap.size w w' := by
  obtain ⟨a, cap, rfl⟩ := hv.slice
  go_enter Try.func3, Try.ntmps3
  go_upto_region 5 with (go_at_call 4; refine (law_szCellS cs hlen _ a cap).mono ?_; rintro r w2 ⟨⟨n, rfl, hw⟩, hww⟩; subst hww; have hwee : Hid (0 ≤ n → cs.length ≤ 1048576) := hw; clear hw)
  · go_ret
    exact ⟨rfl, Below.refl _ _⟩
  have hl := hwee.out (by omega)
  clear hwee
  go_upto_region 6 with (first
    | (go_at_call 6; refine (law_toCellS cs hl _ _ hv).mono ?_; rintro r w3 ⟨v3, rfl, h3, hb3⟩)
    | (go_at_call 5; refine (ho_HeapOk cs hl _ _ (cells_lt h3)).mono ?_; rintro r w4 ⟨rfl, hb4⟩; have hB4 := rw_next hb3 hb4))
  have hv4 := hv.keep hB4 hB4.size
  clear hb3 hb4 h3
  go_upto_region 10 with (first
    | (go_at_call 6; refine (law_toCellS cs hl _ _ hv4).mono ?_; rintro r w5 ⟨v5, rfl, h5, hb5⟩; obtain ⟨a5, cap5, rfl⟩ := h5.slice; have hB5 := rw_next hB4 hb5)
    | (go_at_call 7; refine (impl_HeapOk cs hl _ _ (cells_lt h5)).mono ?_; rintro r w6 ⟨rfl, hb6⟩; have hB6 := rw_next hB5 hb6; have h6 := (cells_lt h5).keep hb6 hb6.size))
  have hv6 := hv.keep hB6 hB6.size
  clear hb5 hb6 h5 hv4
  go_wp2_with (first
    | (go_at_call 6; refine (law_toCellS cs hl _ _ hv6).mono ?_; rintro r w7 ⟨v7, rfl, h7, hb7⟩; have hB7 := rw_next hB6 hb7)
    | (go_at_call 8; refine (law_eqCellS cs hl _ _ _ (h6.keep hb7 hb7.size) (cells_lt h7)).mono ?_; rintro r w8 ⟨rfl, hb8⟩; have hB8 := rw_next hB7 hb8))
  go_ret
  exact ⟨rfl, hB8⟩
end Go.Proofs.Ytpkeacbmahalnaa
