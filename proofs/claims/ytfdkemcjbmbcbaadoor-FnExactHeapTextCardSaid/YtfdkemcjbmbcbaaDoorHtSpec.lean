/-
  The specification's l1Dec below 0, l7Text, HeapText.
-/
import Derived.Test.YtfdkemcjbmbcbaaDoorHtImplB
import Derived.Test.YtfdkemcjbmbcbaaDoorHoSpec
import Derived.Deep.RegionHeld3
namespace Go.Proofs.YtfdkemcjbmbcbaaDoor
open Go.RowKit

set_option maxHeartbeats 400000 in
theorem ht_dec (n : Int) (h0 : -9223372036854775807 ≤ n) (h1 : n ≤ 9223372036854775807) (w : World) : Calls Tryd.prog 21 #[.int .i64 n] w fun r w' => r = .returned (.string (decZ n)) ∧ Below w.heap.size w w' := by
  by_cases hn : 0 ≤ n
  · obtain ⟨i, rfl⟩ := Int.eq_ofNat_of_zero_le hn
    rw [decZ_nat]
    exact ht_l1Dec i (by omega) w
  · obtain ⟨i, hi⟩ : ∃ i : Nat, n = -(i : Int) := ⟨n.natAbs, by omega⟩
    subst hi
    have hD : decZ (-(i : Int)) = ⟨#[45]⟩ ++ decN i := by
      rw [decZ, Lib.itoa_neg i (by omega)]
      apply ByteArray.ext
      simp [decN, ByteArray.data_append]
    have hs := decN_size i (by omega)
    have hL : ∀ (z : Int) (w' : World), z = i → Calls Tryd.prog 21 #[.int .i64 z] w' fun r w2 => r = .returned (.string (decN i)) ∧ Below w'.heap.size w' w2 := fun z w' hz => by subst hz; exact ht_l1Dec i (by omega) w'
    rw [hD]
    go_enter Tryd.func21, Tryd.ntmps21
    go_wp2_with (go_at_call 21; refine (hL _ _ (by first | rfl | omega | (simp; done) | (rw [IntKind.wrap_i64]; omega))).mono ?_; rintro r w2 ⟨rfl, hb2⟩)
    go_ret
    exact ⟨rfl, hb2⟩
end Go.Proofs.YtfdkemcjbmbcbaaDoor
