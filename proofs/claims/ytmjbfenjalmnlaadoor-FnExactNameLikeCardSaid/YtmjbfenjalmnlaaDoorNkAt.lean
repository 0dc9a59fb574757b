/-
  The specification's l3At.
-/
import Derived.Test.YtmjbfenjalmnlaaDoorNkUnder
namespace Go.Proofs.YtmjbfenjalmnlaaDoor
open Go.RowKit

set_option maxHeartbeats 400000 in
theorem spec_l3At (l : List ByteArray) (s : ByteArray) (v : Value) (w : World) (hl : l.length ≤ 1000000) (hv : Env w l v) :
    Calls Tryd.prog 17 #[v, .string s] w fun r w' => r = .returned (.int .i64 (atB l s)) ∧ w = w' := by
  obtain ⟨a, cap, rfl, hcell⟩ := hv.open
  go_enter Tryd.func17, Tryd.ntmps17
  go_wp2_with fail
  go_loop [5] (fun i => ∃ k : Nat, k ≤ l.length ∧ i = .int .i64 ((k : Int) - 1) ∧ Hid (lastTo l s l.length = lastTo l s k)) (fun i => (intOf i + 1).toNat)
  case atStart => exact ⟨l.length, Nat.le_refl _, rfl, rfl⟩
  case round =>
    obtain ⟨k, hk, rfl, HK⟩ := hrel
    by_cases hz : k = 0
    · subst hz
      go_wp2_with fail
      go_ret
      exact ⟨ret_int (by rw [atB, HK.out]; rfl), rfl⟩
    · obtain ⟨j, rfl⟩ : ∃ j, k = j + 1 := ⟨k - 1, by omega⟩
      obtain ⟨g, rfl, hc⟩ := hcell j (by omega)
      have hj : ((j + 1 : Nat) : Int) - 1 = (j : Int) := by omega
      rw [hj]
      go_wp2_with fail
      · go_ret
        exact ⟨ret_int (by rw [atB, HK.out, lastTo_yes l s j (by omega) ‹_›, if_neg (by omega)]), rfl⟩
      · go_round
        case rel => exact ⟨j, by omega, rfl, by show _ = _; rw [HK.out, lastTo_no l s j (by omega) ‹_›]⟩
        case measure => simp [intOf]
end Go.Proofs.YtmjbfenjalmnlaaDoor
