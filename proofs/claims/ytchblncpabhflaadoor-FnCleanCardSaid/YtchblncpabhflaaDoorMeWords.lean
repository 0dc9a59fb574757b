/-
  The laws' own enWords.
-/
import Derived.Test.YtchblncpabhflaaDoorRows
import Derived.Test.YtchblncpabhflaaDoorCeWords
import Derived.WalkKit
import Derived.WalkSpells
import Derived.WalkLawsBesides
import Derived.RowKit3
import Derived.Deep.QuietTactic
import Derived.BigQuiet
import Derived.Deep.LoopGhost
namespace Go.Proofs.YtchblncpabhflaaDoor
open Go.RowKit

set_option maxHeartbeats 1000000 in
theorem law_enWords (l : List Wd) (hl : l.length ≤ 1000000) (v1 v2 : Value) (w : World) (S1 S2 : Nat → Prop) (h1 : Words w S1 l v1) (h2 : Words w S2 l v2) :
    Calls Tryd.prog 8 #[v1, v2] w fun r w' => r = .returned (.bool true) ∧ Below w.heap.size w w' := by
  obtain ⟨a1, cap1, rfl⟩ := h1.slice
  obtain ⟨a2, cap2, rfl⟩ := h2.slice
  go_enter Tryd.func8, Tryd.ntmps8
  go_wp2_with fail
  go_loopg [5] l.length (fun g i wr => ∃ k : Nat, k + g = l.length ∧ i = .int .i64 k ∧ ∃ n, wr = w.drewN n)
  case atStart => exact ⟨0, by omega, rfl, 0, rfl⟩
  case round =>
    obtain ⟨k, hk, rfl, n, rfl⟩ := hrel
    by_cases hlt : k < l.length
    · obtain ⟨b1, o1, _, rfl, r1⟩ := h1.at k hlt
      obtain ⟨b2, o2, _, rfl, r2⟩ := h2.at k hlt
      have hi : (k : Int) < (l.length : Int) := by omega
      generalize l[k] = c at r1 r2
      obtain ⟨c0, c1⟩ := Wd.two r1
      obtain ⟨d0, d1⟩ := Wd.two r2
      clear r1 r2
      go_wp2_with fail
      go_quiet (fail)
      go_wp2_with fail
      go_roundg (l.length - (k + 1))
      case measure => omega
      case rel => exact ⟨k + 1, by omega, by go_num, n + _, rfl⟩
    · obtain rfl : k = l.length := by omega
      have hi : ¬ (l.length : Int) < (l.length : Int) := by omega
      go_wp2_with fail
      go_ret
      exact ⟨rfl, ⟨rfl, rfl, rfl, Nat.le_refl _, fun _ _ => rfl⟩⟩
end Go.Proofs.YtchblncpabhflaaDoor
