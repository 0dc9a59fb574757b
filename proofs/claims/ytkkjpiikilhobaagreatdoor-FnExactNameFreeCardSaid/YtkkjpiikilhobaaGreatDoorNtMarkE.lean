/-
  The law's own markExpr.
-/
import Derived.Test.YtkkjpiikilhobaaGreatDoorNtMark
namespace Go.Proofs.YtkkjpiikilhobaaGreatDoor
open Go.RowKit

theorem markS (e : Ex) : e.Wee → MarkS e.kids := by
  induction e using Ex.ind with
  | h e ih =>
    intro hf
    obtain ⟨_, hk, hx⟩ := hf
    exact markS_walk e.kids hk (fun x hx' => ih x hx' (hx x hx'))

set_option maxHeartbeats 400000 in
theorem law_markExpr (e : Ex) (hf : e.Wee) (w : World) (s : Value) (lo hi k : Nat) (hT : Tree w lo hi e.kids s) (hhi : hi ≤ w.heap.size) (hk1 : 1 ≤ k) (hkb : k + 4 * cntAll e.kids ≤ 100000000) :
    Calls Tryz.prog 10 #[e.val s, .int .i64 k] w fun r w' => Marked w w' lo hi e.kids k s r := by
  have hS := markS e hf
  have hT' : ∀ o, Tree (w.alloc o) lo hi e.kids s := fun o => hT.keep ((Below.refl w.heap.size w).alloc (Nat.le_refl _) o) hhi
  have hz' : ∀ o : Obj, hi ≤ (w.alloc o).heap.size := fun o => by simp; omega
  have hW : ∀ o w', Within lo hi (w.alloc o) w' → Within lo hi w w' := fun o w' h => (Within.of_below ((Below.refl w.heap.size w).alloc (Nat.le_refl _) o)).trans h
  go_enter Tryz.func10, Tryz.ntmps10
  go_wp2_with (go_at_call 22; refine (hS _ _ lo hi k (hT' _) (hz' _) hk1 hkb).mono ?_; rintro r w2 ⟨rfl, ht2, hw2⟩)
  go_ret
  exact ⟨rfl, ht2, hW _ _ hw2⟩
end Go.Proofs.YtkkjpiikilhobaaGreatDoor
