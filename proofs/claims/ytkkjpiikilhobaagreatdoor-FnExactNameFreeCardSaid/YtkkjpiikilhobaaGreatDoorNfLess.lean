/-
  The specification's l3All and l3Less.
-/
import Derived.Test.YtkkjpiikilhobaaGreatDoorNfAll
namespace Go.Proofs.YtkkjpiikilhobaaGreatDoor
open Go.RowKit
set_option maxHeartbeats 1000000 in
theorem spec_l3All (a b : List ByteArray) (v y : Value) (w : World) (hl : a.length + b.length ≤ 1000000) (hv : Env w a v) (hy : Env w b y) :
    Calls Tryz.prog 27 #[v, y] w fun r w' => Bound w w' (allM a b) r := by
  have hy0 := hy
  obtain ⟨ad, cap, rfl, hcell⟩ := hy.open
  go_enter Tryz.func27, Tryz.ntmps27
  go_wp2_with fail
  go_loopw [0, 5] (fun u i wr => ∃ k : Nat, k ≤ b.length ∧ i = .int .i64 k ∧ Env wr (allM a (b.take k)) u ∧ Below w.heap.size w wr) (fun _ i _ => b.length - (intOf i).toNat)
  case atStart => exact ⟨0, by omega, rfl, hv, Below.refl _ _⟩
  case round =>
    obtain ⟨k, hk, rfl, hE, hB⟩ := hrel
    by_cases hlt : k < b.length
    · obtain ⟨g, rfl, hck⟩ := hcell k hlt
      have hck' : wr.cell? ⟨g, k, none⟩ = some (.string b[k]) := by rw [← hck]; exact hB.cell (World.block_lt_of_cell? w _ hck)
      clear hck hcell
      have hlen := allM_length a (b.take k)
      have hlen2 : (allM a (b.take k)).length ≤ 1000000 := by simp at hlen; omega
      have HS : Hid (allM a (b.take (k + 1)) = withM (allM a (b.take k)) b[k]) := allM_take a b k hlt
      clear hlen
      go_wp2_with (go_at_call 36; refine (spec_l3With _ _ _ _ hlen2 hE).mono ?_; rintro r w2 ⟨v2, rfl, he2, hb2⟩)
      go_roundw
      case rel => exact ⟨k + 1, by omega, by go_num, by rw [HS.out]; exact he2, below_next hB hb2⟩
      case measure => simp [intOf]; omega
    · have HS : Hid (allM a (b.take k) = allM a b) := by show _ = _; rw [List.take_of_length_le (by omega)]
      go_wp2_with fail
      go_ret
      exact ⟨_, rfl, by rw [← HS.out]; exact hE, hB⟩

set_option maxHeartbeats 1000000 in
theorem spec_l3Less (l : List ByteArray) (s : ByteArray) (v : Value) (w : World) (hl : l.length ≤ 1000000) (hv : Env w l v) :
    Calls Tryz.prog 26 #[v, .string s] w fun r w' => Bound w w' (lessM l s) r := by
  obtain ⟨ad, cap, rfl, hcell⟩ := hv.open
  go_enter Tryz.func26, Tryz.ntmps26
  go_wp2_with fail
  go_loopw [5, 6] (fun u i wr => ∃ k : Nat, k ≤ l.length ∧ i = .int .i64 k ∧ App wr w.heap.size (lessM (l.take k) s) u ∧ Below w.heap.size w wr) (fun _ i _ => l.length - (intOf i).toNat)
  case atStart => exact ⟨0, by omega, rfl, Or.inr ⟨_, rfl, rfl⟩, below_al0 _ _⟩
  case round =>
    obtain ⟨k, hk, rfl, hE, hB⟩ := hrel
    by_cases hlt : k < l.length
    · obtain ⟨g, rfl, hck⟩ := hcell k hlt
      have hck' : wr.cell? ⟨g, k, none⟩ = some (.string l[k]) := by rw [← hck]; exact hB.cell (World.block_lt_of_cell? w _ hck)
      clear hck hcell
      have hlen := lessM_length (l.take k) s
      have hlen2 : (lessM (l.take k) s).length ≤ 2000000 := by simp at hlen; omega
      have hz := hB.size
      clear hlen
      cases heq : (l[k].toList == s.toList)
      · have HS : Hid (lessM (l.take (k + 1)) s = lessM (l.take k) s ++ [l[k]]) := lessM_no l s k hlt heq
        go_wp2_with (at_builtin; refine wpList_append_src rfl (.tmp 20) (.tmp 25) rfl w.heap.size _ [l[k]] _ rfl (App.keep hE (below_al0 _ _)) _ _ _ rfl rfl (one_cell_new _ _) hlen2 (by simp) (Nat.le_trans hz (size_al _ _)) ?_; intro v2 w2 ha2 hb2; have hc2 : Below w.heap.size w w2 := (below_al hB).trans hb2)
        go_roundw
        case rel => exact ⟨k + 1, by omega, by go_num, by rw [HS.out]; exact ha2, hc2⟩
        case measure => simp [intOf]; omega
      · have HS : Hid (lessM (l.take (k + 1)) s = lessM (l.take k) s) := lessM_yes l s k hlt heq
        go_wp2_with fail
        go_roundw
        case rel => exact ⟨k + 1, by omega, by go_num, by rw [HS.out]; exact hE, hB⟩
        case measure => simp [intOf]; omega
    · have HS : Hid (lessM (l.take k) s = lessM l s) := by show _ = _; rw [List.take_of_length_le (by omega)]
      go_wp2_with fail
      go_ret
      exact ⟨_, rfl, by rw [← HS.out]; exact App.base hE (Nat.zero_le _), hB⟩
end Go.Proofs.YtkkjpiikilhobaaGreatDoor
