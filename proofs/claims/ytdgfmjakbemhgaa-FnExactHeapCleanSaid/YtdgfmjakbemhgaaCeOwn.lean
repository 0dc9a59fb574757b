/-
  The law's own toCellS: a row of the call's own.
-/
import Derived.Test.YtdgfmjakbemhgaaCeRow
import Derived.Test.YtdgfmjakbemhgaaWlSet
namespace Go.Proofs.Ytdgfmjakbemhgaa
open Go.RowKit

theorem made_CellS (w : World) (m B : Nat) (hB : B ≤ w.heap.size) (hm : m ≤ 1048576) : (w.alloc (.cells (madeCells #[.int .i64 0, .int .i64 0, .int .i64 0, .int .i64 0, .int .i64 0, .int .i64 0] (m * 6)) 43)).ownsRow B 43 6 (.slice (some ⟨w.heap.size, 0, none⟩) m m) m ((List.replicate m (⟨0, 0, ⟨0, 0⟩, ⟨0, 0⟩⟩ : Ce)).flatMap Ce.cells) := by
  have hz : (madeCells #[.int .i64 0, .int .i64 0, .int .i64 0, .int .i64 0, .int .i64 0, .int .i64 0] (m * 6)).toList = (List.replicate m (⟨0, 0, ⟨0, 0⟩, ⟨0, 0⟩⟩ : Ce)).flatMap Ce.cells := by
    have h1 : (madeCells #[.int .i64 0, .int .i64 0, .int .i64 0, .int .i64 0, .int .i64 0, .int .i64 0] (m * 6)).toList = List.replicate (m * 6) (.int .i64 0) := by
      rw [List.eq_replicate_iff]
      refine ⟨by simp [size_madeCells], fun x hx => ?_⟩
      simp only [madeCells, Array.toList_map, List.mem_map] at hx
      obtain ⟨i, _, rfl⟩ := hx
      have hi : i % 6 < 6 := Nat.mod_lt _ (by omega)
      show (#[.int .i64 0, .int .i64 0, .int .i64 0, .int .i64 0, .int .i64 0, .int .i64 0] : Array Value)[i % 6]! = _
      revert hi
      generalize i % 6 = k
      intro hi
      match k, hi with
      | 0, _ | 1, _ | 2, _ | 3, _ | 4, _ | 5, _ => rfl
    rw [h1]
    clear h1 hm
    induction m with
    | zero => rfl
    | succ m ih => rw [List.replicate_succ, List.flatMap_cons, ← ih, Nat.succ_mul, Nat.add_comm, ← List.replicate_append_replicate]; rfl
  refine ⟨by rw [← hz]; simp [size_madeCells], Or.inr ⟨w.heap.size, m, madeCells #[.int .i64 0, .int .i64 0, .int .i64 0, .int .i64 0, .int .i64 0, .int .i64 0] (m * 6), rfl, hB, heap_alloc_new _ _, Nat.le_refl _, by unfold maxLen; omega, size_madeCells _ _, ?_⟩⟩
  rw [List.take_of_length_le (by simp [size_madeCells]), hz]
theorem front_CellS (cs : List Ce) (k : Nat) (h : k < cs.length) : (cs.take k ++ List.replicate (cs.length - k) (⟨0, 0, ⟨0, 0⟩, ⟨0, 0⟩⟩ : Ce)).set k cs[k] = cs.take (k + 1) ++ List.replicate (cs.length - (k + 1)) (⟨0, 0, ⟨0, 0⟩, ⟨0, 0⟩⟩ : Ce) := by
  obtain ⟨m, hm⟩ : ∃ m, cs.length - k = m + 1 := ⟨cs.length - k - 1, by omega⟩
  have hl : (cs.take k).length = k := by simp; omega
  rw [List.set_append_right _ _ (by omega), hl, Nat.sub_self, hm, List.replicate_succ, List.set_cons_zero, List.take_succ_eq_append_getElem h, show cs.length - (k + 1) = m by omega, List.append_assoc]
  rfl

set_option maxHeartbeats 1000000 in
theorem own_toCellS (cs : List Ce) (hlen : cs.length ≤ 1048576) (w : World) (v : Value) (hv : RowOf 6 Ce.cells w (· < w.heap.size) cs v) :
    Calls Try.prog 7 #[v] w fun r w' => ∃ v', r = .returned v' ∧ w'.ownsRow w.heap.size 43 6 v' cs.length (cs.flatMap Ce.cells) ∧ Below w.heap.size w w' := by
  obtain ⟨a, cap, rfl⟩ := hv.slice
  have hmk := make_cells cs.length hlen
  go_enter Try.func7, Try.ntmps7
  go_wp2_with fail
  go_loopw [4] (fun i wr => ∃ (k : Nat), k ≤ cs.length ∧ i = .int .i64 k ∧ wr.ownsRow w.heap.size 43 6 (.slice (some ⟨w.heap.size, 0, none⟩) cs.length cs.length) cs.length ((cs.take k ++ List.replicate (cs.length - k) (⟨0, 0, ⟨0, 0⟩, ⟨0, 0⟩⟩ : Ce)).flatMap Ce.cells) ∧ Below w.heap.size w wr) (fun i _ => cs.length - (intOf i).toNat)
  case atStart => exact ⟨0, by omega, rfl, by simpa using made_CellS w cs.length _ (Nat.le_refl _) hlen, (Below.refl _ _).alloc (Nat.le_refl _) _⟩
  case round =>
    obtain ⟨k, hk, rfl, hO, hb⟩ := hrel
    have hgl := (hO.lt w.heap.size rfl).2
    by_cases hlt : k < cs.length
    · obtain ⟨b, off, hS, rfl, hr⟩ := hv.at k hlt
      obtain ⟨c0, c1, c2, c3, c4, c5⟩ := Ce.six (rw_same (hb.block b hS) hr)
      clear hr
      have hlk : (cs.take k ++ List.replicate (cs.length - k) (⟨0, 0, ⟨0, 0⟩, ⟨0, 0⟩⟩ : Ce)).length = cs.length := by simp; omega
      have hfl := ow_flat_len (f := Ce.cells) (n := 6) (fun _ => rfl) (cs.take k ++ List.replicate (cs.length - k) (⟨0, 0, ⟨0, 0⟩, ⟨0, 0⟩⟩ : Ce))
      have HT : ∀ w2, Below wr.heap.size wr w2 → w2.there w.heap.size (k * 6) 6 := fun w2 hb2 => by
        refine rw_there_same (hb2.block _ hgl) fun j hj => ?_
        have := ow_cell hO (k * 6 + j) (by rw [hfl, hlk]; omega)
        exact ⟨by rw [this.1]; rfl, this.2⟩
      go_wp2_with (first | (go_at_call 19; refine (law_toCell cs[k] _).mono ?_; rintro e w2 ⟨rfl, hb2⟩) | (refine wpList_store_mid rfl 43 _ _ rfl w.heap.size (k * 6) #[.int .i64 cs[k].kind, .int .i64 cs[k].num, .int .i64 cs[k].a.tag, .int .i64 cs[k].a.num, .int .i64 cs[k].b.tag, .int .i64 cs[k].b.num] ?hx ?hy ?ht ?hi ?h1 ?_))
      case hx => rfl
      case hy => rfl
      case ht => exact HT w2 hb2
      case hi => exact cellSize
      case h1 => simp [Value.oneCell']
      have hO2 := ow_setCells cs[k].cells (k * 6) _ _ (ow_keep hO hb2)
      rw [flat_set (f := Ce.cells) (n := 6) (fun _ => rfl) cs[k] _ k (by rw [hlk]; exact hlt), front_CellS cs k hlt] at hO2
      go_roundw
      case rel => exact ⟨k + 1, by omega, by go_num, hO2, rw_below_setCells (Nat.le_refl _) _ _ _ (hb.trans (hb2.mono hb.size))⟩
      case measure => simp [intOf]; omega
    · obtain rfl : k = cs.length := by omega
      go_wp2_with fail
      go_ret
      exact ⟨_, rfl, by simpa using hO, hb⟩
end Go.Proofs.Ytdgfmjakbemhgaa
