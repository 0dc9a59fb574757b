/-
  The law's own toWordS: a row of the call's own.
-/
import Derived.Test.YtdgfmjakbemhgaaWdRow
import Derived.Test.YtdgfmjakbemhgaaWlSet
namespace Go.Proofs.Ytdgfmjakbemhgaa
open Go.RowKit

theorem made_WordS (w : World) (m B : Nat) (hB : B ≤ w.heap.size) (hm : m ≤ 1048576) : (w.alloc (.cells (madeCells #[.int .i64 0, .int .i64 0] (m * 2)) 41)).ownsRow B 41 2 (.slice (some ⟨w.heap.size, 0, none⟩) m m) m ((List.replicate m (⟨0, 0⟩ : Wd)).flatMap Wd.cells) := by
  have hz : (madeCells #[.int .i64 0, .int .i64 0] (m * 2)).toList = (List.replicate m (⟨0, 0⟩ : Wd)).flatMap Wd.cells := by
    have h1 : (madeCells #[.int .i64 0, .int .i64 0] (m * 2)).toList = List.replicate (m * 2) (.int .i64 0) := by
      rw [List.eq_replicate_iff]
      refine ⟨by simp [size_madeCells], fun x hx => ?_⟩
      simp only [madeCells, Array.toList_map, List.mem_map] at hx
      obtain ⟨i, _, rfl⟩ := hx
      have hi : i % 2 < 2 := Nat.mod_lt _ (by omega)
      show (#[.int .i64 0, .int .i64 0] : Array Value)[i % 2]! = _
      revert hi
      generalize i % 2 = k
      intro hi
      match k, hi with
      | 0, _ | 1, _ => rfl
    rw [h1]
    clear h1 hm
    induction m with
    | zero => rfl
    | succ m ih => rw [List.replicate_succ, List.flatMap_cons, ← ih, Nat.succ_mul, Nat.add_comm, ← List.replicate_append_replicate]; rfl
  refine ⟨by rw [← hz]; simp [size_madeCells], Or.inr ⟨w.heap.size, m, madeCells #[.int .i64 0, .int .i64 0] (m * 2), rfl, hB, heap_alloc_new _ _, Nat.le_refl _, by unfold maxLen; omega, size_madeCells _ _, ?_⟩⟩
  rw [List.take_of_length_le (by simp [size_madeCells]), hz]
theorem front_WordS (cs : List Wd) (k : Nat) (h : k < cs.length) : (cs.take k ++ List.replicate (cs.length - k) (⟨0, 0⟩ : Wd)).set k cs[k] = cs.take (k + 1) ++ List.replicate (cs.length - (k + 1)) (⟨0, 0⟩ : Wd) := by
  obtain ⟨m, hm⟩ : ∃ m, cs.length - k = m + 1 := ⟨cs.length - k - 1, by omega⟩
  have hl : (cs.take k).length = k := by simp; omega
  rw [List.set_append_right _ _ (by omega), hl, Nat.sub_self, hm, List.replicate_succ, List.set_cons_zero, List.take_succ_eq_append_getElem h, show cs.length - (k + 1) = m by omega, List.append_assoc]
  rfl

set_option maxHeartbeats 1000000 in
theorem own_toWordS (cs : List Wd) (hlen : cs.length ≤ 1048576) (w : World) (v : Value) (hv : RowOf 2 Wd.cells w (· < w.heap.size) cs v) :
    Calls Try.prog 8 #[v] w fun r w' => ∃ v', r = .returned v' ∧ w'.ownsRow w.heap.size 41 2 v' cs.length (cs.flatMap Wd.cells) ∧ Below w.heap.size w w' := by
  obtain ⟨a, cap, rfl⟩ := hv.slice
  have hmk := make_words cs.length hlen
  go_enter Try.func8, Try.ntmps8
  go_wp2_with fail
  go_loopw [4] (fun i wr => ∃ (k : Nat), k ≤ cs.length ∧ i = .int .i64 k ∧ wr.ownsRow w.heap.size 41 2 (.slice (some ⟨w.heap.size, 0, none⟩) cs.length cs.length) cs.length ((cs.take k ++ List.replicate (cs.length - k) (⟨0, 0⟩ : Wd)).flatMap Wd.cells) ∧ Below w.heap.size w wr) (fun i _ => cs.length - (intOf i).toNat)
  case atStart => exact ⟨0, by omega, rfl, by simpa using made_WordS w cs.length _ (Nat.le_refl _) hlen, (Below.refl _ _).alloc (Nat.le_refl _) _⟩
  case round =>
    obtain ⟨k, hk, rfl, hO, hb⟩ := hrel
    have hgl := (hO.lt w.heap.size rfl).2
    by_cases hlt : k < cs.length
    · obtain ⟨b, off, hS, rfl, hr⟩ := hv.at k hlt
      obtain ⟨c0, c1⟩ := Wd.two (rw_same (hb.block b hS) hr)
      clear hr
      have hlk : (cs.take k ++ List.replicate (cs.length - k) (⟨0, 0⟩ : Wd)).length = cs.length := by simp; omega
      have hfl := ow_flat_len (f := Wd.cells) (n := 2) (fun _ => rfl) (cs.take k ++ List.replicate (cs.length - k) (⟨0, 0⟩ : Wd))
      have HT : ∀ w2, Below wr.heap.size wr w2 → w2.there w.heap.size (k * 2) 2 := fun w2 hb2 => by
        refine rw_there_same (hb2.block _ hgl) fun j hj => ?_
        have := ow_cell hO (k * 2 + j) (by rw [hfl, hlk]; omega)
        exact ⟨by rw [this.1]; rfl, this.2⟩
      go_wp2_with (first | (go_at_call 20; refine (law_toWord cs[k].tag cs[k].num _).mono ?_; rintro e w2 ⟨rfl, hb2⟩) | (refine wpList_store_mid rfl 41 _ _ rfl w.heap.size (k * 2) #[.int .i64 cs[k].tag, .int .i64 cs[k].num] ?hx ?hy ?ht ?hi ?h1 ?_))
      case hx => rfl
      case hy => rfl
      case ht => exact HT w2 hb2
      case hi => exact wordSize
      case h1 => simp [Value.oneCell']
      have hO2 := ow_setCells cs[k].cells (k * 2) _ _ (ow_keep hO hb2)
      rw [flat_set (f := Wd.cells) (n := 2) (fun _ => rfl) cs[k] _ k (by rw [hlk]; exact hlt), front_WordS cs k hlt] at hO2
      go_roundw
      case rel => exact ⟨k + 1, by omega, by go_num, hO2, rw_below_setCells (Nat.le_refl _) _ _ _ (hb.trans (hb2.mono hb.size))⟩
      case measure => simp [intOf]; omega
    · obtain rfl : k = cs.length := by omega
      go_wp2_with fail
      go_ret
      exact ⟨_, rfl, by simpa using hO, hb⟩
end Go.Proofs.Ytdgfmjakbemhgaa
