/-
  The law's own szWordS, toWordS, eqWordS: a row of words.
-/
import Derived.Test.YtdgfmjakbemhgaaCeLeft
namespace Go.Proofs.Ytdgfmjakbemhgaa
open Go.RowKit

set_option maxHeartbeats 400000 in
theorem law_szWordL (cs : List Wd) (hlen : cs.length ≤ maxLen) (w : World) (a : Option Addr) (cap n : Nat) (hn : n ≤ 1048576) :
    Calls Try.prog 5 #[.slice a cs.length cap, .int .i64 n] w fun r w' => Left n cs.length r ∧ w' = w := by
  unfold maxLen at hlen
  by_cases hneg : (n : Int) - (cs.length : Int) < 0
  · go_enter Try.func5, Try.ntmps5
    go_wp2_with fail
    go_ret
    exact ⟨⟨_, rfl, by omega, by omega⟩, rfl⟩
  · go_enter Try.func5, Try.ntmps5
    go_wp2_with fail
    go_ret
    exact ⟨⟨_, rfl, by omega, by omega⟩, rfl⟩

theorem make_words (n : Nat) (hn : n ≤ 1048576) (w : World) : (Instr.makeSlice 27 (.int .i64 (n : Int)) (.int .i64 (n : Int))).run Try.prog w =
    .ok (.slice (some ⟨w.heap.size, 0, none⟩) n n) (w.alloc (.cells (madeCells #[.int .i64 0, .int .i64 0] (n * 2)) 41)) := by
  have hinfo : (Try.prog.info? 41).map (fun i => (i.zero, i.size, i.bytes)) = some (some (.agg #[.int .i64 0, .int .i64 0]), 2, 16) := by kernel_rfl
  obtain ⟨i, hi, hz⟩ := Option.map_eq_some_iff.1 hinfo
  simp only [Prod.mk.injEq] at hz
  obtain ⟨hz, hs, hb⟩ := hz
  have hr := run_make (P := Try.prog) w 27 41 i _ Try.underlying27 hi hz .i64 .i64 n n (by omega) (Int.le_refl _) (by rw [hb]; omega) (by omega)
  simpa [hs, Value.cells] using hr
theorem wordSize : (Try.prog.info? 41).map (·.size) = some 2 := by kernel_rfl
theorem Wd.len2 (c : Wd) : c.cells.length = 2 := rfl

set_option maxHeartbeats 400000 in
theorem law_toWordS (cs : List Wd) (hlen : cs.length ≤ 1048576) (w : World) (v : Value) (hv : Words w (· < w.heap.size) cs v) :
    Calls Try.prog 8 #[v] w fun r w' => ∃ v', r = .returned v' ∧ Words w' (fun b => w.heap.size ≤ b ∧ b < w'.heap.size) cs v' ∧ Below w.heap.size w w' := by
  obtain ⟨a, cap, rfl⟩ := hv.slice
  have hmk := make_words cs.length hlen
  go_enter Try.func8, Try.ntmps8
  go_wp2_with fail
  go_loopw [4] (fun i wr => ∃ (k : Nat), k ≤ cs.length ∧ i = .int .i64 k ∧ CopyTo 2 Wd.cells wr w.heap.size cs k ∧ wr.there w.heap.size 0 (cs.length * 2) ∧ w.heap.size < wr.heap.size ∧ Below w.heap.size w wr) (fun i _ => cs.length - (intOf i).toNat)
  case atStart => exact ⟨0, by omega, rfl, CopyTo.zero, rw_there_made _ _ _ _, by simp, (Below.refl _ _).alloc (Nat.le_refl _) _⟩
  case round =>
    obtain ⟨k, hk, rfl, hdone, hth, hnb, hb⟩ := hrel
    by_cases hlt : k < cs.length
    · obtain ⟨b, off, hS, rfl, hr⟩ := hv.at k hlt
      obtain ⟨c0, c1⟩ := Wd.two (rw_same (hb.block b hS) hr)
      clear hr
      have HT : ∀ w2, Below wr.heap.size wr w2 → w2.there w.heap.size (k * 2) 2 := fun w2 hb2 => rw_there_part (rw_there_same (hb2.block _ hnb) hth) (by omega)
      go_wp2_with (first | (go_at_call 20; refine (law_toWord cs[k].tag cs[k].num _).mono ?_; rintro e w2 ⟨rfl, hb2⟩) | (refine wpList_store_mid rfl 41 _ _ rfl w.heap.size (k * 2) #[.int .i64 cs[k].tag, .int .i64 cs[k].num] ?hx ?hy ?ht ?hi ?h1 ?_))
      case hx => rfl
      case hy => rfl
      case ht => exact HT w2 hb2
      case hi => exact wordSize
      case h1 => simp [Value.oneCell']
      go_roundw
      case rel =>
        refine ⟨k + 1, by omega, by go_num, CopyTo.next hdone Wd.len2 hlt (hb2.block _ hnb) (HT w2 hb2), World.there_setCells (rw_there_same (hb2.block _ hnb) hth) _ _ _, ?_, rw_below_setCells (Nat.le_refl _) _ _ _ (hb.trans (hb2.mono hb.size))⟩
        rw [rw_size_setCells]; have := hb2.size; omega
      case measure => simp [intOf]; omega
    · obtain rfl : k = cs.length := by omega
      go_wp2_with fail
      go_ret
      exact ⟨_, rfl, hdone.all ⟨Nat.le_refl _, hnb⟩ _, hb⟩

set_option maxHeartbeats 400000 in
theorem law_eqWordS (cs : List Wd) (hlen : cs.length ≤ 1048576) (w : World) (v1 v2 : Value) (hv1 : Words w (· < w.heap.size) cs v1) (hv2 : Words w (· < w.heap.size) cs v2) :
    Calls Try.prog 11 #[v1, v2] w fun r w' => r = .returned (.bool true) ∧ Below w.heap.size w w' := by
  obtain ⟨a1, cap1, rfl⟩ := hv1.slice
  obtain ⟨a2, cap2, rfl⟩ := hv2.slice
  go_enter Try.func11, Try.ntmps11
  go_wp2_with fail
  go_loopw [5] (fun i wr => ∃ (k : Nat), k ≤ cs.length ∧ i = .int .i64 k ∧ Below w.heap.size w wr) (fun i _ => cs.length - (intOf i).toNat)
  case atStart => exact ⟨0, by omega, rfl, Below.refl _ _⟩
  case round =>
    obtain ⟨k, hk, rfl, hb⟩ := hrel
    by_cases hlt : k < cs.length
    · obtain ⟨b1, off1, hS1, rfl, hr1⟩ := hv1.at k hlt
      obtain ⟨b2, off2, hS2, rfl, hr2⟩ := hv2.at k hlt
      obtain ⟨c0, c1⟩ := Wd.two (rw_same (hb.block b1 hS1) hr1)
      obtain ⟨d0, d1⟩ := Wd.two (rw_same (hb.block b2 hS2) hr2)
      clear hr1 hr2
      have hi : (k : Int) < (cs.length : Int) := by omega
      go_wp2_with fail
      go_region_with (go_at_call 25; refine (law_eqWord cs[k].tag cs[k].num _).mono ?_; rintro r w2 ⟨rfl, hb2⟩)
      all_goals
        go_wp2_with fail
        go_roundw
        case rel => exact ⟨k + 1, by omega, by go_num, hb.drew.trans (hb2.mono hb.size)⟩
        case measure => simp [intOf]; omega
    · go_wp2_with fail
      go_ret
      exact ⟨rfl, hb⟩
end Go.Proofs.Ytdgfmjakbemhgaa
