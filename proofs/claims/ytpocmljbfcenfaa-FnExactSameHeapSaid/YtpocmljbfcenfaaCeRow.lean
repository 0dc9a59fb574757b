/-
  The law's own szCellS, toCellS, eqCellS: a row of cells.
-/
import Derived.Test.YtpocmljbfcenfaaCeData
namespace Go.Proofs.Ytpocmljbfcenfaa
open Go.RowKit

set_option maxHeartbeats 400000 in
theorem law_szCellS (cs : List Ce) (hlen : cs.length ≤ maxLen) (w : World) (a : Option Addr) (cap : Nat) :
    Calls Try.prog 4 #[.slice a cs.length cap, .int .i64 1048576] w fun r w' => (∃ n : Int, r = .returned (.int .i64 n) ∧ (0 ≤ n → cs.length ≤ 1048576)) ∧ w' = w := by
  unfold maxLen at hlen
  by_cases hneg : 1048576 - (cs.length : Int) < 0
  · go_enter Try.func4, Try.ntmps4
    go_wp2_with fail
    go_ret
    exact ⟨⟨_, rfl, by omega⟩, rfl⟩
  · go_enter Try.func4, Try.ntmps4
    go_wp2_with fail
    go_ret
    exact ⟨⟨_, rfl, by omega⟩, rfl⟩
theorem make_cells (n : Nat) (hn : n ≤ 1048576) (w : World) : (Instr.makeSlice 27 (.int .i64 (n : Int)) (.int .i64 (n : Int))).run Try.prog w =
    .ok (.slice (some ⟨w.heap.size, 0, none⟩) n n) (w.alloc (.cells (madeCells #[.int .i64 0, .int .i64 0, .int .i64 0, .int .i64 0, .int .i64 0, .int .i64 0] (n * 6)) 36)) := by
  have hinfo : (Try.prog.info? 36).map (fun i => (i.zero, i.size, i.bytes)) = some (some (.agg #[.int .i64 0, .int .i64 0, .int .i64 0, .int .i64 0, .int .i64 0, .int .i64 0]), 6, 48) := by kernel_rfl
  obtain ⟨i, hi, hz⟩ := Option.map_eq_some_iff.1 hinfo
  simp only [Prod.mk.injEq] at hz
  obtain ⟨hz, hs, hb⟩ := hz
  have hr := run_make (P := Try.prog) w 27 36 i _ Try.underlying27 hi hz .i64 .i64 n n (by omega) (Int.le_refl _) (by rw [hb]; omega) (by omega)
  simpa [hs, Value.cells] using hr
theorem cellSize : (Try.prog.info? 36).map (·.size) = some 6 := by kernel_rfl
theorem Ce.len (c : Ce) : c.cells.length = 6 := rfl

set_option maxHeartbeats 400000 in
theorem law_toCellS (cs : List Ce) (hlen : cs.length ≤ 1048576) (w : World) (v : Value) (hv : Cells w (· < w.heap.size) cs v) :
    Calls Try.prog 6 #[v] w fun r w' => ∃ v', r = .returned v' ∧ Cells w' (fun b => w.heap.size ≤ b ∧ b < w'.heap.size) cs v' ∧ Below w.heap.size w w' := by
  obtain ⟨a, cap, rfl⟩ := hv.slice
  have hmk := make_cells cs.length hlen
  go_enter Try.func6, Try.ntmps6
  go_wp2_with fail
  go_loopw [4] (fun i wr => ∃ (k : Nat), k ≤ cs.length ∧ i = .int .i64 k ∧ CopyTo 6 Ce.cells wr w.heap.size cs k ∧ wr.there w.heap.size 0 (cs.length * 6) ∧ w.heap.size < wr.heap.size ∧ Below w.heap.size w wr) (fun i _ => cs.length - (intOf i).toNat)
  case atStart => exact ⟨0, by omega, rfl, CopyTo.zero, rw_there_made _ _ _ _, by simp, (Below.refl _ _).alloc (Nat.le_refl _) _⟩
  case round =>
    obtain ⟨k, hk, rfl, hdone, hth, hnb, hb⟩ := hrel
    by_cases hlt : k < cs.length
    · obtain ⟨b, off, hS, rfl, hr⟩ := hv.at k hlt
      obtain ⟨c0, c1, c2, c3, c4, c5⟩ := Ce.six (rw_same (hb.block b hS) hr)
      clear hr
      have HT : ∀ w2, Below wr.heap.size wr w2 → w2.there w.heap.size (k * 6) 6 := fun w2 hb2 => rw_there_part (rw_there_same (hb2.block _ hnb) hth) (by omega)
      go_wp2_with (first | (go_at_call 13; refine (law_toCell cs[k] _).mono ?_; rintro e w2 ⟨rfl, hb2⟩) | (refine wpList_store_mid rfl 36 _ _ rfl w.heap.size (k * 6) #[.int .i64 cs[k].kind, .int .i64 cs[k].num, .int .i64 cs[k].a.tag, .int .i64 cs[k].a.num, .int .i64 cs[k].b.tag, .int .i64 cs[k].b.num] ?hx ?hy ?ht ?hi ?h1 ?_))
      case hx => rfl
      case hy => rfl
      case ht => exact HT w2 hb2
      case hi => exact cellSize
      case h1 => simp [Value.oneCell']
      go_roundw
      case rel =>
        refine ⟨k + 1, by omega, by go_num, CopyTo.next hdone Ce.len hlt (hb2.block _ hnb) (HT w2 hb2), World.there_setCells (rw_there_same (hb2.block _ hnb) hth) _ _ _, ?_, rw_below_setCells (Nat.le_refl _) _ _ _ (hb.trans (hb2.mono hb.size))⟩
        rw [rw_size_setCells]; have := hb2.size; omega
      case measure => simp [intOf]; omega
    · obtain rfl : k = cs.length := by omega
      go_wp2_with fail
      go_ret
      exact ⟨_, rfl, hdone.all ⟨Nat.le_refl _, hnb⟩ _, hb⟩
set_option maxHeartbeats 400000 in
theorem law_eqCellS (cs : List Ce) (hlen : cs.length ≤ 1048576) (w : World) (v1 v2 : Value) (hv1 : Cells w (· < w.heap.size) cs v1) (hv2 : Cells w (· < w.heap.size) cs v2) :
    Calls Try.prog 9 #[v1, v2] w fun r w' => r = .returned (.bool true) ∧ Below w.heap.size w w' := by
  obtain ⟨a1, cap1, rfl⟩ := hv1.slice
  obtain ⟨a2, cap2, rfl⟩ := hv2.slice
  go_enter Try.func9, Try.ntmps9
  go_wp2_with fail
  go_loopw [5] (fun i wr => ∃ (k : Nat), k ≤ cs.length ∧ i = .int .i64 k ∧ Below w.heap.size w wr) (fun i _ => cs.length - (intOf i).toNat)
  case atStart => exact ⟨0, by omega, rfl, Below.refl _ _⟩
  case round =>
    obtain ⟨k, hk, rfl, hb⟩ := hrel
    by_cases hlt : k < cs.length
    · obtain ⟨b1, off1, hS1, rfl, hr1⟩ := hv1.at k hlt
      obtain ⟨b2, off2, hS2, rfl, hr2⟩ := hv2.at k hlt
      obtain ⟨c0, c1, c2, c3, c4, c5⟩ := Ce.six (rw_same (hb.block b1 hS1) hr1)
      obtain ⟨d0, d1, d2, d3, d4, d5⟩ := Ce.six (rw_same (hb.block b2 hS2) hr2)
      clear hr1 hr2
      have hi : (k : Int) < (cs.length : Int) := by omega
      go_wp2_with fail
      go_region_with (go_at_call 17; refine (law_eqCell cs[k] _).mono ?_; rintro r w2 ⟨rfl, hb2⟩)
      all_goals
        go_wp2_with fail
        go_roundw
        case rel => exact ⟨k + 1, by omega, by go_num, hb.drew.trans (hb2.mono hb.size)⟩
        case measure => simp [intOf]; omega
    · go_wp2_with fail
      go_ret
      exact ⟨rfl, hb⟩
end Go.Proofs.Ytpocmljbfcenfaa
