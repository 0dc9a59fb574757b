/-
  The law's own szIntS, toIntS, eqIntS: a row of numbers, whatever they are.
-/
import Derived.Test.YtnmmhicgodfpcaaDoorAnTold
import Derived.Deep.QuietTactic
import Derived.BigQuiet
import Derived.Deep.LoopGhost
namespace Go.Proofs.YtnmmhicgodfpcaaDoor
open Go.RowKit

def Int.cells (n : Int) : List Value := [.int .i64 n]
abbrev Ints (w : World) (S : Nat → Prop) (ns : List Int) (v : Value) : Prop := RowOf 1 Int.cells w S ns v
theorem Int.one {w : World} {b o : Nat} {c : Int} (h : w.rangeAt b o (Int.cells c)) : w.cell? ⟨b, o, none⟩ = some (.int .i64 c) := h 0 _ rfl
theorem Int.len1 (c : Int) : (Int.cells c).length = 1 := rfl

set_option maxHeartbeats 400000 in
theorem law_szIntL (cs : List Int) (hlen : cs.length ≤ maxLen) (w : World) (a : Option Addr) (cap n : Nat) (hn : n ≤ 1048576) :
    Calls Tryd.prog 10 #[.slice a cs.length cap, .int .i64 n] w fun r w' => LeftA n cs.length r ∧ w' = w := by
  unfold maxLen at hlen
  by_cases hneg : (n : Int) - (cs.length : Int) < 0
  · go_enter Tryd.func10, Tryd.ntmps10
    go_wp2_with fail
    go_ret
    exact ⟨⟨_, rfl, by omega, by omega⟩, rfl⟩
  · go_enter Tryd.func10, Tryd.ntmps10
    go_wp2_with fail
    go_ret
    exact ⟨⟨_, rfl, by omega, by omega⟩, rfl⟩

theorem make_ints (n : Nat) (hn : n ≤ 1048576) (w : World) : (Instr.makeSlice 23 (.int .i64 (n : Int)) (.int .i64 (n : Int))).run Tryd.prog w =
    .ok (.slice (some ⟨w.heap.size, 0, none⟩) n n) (w.alloc (.cells (madeCells #[.int .i64 0] (n * 1)) 3)) := by
  have hinfo : (Tryd.prog.info? 3).map (fun i => (i.zero, i.size, i.bytes)) = some (some (.int .i64 0), 1, 8) := by kernel_rfl
  obtain ⟨i, hi, hz⟩ := Option.map_eq_some_iff.1 hinfo
  simp only [Prod.mk.injEq] at hz
  obtain ⟨hz, hs, hb⟩ := hz
  have hr := run_make (P := Tryd.prog) w 23 3 i _ Tryd.underlying23 hi hz .i64 .i64 n n (by omega) (Int.le_refl _) (by rw [hb]; omega) (by omega)
  simpa [hs, Value.cells] using hr

set_option maxHeartbeats 400000 in
theorem law_toIntS (cs : List Int) (hlen : cs.length ≤ 1048576) (w : World) (v : Value) (hv : Ints w (· < w.heap.size) cs v) :
    Calls Tryd.prog 13 #[v] w fun r w' => ∃ v', r = .returned v' ∧ Ints w' (fun b => w.heap.size ≤ b ∧ b < w'.heap.size) cs v' ∧ Below w.heap.size w w' := by
  obtain ⟨a, cap, rfl⟩ := hv.slice
  have hmk := make_ints cs.length hlen
  go_enter Tryd.func13, Tryd.ntmps13
  go_wp2_with fail
  go_loopw [4] (fun i wr => ∃ (k : Nat), k ≤ cs.length ∧ i = .int .i64 k ∧ CopyTo 1 Int.cells wr w.heap.size cs k ∧ wr.there w.heap.size 0 (cs.length * 1) ∧ w.heap.size < wr.heap.size ∧ Below w.heap.size w wr) (fun i _ => cs.length - (intOf i).toNat)
  case atStart => exact ⟨0, by omega, rfl, CopyTo.zero, by rw [Nat.mul_one]; exact rw_there_made _ _ _ _, by simp, (Below.refl _ _).alloc (Nat.le_refl _) _⟩
  case round =>
    obtain ⟨k, hk, rfl, hdone, hth, hnb, hb⟩ := hrel
    by_cases hlt : k < cs.length
    · obtain ⟨b, off, hS, rfl, hr⟩ := hv.at k hlt
      have c0 := Int.one (rw_same (hb.block b hS) hr)
      clear hr
      rw [Nat.mul_one] at c0
      have hi : (k : Int) < (cs.length : Int) := by omega
      obtain ⟨t1, t2⟩ := hth k (by omega)
      rw [Nat.zero_add] at t1 t2
      obtain ⟨x1, t1⟩ := Option.isSome_iff_exists.1 t1
      have HC : CopyTo 1 Int.cells (wr.setCell ⟨w.heap.size, k, none⟩ (.int .i64 cs[k])) w.heap.size cs (k + 1) := by
        have := CopyTo.next (w2 := wr) hdone Int.len1 hlt rfl (rw_there_part hth (by omega))
        rw [Nat.mul_one] at this
        exact this
      have HT : (wr.setCell ⟨w.heap.size, k, none⟩ (.int .i64 cs[k])).there w.heap.size 0 (cs.length * 1) := by have := World.there_setCells hth w.heap.size k [.int .i64 cs[k]]; exact this
      have HB : Below w.heap.size w (wr.setCell ⟨w.heap.size, k, none⟩ (.int .i64 cs[k])) := hb.setCell (p := ⟨w.heap.size, k, none⟩) (Nat.le_refl _) _
      have HZ : w.heap.size < (wr.setCell ⟨w.heap.size, k, none⟩ (.int .i64 cs[k])).heap.size := by simp [World.setCell]; exact hnb
      go_wp2_with fail
      go_roundw
      case rel => exact ⟨k + 1, by omega, by go_num, HC, HT, HZ, HB⟩
      case measure => simp [intOf]; omega
    · obtain rfl : k = cs.length := by omega
      go_wp2_with fail
      go_ret
      exact ⟨_, rfl, hdone.all ⟨Nat.le_refl _, hnb⟩ _, hb⟩

set_option maxHeartbeats 1000000 in
theorem law_eqInts (cs : List Int) (hlen : cs.length ≤ 1048576) (w : World) (v1 v2 : Value) (hv1 : Ints w (· < w.heap.size) cs v1) (hv2 : Ints w (· < w.heap.size) cs v2) :
    Calls Tryd.prog 18 #[v1, v2] w fun r w' => r = .returned (.bool true) ∧ Below w.heap.size w w' := by
  obtain ⟨a1, cap1, rfl⟩ := hv1.slice
  obtain ⟨a2, cap2, rfl⟩ := hv2.slice
  go_enter Tryd.func18, Tryd.ntmps18
  go_wp2_with fail
  go_loopg [5] cs.length (fun g i wr => ∃ k : Nat, k + g = cs.length ∧ i = .int .i64 k ∧ ∃ n, wr = w.drewN n)
  case atStart => exact ⟨0, by omega, rfl, 0, rfl⟩
  case round =>
    obtain ⟨k, hk, rfl, n, rfl⟩ := hrel
    by_cases hlt : k < cs.length
    · obtain ⟨b1, off1, hS1, rfl, hr1⟩ := hv1.at k hlt
      obtain ⟨b2, off2, hS2, rfl, hr2⟩ := hv2.at k hlt
      have c0 := Int.one hr1
      have d0 := Int.one hr2
      rw [Nat.mul_one] at c0 d0
      clear hr1 hr2
      have hi : (k : Int) < (cs.length : Int) := by omega
      generalize cs[k] = m at c0 d0
      have e1 : (w.drewN n).cell? ⟨b1, off1 + k, none⟩ = some (.int .i64 m) := c0
      have e2 : (w.drewN n).cell? ⟨b2, off2 + k, none⟩ = some (.int .i64 m) := d0
      go_wp2_with fail
      go_quiet (fail)
      go_wp2_with fail
      go_roundg (cs.length - (k + 1))
      case measure => omega
      case rel => exact ⟨k + 1, by omega, by go_num, n + _, rfl⟩
    · obtain rfl : k = cs.length := by omega
      have hi : ¬ (cs.length : Int) < (cs.length : Int) := by omega
      go_wp2_with fail
      go_ret
      exact ⟨rfl, ⟨rfl, rfl, rfl, Nat.le_refl _, fun _ _ => rfl⟩⟩
end Go.Proofs.YtnmmhicgodfpcaaDoor
