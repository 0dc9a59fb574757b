/-
  The law FnTurns.
-/
import Derived.Test.YtodjbmgppipmjaaTuRun
import Derived.Test.YtodjbmgppipmjaaRdPick
import Derived.Deep.QuietTactic
import Derived.BigQuiet
namespace Go.Proofs.Ytodjbmgppipmjaa
open Go.RowKit

set_option maxHeartbeats 1000000 in
theorem spec_l20Open (w : World) (len : Nat) (v : Value) (hv : Bytes w w.heap.size len v) :
    Calls Try.prog 7 #[v] w fun r w' => ∃ v' len', r = .returned (.pointer (some ⟨w.heap.size, 0, none⟩)) ∧ Bytes w w.heap.size len' v' ∧ len' ≤ 2000 ∧ w' = w.alloc (.cells #[v', .int .i64 0] 35) := by
  have hv0 := hv
  obtain ⟨a, cap, rfl, h1, h2, h3⟩ := hv
  unfold maxLen at h2
  by_cases h : 2000 < len
  · have hi : (2000 : Int) < (len : Int) := by omega
    obtain ⟨b, off, x, rfl, _⟩ := h3 0 (by omega)
    have hcap : ¬ cap = 0 := by omega
    go_enter Try.func7, Try.ntmps7
    go_wp2_with fail
    go_ret
    exact ⟨_, 2000, rfl, ⟨_, cap, rfl, by omega, by unfold maxLen; omega, fun i hi => h3 i (by omega)⟩, Nat.le_refl _, rfl⟩
  · have hi : ¬ (2000 : Int) < (len : Int) := by omega
    go_enter Try.func7, Try.ntmps7
    go_wp2_with fail
    go_ret
    exact ⟨rfl, _, len, hv0, by omega, rfl⟩

/-- What DrawRunTurns draws from. -/
def drawL : List Int := [0, 1, 3, 20, 21, -1]
set_option maxHeartbeats 1000000 in
theorem spec_one6 (w : World) (g h len cap : Nat) (a : Option Addr) (hlen : len ≤ 2000) (h0 : w.cell? ⟨g, 0, none⟩ = some (.slice a len cap)) (h1 : w.cell? ⟨g, 1, none⟩ = some (.int .i64 0)) (hf : w.frozen? ⟨g, 1, none⟩ = false)
    (hb : 0 < len → ∃ b off x, a = some ⟨b, off, none⟩ ∧ b < g ∧ w.cell? ⟨b, off, none⟩ = some (.int .u8 x) ∧ 0 ≤ x ∧ x < 256) (hgh : g < h) (hl : ∀ i (hi : i < 6), w.cell? ⟨h, i, none⟩ = some (.int .i64 drawL[i])) :
    Calls Try.prog 8 #[.pointer (some ⟨g, 0, none⟩), .slice (some ⟨h, 0, none⟩) 6 6] w fun r w' => (∃ (k : Nat) (hk : k < 6), r = .returned (.int .i64 drawL[k])) ∧ w' = w.setCell ⟨g, 1, none⟩ (.int .i64 1) := by
  have hp : Calls Try.prog 11 #[.pointer (some ⟨g, 0, none⟩), .int .i64 6] w fun r w' => (∃ k : Nat, r = .returned (.int .i64 k) ∧ k < 6) ∧ w' = w.setCell ⟨g, 1, none⟩ (.int .i64 1) := spec_pick0 w g len cap a 6 (by omega) (by omega) hlen h0 h1 hf hb
  have hl' : ∀ i (hi : i < 6) u, (w.setCell ⟨g, 1, none⟩ u).cell? ⟨h, i, none⟩ = some (.int .i64 drawL[i]) := fun i hi u => by
    rw [World.cell?_of_block (w := w) (Below.heap_setCell _ _ _ _ (by show h ≠ g; omega))]; exact hl i hi
  clear hl hb
  go_enter Try.func8, Try.ntmps8
  go_wp2_with (go_at_call 11; refine hp.mono ?_; rintro r w2 ⟨⟨k, rfl, hk⟩, rfl⟩; have hc := hl' k hk (.int .i64 1); have hki : (k : Int) < 6 := by omega)
  go_ret
  exact ⟨⟨k, hk, rfl⟩, rfl⟩

set_option maxHeartbeats 1000000 in
theorem spec_DrawRunTurns (w : World) (len : Nat) (v : Value) (hv : Bytes w w.heap.size len v) :
    Calls Try.prog 4 #[v] w fun r w' => (∃ (k : Nat) (hk : k < 6), r = .returned (.int .i64 drawL[k])) ∧ Below w.heap.size w w' := by
  go_enter Try.func4, Try.ntmps4
  go_wp2_with (first
    | (go_at_call 7; refine (spec_l20Open _ len _ hv).mono ?_; rintro r w2 ⟨v', len', rfl, hv', hle, rfl⟩; obtain ⟨a', cap', rfl, _, _, h3⟩ := hv')
    | (go_at_call 8; refine (spec_one6 _ _ (w.heap.size + 1) len' cap' a' hle (by simp) (by simp) (by simp) (fun h => ?hb) (by omega) (fun i hi => ?hl)).mono ?_))
  case hb =>
    obtain ⟨b, off, x, rfl, hlt, hc, hx⟩ := h3 0 h
    refine ⟨b, off, x, rfl, hlt, ?_, hx⟩
    rw [((below_two' w _ _).cell (p := ⟨b, off, none⟩) hlt)]
    exact hc
  case hl =>
    have := ow_cells_new (w.alloc (.cells #[.slice a' len' cap', .int .i64 0] 35)) #[.int .i64 0, .int .i64 1, .int .i64 3, .int .i64 20, .int .i64 21, .int .i64 (-1)] 3 i (.int .i64 drawL[i]) (by
      match i, hi with
      | 0, _ | 1, _ | 2, _ | 3, _ | 4, _ | 5, _ => rfl)
    rw [Addr.add_mid] at this
    simpa using this
  rintro r w3 ⟨⟨k, hk, rfl⟩, rfl⟩
  go_wp2_with fail
  go_ret
  exact ⟨⟨k, hk, rfl⟩, below_two' w _ _⟩
where
  below_two' (w : World) (o1 o2 : Obj) : Below w.heap.size w ((w.alloc o1).alloc o2) := ((Below.refl _ _).alloc (Nat.le_refl _) o1).alloc (by simp) o2

theorem turnL_get (n i : Nat) (h : i < (turnL n).length) : (turnL n)[i] = ⟨1, (i : Int) % 6⟩ := by simp [turnL]

set_option maxHeartbeats 1000000 in
theorem law_Turns (len : Nat) (w : World) (v : Value) (hv : Bytes w w.heap.size len v) :
    Calls Try.prog 3 #[v] w fun e w' => e = .returned (.bool true) ∧ Below w.heap.size w w' := by
  have hv0 := hv
  obtain ⟨a, cap, rfl, h1, h2, h3⟩ := hv
  clear h3
  unfold maxLen at h2
  by_cases hbig : 1048576 < len
  · have hi : (1048576 : Int) < (len : Int) := by omega
    go_enter Try.func3, Try.ntmps3
    go_wp2_with fail
    go_ret
    exact ⟨rfl, Below.refl _ _⟩
  have hi : ¬ (1048576 : Int) < (len : Int) := by omega
  go_enter Try.func3, Try.ntmps3
  go_upto_region 4 with (go_at_call 4; refine (spec_DrawRunTurns _ len _ hv0).mono ?_; rintro e w1 ⟨⟨k, hk, rfl⟩, hB1⟩)
  have hd : (turnsM drawL[k] : Int) = if turnsM drawL[k] = 0 then 0 else drawL[k] * 6 := by
    match k, hk with
    | 0, _ | 1, _ | 2, _ | 3, _ | 4, _ | 5, _ => rfl
  have hr : -1 ≤ drawL[k] ∧ drawL[k] ≤ 21 := by
    match k, hk with
    | 0, _ | 1, _ | 2, _ | 3, _ | 4, _ | 5, _ => constructor <;> (show (_ : Int) ≤ _; simp [drawL])
  generalize drawL[k] = r at hd hr
  obtain ⟨hr1, hr2⟩ := hr
  have hn := turnsM_le r
  generalize HN : turnsM r = n at hd hn
  have HI : ∀ w, Calls Try.prog 5 #[.int .i64 r] w fun e w' => Turned w w' n e := fun w => HN ▸ impl_RunTurns r w
  have HS : ∀ w, Calls Try.prog 6 #[.int .i64 r] w fun e w' => Turned w w' n e := fun w => HN ▸ spec_RunTurns r w
  clear HN
  have HD : Hid ((n : Int) = if n = 0 then 0 else r * 6) := hd
  clear hd
  go_upto_region 6 with (first
    | (go_at_call 5; refine (HI _).mono ?_; rintro e w2 ⟨v2, rfl, hO2, hB2⟩; have hB12 := tu_next hB1 hB2)
    | (go_at_call 6; refine (HS _).mono ?_; rintro e w3 ⟨v3, rfl, hO3, hB3⟩; have hB13 := tu_next hB12 hB3; have hO23 := hO2.keep hB3))
  have R2 := tu_row hO23
  have R3 := tu_row hO3
  clear hO2 hO3 hO23 hB1 hB2 hB12 hB3 HI HS
  obtain ⟨a2, cap2, rfl⟩ := R2.slice
  obtain ⟨a3, cap3, rfl⟩ := R3.slice
  have HL := turnL_length n
  rcases Nat.eq_zero_or_pos n with hz | hpos
  · subst hz
    rw [HL]
    go_wp2_with fail
    go_ret
    exact ⟨rfl, hB13⟩
  · rw [HL]
    have hne : ¬ (n : Int) = 0 := by omega
    have hneb : ((n : Int) == 0) = false := by simp; omega
    have HE : Hid ((n : Int) = r * 6) := by have := HD.out; rw [if_neg (by omega)] at this; exact this
    clear HD
    go_wp2_with fail
    go_loopg [6] n (fun g i wr => ∃ j : Nat, j + g = n ∧ i = .int .i64 j ∧ ∃ m, wr = w3.drewN m)
    case atStart => exact ⟨0, by omega, rfl, 0, rfl⟩
    case round =>
      obtain ⟨j, hj, rfl, m, rfl⟩ := hrel
      by_cases hlt : j < n
      · have hlj : j < (turnL n).length := by rw [HL]; exact hlt
        obtain ⟨b2, off2, hS2, rfl, hr2'⟩ := R2.at j hlj
        obtain ⟨b3, off3, hS3, rfl, hr3'⟩ := R3.at j hlj
        rw [turnL_get] at hr2' hr3'
        obtain ⟨c0, c1⟩ := Ev.two hr2'
        obtain ⟨d0, d1⟩ := Ev.two hr3'
        have hji : (j : Int) < (n : Int) := by omega
        clear hr2' hr3'
        go_wp2_with fail
        go_quiet (fail)
        go_wp2_with fail
        go_roundg (n - (j + 1))
        case measure => omega
        case rel => exact ⟨j + 1, by omega, by go_num, m + nq, rfl⟩
      · obtain rfl : j = n := by omega
        have he : (j : Int) = r * 6 := HE.out
        go_wp2_with fail
        go_ret
        exact ⟨by simp [he], ⟨hB13.os, hB13.tape, hB13.output, hB13.size, hB13.block⟩⟩
end Go.Proofs.Ytodjbmgppipmjaa
