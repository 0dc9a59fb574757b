/-
  The program's CodeOk.
-/
import Derived.Test.YtmbldcmmpbodgaaDoorCkImpl
import Derived.Test.YtmbldcmmpbodgaaDoorCkFits
namespace Go.Proofs.YtmbldcmmpbodgaaDoor
open Go.RowKit

/-- What CodeOk answers. -/
def codeM (ops : List Wd) : Bool := decide (1 ≤ ops.length ∧ ops.length ≤ 200) && (ops.all (fun op => fitsM op ops.length) && runQ ops ops.length (startQ ops))
theorem codeM_len (ops : List Wd) (h : ¬ (1 ≤ ops.length ∧ ops.length ≤ 200)) : codeM ops = false := by
  unfold codeM
  rw [decide_eq_false h]
  rfl
theorem codeM_bad (ops : List Wd) (k : Nat) (hk : k < ops.length) (h : fitsM ops[k] ops.length = false) : codeM ops = false := by
  unfold codeM
  have : (ops.all fun op => fitsM op ops.length) = false := by
    rw [List.all_eq_false]
    exact ⟨_, List.getElem_mem hk, by rw [h]; simp⟩
  rw [this]
  simp
theorem codeM_fit (ops : List Wd) (hl : 1 ≤ ops.length ∧ ops.length ≤ 200) (h : ∀ k (hk : k < ops.length), fitsM ops[k] ops.length = true) : codeM ops = runQ ops ops.length (startQ ops) := by
  unfold codeM
  have : (ops.all fun op => fitsM op ops.length) = true := by
    rw [List.all_eq_true]
    intro x hx
    obtain ⟨k, hk, rfl⟩ := List.getElem_of_mem hx
    exact h k hk
  rw [this, decide_eq_true hl]
  simp
theorem getD_at (ops : List Wd) (k : Nat) (hk : k < ops.length) : ops.getD k op0 = ops[k] := by
  rw [List.getD_eq_getElem?_getD, List.getElem?_eq_getElem hk]
  rfl

set_option maxRecDepth 100000 in
set_option maxHeartbeats 4000000 in
theorem impl_CodeOk (ops : List Wd) (hn : ops.length ≤ 1048576) (w : World) (v : Value) (hv : Words w (· < w.heap.size) ops v) :
    Calls Tryd.prog 12 #[v] w fun r w' => r = .returned (.bool (codeM ops)) ∧ Below w.heap.size w w' := by
  obtain ⟨a, cap, rfl⟩ := hv.slice
  by_cases hl1 : ops.length < 1
  · rw [codeM_len ops (by omega)]
    have h0 : ops.length = 0 := by omega
    have h1 : (ops.length : Int) < 1 := by omega
    clear hv h0
    go_enter Tryd.func12, Tryd.ntmps12
    go_wp2_with fail
    go_ret
    exact ⟨rfl, Below.refl _ _⟩
  by_cases hl2 : 200 < ops.length
  · rw [codeM_len ops (by omega)]
    have h1 : ¬ (ops.length : Int) < 1 := by omega
    have h2 : (200 : Int) < ops.length := by omega
    clear hv
    go_enter Tryd.func12, Tryd.ntmps12
    go_wp2_with fail
    go_ret
    exact ⟨rfl, Below.refl _ _⟩
  have h1 : ¬ (ops.length : Int) < 1 := by omega
  have h2 : ¬ (200 : Int) < ops.length := by omega
  have hl : 1 ≤ ops.length ∧ ops.length ≤ 200 := by omega
  have hV : Hid (Words w (· < w.heap.size) ops (.slice a ops.length cap)) := hv
  have hat := fun i hi => hv.at i hi
  have hat' : Hid (∀ i (hi : i < ops.length), ∃ b off, b < w.heap.size ∧ a = some ⟨b, off, none⟩ ∧ w.rangeAt b (off + i * 2) (Wd.cells ops[i])) := hat
  clear hv hat
  generalize hR : codeM ops = R
  go_enter Tryd.func12, Tryd.ntmps12
  go_wp2_with fail
  go_loopg [15] ops.length (fun k i wr => ∃ j : Nat, j + k = ops.length ∧ i = .int .i64 (j : Int) ∧ Hid (∀ m (hm : m < ops.length), m < j → fitsM ops[m] ops.length = true) ∧ Below w.heap.size w wr)
  case atStart => exact ⟨0, by omega, rfl, (fun m hm h => absurd h (by omega)), Below.refl _ _⟩
  case round =>
    obtain ⟨j, hj, rfl, hall, hb⟩ := hrel
    by_cases hlt : j < ops.length
    · obtain ⟨b, off, hbl, rfl, hr⟩ := hat'.out j hlt
      obtain ⟨d0, d1⟩ := Wd.two (rw_same (hb.block b hbl) hr)
      have hki : (j : Int) < (ops.length : Int) := by omega
      have hbw : b < wr.heap.size := by have := hb.size; omega
      have hF := fun w => law_numFits ops[j] (ops.length : Int) w (by omega)
      have hwj : IntKind.i64.wrap ((j : Int) + 1) = (j : Int) + 1 := ck_wr _ (by omega) (by omega)
      cases hfj : fitsM ops[j] ops.length
      · obtain rfl : R = false := hR.symm.trans (codeM_bad ops j hlt hfj)
        clear hR
        rw [hfj] at hF
        generalize ops[j] = op at d0 d1 hF
        go_wp2_with (go_at_call 22; refine (hF _).mono ?_; rintro r w5 ⟨rfl, hb5⟩)
        go_ret
        exact ⟨rfl, (hb.alloc hb.size _).trans (hb5.mono (by have := hb.size; simp; omega))⟩
      · rw [hfj] at hF
        have hall2 : Hid (∀ m (hm : m < ops.length), m < j + 1 → fitsM ops[m] ops.length = true) := fun m hm h => by
          by_cases e : m = j
          · subst e; exact hfj
          · exact hall.out m hm (by omega)
        clear hfj
        generalize ops[j] = op at d0 d1 hF
        go_wp2_with (go_at_call 22; refine (hF _).mono ?_; rintro r w5 ⟨rfl, hb5⟩)
        go_roundg (ops.length - (j + 1))
        case measure => omega
        case rel => exact ⟨j + 1, by omega, by go_num, hall2, (hb.alloc hb.size _).trans (hb5.mono (by have := hb.size; simp; omega))⟩
    · obtain rfl : j = ops.length := by omega
      have hki : ¬ (ops.length : Int) < (ops.length : Int) := by omega
      have hRR : R = runQ ops ops.length (startQ ops) := hR.symm.trans (codeM_fit ops hl (fun k hk => hall.out k hk hk))
      clear hR
      have hff : ∀ k, k < ops.length → fitsM (ops.getD k op0) ops.length = true := fun k hk => by rw [getD_at ops k hk]; exact hall.out k hk hk
      have hS := impl_standsFit ops hl hff wr (.slice a ops.length cap) (hV.out.keep hb hb.size)
      rw [← hRR] at hS
      clear hff hRR
      go_wp2_with (go_at_call 23; refine hS.mono ?_; rintro r w5 ⟨rfl, hb5⟩)
      go_ret
      exact ⟨rfl, hb.trans (hb5.mono hb.size)⟩
end Go.Proofs.YtmbldcmmpbodgaaDoor
