/-
  The program's truthText, cellText, wordText.
-/
import Derived.Test.YtchblncpabhflaaDoorHtMath
import Derived.Deep.RegionHeld3
namespace Go.Proofs.YtchblncpabhflaaDoor
open Go.RowKit

set_option maxHeartbeats 400000 in
theorem impl_truthText (b : Bool) (w : World) : Calls Tryd.prog 35 #[.bool b] w fun r w' => r = .returned (.string (if b = true then trueS else falseS)) ∧ w' = w := by
  cases b
  all_goals
    go_enter Tryd.func35, Tryd.ntmps35
    go_wp2_with fail
    go_ret
    exact ⟨rfl, rfl⟩

/-- What wordText does, d deep. -/
def TextOf (cs : List Ce) (d : Nat) : Prop := ∀ (w : World) (v : Value) (t u r : Int), Cells w (· < w.heap.size) cs v → PowTab w → wordP cs.length t u → r = 14 - d →
  Calls Tryd.prog 22 #[v, .agg #[.int .i64 t, .int .i64 u], .int .i64 r] w fun e w' => e = .returned (.string (textM cs d t u)) ∧ Below w.heap.size w w'

theorem BoxC.tab {w w' : World} {T : TypeId} {k n at' an bt bn : Int} (h : BoxC w w' T k n at' an bt bn) (hT : PowTab w) : PowTab w' := hT.keep h.below
theorem ret_str {s s' : ByteArray} (h : s = s') : Ending.returned (.string s) = Ending.returned (.string s') := by rw [h]

set_option maxHeartbeats 2000000 in
theorem impl_cellText (cs : List Ce) (ho : AllOk cs) (d : Nat) (hd : d ≤ 13) (ih : TextOf cs d) (v : Value) (k n at' an bt bn r : Int) (hr : r = 13 - d) (w : World) (hv : Cells w (· < w.heap.size) cs v) (hT : PowTab w) (ha : wordP cs.length at' an) (hb : wordP cs.length bt bn) :
    Calls Tryd.prog 36 #[v, .agg #[.int .i64 k, .int .i64 n, .int .i64 at', .int .i64 an, .int .i64 bt, .int .i64 bn], .int .i64 r] w fun e w' => e = .returned (.string (cellT (textM cs d) cs k at' an bt bn)) ∧ Below w.heap.size w w' := by
  obtain ⟨a, cap, rfl⟩ := hv.slice
  have hs1 := text_small ho d (by omega) at' an ha
  have hs2 := text_small ho d (by omega) bt bn hb
  have hA : ∀ {w' : World} (r' : Int), BoxC w w' 45 k n at' an bt bn → r' = 14 - d → Calls Tryd.prog 22 #[.slice a cs.length cap, .agg #[.int .i64 at', .int .i64 an], .int .i64 r'] w' fun e w2 => e = .returned (.string (textM cs d at' an)) ∧ Below w'.heap.size w' w2 :=
    fun r' hB hr' => ih _ _ at' an r' (hB.row hv) (hB.tab hT) ha hr'
  have hBb : ∀ {w' : World} (r' : Int), BoxC w w' 45 k n at' an bt bn → r' = 14 - d → Calls Tryd.prog 22 #[.slice a cs.length cap, .agg #[.int .i64 bt, .int .i64 bn], .int .i64 r'] w' fun e w2 => e = .returned (.string (textM cs d bt bn)) ∧ Below w'.heap.size w' w2 :=
    fun r' hB hr' => ih _ _ bt bn r' (hB.row hv) (hB.tab hT) hb hr'
  have hC : cellT (textM cs d) cs k at' an bt bn = cellT (textM cs d) cs k at' an bt bn := rfl
  obtain ⟨t1, ht1⟩ : ∃ s, s = textM cs d at' an := ⟨_, rfl⟩
  obtain ⟨t2, ht2⟩ : ∃ s, s = textM cs d bt bn := ⟨_, rfl⟩
  have HM : cellT (textM cs d) cs k at' an bt bn = if k = 1 then openS ++ t1 ++ commaS ++ t2 ++ closeS else if k = 2 then headM cs at' an t1 ++ colonS ++ t2 else if k = 3 then envS else funS := by rw [ht1, ht2]; rfl
  rw [HM]
  rw [← ht1] at hs1
  rw [← ht2] at hs2
  simp only [← ht1] at hA
  simp only [← ht2] at hBb
  have hwr : Hid (IntKind.i64.wrap (r + 1) = 14 - (d : Int)) := by show _ = _; rw [IntKind.wrap_i64]; omega
  have hrr : Hid (r + 1 = 14 - (d : Int)) := by show _ = _; omega
  have hr0 : 0 ≤ r := by omega
  have hr1 : r ≤ 13 := by omega
  clear HM hC ht1 ht2 ih hr
  rcases (by omega : k = 1 ∨ k = 2 ∨ k = 3 ∨ k < 1 ∨ 3 < k) with rfl | rfl | rfl | h | h
  · rw [if_pos rfl]
    have hd1 : BoxC w (w.alloc (.cells #[.int .i64 1, .int .i64 n, .int .i64 at', .int .i64 an, .int .i64 bt, .int .i64 bn] 45)).drew 45 1 n at' an bt bn := BoxC.start ((Below.refl _ _).drew)
    have HS : ∀ w', BoxC w w' 45 1 n at' an bt bn → w'.cell? ⟨w.heap.size, 2, none⟩ = some (.int .i64 at') ∧ w'.cell? ⟨w.heap.size, 3, none⟩ = some (.int .i64 an) ∧ w'.cell? ⟨w.heap.size, 4, none⟩ = some (.int .i64 bt) ∧ w'.cell? ⟨w.heap.size, 5, none⟩ = some (.int .i64 bn) := fun w' h => h.six.2.2
    go_enter Tryd.func36, Tryd.ntmps36
    go_wp2_with fail
    have q1 : ¬ 9223372036854775807 < 1 + t1.size := by omega
    have q2 : ¬ 9223372036854775807 < 1 + t1.size + 2 := by omega
    have q3 : ¬ 9223372036854775807 < 1 + t1.size + 2 + t2.size := by omega
    have q4 : ¬ 9223372036854775807 < 1 + t1.size + 2 + t2.size + 1 := by omega
    go_region_held3 (fun w' => w'.cell? ⟨w.heap.size, 2, none⟩ = some (.int .i64 at') ∧ w'.cell? ⟨w.heap.size, 3, none⟩ = some (.int .i64 an) ∧ w'.cell? ⟨w.heap.size, 4, none⟩ = some (.int .i64 bt) ∧ w'.cell? ⟨w.heap.size, 5, none⟩ = some (.int .i64 bn))
      (first | exact HS _ hc2 | exact HS _ hc1 | exact HS _ hd1)
      (first
        | (go_at_call_of 22 at'; refine (hA _ hd1 (by first | exact hwr.out | exact hrr.out)).mono ?_; rintro e1 w2 ⟨rfl, hb1⟩; have hc1 := hd1.next hb1)
        | (go_at_call_of 22 bt; refine (hBb _ hc1 (by first | exact hwr.out | exact hrr.out)).mono ?_; rintro e2 w3 ⟨rfl, hb2⟩; have hc2 := hc1.next hb2))
    go_wp2_with fail
    go_ret
    exact ⟨rfl, hc2.below⟩
  · rw [if_neg (by decide), if_pos rfl]
    have hL : ∀ {w' : World} (b : Bool), decide (at' = 4 ∧ kindAt cs an = some 2) = b → BoxC w w' 45 2 n at' an bt bn → Calls Tryd.prog 45 #[.slice a cs.length cap, .agg #[.int .i64 at', .int .i64 an], .int .i64 2] w' fun e w2 => e = .returned (.bool b) ∧ Below w'.heap.size w' w2 :=
      fun b h hB => by rw [← h]; exact impl_leadsTo cs (by have := ho.1; omega) _ at' an 2 _ (hB.row hv) ha
    by_cases hl : at' = 4 ∧ kindAt cs an = some 2
    · replace hL := fun {w'} => hL (w' := w') true (decide_eq_true hl)
      rw [headM, if_pos hl]
      clear hl
      go_enter Tryd.func36, Tryd.ntmps36
      go_wp2_with (first
        | (go_at_call_of 22 at'; refine (hA _ (BoxC.start (Below.refl _ _)) hrr.out).mono ?_; rintro e1 w2 ⟨rfl, hb1⟩; have hc1 := BoxC.start hb1; clear hb1; obtain ⟨p0, p1, p2, p3, p4, p5⟩ := hc1.six)
        | (go_at_call 45; refine (hL hc1).mono ?_; rintro e1 w3 ⟨rfl, hb2⟩; have hc2 := hc1.next hb2; clear hb2 p0 p1 p2 p3 p4 p5; obtain ⟨p0, p1, p2, p3, p4, p5⟩ := hc2.six)
        | (go_at_call_of 22 bt; refine (hBb _ hc2 hrr.out).mono ?_; rintro e1 w4 ⟨rfl, hb3⟩; have hc3 := hc2.next hb3))
      go_ret
      exact ⟨rfl, hc3.below⟩
    · replace hL := fun {w'} => hL (w' := w') false (decide_eq_false hl)
      rw [headM, if_neg hl]
      clear hl
      go_enter Tryd.func36, Tryd.ntmps36
      go_wp2_with (first
        | (go_at_call_of 22 at'; refine (hA _ (BoxC.start (Below.refl _ _)) hrr.out).mono ?_; rintro e1 w2 ⟨rfl, hb1⟩; have hc1 := BoxC.start hb1; clear hb1; obtain ⟨p0, p1, p2, p3, p4, p5⟩ := hc1.six)
        | (go_at_call 45; refine (hL hc1).mono ?_; rintro e1 w3 ⟨rfl, hb2⟩; have hc2 := hc1.next hb2; clear hb2 p0 p1 p2 p3 p4 p5; obtain ⟨p0, p1, p2, p3, p4, p5⟩ := hc2.six)
        | (go_at_call_of 22 bt; refine (hBb _ hc2 hrr.out).mono ?_; rintro e1 w4 ⟨rfl, hb3⟩; have hc3 := hc2.next hb3))
      go_ret
      exact ⟨rfl, hc3.below⟩
  · rw [if_neg (by decide), if_neg (by decide), if_pos rfl]
    go_enter Tryd.func36, Tryd.ntmps36
    go_wp2_with fail
    go_ret
    exact ⟨rfl, (Below.refl _ _).alloc (Nat.le_refl _) _⟩
  · rw [if_neg (by omega), if_neg (by omega), if_neg (by omega)]
    go_enter Tryd.func36, Tryd.ntmps36
    go_wp2_with fail
    go_ret
    exact ⟨rfl, (Below.refl _ _).alloc (Nat.le_refl _) _⟩
  · rw [if_neg (by omega), if_neg (by omega), if_neg (by omega)]
    go_enter Tryd.func36, Tryd.ntmps36
    go_wp2_with fail
    go_ret
    exact ⟨rfl, (Below.refl _ _).alloc (Nat.le_refl _) _⟩
end Go.Proofs.YtchblncpabhflaaDoor
