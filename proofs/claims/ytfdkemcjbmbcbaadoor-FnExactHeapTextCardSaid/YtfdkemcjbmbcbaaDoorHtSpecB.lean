/-
  The specification's l7Text, HeapText.
-/
import Derived.Test.YtfdkemcjbmbcbaaDoorHtSpec
namespace Go.Proofs.YtfdkemcjbmbcbaaDoor
open Go.RowKit

/-- What l7Text does, d deep. -/
def TextS (cs : List Ce) (d : Nat) : Prop := ∀ (w : World) (v : Value) (t u r : Int), Cells w (· < w.heap.size) cs v → wordP cs.length t u → r = 15 - d →
  Calls Tryd.prog 12 #[v, .agg #[.int .i64 t, .int .i64 u], .int .i64 r] w fun e w' => e = .returned (.string (textM cs d t u)) ∧ Below w.heap.size w w'
theorem BoxC.six1 {w w' : World} {o : Obj} {T : TypeId} {k n at' an bt bn : Int} (h : BoxC (w.alloc o) w' T k n at' an bt bn) : w'.cell? ⟨w.heap.size + 1, 0, none⟩ = some (.int .i64 k) ∧ w'.cell? ⟨w.heap.size + 1, 1, none⟩ = some (.int .i64 n) ∧ w'.cell? ⟨w.heap.size + 1, 2, none⟩ = some (.int .i64 at') ∧ w'.cell? ⟨w.heap.size + 1, 3, none⟩ = some (.int .i64 an) ∧ w'.cell? ⟨w.heap.size + 1, 4, none⟩ = some (.int .i64 bt) ∧ w'.cell? ⟨w.heap.size + 1, 5, none⟩ = some (.int .i64 bn) := by
  have h6 := h.six
  have e : (w.alloc o).heap.size = w.heap.size + 1 := by simp
  rw [e] at h6
  exact h6

set_option maxHeartbeats 2000000 in
theorem spec_ref (cs : List Ce) (ho : AllOk cs) (d : Nat) (hd : d ≤ 13) (ih : TextS cs d) (b off cap i : Nat) (hi : i < cs.length) (k n at' an bt bn r : Int) (hr : r = 14 - d) (w : World) (hv : Cells w (· < w.heap.size) cs (.slice (some ⟨b, off, none⟩) cs.length cap)) (hb0 : b < w.heap.size)
    (c0 : w.cell? ⟨b, off + i * 6, none⟩ = some (.int .i64 k)) (c1 : w.cell? ⟨b, off + i * 6 + 1, none⟩ = some (.int .i64 n)) (c2 : w.cell? ⟨b, off + i * 6 + 2, none⟩ = some (.int .i64 at')) (c3 : w.cell? ⟨b, off + i * 6 + 3, none⟩ = some (.int .i64 an)) (c4 : w.cell? ⟨b, off + i * 6 + 4, none⟩ = some (.int .i64 bt)) (c5 : w.cell? ⟨b, off + i * 6 + 5, none⟩ = some (.int .i64 bn))
    (ha : wordP cs.length at' an) (hb : wordP cs.length bt bn) :
    Calls Tryd.prog 12 #[.slice (some ⟨b, off, none⟩) cs.length cap, .agg #[.int .i64 4, .int .i64 i], .int .i64 r] w fun e w' => e = .returned (.string (cellM (textM cs d) cs k at' an bt bn)) ∧ Below w.heap.size w w' := by
  have hlen := ho.1
  have hs1 := text_small ho d (by omega) at' an ha
  have hs2 := text_small ho d (by omega) bt bn hb
  obtain ⟨W, hWd⟩ : ∃ W, W = w.alloc (.cells #[.int .i64 4, .int .i64 i] 29) := ⟨_, rfl⟩
  have hW : Below w.heap.size w W := by rw [hWd]; exact (Below.refl _ _).alloc (Nat.le_refl _) _
  have hvW := hv.keep hW hW.size
  have hA : ∀ {w' : World} (r' : Int), BoxC W w' 37 k n at' an bt bn → r' = 15 - d → Calls Tryd.prog 12 #[.slice (some ⟨b, off, none⟩) cs.length cap, .agg #[.int .i64 at', .int .i64 an], .int .i64 r'] w' fun e w2 => e = .returned (.string (textM cs d at' an)) ∧ Below w'.heap.size w' w2 :=
    fun r' hB hr' => ih _ _ at' an r' (hB.row hvW) ha hr'
  have hBb : ∀ {w' : World} (r' : Int), BoxC W w' 37 k n at' an bt bn → r' = 15 - d → Calls Tryd.prog 12 #[.slice (some ⟨b, off, none⟩) cs.length cap, .agg #[.int .i64 bt, .int .i64 bn], .int .i64 r'] w' fun e w2 => e = .returned (.string (textM cs d bt bn)) ∧ Below w'.heap.size w' w2 :=
    fun r' hB hr' => ih _ _ bt bn r' (hB.row hvW) hb hr'
  obtain ⟨t1, ht1⟩ : ∃ s, s = textM cs d at' an := ⟨_, rfl⟩
  obtain ⟨t2, ht2⟩ : ∃ s, s = textM cs d bt bn := ⟨_, rfl⟩
  have HM : cellM (textM cs d) cs k at' an bt bn = if k = 1 then openS ++ t1 ++ commaS ++ t2 ++ closeS else if k = 2 then headM cs at' an t1 ++ colonS ++ t2 else if k = 3 then envS else funS := by rw [ht1, ht2]; rfl
  rw [HM]
  rw [← ht1] at hs1
  rw [← ht2] at hs2
  simp only [← ht1] at hA
  simp only [← ht2] at hBb
  have hwr : Hid (IntKind.i64.wrap (r + 1) = 15 - (d : Int)) := by show _ = _; rw [IntKind.wrap_i64]; omega
  have hrr : Hid (r + 1 = 15 - (d : Int)) := by show _ = _; omega
  have hr0 : 0 ≤ r := by omega
  have hr1 : r ≤ 14 := by omega
  have hii : (i : Int) < (cs.length : Int) := by omega
  have hne : b ≠ w.heap.size := by omega
  have hK : ∀ {w' : World} (j : Nat) (x : Value), w.cell? ⟨b, j, none⟩ = some x → BoxC W w' 37 k n at' an bt bn → w'.cell? ⟨b, j, none⟩ = some x := fun j x hx hB => by
    have h1 := hW.trans (hB.below.mono hW.size)
    rw [h1.cell (p := ⟨b, j, none⟩) hb0]
    exact hx
  clear HM ht1 ht2 ih hr hvW
  subst hWd
  rcases (by omega : k = 1 ∨ k = 2 ∨ k = 3 ∨ k < 1 ∨ 3 < k) with rfl | rfl | rfl | h | h
  · rw [if_pos rfl]
    have hd1 : BoxC (w.alloc (.cells #[.int .i64 4, .int .i64 i] 29)) ((w.alloc (.cells #[.int .i64 4, .int .i64 i] 29)).alloc (.cells #[.int .i64 1, .int .i64 n, .int .i64 at', .int .i64 an, .int .i64 bt, .int .i64 bn] 37)).drew 37 1 n at' an bt bn := BoxC.start ((Below.refl _ _).drew)
    have HS : ∀ w', BoxC (w.alloc (.cells #[.int .i64 4, .int .i64 i] 29)) w' 37 1 n at' an bt bn → w'.cell? ⟨w.heap.size + 1, 2, none⟩ = some (.int .i64 at') ∧ w'.cell? ⟨w.heap.size + 1, 3, none⟩ = some (.int .i64 an) ∧ w'.cell? ⟨w.heap.size + 1, 4, none⟩ = some (.int .i64 bt) ∧ w'.cell? ⟨w.heap.size + 1, 5, none⟩ = some (.int .i64 bn) := fun w' h => h.six1.2.2
    have q1 : ¬ 9223372036854775807 < 1 + t1.size := by omega
    have q2 : ¬ 9223372036854775807 < 1 + t1.size + 2 := by omega
    have q3 : ¬ 9223372036854775807 < 1 + t1.size + 2 + t2.size := by omega
    have q4 : ¬ 9223372036854775807 < 1 + t1.size + 2 + t2.size + 1 := by omega
    go_enter Tryd.func12, Tryd.ntmps12
    go_wp2_with fail
    go_region_held3 (fun w' => w'.cell? ⟨w.heap.size + 1, 2, none⟩ = some (.int .i64 at') ∧ w'.cell? ⟨w.heap.size + 1, 3, none⟩ = some (.int .i64 an) ∧ w'.cell? ⟨w.heap.size + 1, 4, none⟩ = some (.int .i64 bt) ∧ w'.cell? ⟨w.heap.size + 1, 5, none⟩ = some (.int .i64 bn))
      (first | exact HS _ hc2 | exact HS _ hc1 | exact HS _ hd1)
      (first
        | (go_at_call_of 12 at'; refine (hA _ hd1 (by first | exact hwr.out | exact hrr.out)).mono ?_; rintro e1 w2 ⟨rfl, hb1⟩; have hc1 := hd1.next hb1)
        | (go_at_call_of 12 bt; refine (hBb _ hc1 (by first | exact hwr.out | exact hrr.out)).mono ?_; rintro e2 w3 ⟨rfl, hb2⟩; have hc2 := hc1.next hb2))
    go_wp2_with fail
    go_ret
    exact ⟨rfl, hW.trans (hc2.below.mono (by simp))⟩
  · rw [if_neg (by decide), if_pos rfl]
    by_cases h4 : at' = 4
    · subst h4
      obtain ⟨j, b', off', k', rfl, hj, _, hbb, hk, hcj⟩ := kind_at hv (u := an) (by unfold wordP at ha; omega) (by unfold wordP at ha; omega)
      obtain ⟨rfl, rfl⟩ : b = b' ∧ off = off' := by simpa using hbb
      have hjj : (j : Int) < (cs.length : Int) := by omega
      clear ha hb hbb
      by_cases hkk : k' = 2
      · subst hkk
        rw [headM, if_pos ⟨rfl, hk⟩]
        go_enter Tryd.func12, Tryd.ntmps12
        go_wp2_with (first
          | (go_at_call_of 12 (Value.int IntKind.i64 4); refine (hA _ (BoxC.start (Below.refl _ _)) hrr.out).mono ?_; rintro e1 w2 ⟨rfl, hb1⟩; have hc1 := BoxC.start hb1; clear hb1; obtain ⟨p0, p1, p2, p3, p4, p5⟩ := hc1.six1; have hkc := hK _ _ hcj hc1)
          | (go_at_call_of 12 bt; refine (hBb _ hc1 hrr.out).mono ?_; rintro e1 w4 ⟨rfl, hb3⟩; have hc3 := hc1.next hb3))
        go_ret
        exact ⟨rfl, hW.trans (hc3.below.mono (by simp))⟩
      · rw [headM, if_neg (by rw [hk]; simp [hkk])]
        go_enter Tryd.func12, Tryd.ntmps12
        go_wp2_with (first
          | (go_at_call_of 12 (Value.int IntKind.i64 4); refine (hA _ (BoxC.start (Below.refl _ _)) hrr.out).mono ?_; rintro e1 w2 ⟨rfl, hb1⟩; have hc1 := BoxC.start hb1; clear hb1; obtain ⟨p0, p1, p2, p3, p4, p5⟩ := hc1.six1; have hkc := hK _ _ hcj hc1)
          | (go_at_call_of 12 bt; refine (hBb _ hc1 hrr.out).mono ?_; rintro e1 w4 ⟨rfl, hb3⟩; have hc3 := hc1.next hb3))
        go_ret
        exact ⟨rfl, hW.trans (hc3.below.mono (by simp))⟩
    · rw [headM, if_neg (fun h => h4 h.1)]
      go_enter Tryd.func12, Tryd.ntmps12
      go_wp2_with (first
        | (go_at_call_of 12 at'; refine (hA _ (BoxC.start (Below.refl _ _)) hrr.out).mono ?_; rintro e1 w2 ⟨rfl, hb1⟩; have hc1 := BoxC.start hb1; clear hb1; obtain ⟨p0, p1, p2, p3, p4, p5⟩ := hc1.six1)
        | (go_at_call_of 12 bt; refine (hBb _ hc1 hrr.out).mono ?_; rintro e1 w4 ⟨rfl, hb3⟩; have hc3 := hc1.next hb3))
      go_ret
      exact ⟨rfl, hW.trans (hc3.below.mono (by simp))⟩
  · rw [if_neg (by decide), if_neg (by decide), if_pos rfl]
    go_enter Tryd.func12, Tryd.ntmps12
    go_wp2_with fail
    go_ret
    exact ⟨rfl, hW.alloc hW.size _⟩
  · rw [if_neg (by omega), if_neg (by omega), if_neg (by omega)]
    go_enter Tryd.func12, Tryd.ntmps12
    go_wp2_with fail
    go_ret
    exact ⟨rfl, hW.alloc hW.size _⟩
  · rw [if_neg (by omega), if_neg (by omega), if_neg (by omega)]
    go_enter Tryd.func12, Tryd.ntmps12
    go_wp2_with fail
    go_ret
    exact ⟨rfl, hW.alloc hW.size _⟩
end Go.Proofs.YtfdkemcjbmbcbaaDoor
