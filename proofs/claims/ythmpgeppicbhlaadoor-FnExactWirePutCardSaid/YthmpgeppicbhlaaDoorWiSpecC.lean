/-
  The specification's WirePut.
-/
import Derived.Test.YthmpgeppicbhlaaDoorWiSpecB
namespace Go.Proofs.YthmpgeppicbhlaaDoor
open Go.RowKit

theorem wi_two {w w' : World} {b : Nat} {x y : Value} (h0 : w.cell? ⟨b, 0, none⟩ = some x) (h1 : w.cell? ⟨b, 1, none⟩ = some y) (hb : Below w.heap.size w w') : w'.cell? ⟨b, 0, none⟩ = some x ∧ w'.cell? ⟨b, 1, none⟩ = some y := by
  have hlt : ∀ {j : Nat} {z : Value}, w.cell? ⟨b, j, none⟩ = some z → b < w.heap.size := fun {j z} h => by
    unfold World.cell? at h
    rcases Nat.lt_or_ge b w.heap.size with h' | h'
    · exact h'
    · simp [Array.getElem?_eq_none h'] at h
  exact ⟨by rw [hb.cell (hlt h0)]; exact h0, by rw [hb.cell (hlt h1)]; exact h1⟩
set_option maxRecDepth 100000 in
set_option maxHeartbeats 4000000 in
theorem spec_WirePut (cs : List Ce) (hn : cs.length ≤ 1048576) (d : Wd) (v : Value) (w : World) (hv : Cells w (· < w.heap.size) cs v) :
    Calls Tryd.prog 5 #[v, .agg #[.int .i64 d.tag, .int .i64 d.num]] w fun r w' => r = .returned (.string (bx (wireM cs d))) ∧ Below w.heap.size w w' := by
  obtain ⟨a, cap, rfl⟩ := hv.slice
  have hB1 : ∀ o, Below w.heap.size w (w.alloc o) := fun o => (Below.refl _ _).alloc (Nat.le_refl _) o
  have hO := fun o => ho_l7Ok cs hn _ (w.alloc o) (hv.keep (hB1 o) (by simp))
  have hWo := fun w' => ho_l7WordOk cs.length (by omega) d.tag d.num w'
  have hcell : ∀ {w2 : World} {o : Obj}, o = .cells #[.int .i64 d.tag, .int .i64 d.num] 29 → Below (w.alloc o).heap.size (w.alloc o) w2 → w2.cell? ⟨w.heap.size, 0, none⟩ = some (.int .i64 d.tag) ∧ w2.cell? ⟨w.heap.size, 1, none⟩ = some (.int .i64 d.num) := fun ho hb => by
    subst ho
    rw [hb.cell (by simp), hb.cell (by simp)]
    simp [go_sem]
  by_cases hh : heapM cs = true
  case neg =>
    have e3 : wireM cs d = [] := by rw [wireM, if_neg (fun h => hh h.1)]
    rw [e3]
    rw [Bool.eq_false_iff.2 hh] at hO
    go_enter Tryd.func5, Tryd.ntmps5
    go_wp2_with (go_at_call 10; refine (hO _).mono ?_; rintro e w2 ⟨rfl, hb2⟩)
    go_ret
    exact ⟨rfl, (hB1 _).trans (hb2.mono (by simp))⟩
  rw [hh] at hO
  by_cases hw : wordP cs.length d.tag d.num
  case neg =>
    have e3 : wireM cs d = [] := by rw [wireM, if_neg (fun h => hw (words_one_iff.1 h.2))]
    rw [e3]
    rw [decide_eq_false hw] at hWo
    clear hh
    go_enter Tryd.func5, Tryd.ntmps5
    go_wp2_with (first
      | (go_at_call 10; refine (hO _).mono ?_; rintro e w2 ⟨rfl, hb2⟩; obtain ⟨p0, p1⟩ := hcell rfl hb2; have hB2 := (hB1 _).trans (hb2.mono (by simp)); clear hb2)
      | (go_at_call 11; refine (hWo _).mono ?_; rintro e w3 ⟨rfl, hb3⟩))
    go_ret
    exact ⟨rfl, hB2.trans (hb3.mono hB2.size)⟩
  rw [decide_eq_true hw] at hWo
  have hok : okW cs d := ⟨hh, words_one_iff.2 hw⟩
  obtain ⟨x, ex, hheap, hwp⟩ := wire_yes hok
  have e3 : wireM cs d = wireT (cleanC cs [d]) x := by rw [wireM, if_pos hok, ex]; rfl
  rw [e3]
  have e1 : cleanC cs [d] = (copyS cs [] [d]).to := by rw [cleanC]; exact if_pos hok
  have e2 : cleanW cs [d] = wordsW cs (st0 cs []) [d] := by rw [cleanW]; exact if_pos hok
  rw [e2] at ex
  rw [e1] at hheap hwp ⊢
  have hfine := cell_fine hheap
  have h120 : (copyS cs [] [d]).to.length ≤ 120 := (heap_refs hheap).1
  have hxf := word_fine (by omega) hwp
  obtain ⟨hcl, hrefs⟩ := heap_refs hh
  have hwr := words_refs hok.2
  have HCopy := fun w' hc hl => copy_rest cs [] [d] (by omega) (by simp) (by simp) hwr hrefs w' a none cap 0 (.slice (some ⟨w'.heap.size - 1, 0, none⟩) 1 1) hc (RowOf.nil _ _) hl
  have HPut := fun v' w' h => spec_l12Put (copyS cs [] [d]).to h120 hfine x hxf v' w' h
  go_enter Tryd.func5, Tryd.ntmps5
  go_upto_region 3 with (first
    | (go_at_call 10; refine (hO _).mono ?_; rintro e w2 ⟨rfl, hb2⟩; obtain ⟨p0, p1⟩ := hcell rfl hb2; have hB2 := (hB1 _).trans (hb2.mono (by simp)); clear hb2)
    | (go_at_call 11; refine (hWo _).mono ?_; rintro e w3 ⟨rfl, hb3⟩; obtain ⟨q0, q1⟩ := wi_two p0 p1 hb3; have hB3 := hB2.trans (hb3.mono hB2.size)))
  clear p0 p1 hb3 hB2 hO hWo hcell
  have hB4 : Below w.heap.size w (w3.alloc (.cells #[.int .i64 d.tag, .int .i64 d.num] 29)) := hB3.alloc hB3.size _
  have HC := HCopy (w3.alloc (.cells #[.int .i64 d.tag, .int .i64 d.num] 29)) (hv.keep hB4 hB4.size) (by simpa using wi_lit w3 d)
  rw [show (w3.alloc (.cells #[.int .i64 d.tag, .int .i64 d.num] 29)).heap.size - 1 = w3.heap.size by simp] at HC
  clear HCopy
  unfold CopyP at HC
  rw [ex] at HC
  go_wp2_with (first
    | (go_at_call 12; refine HC.mono ?_; rintro e w4 ⟨vt, v2, rfl, hO1, hO2, hb4⟩; have hC4 := wi_cells hO1; (obtain ⟨a1, c1, rfl⟩ := hC4.slice); (obtain ⟨a2, c2, rfl⟩ := (wi_words hO2).slice); (obtain ⟨xb, xo, hxb, rfl, xr⟩ := (wi_words hO2).at 0 (by simp)); (obtain ⟨x0, x1⟩ := Wd.two xr); rw [Nat.zero_mul] at x0 x1; simp only [Nat.add_zero] at x0 x1)
    | (go_at_call 13; refine (HPut _ _ hC4).mono ?_; rintro e w5 ⟨rfl, hb5⟩))
  go_ret
  exact ⟨rfl, wi_next (hB4.trans (hb4.mono hB4.size)) hb5⟩
end Go.Proofs.YthmpgeppicbhlaaDoor
