/-
  HeapClean: the program's, the specification's.
-/
import Derived.Test.YthikfinliiaecaaGreatDoorFgAll17
import Derived.Test.YthikfinliiaecaaGreatDoorWlSpec
namespace Go.Proofs.YthikfinliiaecaaGreatDoor
open Go.RowKit

/-- What HeapClean answers. -/
def cleanC (cs : List Ce) (ws : List Wd) : List Ce := if heapM cs = true ∧ wordsM cs.length ws = true then (copyS cs [] ws).to else []
def cleanW (cs : List Ce) (ws : List Wd) : List Wd := if heapM cs = true ∧ wordsM cs.length ws = true then wordsW cs (st0 cs []) ws else []
/-- How HeapClean ends. -/
def CleanR (w w' : World) (l : List Ce) (m : List Wd) (r : Ending) : Prop :=
  ∃ v1 v2, r = .returned (.tuple #[v1, v2]) ∧ w'.ownsRow w.heap.size 48 6 v1 l.length (l.flatMap Ce.cells) ∧ w'.ownsRow w.heap.size 26 2 v2 m.length (m.flatMap Wd.cells) ∧ Below w.heap.size w w'
/-- Two rows that lie apart. -/
def Two (r : Ending) : Prop := ∀ v1 v2, r = .returned (.tuple #[v1, v2]) → v1.ownBlock = none ∨ v1.ownBlock ≠ v2.ownBlock

set_option maxHeartbeats 1000000 in
theorem impl_cleaned (cs : List Ce) (hn : cs.length ≤ 1000) (hrefs : ∀ c ∈ cs, refOk cs.length c.a ∧ refOk cs.length c.b) (ws : List Wd) (hws : ws.length ≤ 1048576) (hwr : ∀ d ∈ ws, refOk cs.length d) (v vw : Value) (w : World) (hv : Cells w (· < w.heap.size) cs v) (hvw : Words w (· < w.heap.size) ws vw) :
    Calls Tryz.prog 60 #[v, vw] w fun r w' => CleanR w w' (copyS cs [] ws).to (wordsW cs (st0 cs []) ws) r ∧ Two r := by
  obtain ⟨a, cap, rfl⟩ := hv.slice
  obtain ⟨wa, wcap, rfl⟩ := hvw.slice
  go_enter Tryz.func60, Tryz.ntmps60
  go_upto_region 3 with (first
    | (go_at_call 35; refine (impl_workOn cs [] (by omega) (by simp) _ _ _ hv (RowOf.nil _ _)).mono ?_; rintro r w4 ⟨g, vt, vm, rfl, hW4, hb4⟩)
    | (go_at_call 36; refine (impl_copyWords 0 cs (st0 cs []) ws hws hwr (by omega) (inv0 cs []) hrefs _ w.heap.size g _ vt vm _ hW4 ((hvw.keep hb4 (Nat.le_refl _)).same fun b hb => ⟨rfl, hW4.low hb⟩)).mono ?_; rintro r w5 ⟨v5, vt5, rfl, hO5, hA5, hW5, hM5⟩))
  obtain ⟨c0, c1, c2, c3, cf⟩ := wl_cells hW5
  obtain ⟨ta, tcap, rfl⟩ := wl_slice hW5.ownT
  have hT5 := hW5.ownT
  have hb5 : Below w.heap.size w w5 := hb4.trans (hW4.below hM5)
  have hz4 := hb4.size
  have htwo : ∀ (x : Nat), v5.ownBlock = some x → some x ≠ (Value.slice ta (loopS cs (cs.length + 1) (wordsS cs (st0 cs []) ws) 0).to.length tcap).ownBlock := fun x hx => (hA5 x hx).2.1
  clear hW5 hM5 hW4 hA5
  go_wp2_with fail
  go_ret2
  refine ⟨⟨_, _, rfl, ow_base hT5 (Nat.le_refl _), ow_base (by simpa using hO5) (by omega), hb5⟩, fun v1 v2 h => ?_⟩
  obtain ⟨rfl, rfl⟩ : Value.slice ta _ tcap = v1 ∧ v5 = v2 := by simpa using h
  cases hv5 : v5.ownBlock with
  | none => cases hta : (Value.slice ta (loopS cs (cs.length + 1) (wordsS cs (st0 cs []) ws) 0).to.length tcap).ownBlock with
    | none => exact Or.inl rfl
    | some k => exact Or.inr (by simp)
  | some x => exact Or.inr (fun e => htwo x hv5 e.symm)

set_option maxHeartbeats 1000000 in
theorem impl_HeapClean (cs : List Ce) (hn : cs.length ≤ 1048576) (ws : List Wd) (hws : ws.length ≤ 1048576) (v vw : Value) (w : World) (hv : Cells w (· < w.heap.size) cs v) (hvw : Words w (· < w.heap.size) ws vw) :
    Calls Tryz.prog 28 #[v, vw] w fun r w' => CleanR w w' (cleanC cs ws) (cleanW cs ws) r ∧ Two r := by
  obtain ⟨a, cap, rfl⟩ := hv.slice
  obtain ⟨wa, wcap, rfl⟩ := hvw.slice
  have hk := fun w' (hv' : Cells w' (· < w'.heap.size) cs (.slice a cs.length cap)) => impl_HeapOk cs hn _ w' hv'
  have hw := fun w' (hv' : Words w' (· < w'.heap.size) ws (.slice wa ws.length wcap)) => impl_wordsOk cs.length (by omega) a cap ws hws _ w' hv'
  have nil2 : ∀ w', Below w.heap.size w w' → CleanR w w' [] [] (.returned (.tuple #[.slice none 0 0, .slice none 0 0])) ∧ Two (.returned (.tuple #[.slice none 0 0, .slice none 0 0])) := fun w' hb =>
    ⟨⟨_, _, rfl, World.ownsRow_nil _ _ _ _, World.ownsRow_nil _ _ _ _, hb⟩, fun v1 v2 h => by
      obtain ⟨rfl, _⟩ : Value.slice none 0 0 = v1 ∧ Value.slice none 0 0 = v2 := by simpa using h
      exact Or.inl rfl⟩
  cases hh : heapM cs
  · have e1 : cleanC cs ws = [] := by rw [cleanC, if_neg (by rw [hh]; simp)]
    have e2 : cleanW cs ws = [] := by rw [cleanW, if_neg (by rw [hh]; simp)]
    rw [e1, e2]
    rw [hh] at hk
    go_enter Tryz.func28, Tryz.ntmps28
    go_wp2_with (go_at_call 33; refine (hk _ hv).mono ?_; rintro r w2 ⟨rfl, hb2⟩)
    go_ret2
    exact nil2 _ hb2
  cases hx : wordsM cs.length ws
  · have e1 : cleanC cs ws = [] := by rw [cleanC, if_neg (by rw [hx]; simp)]
    have e2 : cleanW cs ws = [] := by rw [cleanW, if_neg (by rw [hx]; simp)]
    rw [e1, e2]
    rw [hh] at hk
    rw [hx] at hw
    go_enter Tryz.func28, Tryz.ntmps28
    go_wp2_with (first
      | (go_at_call 33; refine (hk _ hv).mono ?_; rintro r w2 ⟨rfl, hb2⟩)
      | (go_at_call 34; refine (hw _ (hvw.keep hb2 hb2.size)).mono ?_; rintro r w3 ⟨rfl, hb3⟩))
    go_ret2
    exact nil2 _ (hc_next hb2 hb3)
  have e1 : cleanC cs ws = (copyS cs [] ws).to := by rw [cleanC, if_pos ⟨hh, hx⟩]
  have e2 : cleanW cs ws = wordsW cs (st0 cs []) ws := by rw [cleanW, if_pos ⟨hh, hx⟩]
  rw [e1, e2]
  obtain ⟨h120, hrefs⟩ := heap_refs hh
  have hwr := words_refs hx
  rw [hh] at hk
  rw [hx] at hw
  have hC := fun w' (hb : Below w.heap.size w w') => impl_cleaned cs (by omega) hrefs ws hws hwr (.slice a cs.length cap) (.slice wa ws.length wcap) w' (hv.keep hb hb.size) (hvw.keep hb hb.size)
  go_enter Tryz.func28, Tryz.ntmps28
  go_wp2_with (first
    | (go_at_call 33; refine (hk _ hv).mono ?_; rintro r w2 ⟨rfl, hb2⟩)
    | (go_at_call 34; refine (hw _ (hvw.keep hb2 hb2.size)).mono ?_; rintro r w3 ⟨rfl, hb3⟩; have hb13 := hc_next hb2 hb3)
    | (go_at_call 60; refine (hC _ hb13).mono ?_; rintro r w4 ⟨⟨v1, v2, rfl, h1, h2, hb4⟩, ht⟩))
  go_ret2
  exact ⟨⟨_, _, rfl, ow_base h1 hb13.size, ow_base h2 hb13.size, hc_next hb13 hb4⟩, ht⟩

end Go.Proofs.YthikfinliiaecaaGreatDoor

