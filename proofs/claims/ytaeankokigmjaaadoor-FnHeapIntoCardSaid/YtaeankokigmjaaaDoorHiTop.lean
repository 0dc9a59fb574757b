/-
  HeapInto: the program's, the specification's.
-/
import Derived.Test.YtaeankokigmjaaaDoorWlRefs
import Derived.Test.YtaeankokigmjaaaDoorWlSpec
namespace Go.Proofs.YtaeankokigmjaaaDoor
open Go.RowKit

/-- Is all ok? -/
def intoOk (cs : List Ce) (d : Wd) (tl : List Ce) : Prop := heapM cs = true ∧ wordP cs.length d.tag d.num ∧ heapM tl = true
instance (cs : List Ce) (d : Wd) (tl : List Ce) : Decidable (intoOk cs d tl) := by unfold intoOk; exact inferInstance
/-- Is there room? -/
def intoFits (cs : List Ce) (d : Wd) (tl : List Ce) : Prop := (copyS cs tl [d]).to.length ≤ 120
instance (cs : List Ce) (d : Wd) (tl : List Ce) : Decidable (intoFits cs d tl) := by unfold intoFits; exact inferInstance
/-- What HeapInto answers. -/
def intoC (cs : List Ce) (d : Wd) (tl : List Ce) : List Ce := if intoOk cs d tl then (if intoFits cs d tl then (copyS cs tl [d]).to else tl) else []
def intoW (cs : List Ce) (d : Wd) (tl : List Ce) : Wd := if intoOk cs d tl ∧ intoFits cs d tl then moveW cs (st0 cs tl) d else ⟨0, 0⟩
def intoB (cs : List Ce) (d : Wd) (tl : List Ce) : Bool := decide (intoOk cs d tl ∧ intoFits cs d tl)
/-- How HeapInto ends. -/
def IntoR (w w' : World) (l : List Ce) (d : Wd) (b : Bool) (r : Ending) : Prop :=
  ∃ v, r = .returned (.tuple #[v, .agg #[.int .i64 d.tag, .int .i64 d.num], .bool b]) ∧ w'.ownsRow w.heap.size 43 6 v l.length (l.flatMap Ce.cells) ∧ Below w.heap.size w w'
theorem into_no {cs : List Ce} {d : Wd} {tl : List Ce} (h : ¬ intoOk cs d tl) : intoC cs d tl = [] ∧ intoW cs d tl = ⟨0, 0⟩ ∧ intoB cs d tl = false :=
  ⟨by rw [intoC, if_neg h], by rw [intoW, if_neg (fun h' => h h'.1)], by rw [intoB, decide_eq_false (fun h' => h h'.1)]⟩
theorem into_full {cs : List Ce} {d : Wd} {tl : List Ce} (h : intoOk cs d tl) (hf : ¬ intoFits cs d tl) : intoC cs d tl = tl ∧ intoW cs d tl = ⟨0, 0⟩ ∧ intoB cs d tl = false :=
  ⟨by rw [intoC, if_pos h, if_neg hf], by rw [intoW, if_neg (fun h' => hf h'.2)], by rw [intoB, decide_eq_false (fun h' => hf h'.2)]⟩
theorem into_fits {cs : List Ce} {d : Wd} {tl : List Ce} (h : intoOk cs d tl) (hf : intoFits cs d tl) : intoC cs d tl = (copyS cs tl [d]).to ∧ intoW cs d tl = moveW cs (st0 cs tl) d ∧ intoB cs d tl = true :=
  ⟨by rw [intoC, if_pos h, if_pos hf], by rw [intoW, if_pos ⟨h, hf⟩], by rw [intoB, decide_eq_true ⟨h, hf⟩]⟩

/-- The two boxes of a call: its word, and what it will tell. -/
structure Boxed (w W : World) (d : Wd) : Prop where
  below : Below w.heap.size w W
  t : W.cell? ⟨w.heap.size, 0, none⟩ = some (.int .i64 d.tag)
  u : W.cell? ⟨w.heap.size, 1, none⟩ = some (.int .i64 d.num)
  z0 : W.cell? ⟨w.heap.size + 1, 0, none⟩ = some (.int .i64 0)
  z1 : W.cell? ⟨w.heap.size + 1, 1, none⟩ = some (.int .i64 0)
  fz : ∀ o, W.frozen? ⟨w.heap.size + 1, o, none⟩ = false
  size : w.heap.size + 1 < W.heap.size
theorem Boxed.new (w : World) (d : Wd) : Boxed w ((w.alloc (.cells #[.int .i64 d.tag, .int .i64 d.num] 25)).alloc (.cells #[.int .i64 0, .int .i64 0] 25)) d := by
  refine ⟨wl_two w _ _, by simp, by simp, by simp, by simp, fun o => ?_, by simp⟩
  unfold World.frozen?
  rw [show ((w.alloc (.cells #[.int .i64 d.tag, .int .i64 d.num] 25)).alloc (.cells #[.int .i64 0, .int .i64 0] 25)).heap[w.heap.size + 1]? = some (.cells #[.int .i64 0, .int .i64 0] 25) by simpa using heap_alloc_new (w.alloc (.cells #[.int .i64 d.tag, .int .i64 d.num] 25)) (.cells #[.int .i64 0, .int .i64 0] 25)]
  simp
theorem Boxed.next {w W W' : World} {d : Wd} (h : Boxed w W d) (hb : Below W.heap.size W W') : Boxed w W' d := by
  have hz := h.size
  refine ⟨hc_next h.below hb, ?_, ?_, ?_, ?_, fun o => ?_, Nat.lt_of_lt_of_le hz hb.size⟩
  · rw [hb.cell (p := ⟨w.heap.size, 0, none⟩) (by dsimp only; omega)]; exact h.t
  · rw [hb.cell (p := ⟨w.heap.size, 1, none⟩) (by dsimp only; omega)]; exact h.u
  · rw [hb.cell (p := ⟨w.heap.size + 1, 0, none⟩) (by dsimp only; omega)]; exact h.z0
  · rw [hb.cell (p := ⟨w.heap.size + 1, 1, none⟩) (by dsimp only; omega)]; exact h.z1
  · rw [hb.frozen (p := ⟨w.heap.size + 1, o, none⟩) (by dsimp only; omega)]; exact h.fz o
theorem Boxed.moved {w W W' : World} {d : Wd} {g : Nat} {vt vt' vm : Value} (h : Boxed w W d) (hb : Below w.heap.size W W') (hm : Moved W W' g vt vt' vm) (h1 : Apart w.heap.size g vt vm) (h2 : Apart (w.heap.size + 1) g vt vm) : Boxed w W' d := by
  have hz := h.size
  obtain ⟨a1, _⟩ := hm.cells (b := w.heap.size) (by omega) h1
  obtain ⟨a3, a4⟩ := hm.cells (b := w.heap.size + 1) (by omega) h2
  exact ⟨h.below.trans hb, (a1 0).trans h.t, (a1 1).trans h.u, (a3 0).trans h.z0, (a3 1).trans h.z1, fun o => (a4 o).trans (h.fz o), Nat.lt_of_lt_of_le hz hm.size⟩
theorem words_lit (W : World) (d : Wd) : Words (W.alloc (.cells #[.int .i64 d.tag, .int .i64 d.num] 25)) (fun x => x = W.heap.size) [d] (.slice (some ⟨W.heap.size, 0, none⟩) 1 1) := by
  refine ⟨_, _, rfl, fun i x hi => ⟨W.heap.size, 0, rfl, rfl, fun j u hj => ?_⟩⟩
  cases i with
  | zero =>
    obtain rfl : d = x := by simpa using hi
    have := ow_cells_new W #[.int .i64 d.tag, .int .i64 d.num] 25 j u hj
    rw [Addr.add_mid] at this
    simpa using this
  | succ i => simp at hi

set_option maxHeartbeats 4000000 in
theorem impl_HeapInto (cs : List Ce) (hn : cs.length ≤ 1048576) (d : Wd) (tl : List Ce) (hnt : tl.length ≤ 1048576) (v vo : Value) (w : World) (hv : Cells w (· < w.heap.size) cs v) (hvo : Cells w (· < w.heap.size) tl vo) :
    Calls Tryd.prog 5 #[v, .agg #[.int .i64 d.tag, .int .i64 d.num], vo] w fun r w' => IntoR w w' (intoC cs d tl) (intoW cs d tl) (intoB cs d tl) r := by
  obtain ⟨a, cap, rfl⟩ := hv.slice
  obtain ⟨oa, ocap, rfl⟩ := hvo.slice
  have hX0 := Boxed.new w d
  have hk := fun w' (hb : Below w.heap.size w w') => impl_HeapOk cs hn _ w' (hv.keep hb hb.size)
  have hko := fun w' (hb : Below w.heap.size w w') => impl_HeapOk tl hnt _ w' (hvo.keep hb hb.size)
  have nil3 : ∀ W', Below w.heap.size w W' → IntoR w W' [] ⟨0, 0⟩ false (.returned (.tuple #[.slice none 0 0, .agg #[.int .i64 0, .int .i64 0], .bool false])) := fun w' hb => ⟨_, rfl, World.ownsRow_nil _ _ _ _, hb⟩
  cases hh : heapM cs
  · obtain ⟨e1, e2, e3⟩ := into_no (cs := cs) (d := d) (tl := tl) (fun h => by have := h.1; rw [hh] at this; cases this)
    rw [e1, e2, e3]
    rw [hh] at hk
    go_enter Tryd.func5, Tryd.ntmps5
    go_upto_region 1 with fail
    generalize (w.alloc (.cells #[.int .i64 d.tag, .int .i64 d.num] 25)).alloc (.cells #[.int .i64 0, .int .i64 0] 25) = W0 at *
    go_wp2_with (go_at_call_of 8 cap; refine (hk _ hX0.below).mono ?_; rintro r w2 ⟨rfl, hb2⟩; have hX2 := hX0.next hb2; have y0 := hX2.t; have y1 := hX2.u; have p2 := hX2.z0; have p3 := hX2.z1; have p4 := hX2.fz)
    refine bodyPost_ret (v := .tuple #[.slice none 0 0, .agg #[.int .i64 0, .int .i64 0], .bool false]) (by simp [results, Tryd.results5, go_sem, p2, p3]) rfl (nil3 _ ((hX2.below.setCell (Nat.le_succ _) _).setCell (Nat.le_succ _) _))
  by_cases hwp : wordP cs.length d.tag d.num
  case neg =>
    obtain ⟨e1, e2, e3⟩ := into_no (cs := cs) (d := d) (tl := tl) (fun h => hwp h.2.1)
    rw [e1, e2, e3]
    rw [hh] at hk
    have hw := fun w' => impl_wordOk_no a cs.length cap (by omega) d.tag d.num w' hwp
    clear hwp
    go_enter Tryd.func5, Tryd.ntmps5
    go_upto_region 1 with fail
    generalize (w.alloc (.cells #[.int .i64 d.tag, .int .i64 d.num] 25)).alloc (.cells #[.int .i64 0, .int .i64 0] 25) = W0 at *
    go_wp2_with (first
      | (go_at_call_of 8 cap; refine (hk _ hX0.below).mono ?_; rintro r w2 ⟨rfl, hb2⟩; have hX2 := hX0.next hb2; have y0 := hX2.t; have y1 := hX2.u; have p2 := hX2.z0; have p3 := hX2.z1; have p4 := hX2.fz)
      | (go_at_call 15; refine (hw _).mono ?_; rintro r w3 ⟨rfl, hb3⟩; have hX3 := hX2.next hb3; clear y0 y1 p2 p3 p4; have y0 := hX3.t; have y1 := hX3.u; have p2 := hX3.z0; have p3 := hX3.z1; have p4 := hX3.fz))
    refine bodyPost_ret (v := .tuple #[.slice none 0 0, .agg #[.int .i64 0, .int .i64 0], .bool false]) (by simp [results, Tryd.results5, go_sem, p2, p3]) rfl (nil3 _ ((hX3.below.setCell (Nat.le_succ _) _).setCell (Nat.le_succ _) _))
  have hw := fun w' => impl_wordOk_yes a cs.length cap (by omega) d.tag d.num w' hwp
  cases ht : heapM tl
  · obtain ⟨e1, e2, e3⟩ := into_no (cs := cs) (d := d) (tl := tl) (fun h => by have := h.2.2; rw [ht] at this; cases this)
    rw [e1, e2, e3]
    rw [hh] at hk
    rw [ht] at hko
    clear hwp
    go_enter Tryd.func5, Tryd.ntmps5
    go_upto_region 1 with fail
    generalize (w.alloc (.cells #[.int .i64 d.tag, .int .i64 d.num] 25)).alloc (.cells #[.int .i64 0, .int .i64 0] 25) = W0 at *
    go_wp2_with (first
      | (go_at_call_of 8 cap; refine (hk _ hX0.below).mono ?_; rintro r w2 ⟨rfl, hb2⟩; have hX2 := hX0.next hb2; have y0 := hX2.t; have y1 := hX2.u; have p2 := hX2.z0; have p3 := hX2.z1; have p4 := hX2.fz)
      | (go_at_call 15; refine (hw _).mono ?_; rintro r w3 ⟨rfl, hb3⟩; have hX3 := hX2.next hb3; clear y0 y1 p2 p3 p4; have y0 := hX3.t; have y1 := hX3.u; have p2 := hX3.z0; have p3 := hX3.z1; have p4 := hX3.fz)
      | (go_at_call_of 8 ocap; refine (hko _ hX3.below).mono ?_; rintro r w4 ⟨rfl, hb4⟩; have hX4 := hX3.next hb4; clear y0 y1 p2 p3 p4; have y0 := hX4.t; have y1 := hX4.u; have p2 := hX4.z0; have p3 := hX4.z1; have p4 := hX4.fz))
    refine bodyPost_ret (v := .tuple #[.slice none 0 0, .agg #[.int .i64 0, .int .i64 0], .bool false]) (by simp [results, Tryd.results5, go_sem, p2, p3]) rfl (nil3 _ ((hX4.below.setCell (Nat.le_succ _) _).setCell (Nat.le_succ _) _))
  have hok : intoOk cs d tl := ⟨hh, hwp, ht⟩
  obtain ⟨h120, hrefs⟩ := heap_refs hh
  obtain ⟨t120, _⟩ := heap_refs ht
  have hwr : ∀ x ∈ [d], refOk cs.length x := fun x hx => by
    obtain rfl : x = d := by simpa using hx
    exact ref_of_word hwp
  have HS : wordsW cs (st0 cs tl) [d] = [moveW cs (st0 cs tl) d] := rfl
  have hpost : ∀ r W', (∀ (hf : intoFits cs d tl), IntoR w W' (copyS cs tl [d]).to (moveW cs (st0 cs tl) d) true r) → (∀ (hf : ¬ intoFits cs d tl), IntoR w W' tl ⟨0, 0⟩ false r) → IntoR w W' (intoC cs d tl) (intoW cs d tl) (intoB cs d tl) r := fun r W' h1 h2 => by
    by_cases hf : intoFits cs d tl
    · obtain ⟨e1, e2, e3⟩ := into_fits hok hf
      rw [e1, e2, e3]; exact h1 hf
    · obtain ⟨e1, e2, e3⟩ := into_full hok hf
      rw [e1, e2, e3]; exact h2 hf
  rw [hh] at hk
  rw [ht] at hko
  clear hwp hh ht nil3
  go_enter Tryd.func5, Tryd.ntmps5
  go_upto_region 1 with fail
  generalize (w.alloc (.cells #[.int .i64 d.tag, .int .i64 d.num] 25)).alloc (.cells #[.int .i64 0, .int .i64 0] 25) = W0 at *
  go_upto_region 4 with (first
      | (go_at_call_of 8 cap; refine (hk _ hX0.below).mono ?_; rintro r w2 ⟨rfl, hb2⟩; have hX2 := hX0.next hb2; have y0 := hX2.t; have y1 := hX2.u; have p2 := hX2.z0; have p3 := hX2.z1; have p4 := hX2.fz)
      | (go_at_call 15; refine (hw _).mono ?_; rintro r w3 ⟨rfl, hb3⟩; have hX3 := hX2.next hb3; clear y0 y1 p2 p3 p4; have y0 := hX3.t; have y1 := hX3.u; have p2 := hX3.z0; have p3 := hX3.z1; have p4 := hX3.fz)
      | (go_at_call_of 8 ocap; refine (hko _ hX3.below).mono ?_; rintro r w4 ⟨rfl, hb4⟩; have hX4 := hX3.next hb4; clear y0 y1 p2 p3 p4; have y0 := hX4.t; have y1 := hX4.u; have p2 := hX4.z0; have p3 := hX4.z1; have p4 := hX4.fz)
      | (go_at_call 16; refine (impl_workOn cs tl (by omega) (by omega) _ _ _ (hv.keep hX4.below hX4.below.size) (hvo.keep hX4.below hX4.below.size)).mono ?_; rintro r w5 ⟨g, vt, vm, rfl, hW5, hb5⟩; have hX5 := hX4.next hb5; clear y0 y1 p2 p3 p4; have y0 := hX5.t; have y1 := hX5.u))
  have hX6 := hX5.next (below_new w5 (.cells #[.int .i64 d.tag, .int .i64 d.num] 25))
  have hW6 := hW5.keep (below_new w5 (.cells #[.int .i64 d.tag, .int .i64 d.num] 25))
  have hwl : Words (w5.alloc (.cells #[.int .i64 d.tag, .int .i64 d.num] 25)) (fun x => x < (w5.alloc (.cells #[.int .i64 d.tag, .int .i64 d.num] 25)).heap.size ∧ Apart x g vt vm) [d] (.slice (some ⟨w5.heap.size, 0, none⟩) 1 1) := (words_lit w5 d).same fun b hb => ⟨rfl, by rw [hb]; exact ⟨by simp, hW5.apart (Nat.le_refl _)⟩⟩
  have hcw := impl_copyWords tl.length cs (st0 cs tl) [d] (by simp) hwr (by omega) (inv0 cs tl) hrefs _ w4.heap.size g _ vt vm _ hW6 hwl
  have hz4 := hX4.size
  have hlo1 := (hW6.low (b := w.heap.size) (by omega)).2
  have hlo2 := (hW6.low (b := w.heap.size + 1) (by omega)).2
  go_upto_region 5 with (go_at_call 17; refine hcw.mono ?_; rintro r w7 ⟨v7, vt7, rfl, hO7, hA7, hW7, hM7⟩)
  have hb67 := (hW6.below hM7).mono hX4.below.size
  have hX7 := hX6.moved hb67 hM7 hlo1 hlo2
  have hE : loopS cs (cs.length + 1) (wordsS cs (st0 cs tl) [d]) tl.length = copyS cs tl [d] := rfl
  rw [hE] at hW7
  rw [HS] at hO7
  obtain ⟨c0, c1, c2, c3, cf⟩ := wl_cells hW7
  have hT7 := hW7.ownT
  have hg7 := hW7.lt
  have hgB := hW7.hB
  unfold intoFits at hpost
  generalize moveW cs (st0 cs tl) d = dd at *
  generalize copyS cs tl [d] = s7 at *
  obtain ⟨ta, tcap, rfl⟩ := wl_slice hT7
  have p2 := hX7.z0
  have p3 := hX7.z1
  have p4 := hX7.fz
  have hz7 := hX7.size
  have hzb := hX4.below.size
  clear hcw hwl hlo1 hlo2 y0 y1 hW7 hW6 hX6 hW5 hM7 hA7 hE
  by_cases hfit : s7.to.length ≤ 120
  · have hci : ¬ (120 : Int) < (s7.to.length : Int) := by omega
    obtain ⟨vb, vcap, rfl, q0, q1, hvl, hvB⟩ : ∃ vb vcap, v7 = .slice (some ⟨vb, 0, none⟩) 1 vcap ∧ w7.cell? ⟨vb, 0, none⟩ = some (.int .i64 dd.tag) ∧ w7.cell? ⟨vb, 1, none⟩ = some (.int .i64 dd.num) ∧ vb < w7.heap.size ∧ (w5.alloc (.cells #[.int .i64 d.tag, .int .i64 d.num] 25)).heap.size ≤ vb := by
      have hO7' := hO7
      rcases hO7.2 with ⟨_, hn0⟩ | ⟨vb, vcap, cur, rfl, hvb, hh, _⟩
      · simp at hn0
      · refine ⟨vb, vcap, rfl, ?_, ?_, (Array.getElem?_eq_some_iff.1 hh).1, hvb⟩
        · have := hO7'.cells (g := vb) rfl 0 (.int .i64 dd.tag) rfl; rw [Addr.add_mid] at this; simpa using this
        · have := hO7'.cells (g := vb) rfl 1 (.int .i64 dd.num) rfl; rw [Addr.add_mid] at this; simpa using this
    simp at hvB
    have hz5 := hb5.size
    have n1 : w.heap.size + 1 ≠ g := by omega
    have n2 : g ≠ w.heap.size + 1 := by omega
    have n3 : w.heap.size + 1 ≠ vb := by omega
    have n4 : vb ≠ w.heap.size + 1 := by omega
    go_upto_region 7 with fail
    go_region_held3 (fun w' => w'.cell? ⟨g, 1, none⟩ = some (.slice ta s7.to.length tcap) ∧ w'.cell? ⟨vb, 0, none⟩ = some (.int .i64 dd.tag) ∧ w'.cell? ⟨vb, 1, none⟩ = some (.int .i64 dd.num)) (first | go_keep | exact ⟨c1, q0, q1⟩) (fail)
    go_wp2_with fail
    refine bodyPost_ret (v := .tuple #[.slice ta s7.to.length tcap, .agg #[.int .i64 dd.tag, .int .i64 dd.num], .bool true]) (by simp [results, Tryd.results5, go_sem, p2, p3]) rfl (hpost _ _ (fun _ => ⟨_, rfl, ?_, ((hX7.below.setCell (Nat.le_succ _) _).setCell (Nat.le_succ _) _).drew⟩) (fun hf => absurd hfit hf))
    exact (((ow_base hT7 hzb).kept (ow_but_set w7 (w.heap.size + 1) 0 _) (Or.inr (fun e => by have := (hT7.lt _ e).1; omega))).kept (ow_but_set _ (w.heap.size + 1) 1 _) (Or.inr (fun e => by have := (hT7.lt _ e).1; omega))).drew
  · have hci : (120 : Int) < (s7.to.length : Int) := by omega
    have hcl := cl_Clone tl _ w7 (by omega) (hvo.keep hX7.below hX7.below.size)
    go_wp2_with (go_at_call 18; refine hcl.mono ?_; rintro r w8 ⟨v8, rfl, hO8, hb8⟩; obtain ⟨a8, c8, rfl⟩ := wl_slice hO8; have hX8 := hX7.next hb8; clear p2 p3 p4; have p2 := hX8.z0; have p3 := hX8.z1; have p4 := hX8.fz)
    refine bodyPost_ret (v := .tuple #[.slice a8 tl.length c8, .agg #[.int .i64 0, .int .i64 0], .bool false]) (by simp [results, Tryd.results5, go_sem, p2, p3]) rfl (hpost _ _ (fun hf => absurd hf hfit) (fun _ => ⟨_, rfl, ?_, ((hX8.below.setCell (Nat.le_succ _) _).setCell (Nat.le_succ _) _)⟩))
    exact ((ow_base hO8 hX7.below.size).kept (ow_but_set w8 (w.heap.size + 1) 0 _) (Or.inr (fun e => by have := (hO8.lt _ e).1; omega))).kept (ow_but_set _ (w.heap.size + 1) 1 _) (Or.inr (fun e => by have := (hO8.lt _ e).1; omega))

set_option maxHeartbeats 4000000 in
theorem spec_HeapInto (cs : List Ce) (hn : cs.length ≤ 1048576) (d : Wd) (tl : List Ce) (hnt : tl.length ≤ 1048576) (v vo : Value) (w : World) (hv : Cells w (· < w.heap.size) cs v) (hvo : Cells w (· < w.heap.size) tl vo) :
    Calls Tryd.prog 6 #[v, .agg #[.int .i64 d.tag, .int .i64 d.num], vo] w fun r w' => IntoR w w' (intoC cs d tl) (intoW cs d tl) (intoB cs d tl) r := by
  obtain ⟨a, cap, rfl⟩ := hv.slice
  obtain ⟨oa, ocap, rfl⟩ := hvo.slice
  have hX0 := Boxed.new w d
  have hk := fun w' (hb : Below w.heap.size w w') => ho_l7Ok cs hn _ w' (hv.keep hb hb.size)
  have hko := fun w' (hb : Below w.heap.size w w') => ho_l7Ok tl hnt _ w' (hvo.keep hb hb.size)
  have nil3 : ∀ W', Below w.heap.size w W' → IntoR w W' [] ⟨0, 0⟩ false (.returned (.tuple #[.slice none 0 0, .agg #[.int .i64 0, .int .i64 0], .bool false])) := fun w' hb => ⟨_, rfl, World.ownsRow_nil _ _ _ _, hb⟩
  cases hh : heapM cs
  · obtain ⟨e1, e2, e3⟩ := into_no (cs := cs) (d := d) (tl := tl) (fun h => by have := h.1; rw [hh] at this; cases this)
    rw [e1, e2, e3]
    rw [hh] at hk
    go_enter Tryd.func6, Tryd.ntmps6
    go_upto_region 1 with fail
    generalize (w.alloc (.cells #[.int .i64 d.tag, .int .i64 d.num] 25)).alloc (.cells #[.int .i64 0, .int .i64 0] 25) = W0 at *
    go_wp2_with (go_at_call_of 19 cap; refine (hk _ hX0.below).mono ?_; rintro r w2 ⟨rfl, hb2⟩; have hX2 := hX0.next hb2; have y0 := hX2.t; have y1 := hX2.u; have p2 := hX2.z0; have p3 := hX2.z1; have p4 := hX2.fz)
    refine bodyPost_ret (v := .tuple #[.slice none 0 0, .agg #[.int .i64 0, .int .i64 0], .bool false]) (by simp [results, Tryd.results6, go_sem, p2, p3]) rfl (nil3 _ ((hX2.below.setCell (Nat.le_succ _) _).setCell (Nat.le_succ _) _))
  by_cases hwp : wordP cs.length d.tag d.num
  case neg =>
    obtain ⟨e1, e2, e3⟩ := into_no (cs := cs) (d := d) (tl := tl) (fun h => hwp h.2.1)
    rw [e1, e2, e3]
    rw [hh] at hk
    have hw := fun w' => ho_word_no cs.length (by omega) d.tag d.num w' hwp
    clear hwp
    go_enter Tryd.func6, Tryd.ntmps6
    go_upto_region 1 with fail
    generalize (w.alloc (.cells #[.int .i64 d.tag, .int .i64 d.num] 25)).alloc (.cells #[.int .i64 0, .int .i64 0] 25) = W0 at *
    go_wp2_with (first
      | (go_at_call_of 19 cap; refine (hk _ hX0.below).mono ?_; rintro r w2 ⟨rfl, hb2⟩; have hX2 := hX0.next hb2; have y0 := hX2.t; have y1 := hX2.u; have p2 := hX2.z0; have p3 := hX2.z1; have p4 := hX2.fz)
      | (go_at_call 20; refine (hw _).mono ?_; rintro r w3 ⟨rfl, hb3⟩; have hX3 := hX2.next hb3; clear y0 y1 p2 p3 p4; have y0 := hX3.t; have y1 := hX3.u; have p2 := hX3.z0; have p3 := hX3.z1; have p4 := hX3.fz))
    refine bodyPost_ret (v := .tuple #[.slice none 0 0, .agg #[.int .i64 0, .int .i64 0], .bool false]) (by simp [results, Tryd.results6, go_sem, p2, p3]) rfl (nil3 _ ((hX3.below.setCell (Nat.le_succ _) _).setCell (Nat.le_succ _) _))
  have hw := fun w' => ho_word_yes cs.length (by omega) d.tag d.num w' hwp
  cases ht : heapM tl
  · obtain ⟨e1, e2, e3⟩ := into_no (cs := cs) (d := d) (tl := tl) (fun h => by have := h.2.2; rw [ht] at this; cases this)
    rw [e1, e2, e3]
    rw [hh] at hk
    rw [ht] at hko
    clear hwp
    go_enter Tryd.func6, Tryd.ntmps6
    go_upto_region 1 with fail
    generalize (w.alloc (.cells #[.int .i64 d.tag, .int .i64 d.num] 25)).alloc (.cells #[.int .i64 0, .int .i64 0] 25) = W0 at *
    go_wp2_with (first
      | (go_at_call_of 19 cap; refine (hk _ hX0.below).mono ?_; rintro r w2 ⟨rfl, hb2⟩; have hX2 := hX0.next hb2; have y0 := hX2.t; have y1 := hX2.u; have p2 := hX2.z0; have p3 := hX2.z1; have p4 := hX2.fz)
      | (go_at_call 20; refine (hw _).mono ?_; rintro r w3 ⟨rfl, hb3⟩; have hX3 := hX2.next hb3; clear y0 y1 p2 p3 p4; have y0 := hX3.t; have y1 := hX3.u; have p2 := hX3.z0; have p3 := hX3.z1; have p4 := hX3.fz)
      | (go_at_call_of 19 ocap; refine (hko _ hX3.below).mono ?_; rintro r w4 ⟨rfl, hb4⟩; have hX4 := hX3.next hb4; clear y0 y1 p2 p3 p4; have y0 := hX4.t; have y1 := hX4.u; have p2 := hX4.z0; have p3 := hX4.z1; have p4 := hX4.fz))
    refine bodyPost_ret (v := .tuple #[.slice none 0 0, .agg #[.int .i64 0, .int .i64 0], .bool false]) (by simp [results, Tryd.results6, go_sem, p2, p3]) rfl (nil3 _ ((hX4.below.setCell (Nat.le_succ _) _).setCell (Nat.le_succ _) _))
  have hok : intoOk cs d tl := ⟨hh, hwp, ht⟩
  obtain ⟨h120, hrefs⟩ := heap_refs hh
  obtain ⟨t120, _⟩ := heap_refs ht
  have hwr : ∀ x ∈ [d], refOk cs.length x := fun x hx => by
    obtain rfl : x = d := by simpa using hx
    exact ref_of_word hwp
  have HS : wordsW cs (st0 cs tl) [d] = [moveW cs (st0 cs tl) d] := rfl
  have hpost : ∀ r W', (∀ (hf : intoFits cs d tl), IntoR w W' (copyS cs tl [d]).to (moveW cs (st0 cs tl) d) true r) → (∀ (hf : ¬ intoFits cs d tl), IntoR w W' tl ⟨0, 0⟩ false r) → IntoR w W' (intoC cs d tl) (intoW cs d tl) (intoB cs d tl) r := fun r W' h1 h2 => by
    by_cases hf : intoFits cs d tl
    · obtain ⟨e1, e2, e3⟩ := into_fits hok hf
      rw [e1, e2, e3]; exact h1 hf
    · obtain ⟨e1, e2, e3⟩ := into_full hok hf
      rw [e1, e2, e3]; exact h2 hf
  rw [hh] at hk
  rw [ht] at hko
  clear hwp hh ht nil3
  go_enter Tryd.func6, Tryd.ntmps6
  go_upto_region 1 with fail
  generalize (w.alloc (.cells #[.int .i64 d.tag, .int .i64 d.num] 25)).alloc (.cells #[.int .i64 0, .int .i64 0] 25) = W0 at *
  go_upto_region 3 with (first
      | (go_at_call_of 19 cap; refine (hk _ hX0.below).mono ?_; rintro r w2 ⟨rfl, hb2⟩; have hX2 := hX0.next hb2; have y0 := hX2.t; have y1 := hX2.u; have p2 := hX2.z0; have p3 := hX2.z1; have p4 := hX2.fz)
      | (go_at_call 20; refine (hw _).mono ?_; rintro r w3 ⟨rfl, hb3⟩; have hX3 := hX2.next hb3; clear y0 y1 p2 p3 p4; have y0 := hX3.t; have y1 := hX3.u; have p2 := hX3.z0; have p3 := hX3.z1; have p4 := hX3.fz)
      | (go_at_call_of 19 ocap; refine (hko _ hX3.below).mono ?_; rintro r w4 ⟨rfl, hb4⟩; have hX4 := hX3.next hb4; clear y0 y1 p2 p3 p4; have y0 := hX4.t; have y1 := hX4.u; have p2 := hX4.z0; have p3 := hX4.z1; have p4 := hX4.fz))
  have hX5 := hX4.next (below_new w4 (.cells #[.int .i64 d.tag, .int .i64 d.num] 25))
  have hwl : Words (w4.alloc (.cells #[.int .i64 d.tag, .int .i64 d.num] 25)) (· < (w4.alloc (.cells #[.int .i64 d.tag, .int .i64 d.num] 25)).heap.size) [d] (.slice (some ⟨w4.heap.size, 0, none⟩) 1 1) := (words_lit w4 d).same fun b hb => ⟨rfl, by rw [hb]; simp⟩
  have hcw := copy_rest cs tl [d] (by omega) (by omega) (by simp) hwr hrefs _ a oa cap ocap _ (hv.keep hX5.below hX5.below.size) (hvo.keep hX5.below hX5.below.size) hwl
  have hz5 := hX5.size
  go_upto_region 4 with (go_at_call 21; refine hcw.mono ?_; rintro r w7 ⟨vt7, v7, rfl, hT7, hO7, hb7⟩)
  have hX7 := hX5.next hb7
  rw [HS] at hO7
  unfold intoFits at hpost
  generalize moveW cs (st0 cs tl) d = dd at *
  generalize copyS cs tl [d] = s7 at *
  obtain ⟨ta, tcap, rfl⟩ := wl_slice hT7
  clear y0 y1 p2 p3 p4
  have p2 := hX7.z0
  have p3 := hX7.z1
  have p4 := hX7.fz
  have hz7 := hX7.size
  have hzb := hX5.below.size
  clear hcw hwl
  by_cases hfit : s7.to.length ≤ 120
  · have hci : ¬ (120 : Int) < (s7.to.length : Int) := by omega
    obtain ⟨vb, vcap, rfl, q0, q1, hvl, hvB⟩ : ∃ vb vcap, v7 = .slice (some ⟨vb, 0, none⟩) 1 vcap ∧ w7.cell? ⟨vb, 0, none⟩ = some (.int .i64 dd.tag) ∧ w7.cell? ⟨vb, 1, none⟩ = some (.int .i64 dd.num) ∧ vb < w7.heap.size ∧ (w4.alloc (.cells #[.int .i64 d.tag, .int .i64 d.num] 25)).heap.size ≤ vb := by
      have hO7' := hO7
      rcases hO7.2 with ⟨_, hn0⟩ | ⟨vb, vcap, cur, rfl, hvb, hh, _⟩
      · simp at hn0
      · refine ⟨vb, vcap, rfl, ?_, ?_, (Array.getElem?_eq_some_iff.1 hh).1, hvb⟩
        · have := hO7'.cells (g := vb) rfl 0 (.int .i64 dd.tag) rfl; rw [Addr.add_mid] at this; simpa using this
        · have := hO7'.cells (g := vb) rfl 1 (.int .i64 dd.num) rfl; rw [Addr.add_mid] at this; simpa using this
    have n3 : w.heap.size + 1 ≠ vb := by omega
    have n4 : vb ≠ w.heap.size + 1 := by omega
    go_upto_region 6 with fail
    go_region_held3 (fun w' => w'.cell? ⟨vb, 0, none⟩ = some (.int .i64 dd.tag) ∧ w'.cell? ⟨vb, 1, none⟩ = some (.int .i64 dd.num)) (first | go_keep | exact ⟨q0, q1⟩) (fail)
    go_wp2_with fail
    refine bodyPost_ret (v := .tuple #[.slice ta s7.to.length tcap, .agg #[.int .i64 dd.tag, .int .i64 dd.num], .bool true]) (by simp [results, Tryd.results6, go_sem, p2, p3]) rfl (hpost _ _ (fun _ => ⟨_, rfl, ?_, ((hX7.below.setCell (Nat.le_succ _) _).setCell (Nat.le_succ _) _).drew⟩) (fun hf => absurd hfit hf))
    exact (((ow_base hT7 hzb).kept (ow_but_set w7 (w.heap.size + 1) 0 _) (Or.inr (fun e => by have := (hT7.lt _ e).1; omega))).kept (ow_but_set _ (w.heap.size + 1) 1 _) (Or.inr (fun e => by have := (hT7.lt _ e).1; omega))).drew
  · have hci : (120 : Int) < (s7.to.length : Int) := by omega
    obtain ⟨v8, w8, hO8, hb8, hrun⟩ := append_cells tl (by omega) w7 oa ocap (hvo.keep hX7.below hX7.below.size)
    obtain ⟨a8, c8, rfl⟩ := wl_slice hO8
    have hX8 := hX7.next hb8
    have p2' := hX8.z0
    have p3' := hX8.z1
    have p4' := hX8.fz
    go_wp2_with (at_builtin; refine wpList_append_run rfl _ _ 23 rfl _ _ _ _ rfl rfl hrun ?_)
    refine bodyPost_ret (v := .tuple #[.slice a8 tl.length c8, .agg #[.int .i64 0, .int .i64 0], .bool false]) (by simp [results, Tryd.results6, go_sem, p2', p3']) rfl (hpost _ _ (fun hf => absurd hf hfit) (fun _ => ⟨_, rfl, ?_, ((hX8.below.setCell (Nat.le_succ _) _).setCell (Nat.le_succ _) _)⟩))
    exact ((ow_base hO8 hX7.below.size).kept (ow_but_set w8 (w.heap.size + 1) 0 _) (Or.inr (fun e => by have := (hO8.lt _ e).1; omega))).kept (ow_but_set _ (w.heap.size + 1) 1 _) (Or.inr (fun e => by have := (hO8.lt _ e).1; omega))
end Go.Proofs.YtaeankokigmjaaaDoor
