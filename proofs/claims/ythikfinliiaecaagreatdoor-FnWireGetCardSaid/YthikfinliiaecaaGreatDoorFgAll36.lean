/-
  What DrawWireGet draws: a text.
  A range over an iterator that keeps a cell of its own (its captured text, say), whose body is always left at its end: what the iterator owes, what the caller owes. No program is named here.
  strings.Lines: what it hands.
-/
import Derived.Test.YthikfinliiaecaaGreatDoorFgAll12
import Derived.Test.YthikfinliiaecaaGreatDoorFgAll13
import Derived.Test.YthikfinliiaecaaGreatDoorFgAll33
import Derived.Test.YthikfinliiaecaaGreatDoorWgMath
import Derived.RangeFuncNested
import Derived.RangeFuncBound
import Derived.RangeFuncCalls
import Derived.RangeFuncLeaves
import Derived.Shelf.Abstract
import Derived.Shelf.RegionOpen
import Derived.WalkKit
import Derived.OwnWalkIn
import Derived.TacticsInMore
import Derived.LoopNIn
import Derived.LoopIn
import Derived.Test.YthikfinliiaecaaGreatDoorFgAll14
import Derived.Test.YthikfinliiaecaaGreatDoorFgAll0
import Derived.Shelf.Small.Strs
import Derived.Shelf.Lay
import Derived.Ground.NamesProg
namespace Go.Proofs.YthikfinliiaecaaGreatDoor
open Go.RowKit

theorem wire_short {cs : List Ce} {d : Wd} : (wireM cs d).length ≤ 8000 := by
  by_cases h : okW cs d
  · obtain ⟨x, ex, hheap, hwp⟩ := wire_yes h
    have hfine := cell_fine hheap
    have h120 : (cleanC cs [d]).length ≤ 120 := (heap_refs hheap).1
    have hxf := word_fine (by omega) hwp
    have h1 := word_len hxf.1
    have h2 := lines_len _ hfine
    rw [wireM, if_pos h, ex]
    show (wireT (cleanC cs [d]) x).length ≤ 8000
    unfold wireT
    simp only [List.length_append, List.length_cons, List.length_nil]
    omega
  · rw [wireM, if_neg h]
    exact Nat.zero_le _
set_option maxRecDepth 100000 in
set_option maxHeartbeats 2000000 in
theorem spec_DrawWireGet (w : World) (len : Nat) (v : Value) (hv : Bytes w w.heap.size len v) :
    Calls Tryz.prog 4 #[v] w fun r w' => ∃ t : ByteArray, r = .returned (.string t) ∧ t.size ≤ 30000 ∧ Below w.heap.size w w' := by
  go_enter Tryz.func4, Tryz.ntmps4
  go_upto_region 3 with (first
    | (go_at_call 10; refine (spec_l20Open _ len _ hv).mono ?_; rintro r w2 ⟨v', len', rfl, hv', hle, rfl⟩; have hR2 := rd_openedW hv' hle; have hB2 : Below w.heap.size w (w.alloc (.cells #[v', .int .i64 0] 76)) := (Below.refl _ _).alloc (Nat.le_refl _) _)
    | (go_at_call 11; refine (rd_heap _ w.heap.size 0 hR2 (by omega)).mono ?_; rintro r w3 ⟨cs, vc, rfl, hcl, hO3, hR3, hg3⟩; have hB3 := below_butW hB2 hg3 (Nat.le_refl _); (obtain ⟨a3, cap3, rfl⟩ : ∃ a cap, vc = .slice a cs.length cap := (hO3.row ce_len).slice)))
  have hC4 : ∀ w4, w3.grownBy w4 (some w.heap.size) → Cells w4 (· < w4.heap.size) cs (.slice a3 cs.length cap3) := fun w4 hg => (OwnR.row (rd_but hO3 hg (by simp)) ce_len).same fun b hb => ⟨rfl, hb.2⟩
  have hB4 : ∀ w4, w3.grownBy w4 (some w.heap.size) → Below w.heap.size w w4 := fun w4 hg => below_butW hB3 hg (Nat.le_refl _)
  have hgl := hR3.lt
  clear hR2 hg3 hO3 hB2 hv hv' hB3
  go_upto_region 4 with (first
    | (go_at_call 13; refine (rd_word _ w.heap.size _ _ hR3 (by omega) (by omega)).mono ?_; rintro r w4 ⟨t, z, rfl, hR4, hg4⟩)
    | (go_at_call 12; refine (spec_WirePut cs (by omega) ⟨t, z⟩ _ _ (hC4 _ hg4)).mono ?_; rintro r w5 ⟨rfl, hb5⟩))
  have hB5 : Below w.heap.size w w5 := wi_next (hB4 _ hg4) hb5
  have hR5 : Rd w5 w.heap.size (0 + 1000 + 2) := hR4.keep hb5
  have hl := wire_short (cs := cs) (d := ⟨t, z⟩)
  have hsz : (bx (wireM cs ⟨t, z⟩)).size ≤ 8000 := by rw [bx_size]; exact hl
  generalize bx (wireM cs ⟨t, z⟩) = s at *
  clear hC4 hB4 hR3 hR4 hg4 hb5 hl
  go_upto_region 5 with (go_at_call 14; refine (rd_pickZ _ w.heap.size _ _ hR5 (by omega) (by omega) (by omega)).mono ?_; rintro r w6 ⟨y, rfl, _, hR6, hg6⟩)
  · have hB6 := below_butW hB5 hg6 (Nat.le_refl _)
    go_wp2_with fail
    go_ret
    exact ⟨s, rfl, by omega, hB6⟩
  · have hB6 := below_butW hB5 hg6 (Nat.le_refl _)
    go_wp2_with (go_at_call 15; refine (rd_bent _ w.heap.size _ s hR6 (by omega) (by omega)).mono ?_; rintro r w7 ⟨u, hu, rfl, hR7, hg7⟩)
    go_ret
    exact ⟨u, rfl, hu, below_butW hB6 hg7 (Nat.le_refl _)⟩
end Go.Proofs.YthikfinliiaecaaGreatDoor

namespace Go.Proofs.YthikfinliiaecaaGreatDoor
open Go.RowKit

/-- But for the iterator's cell and the loop's two records all stands. -/
structure Aside (s d : Nat) (A B : World) : Prop where
  os : B.os = A.os
  tape : B.tape = A.tape
  output : B.output = A.output
  size : A.heap.size ≤ B.heap.size
  block : ∀ k, k < A.heap.size → k ≠ s → k ≠ d → k ≠ d + 1 → B.heap[k]? = A.heap[k]?
theorem Aside.grown {s d : Nat} {A B : World} (h : A.grownBy B (some s)) : Aside s d A B := ⟨h.os, h.tape, h.output, h.size, fun k hk h1 _ _ => h.block k hk (by simpa using h1)⟩
theorem Aside.put (s d : Nat) (A : World) (l : Nat) (o : Obj) (h : l = d ∨ l = d + 1) : Aside s d A (A.putObj l o) :=
  ⟨rfl, rfl, rfl, by simp, fun k _ _ h1 h2 => World.putObj_heap_other (by omega)⟩
theorem Aside.below {s d : Nat} {A B : World} (h : Below A.heap.size A B) : Aside s d A B := ⟨h.os, h.tape, h.output, h.size, fun k hk _ _ _ => h.block k hk⟩

/-- WHAT THE ITERATOR OWES: it calls yield with the N things in turn, and turns nothing but its own cell s. -/
def Hands (n : Nat) (P : Program) (gf : Nat) (lb : Array Value) (s N : Nat) (encs : Nat → Array Value) (St : World → Prop) : Prop :=
  ∀ (l : Nat) (J : Nat → World → Prop) (W : World), s < W.heap.size → (∀ k A B, J k A → A.grownBy B (some s) → J k B) →
    (∀ k A, k < N → J k A → s < A.heap.size → YieldAt Fence.wide (n - 1) P l (encs k) A fun e B => e = .returned (.bool true) ∧ J (k + 1) B ∧ A.heap.size ≤ B.heap.size ∧ B.heap[s]? = A.heap[s]?) →
    St W → J 0 W → CallsIn Fence.wide n P gf (#[.func (.yield l) #[] #[]] ++ lb) W fun e W' => (∃ v, e = .returned v) ∧ J N W'

/-- What is asked where a round's body ends. -/
def roundEnd (s d : Nat) (W : World) (I : World → Prop) (e : Exit) (_ : Act) (B : World) : Prop :=
  e = .normal ∧ I B ∧ W.heap.size ≤ B.heap.size ∧ B.heap[s]? = W.heap[s]? ∧ B.heap[d]? = W.heap[d]? ∧ B.heap[d + 1]? = W.heap[d + 1]?

theorem range_each {P : Program} {n : Nat} {g : Operand} {ps : Array Tmp} {assign body : Code} {Q : Exit → Act → World → Prop} {a : Act} {w : World} (h1 : 1 ≤ n) {gf : Nat} {lb : Array Value}
    (hg : a.eval g = .func (.func gf) #[] lb) (eg : ∀ args w, (callFunc gf args).run P w = .ok (.enter gf args) w)
    {s N : Nat} (hs : s < w.heap.size) {encs : Nat → Array Value} (hps : ∀ k, (encs k).size = ps.size) {St : World → Prop} (hit : Hands (n - 1) P gf lb s N encs St) (hSt : ∀ W, Below w.heap.size w W → St W)
    (I : Nat → World → Prop) (hI : ∀ k A B, I k A → w.heap.size + 1 < A.heap.size → Aside s w.heap.size A B → I k B) (h0 : ∀ W, Below w.heap.size w W → I 0 W) (a₁ : Nat → Act)
    (hassign : ∀ k W K, k < N → K (a₁ k) W → assign.wpIn (Fence.wide.inRound (w.heap.size + 1)) (n - 1 - 1) P (Exit.then K (fun _ _ _ => False)) { tmps := (ps.zip (encs k)).foldl (fun t (p, v) => t.setIfInBounds p v) a.tmps, defers := [] } W)
    (hbody : ∀ k W, k < N → I k W → w.heap.size + 1 < W.heap.size → body.wpIn (Fence.wide.inRound (w.heap.size + 1)) (n - 1 - 1) P (roundEnd s w.heap.size W (I (k + 1))) (a₁ k) W)
    (hdone : ∀ W, I N W → w.heap.size + 1 < W.heap.size → W.heap[w.heap.size]? = some (.deferred (some [])) → Q .normal { a with defers := { target := .collected w.heap.size, args := #[] } :: a.defers } W) :
    (Code.rangeFunc g ps assign body).wpIn Fence.wide n P Q a w := by
  refine wpIn_rangeFunc fun fn hfn => ?_
  obtain ⟨d, hd⟩ : ∃ d, d = w.heap.size := ⟨_, rfl⟩
  obtain ⟨r, hr⟩ : ∃ r : LoopState → Loop, r = fun st => { state := st, pending := none, fn, tmps := a.tmps, params := ps, assign, body, defers := w.heap.size } := ⟨_, rfl⟩
  obtain ⟨W1, hW1⟩ : ∃ W1, W1 = (w.alloc (.deferred (some []))).alloc (.loop (r .ready)) := ⟨_, rfl⟩
  have hb1 : Below w.heap.size w W1 := by rw [hW1]; exact ((Below.refl _ w).alloc (Nat.le_refl _) _).alloc (by simp) _
  have hz1 : W1.heap.size = w.heap.size + 2 := by rw [hW1]; simp
  have hl1 : W1.heap[w.heap.size + 1]? = some (.loop (r .ready)) := by
    rw [hW1]
    have := World.alloc_heap_new (w.alloc (.deferred (some []))) (.loop (r .ready))
    rwa [World.size_alloc] at this
  have hd1 : W1.heap[w.heap.size]? = some (.deferred (some [])) := by
    rw [hW1]
    exact (Below.heap_alloc _ _ _ (by simp)).trans (World.alloc_heap_new w _)
  refine ⟨w.heap.size + 1, [{ target := .collected w.heap.size, args := #[] }], W1, { target := .fn (.func gf) lb, args := #[.func (.yield (w.heap.size + 1)) #[] #[]] }, W1, gf, #[.func (.yield (w.heap.size + 1)) #[] #[]] ++ lb, W1, ?_, ?_, fun _ _ => trivial, ?_, fun h => ?_, ?_⟩
  · rw [hW1, hr]
    exact run_enterLoop_outer _ _ _ _ _
  · simp only [resolve, hg]
    simp [go_sem]
  · simp [invoke, go_sem, eg]
  · exact h1
  refine (hit (w.heap.size + 1) (fun k W => I k W ∧ w.heap.size + 1 < W.heap.size ∧ W.heap[w.heap.size + 1]? = some (.loop (r .ready)) ∧ W.heap[w.heap.size]? = some (.deferred (some []))) W1 (by omega) ?_ ?_ (hSt W1 hb1) ⟨h0 W1 hb1, by omega, hl1, hd1⟩).mono ?_
  · rintro k A B ⟨hi, hz, hl, hk⟩ hgr
    exact ⟨hI k A B hi hz (Aside.grown hgr), by have := hgr.size; omega, by rw [hgr.block _ hz (by simp; omega)]; exact hl, by rw [hgr.block _ (by omega) (by simp; omega)]; exact hk⟩
  · rintro k A hkN ⟨hi, hz, hl, hk⟩ hsA
    have hy := run_yield (P := P) (args := encs k) hl (by rw [hr]; exact hps k)
    rw [hr] at hy
    refine ⟨fn, _, assign, body, hy, roundIn_of_wpIn hfn (hassign k A _ hkN ⟨_, run_beginRound hl (by rw [hr]), ?_⟩)⟩
    refine wpIn_mono (hbody k _ hkN (hI k _ _ hi hz (Aside.put s w.heap.size A _ _ (Or.inr rfl))) (by simpa using hz)) ?_
    rintro e a3 B ⟨rfl, hi3, hz3, hs3, hd3, hl3⟩
    have hA2 : (A.putObj (w.heap.size + 1) (.loop { r .ready with state := .busy })).heap[w.heap.size + 1]? = some (.loop { r .ready with state := .busy }) := World.putObj_heap_same hz
    have hl4 := hl3.trans hA2
    have hzB : w.heap.size + 1 < B.heap.size := by simp at hz3; omega
    refine ⟨_, _, run_endRound (P := P) none hl4, rfl, ⟨hI _ _ _ hi3 hzB (Aside.put s w.heap.size B _ _ (Or.inr rfl)), by simpa using hzB, ?_, ?_⟩, ?_, ?_⟩
    · rw [World.putObj_heap_same hzB]
      rw [hr]
      rfl
    · rw [World.putObj_heap_other (by omega), hd3, World.putObj_heap_other (by omega)]
      exact hk
    · simp at hz3 ⊢; omega
    · rw [World.putObj_heap_other (by omega), hs3, World.putObj_heap_other (by omega)]
  · rintro e W2 ⟨⟨v, rfl⟩, hi, hz, hl, hk⟩
    refine ⟨none, _, (run_endLoop (P := P) hl (by rw [hr]; simp)).trans (by rw [hr]), ?_⟩
    exact hdone _ (hI _ _ _ hi hz (Aside.put s w.heap.size W2 _ _ (Or.inr rfl))) (by simpa using hz) (by rw [World.putObj_heap_other (by omega)]; exact hk)
end Go.Proofs.YthikfinliiaecaaGreatDoor

namespace Go.Proofs.YthikfinliiaecaaGreatDoor
open Go.RowKit Go.Shelf
attribute [local go_sem] Oper.semAt_some

shelf_lay Lays.n137 Nm 137 at Tryz as lays137
theorem index_byte (t : List UInt8) (w : World) : Calls Tryz.prog 44 #[.string (bx t), .int .u8 10] w fun e w' => e = .returned (.int .i64 (Lib.indexByte t 10)) ∧ w' = w := Any.strings_IndexByte lays137 (bx t) 10 w
theorem bx_extract (l : List UInt8) (a b : Nat) : (bx l).extract a b = bx ((l.drop a).take (b - a)) := by
  apply ByteArray.ext
  simp [bx, ByteArray.data_extract]
theorem bx_front (l : List UInt8) (a : Nat) : (bx l).extract 0 a = bx (l.take a) := by rw [bx_extract]; rfl
theorem bx_back (l : List UInt8) (a : Nat) : (bx l).extract a l.length = bx (l.drop a) := by
  rw [bx_extract, List.take_of_length_le (by rw [List.length_drop]; exact Nat.le_refl _)]
/-- How much text is left in a box. -/
def leftB (s : Nat) (w : World) : Nat := match w.cell? ⟨s, 0, none⟩ with
  | some (.string t) => t.size
  | _ => 0
abbrev TextIn (s : Nat) (l : List UInt8) (w : World) : Prop := w.heap[s]? = some (.cells #[.string (bx l)] 9)
theorem TextIn.cell {s : Nat} {l : List UInt8} {w : World} (h : TextIn s l w) : w.cell? ⟨s, 0, none⟩ = some (.string (bx l)) ∧ w.frozen? ⟨s, 0, none⟩ = false := by
  refine ⟨by rw [cell_of_row _ _ _ _ _ _ h]; rfl, ?_⟩
  unfold World.frozen?
  rw [h]
  simp
theorem TextIn.left {s : Nat} {l : List UInt8} {w : World} (h : TextIn s l w) : leftB s w = l.length := by
  unfold leftB
  rw [h.cell.1]
  exact bx_size l

theorem text_set {s : Nat} {l : List UInt8} {w : World} (h : TextIn s l w) (m : List UInt8) : TextIn s m (w.setCell ⟨s, 0, none⟩ (.string (bx m))) := by
  unfold TextIn World.setCell
  simp only [Array.getElem?_modify]
  rw [h]
  simp
set_option maxRecDepth 100000 in
set_option maxHeartbeats 2000000 in
theorem lines_hands (l0 : List UInt8) (hl0 : l0.length ≤ 1048576) (s n : Nat) (hn : 2 ≤ n) : Hands n Tryz.prog 43 #[.pointer (some ⟨s, 0, none⟩)] s (cntL l0) (fun k => #[.string (bx (lineL k l0))]) (TextIn s l0) := by
  intro l J W hsW hJ hY hSt h0
  refine callsIn_of_wp Tryz.func43 rfl trivial ?_
  simp only [Tryz.ntmps43, List.size_toArray, List.length_cons, List.length_nil, Nat.reduceAdd, Nat.reduceSub, Array.replicate_succ, Array.replicate_zero, List.push_toArray, List.append_toArray, List.nil_append, List.cons_append]
  gi_wp2
  gi_loopw [] (fun wr => ∃ k, k ≤ cntL l0 ∧ TextIn s (restL k l0) wr ∧ J k wr ∧ s < wr.heap.size) (fun wr => leftB s wr)
  case atStart => exact ⟨0, Nat.zero_le _, hSt, h0, hsW⟩
  case round =>
    obtain ⟨k, hk, hT, hJk, hs⟩ := hrel
    obtain ⟨c0, cf⟩ := hT.cell
    by_cases hr : restL k l0 = []
    · obtain rfl := lns_stop hk hr
      rw [hr] at c0
      have hz : bx ([] : List UInt8) = ⟨#[]⟩ := rfl
      rw [hz] at c0
      clear hY hJ
      gi_wp2
      go_end0
      exact ⟨⟨_, rfl⟩, hJk⟩
    · have hkl : k < cntL l0 := by
        apply Decidable.byContradiction
        intro hn
        have : k = cntL l0 := by omega
        exact hr (by rw [this]; exact lns_end l0)
      have hln := rest_len k l0
      obtain ⟨ci1, ci2⟩ := cut_index (restL k l0)
      have hge := index_ge (restL k l0)
      have hnx := rest_next k l0
      have hli : lineL k l0 = (cutLine (restL k l0)).1 := rfl
      have hIB := fun w => index_byte (restL k l0) w
      have hpos : 0 < (restL k l0).length := List.length_pos_iff.2 hr
      generalize hrr : restL k l0 = r at *
      have hz : (bx r).size = r.length := bx_size r
      have hgt : (0 : Int) < ((bx r).size : Int) := by omega
      generalize hidx : Lib.indexByte r 10 = idx at *
      by_cases hi : 0 ≤ idx
      · have ci1 := ci1 hi
        clear ci2
        have hi1 : IntKind.i64.wrap (idx + 1) = idx + 1 := by simp [IntKind.wrap, IntKind.bits, IntKind.signed]; omega
        have hi2 : 0 ≤ idx + 1 := by omega
        have hi3 : idx + 1 ≤ ((bx r).size : Int) := by omega
        have e1 : (bx r).extract 0 (idx + 1).toNat = bx (lineL k l0) := by rw [bx_front, hli, ci1, show (idx + 1).toNat = idx.toNat + 1 by omega]
        have e2 : (bx r).extract (idx + 1).toNat r.length = bx (restL (k + 1) l0) := by rw [bx_back, hnx, ci1, show (idx + 1).toNat = idx.toNat + 1 by omega]
        have hless := cut_less hr
        rw [← hnx] at hless
        have hT2 : TextIn s (restL (k + 1) l0) (wr.setCell ⟨s, 0, none⟩ (.string ((bx r).extract (idx + 1).toNat r.length))).drew := by
          rw [e2]
          show (wr.setCell _ _).heap[s]? = _
          exact text_set hT _
        have hgr : wr.grownBy (wr.setCell ⟨s, 0, none⟩ (.string ((bx r).extract (idx + 1).toNat r.length))).drew (some s) := (ow_but_set wr s 0 _).trans (ow_but_below (some s) ((Below.refl _ _).drew))
        obtain ⟨fn, tmps, assign, body, hy, hR⟩ := hY k _ hkl (hJ k _ _ hJk hgr) (by have := hgr.size; omega)
        rw [← e1] at hy
        have hTL : Hid (TextIn s (restL (k + 1) l0) _) := hT2
        clear e1 e2 hY hT2 ci1 hli hnx hrr
        generalize bx r = t at *
        gi_wp2_with (refine ⟨trivial, fun _ => by omega, (callsIn_wide.2 (hIB _)).mono ?_⟩; rintro e w2 ⟨rfl, rfl⟩)
        gi_region
        gi_wp2
        refine ⟨fun _ => by omega, hR.mono ?_⟩
        rintro e W3 ⟨rfl, hJ3, hz3, hs3⟩
        have hT3 : TextIn s (restL (k + 1) l0) W3 := hs3.trans hTL.out
        gi_wp2
        go_roundw
        case rel => exact ⟨k + 1, by omega, hT3, hJ3, (Array.getElem?_eq_some_iff.1 hT3).1⟩
        case measure => rw [hT3.left, hT.left]; exact hless
      · have ci2 := ci2 hi
        clear ci1
        have e1 : bx r = bx (lineL k l0) := by rw [hli, ci2]
        have hT2 : TextIn s (restL (k + 1) l0) (wr.setCell ⟨s, 0, none⟩ (.string ⟨#[]⟩)) := by
          rw [hnx, ci2]
          exact text_set hT []
        have hless : (restL (k + 1) l0).length < r.length := by rw [hnx, ci2]; exact hpos
        have hgr : wr.grownBy (wr.setCell ⟨s, 0, none⟩ (.string ⟨#[]⟩)) (some s) := ow_but_set wr s 0 _
        obtain ⟨fn, tmps, assign, body, hy, hR⟩ := hY k _ hkl (hJ k _ _ hJk hgr) (by have := hgr.size; omega)
        rw [← e1] at hy
        have hTL : Hid (TextIn s (restL (k + 1) l0) _) := hT2
        clear e1 hY hT2 ci2 hli hnx hrr
        generalize bx r = t at *
        gi_wp2_with (refine ⟨trivial, fun _ => by omega, (callsIn_wide.2 (hIB _)).mono ?_⟩; rintro e w2 ⟨rfl, rfl⟩)
        refine ⟨fun _ => by omega, hR.mono ?_⟩
        rintro e W3 ⟨rfl, hJ3, hz3, hs3⟩
        have hT3 : TextIn s (restL (k + 1) l0) W3 := hs3.trans hTL.out
        gi_wp2
        go_roundw
        case rel => exact ⟨k + 1, by omega, hT3, hJ3, (Array.getElem?_eq_some_iff.1 hT3).1⟩
        case measure => rw [hT3.left, hT.left]; exact hless
end Go.Proofs.YthikfinliiaecaaGreatDoor

