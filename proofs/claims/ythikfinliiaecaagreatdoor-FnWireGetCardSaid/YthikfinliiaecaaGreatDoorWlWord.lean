/-
  The specification's copier: word.
-/
import Derived.Test.YthikfinliiaecaaGreatDoorWlMove
import Derived.Deep.QuietTactic
import Derived.BigQuiet
namespace Go.Proofs.YthikfinliiaecaaGreatDoor
open Go.RowKit

/-- The specification's copier. -/
abbrev shP : Value → Value → Value → Array Value := fun vf vt vm => #[vf, vm, vt]
abbrev WLp := WL 48 3 95 shP
abbrev CameP := CameR 48 3 95 shP
theorem wp_cells {w : World} {B g : Nat} {fr : List Ce} {s : St} {vf vt vm : Value} (h : WLp w B g fr s vf vt vm) : w.cell? ⟨g, 0, none⟩ = some vf ∧ w.cell? ⟨g, 1, none⟩ = some vm ∧ w.cell? ⟨g, 2, none⟩ = some vt ∧ ∀ o, w.frozen? ⟨g, o, none⟩ = false := by
  have hb := h.blk
  refine ⟨?_, ?_, ?_, fun o => ?_⟩
  · rw [cell_of_row _ _ _ _ _ _ hb]; rfl
  · rw [cell_of_row _ _ _ _ _ _ hb]; rfl
  · rw [cell_of_row _ _ _ _ _ _ hb]; rfl
  · unfold World.frozen?; rw [hb]; simp

set_option maxHeartbeats 1000000 in
theorem word_plain (fr : List Ce) (s : St) (d : Wd) (ht : d.tag ≠ 4) (w : World) (B g : Nat) (vf vt vm : Value) (h : WLp w B g fr s vf vt vm) :
    Calls Tryz.prog 56 #[.pointer (some ⟨g, 0, none⟩), d.val] w fun r w' => CameP w w' B g fr s vf vt vm (.returned d.val) r := by
  have ht' : (d.tag == 4) = false := by simpa using ht
  go_enter Tryz.func56, Tryz.ntmps56
  go_wp2_with fail
  have hb : ∀ w', Below w.heap.size w w' → CameP w w' B g fr s vf vt vm (.returned d.val) (.returned (.agg #[.int .i64 d.tag, .int .i64 d.num])) := fun w' hb => ⟨rfl, vt, h.keep hb, Moved.ofBelow hb⟩
  refine bodyPost_ret (v := .agg #[.int .i64 d.tag, .int .i64 d.num]) (by simp [results, Tryz.results56, go_sem]) rfl (hb _ ?_)
  repeat (refine Below.setCell ?_ (by dsimp only; omega) _)
  exact wl_two w _ _

/-- The last region of word: the result is written. -/
theorem word_moved {w W : World} {g : Nat} {vt vt' vm : Value} (h : Moved w W g vt vt' vm) {b : Nat} (hb : w.heap.size ≤ b) (u v : Value) : Moved w ((W.setCell ⟨b, 0, none⟩ u).setCell ⟨b, 1, none⟩ v).drew g vt vt' vm :=
  ((h.setNew hb u).setNew hb v).trans ⟨rfl, rfl, rfl, Nat.le_refl _, fun _ _ _ _ _ => rfl, fun _ _ h => h⟩

set_option maxRecDepth 100000 in
set_option maxHeartbeats 4000000 in
theorem word_no (fr : List Ce) (s : St) (p : Nat) (hp : p < s.mv.length) (w : World) (B g : Nat) (vf vt vm : Value) (hneg : ¬ s.mv[p] < 0) (h : WLp w B g fr s vf vt vm) :
    Calls Tryz.prog 56 #[.pointer (some ⟨g, 0, none⟩), .agg #[.int .i64 4, .int .i64 (p : Int)]] w fun r w' => CameP w w' B g fr s vf vt vm (.returned (.agg #[.int .i64 4, .int .i64 s.mv[p]])) r := by
  have h2 := h.keep (wl_two w (.cells #[.int .i64 4, .int .i64 (p : Int)] 26) (.cells #[.int .i64 0, .int .i64 0] 26))
  obtain ⟨mb, cap, rfl, cm, fm, hmg, hmlt, _⟩ := h2.rowM hp
  obtain ⟨c0, c1, c2, cf⟩ := wp_cells h2
  have hap2 := h.apart (Nat.le_succ w.heap.size)
  have hgB : B ≤ w.heap.size := by have := h.hB; have := h.lt; omega
  have hml : mb < w.heap.size := (h.ownM.lt mb rfl).2
  have hgl := h.lt
  have hpi : (p : Int) < (s.mv.length : Int) := by omega
  have hp0 : (0 : Int) ≤ (p : Int) := by omega
  have hpost : ∀ W', Below w.heap.size w W' → CameP w W' B g fr s vf vt (.slice (some ⟨mb, 0, none⟩) s.mv.length cap) (.returned (.agg #[.int .i64 4, .int .i64 s.mv[p]])) (.returned (.agg #[.int .i64 4, .int .i64 s.mv[p]])) := fun W' hb => ⟨rfl, vt, h.keep hb, Moved.ofBelow hb⟩
  generalize s.mv[p] = x at *
  clear h h2
  have b0 : ((w.alloc (.cells #[.int .i64 4, .int .i64 (p : Int)] 26)).alloc (.cells #[.int .i64 0, .int .i64 0] 26)).cell? ⟨w.heap.size, 0, none⟩ = some (.int .i64 4) := by simp
  have b1 : ((w.alloc (.cells #[.int .i64 4, .int .i64 (p : Int)] 26)).alloc (.cells #[.int .i64 0, .int .i64 0] 26)).cell? ⟨w.heap.size, 1, none⟩ = some (.int .i64 (p : Int)) := by simp
  have b2 : ∀ o, o < 2 → (((w.alloc (.cells #[.int .i64 4, .int .i64 (p : Int)] 26)).alloc (.cells #[.int .i64 0, .int .i64 0] 26)).cell? ⟨w.heap.size + 1, o, none⟩ = some (.int .i64 0)) := fun o ho => by
    match o, ho with
    | 0, _ => simp
    | 1, _ => simp
  have b3 : ∀ o, ((w.alloc (.cells #[.int .i64 4, .int .i64 (p : Int)] 26)).alloc (.cells #[.int .i64 0, .int .i64 0] 26)).frozen? ⟨w.heap.size + 1, o, none⟩ = false := fun o => by
    unfold World.frozen?
    rw [show ((w.alloc (.cells #[.int .i64 4, .int .i64 (p : Int)] 26)).alloc (.cells #[.int .i64 0, .int .i64 0] 26)).heap[w.heap.size + 1]? = some (.cells #[.int .i64 0, .int .i64 0] 26) by simpa using heap_alloc_new (w.alloc (.cells #[.int .i64 4, .int .i64 (p : Int)] 26)) (.cells #[.int .i64 0, .int .i64 0] 26)]
    simp
  have bb := wl_two w (.cells #[.int .i64 4, .int .i64 (p : Int)] 26) (.cells #[.int .i64 0, .int .i64 0] 26)
  go_enter Tryz.func56, Tryz.ntmps56
  go_upto_region 1 with fail
  generalize hWW : (w.alloc (.cells #[.int .i64 4, .int .i64 (p : Int)] 26)).alloc (.cells #[.int .i64 0, .int .i64 0] 26) = W at *
  have hn2 := b2 0 (by omega)
  have hn3 := b2 1 (by omega)
  clear hWW b2
  go_upto_region 3 with fail
  go_quiet (fail)
  go_upto_region 6 with fail
  have e1 : (W.drewN nq).cell? ⟨g, 1, none⟩ = some (.slice (some ⟨mb, 0, none⟩) s.mv.length cap) := c1
  have e2 : (W.drewN nq).cell? ⟨w.heap.size, 1, none⟩ = some (.int .i64 (p : Int)) := b1
  have e3 : (W.drewN nq).cell? ⟨mb, p, none⟩ = some (.int .i64 x) := cm
  have e4 : (W.drewN nq).cell? ⟨w.heap.size + 1, 0, none⟩ = some (.int .i64 0) := hn2
  have e5 : (W.drewN nq).cell? ⟨w.heap.size + 1, 1, none⟩ = some (.int .i64 0) := hn3
  have e6 : ∀ o, (W.drewN nq).frozen? ⟨w.heap.size + 1, o, none⟩ = false := b3
  have hBW : Below w.heap.size w (W.drewN nq) := ⟨bb.os, bb.tape, bb.output, bb.size, bb.block⟩
  generalize W.drewN nq = W3 at *
  clear b0 b1 hn2 hn3 b3 c0 c1 c2 cf cm fm bb
  have n1 : w.heap.size + 1 ≠ g := by omega
  have n2 : w.heap.size + 1 ≠ mb := by omega
  have n3 : g ≠ w.heap.size + 1 := by omega
  have n4 : mb ≠ w.heap.size + 1 := by omega
  go_region_held3 (fun w' => w'.cell? ⟨g, 1, none⟩ = some (.slice (some ⟨mb, 0, none⟩) s.mv.length cap) ∧ w'.cell? ⟨w.heap.size, 1, none⟩ = some (.int .i64 (p : Int)) ∧ w'.cell? ⟨mb, p, none⟩ = some (.int .i64 x)) (first | go_keep | exact ⟨e1, e2, e3⟩) (fail)
  go_wp2_with fail
  refine bodyPost_ret (v := .agg #[.int .i64 4, .int .i64 x]) (by simp [results, Tryz.results56, go_sem, e4, e5]) rfl (hpost _ (((hBW.setCell (Nat.le_succ _) _).setCell (Nat.le_succ _) _).drew))

set_option maxRecDepth 100000 in
set_option maxHeartbeats 8000000 in
theorem word_yes (fr : List Ce) (s : St) (p : Nat) (hp : p < s.mv.length) (hpf : p < fr.length) (hto : s.to.length ≤ 1000) (w : World) (B g : Nat) (vf vt vm : Value) (hneg : s.mv[p] < 0) (h : WLp w B g fr s vf vt vm) :
    Calls Tryz.prog 56 #[.pointer (some ⟨g, 0, none⟩), .agg #[.int .i64 4, .int .i64 (p : Int)]] w fun r w' => CameP w w' B g fr ⟨s.to ++ [fr[p]], s.mv.set p s.to.length⟩ vf vt vm (.returned (.agg #[.int .i64 4, .int .i64 (s.to.length : Int)])) r := by
  obtain ⟨i0, hi0, hiz, his, hib⟩ := info_parts ceInfo
  have hap1 := h.apart (Nat.le_refl w.heap.size)
  have hap2 := h.apart (Nat.le_succ w.heap.size)
  have h2 := h.keep (wl_two w (.cells #[.int .i64 4, .int .i64 (p : Int)] 26) (.cells #[.int .i64 0, .int .i64 0] 26))
  obtain ⟨mb, cap, rfl, cm, fm, hmg, hmlt, _⟩ := h2.rowM hp
  obtain ⟨c0, c1, c2, cf⟩ := wp_cells h2
  obtain ⟨ta, tcap, rfl⟩ := wl_slice h.ownT
  have hgB : B ≤ w.heap.size := by have := h.hB; have := h.lt; omega
  have hml : mb < w.heap.size := (h.ownM.lt mb rfl).2
  have hgl := h.lt
  have hpi : (p : Int) < (s.mv.length : Int) := by omega
  have hp0 : (0 : Int) ≤ (p : Int) := by omega
  generalize s.mv[p] = x at *
  clear h
  have b0 : ((w.alloc (.cells #[.int .i64 4, .int .i64 (p : Int)] 26)).alloc (.cells #[.int .i64 0, .int .i64 0] 26)).cell? ⟨w.heap.size, 0, none⟩ = some (.int .i64 4) := by simp
  have b1 : ((w.alloc (.cells #[.int .i64 4, .int .i64 (p : Int)] 26)).alloc (.cells #[.int .i64 0, .int .i64 0] 26)).cell? ⟨w.heap.size, 1, none⟩ = some (.int .i64 (p : Int)) := by simp
  have b2 : ∀ o, o < 2 → (((w.alloc (.cells #[.int .i64 4, .int .i64 (p : Int)] 26)).alloc (.cells #[.int .i64 0, .int .i64 0] 26)).cell? ⟨w.heap.size + 1, o, none⟩ = some (.int .i64 0)) := fun o ho => by
    match o, ho with
    | 0, _ => simp
    | 1, _ => simp
  have b3 : ∀ o, ((w.alloc (.cells #[.int .i64 4, .int .i64 (p : Int)] 26)).alloc (.cells #[.int .i64 0, .int .i64 0] 26)).frozen? ⟨w.heap.size + 1, o, none⟩ = false := fun o => by
    unfold World.frozen?
    rw [show ((w.alloc (.cells #[.int .i64 4, .int .i64 (p : Int)] 26)).alloc (.cells #[.int .i64 0, .int .i64 0] 26)).heap[w.heap.size + 1]? = some (.cells #[.int .i64 0, .int .i64 0] 26) by simpa using heap_alloc_new (w.alloc (.cells #[.int .i64 4, .int .i64 (p : Int)] 26)) (.cells #[.int .i64 0, .int .i64 0] 26)]
    simp
  have bb := wl_two w (.cells #[.int .i64 4, .int .i64 (p : Int)] 26) (.cells #[.int .i64 0, .int .i64 0] 26)
  have bz : ((w.alloc (.cells #[.int .i64 4, .int .i64 (p : Int)] 26)).alloc (.cells #[.int .i64 0, .int .i64 0] 26)).heap.size = w.heap.size + 1 + 1 := by simp
  go_enter Tryz.func56, Tryz.ntmps56
  go_upto_region 1 with fail
  generalize hWW : (w.alloc (.cells #[.int .i64 4, .int .i64 (p : Int)] 26)).alloc (.cells #[.int .i64 0, .int .i64 0] 26) = W at *
  have hn2 := b2 0 (by omega)
  have hn3 := b2 1 (by omega)
  clear hWW b2
  go_upto_region 3 with fail
  go_quiet (fail)
  go_upto_region 4 with fail
  have hW1 : WLp (W.drewN nq) B g fr s vf (.slice ta s.to.length tcap) (.slice (some ⟨mb, 0, none⟩) s.mv.length cap) := h2.same fun _ _ _ => rfl
  have e0 : (W.drewN nq).cell? ⟨g, 2, none⟩ = some (.slice ta s.to.length tcap) := c2
  have e1 : (W.drewN nq).cell? ⟨g, 1, none⟩ = some (.slice (some ⟨mb, 0, none⟩) s.mv.length cap) := c1
  have e2 : (W.drewN nq).cell? ⟨w.heap.size, 1, none⟩ = some (.int .i64 (p : Int)) := b1
  have e3 : (W.drewN nq).cell? ⟨mb, p, none⟩ = some (.int .i64 x) := cm
  have e3' : (W.drewN nq).frozen? ⟨mb, p, none⟩ = false := fm
  have e4 : (W.drewN nq).cell? ⟨w.heap.size + 1, 0, none⟩ = some (.int .i64 0) := hn2
  have e5 : (W.drewN nq).cell? ⟨w.heap.size + 1, 1, none⟩ = some (.int .i64 0) := hn3
  have e6 : ∀ o, (W.drewN nq).frozen? ⟨w.heap.size + 1, o, none⟩ = false := b3
  have hBW : Below w.heap.size w (W.drewN nq) := ⟨bb.os, bb.tape, bb.output, bb.size, bb.block⟩
  have ez : (W.drewN nq).heap.size = w.heap.size + 1 + 1 := bz
  generalize W.drewN nq = W1 at *
  clear b0 b1 hn2 hn3 b3 c0 c1 c2 cf cm fm bb bz h2 hmlt
  have n1 : g ≠ mb := Ne.symm hmg
  have n2 : w.heap.size ≠ mb := by omega
  have n3 : mb ≠ w.heap.size := by omega
  go_region_held3 (fun w' => w'.cell? ⟨g, 1, none⟩ = some (.slice (some ⟨mb, 0, none⟩) s.mv.length cap) ∧ w'.cell? ⟨g, 2, none⟩ = some (.slice ta s.to.length tcap) ∧ w'.cell? ⟨w.heap.size, 1, none⟩ = some (.int .i64 (p : Int))) (first | go_keep | exact ⟨e1, e0, e2⟩) (fail)
  go_upto_region 5 with fail
  have hW2 : WLp ((W1.setCell ⟨mb, p, none⟩ (.int .i64 (s.to.length : Int))).drew) B g fr ⟨s.to, s.mv.set p s.to.length⟩ vf (.slice ta s.to.length tcap) (.slice (some ⟨mb, 0, none⟩) s.mv.length cap) := (hW1.setM rfl).drew
  have hM2 : Moved w ((W1.setCell ⟨mb, p, none⟩ (.int .i64 (s.to.length : Int))).drew) g (.slice ta s.to.length tcap) (.slice ta s.to.length tcap) (.slice (some ⟨mb, 0, none⟩) s.mv.length cap) := (Moved.ofBelow hBW).trans ⟨rfl, rfl, rfl, by show W1.heap.size ≤ (W1.heap.modify _ _).size; rw [Array.size_modify]; exact Nat.le_refl _, fun k _ _ _ h3 => Below.heap_setCell _ _ _ _ (fun e => h3 (by rw [e]; rfl)), fun _ _ h => h⟩
  have hk : ∀ b, b ≠ mb → ((W1.setCell ⟨mb, p, none⟩ (.int .i64 (s.to.length : Int))).drew).heap[b]? = W1.heap[b]? := fun b hb => Below.heap_setCell _ _ _ _ hb
  have ez2 : ((W1.setCell ⟨mb, p, none⟩ (.int .i64 (s.to.length : Int))).drew).heap.size = w.heap.size + 1 + 1 := by rw [← ez]; show (W1.heap.modify _ _).size = _; rw [Array.size_modify]
  have k2 : ((W1.setCell ⟨mb, p, none⟩ (.int .i64 (s.to.length : Int))).drew).cell? ⟨w.heap.size, 1, none⟩ = some (.int .i64 (p : Int)) := by rw [World.cell?_of_block (w := W1) (hk _ n2)]; exact e2
  have k4 : ((W1.setCell ⟨mb, p, none⟩ (.int .i64 (s.to.length : Int))).drew).cell? ⟨w.heap.size + 1, 0, none⟩ = some (.int .i64 0) := by rw [World.cell?_of_block (w := W1) (hk (w.heap.size + 1) (by omega))]; exact e4
  have k5 : ((W1.setCell ⟨mb, p, none⟩ (.int .i64 (s.to.length : Int))).drew).cell? ⟨w.heap.size + 1, 1, none⟩ = some (.int .i64 0) := by rw [World.cell?_of_block (w := W1) (hk (w.heap.size + 1) (by omega))]; exact e5
  have k6 : ∀ o, ((W1.setCell ⟨mb, p, none⟩ (.int .i64 (s.to.length : Int))).drew).frozen? ⟨w.heap.size + 1, o, none⟩ = false := fun o => by rw [World.frozen?_of_block (w := W1) (hk (w.heap.size + 1) (by omega))]; exact e6 o
  clear e0 e1 e2 e3 e3' e4 e5 e6 hk hW1 hBW ez
  generalize hWW : (W1.setCell ⟨mb, p, none⟩ (.int .i64 (s.to.length : Int))).drew = W2 at *
  have hz1 : w.heap.size < W2.heap.size := by omega
  have hz2 : w.heap.size + 1 < W2.heap.size := by omega
  clear hWW ez2
  have hsl := hW2.frm.slice
  obtain ⟨fa, fcap, rfl⟩ := hsl
  obtain ⟨fb, off, hfB, hfa, hfr⟩ := hW2.frm.at p hpf
  subst hfa
  obtain ⟨c0, c1, c2, cf⟩ := wp_cells hW2
  obtain ⟨q0, q1, q2, q3, q4, q5⟩ := Ce.six hfr
  have hglt := hW2.lt
  have hfB' : fb < B := hfB
  have HS : ∀ w', Below W2.heap.size W2 w' → (w'.cell? ⟨g, 2, none⟩ = some (.slice ta s.to.length tcap) ∧ w'.cell? ⟨g, 0, none⟩ = some (.slice (some ⟨fb, off, none⟩) fr.length fcap) ∧ w'.cell? ⟨w.heap.size, 1, none⟩ = some (.int .i64 (p : Int)) ∧ w'.cell? ⟨fb, off + p * 6, none⟩ = some (.int .i64 fr[p].kind) ∧ w'.cell? ⟨fb, off + p * 6 + 1, none⟩ = some (.int .i64 fr[p].num) ∧ w'.cell? ⟨fb, off + p * 6 + 2, none⟩ = some (.int .i64 fr[p].a.tag) ∧ w'.cell? ⟨fb, off + p * 6 + 3, none⟩ = some (.int .i64 fr[p].a.num) ∧ w'.cell? ⟨fb, off + p * 6 + 4, none⟩ = some (.int .i64 fr[p].b.tag) ∧ w'.cell? ⟨fb, off + p * 6 + 5, none⟩ = some (.int .i64 fr[p].b.num)) := fun w' hb' => by
    refine ⟨?_, ?_, ?_, ?_, ?_, ?_, ?_, ?_, ?_⟩
    all_goals (rw [hb'.cell (by dsimp only; omega)]; assumption)
  have hpf' : (p : Int) < (fr.length : Int) := by omega
  have hWA : WLp ((W2.alloc (.cells #[.int .i64 fr[p].kind, .int .i64 fr[p].num, .int .i64 fr[p].a.tag, .int .i64 fr[p].a.num, .int .i64 fr[p].b.tag, .int .i64 fr[p].b.num] 48)).drew) B g fr ⟨s.to, s.mv.set p s.to.length⟩ (.slice (some ⟨fb, off, none⟩) fr.length fcap) (.slice ta s.to.length tcap) (.slice (some ⟨mb, 0, none⟩) s.mv.length cap) := (hW2.keep (below_new W2 _)).drew
  have hnew : ∀ j u, fr[p].cells[j]? = some u → ((W2.alloc (.cells #[.int .i64 fr[p].kind, .int .i64 fr[p].num, .int .i64 fr[p].a.tag, .int .i64 fr[p].a.num, .int .i64 fr[p].b.tag, .int .i64 fr[p].b.num] 48)).drew).cell? ((⟨W2.heap.size, 0, none⟩ : Addr).add j) = some u := ow_cells_new W2 _ _
  have htn : some w.heap.size ≠ Value.ownBlock (.slice ta s.to.length tcap) := hap1.2.1
  have HS8 : ∀ w8, ((W2.alloc (.cells #[.int .i64 fr[p].kind, .int .i64 fr[p].num, .int .i64 fr[p].a.tag, .int .i64 fr[p].a.num, .int .i64 fr[p].b.tag, .int .i64 fr[p].b.num] 48)).drew).grownBy w8 (Value.ownBlock (.slice ta s.to.length tcap)) → (w8.cell? ⟨g, 2, none⟩ = some (.slice ta s.to.length tcap) ∧ w8.cell? ⟨g, 0, none⟩ = some (.slice (some ⟨fb, off, none⟩) fr.length fcap) ∧ w8.cell? ⟨w.heap.size, 1, none⟩ = some (.int .i64 (p : Int)) ∧ w8.cell? ⟨fb, off + p * 6, none⟩ = some (.int .i64 fr[p].kind) ∧ w8.cell? ⟨fb, off + p * 6 + 1, none⟩ = some (.int .i64 fr[p].num) ∧ w8.cell? ⟨fb, off + p * 6 + 2, none⟩ = some (.int .i64 fr[p].a.tag) ∧ w8.cell? ⟨fb, off + p * 6 + 3, none⟩ = some (.int .i64 fr[p].a.num) ∧ w8.cell? ⟨fb, off + p * 6 + 4, none⟩ = some (.int .i64 fr[p].b.tag) ∧ w8.cell? ⟨fb, off + p * 6 + 5, none⟩ = some (.int .i64 fr[p].b.num)) := fun w8 hG => by
    have hh := HS _ ((below_new W2 (.cells #[.int .i64 fr[p].kind, .int .i64 fr[p].num, .int .i64 fr[p].a.tag, .int .i64 fr[p].a.num, .int .i64 fr[p].b.tag, .int .i64 fr[p].b.num] 48)).drew)
    obtain ⟨y0, y1, y2, y3, y4, y5, y6, y7, y8⟩ := hh
    have hgt : some g ≠ Value.ownBlock (.slice ta s.to.length tcap) := fun e => hW2.tg e.symm
    have hft : some fb ≠ Value.ownBlock (.slice ta s.to.length tcap) := fun e => by have := (hW2.ownT.lt fb e.symm).1; omega
    exact ⟨hG.cell y0 hgt, hG.cell y1 hgt, hG.cell y2 htn, hG.cell y3 hft, hG.cell y4 hft, hG.cell y5 hft, hG.cell y6 hft, hG.cell y7 hft, hG.cell y8 hft⟩
  clear hfr
  refine wp_region_last2 (S := fun w' => w'.cell? ⟨g, 2, none⟩ = some (.slice ta s.to.length tcap) ∧ w'.cell? ⟨g, 0, none⟩ = some (.slice (some ⟨fb, off, none⟩) fr.length fcap) ∧ w'.cell? ⟨w.heap.size, 1, none⟩ = some (.int .i64 (p : Int)) ∧ w'.cell? ⟨fb, off + p * 6, none⟩ = some (.int .i64 fr[p].kind) ∧ w'.cell? ⟨fb, off + p * 6 + 1, none⟩ = some (.int .i64 fr[p].num) ∧ w'.cell? ⟨fb, off + p * 6 + 2, none⟩ = some (.int .i64 fr[p].a.tag) ∧ w'.cell? ⟨fb, off + p * 6 + 3, none⟩ = some (.int .i64 fr[p].a.num) ∧ w'.cell? ⟨fb, off + p * 6 + 4, none⟩ = some (.int .i64 fr[p].b.tag) ∧ w'.cell? ⟨fb, off + p * 6 + 5, none⟩ = some (.int .i64 fr[p].b.num)) (by kernel_rfl) (by kernel_rfl) rfl (HS _ ((Below.refl _ _).drew)) (fun hHeld => ?_)
  simp only [killLast, killL]
  (refine wpAnyH_take (i := 0) (oi := _) (v := ?v300) rfl (by kernel_rfl) (by kernel_rfl) (by kernel_rfl) (fun _ _ _ h => h) (Or.inl ⟨by rfl, ?hy300⟩) hHeld ?rest300; (case hy300 => (intro w' hSw; obtain ⟨x0, x1, x2, x3, x4, x5, x6, x7, x8⟩ := hSw; (try simp only [List.getElem_toArray]); (try simp only [List.getElem_cons_succ]); (try simp only [List.getElem_cons_zero]); go_simp; rfl)); (try simp only [List.getElem_toArray]); (try simp only [List.getElem_cons_succ]); (try simp only [List.getElem_cons_zero]); (try simp only [Act.put]); (try simp only [List.setIfInBounds_toArray]); (try simp only [List.set_cons_succ]); (try simp only [List.set_cons_zero]))
  (refine wpAnyH_take (i := 1) (oi := _) (v := ?v301) rfl (by kernel_rfl) (by kernel_rfl) (by kernel_rfl) (fun _ _ _ h => h) (Or.inl ⟨by rfl, ?hy301⟩) hHeld ?rest301; (case hy301 => (intro w' hSw; obtain ⟨x0, x1, x2, x3, x4, x5, x6, x7, x8⟩ := hSw; (try simp only [List.getElem_toArray]); (try simp only [List.getElem_cons_succ]); (try simp only [List.getElem_cons_zero]); go_simp; rfl)); (try simp only [List.getElem_toArray]); (try simp only [List.getElem_cons_succ]); (try simp only [List.getElem_cons_zero]); (try simp only [Act.put]); (try simp only [List.setIfInBounds_toArray]); (try simp only [List.set_cons_succ]); (try simp only [List.set_cons_zero]))
  (refine wpAnyH_take (i := 2) (oi := _) (v := ?v302) rfl (by kernel_rfl) (by kernel_rfl) (by kernel_rfl) (fun _ _ _ h => h) (Or.inl ⟨by rfl, ?hy302⟩) hHeld ?rest302; (case hy302 => (intro w' hSw; obtain ⟨x0, x1, x2, x3, x4, x5, x6, x7, x8⟩ := hSw; (try simp only [List.getElem_toArray]); (try simp only [List.getElem_cons_succ]); (try simp only [List.getElem_cons_zero]); go_simp; rfl)); (try simp only [List.getElem_toArray]); (try simp only [List.getElem_cons_succ]); (try simp only [List.getElem_cons_zero]); (try simp only [Act.put]); (try simp only [List.setIfInBounds_toArray]); (try simp only [List.set_cons_succ]); (try simp only [List.set_cons_zero]))
  (refine wpAnyH_take (i := 3) (oi := _) (v := ?v303) rfl (by kernel_rfl) (by kernel_rfl) (by kernel_rfl) (fun _ _ _ h => h) (Or.inl ⟨by rfl, ?hy303⟩) hHeld ?rest303; (case hy303 => (intro w' hSw; obtain ⟨x0, x1, x2, x3, x4, x5, x6, x7, x8⟩ := hSw; (try simp only [List.getElem_toArray]); (try simp only [List.getElem_cons_succ]); (try simp only [List.getElem_cons_zero]); go_simp; rfl)); (try simp only [List.getElem_toArray]); (try simp only [List.getElem_cons_succ]); (try simp only [List.getElem_cons_zero]); (try simp only [Act.put]); (try simp only [List.setIfInBounds_toArray]); (try simp only [List.set_cons_succ]); (try simp only [List.set_cons_zero]))
  (refine wpAnyH_take (i := 4) (oi := _) (v := ?v304) rfl (by kernel_rfl) (by kernel_rfl) (by kernel_rfl) (fun _ _ _ h => h) (Or.inl ⟨by rfl, ?hy304⟩) hHeld ?rest304; (case hy304 => (intro w' hSw; obtain ⟨x0, x1, x2, x3, x4, x5, x6, x7, x8⟩ := hSw; (try simp only [List.getElem_toArray]); (try simp only [List.getElem_cons_succ]); (try simp only [List.getElem_cons_zero]); go_simp; rfl)); (try simp only [List.getElem_toArray]); (try simp only [List.getElem_cons_succ]); (try simp only [List.getElem_cons_zero]); (try simp only [Act.put]); (try simp only [List.setIfInBounds_toArray]); (try simp only [List.set_cons_succ]); (try simp only [List.set_cons_zero]))
  (refine wpAnyH_take (i := 5) (oi := _) (v := ?v305) rfl (by kernel_rfl) (by kernel_rfl) (by kernel_rfl) (fun _ _ _ h => h) (Or.inl ⟨by rfl, ?hy305⟩) hHeld ?rest305; (case hy305 => (intro w' hSw; obtain ⟨x0, x1, x2, x3, x4, x5, x6, x7, x8⟩ := hSw; (try simp only [List.getElem_toArray]); (try simp only [List.getElem_cons_succ]); (try simp only [List.getElem_cons_zero]); go_simp; rfl)); (try simp only [List.getElem_toArray]); (try simp only [List.getElem_cons_succ]); (try simp only [List.getElem_cons_zero]); (try simp only [Act.put]); (try simp only [List.setIfInBounds_toArray]); (try simp only [List.set_cons_succ]); (try simp only [List.set_cons_zero]))
  (refine wpAnyH_take (i := 6) (oi := _) (v := ?v306) rfl (by kernel_rfl) (by kernel_rfl) (by kernel_rfl) (fun _ _ _ h => h) (Or.inl ⟨by rfl, ?hy306⟩) hHeld ?rest306; (case hy306 => (intro w' hSw; obtain ⟨x0, x1, x2, x3, x4, x5, x6, x7, x8⟩ := hSw; (try simp only [List.getElem_toArray]); (try simp only [List.getElem_cons_succ]); (try simp only [List.getElem_cons_zero]); go_simp; rfl)); (try simp only [List.getElem_toArray]); (try simp only [List.getElem_cons_succ]); (try simp only [List.getElem_cons_zero]); (try simp only [Act.put]); (try simp only [List.setIfInBounds_toArray]); (try simp only [List.set_cons_succ]); (try simp only [List.set_cons_zero]))
  (refine wpAnyH_take (i := 7) (oi := _) (v := ?v307) rfl (by kernel_rfl) (by kernel_rfl) (by kernel_rfl) (fun _ _ _ h => h) (Or.inl ⟨by rfl, ?hy307⟩) hHeld ?rest307; (case hy307 => (intro w' hSw; obtain ⟨x0, x1, x2, x3, x4, x5, x6, x7, x8⟩ := hSw; (try simp only [List.getElem_toArray]); (try simp only [List.getElem_cons_succ]); (try simp only [List.getElem_cons_zero]); go_simp; rfl)); (try simp only [List.getElem_toArray]); (try simp only [List.getElem_cons_succ]); (try simp only [List.getElem_cons_zero]); (try simp only [Act.put]); (try simp only [List.setIfInBounds_toArray]); (try simp only [List.set_cons_succ]); (try simp only [List.set_cons_zero]))
  (refine wpAnyH_take (i := 8) (oi := _) (v := ?v308) rfl (by kernel_rfl) (by kernel_rfl) (by kernel_rfl) (fun _ _ _ h => h) (Or.inl ⟨by rfl, ?hy308⟩) hHeld ?rest308; (case hy308 => (intro w' hSw; obtain ⟨x0, x1, x2, x3, x4, x5, x6, x7, x8⟩ := hSw; (try simp only [List.getElem_toArray]); (try simp only [List.getElem_cons_succ]); (try simp only [List.getElem_cons_zero]); go_simp; rfl)); (try simp only [List.getElem_toArray]); (try simp only [List.getElem_cons_succ]); (try simp only [List.getElem_cons_zero]); (try simp only [Act.put]); (try simp only [List.setIfInBounds_toArray]); (try simp only [List.set_cons_succ]); (try simp only [List.set_cons_zero]))
  (refine wpAnyH_take (i := 9) (oi := _) (v := ?v309) rfl (by kernel_rfl) (by kernel_rfl) (by kernel_rfl) (fun _ _ _ h => h) (Or.inl ⟨by rfl, ?hy309⟩) hHeld ?rest309; (case hy309 => (intro w' hSw; obtain ⟨x0, x1, x2, x3, x4, x5, x6, x7, x8⟩ := hSw; (try simp only [List.getElem_toArray]); (try simp only [List.getElem_cons_succ]); (try simp only [List.getElem_cons_zero]); go_simp; rfl)); (try simp only [List.getElem_toArray]); (try simp only [List.getElem_cons_succ]); (try simp only [List.getElem_cons_zero]); (try simp only [Act.put]); (try simp only [List.setIfInBounds_toArray]); (try simp only [List.set_cons_succ]); (try simp only [List.set_cons_zero]))
  (refine wpAnyH_take (i := 10) (oi := _) (v := ?v310) rfl (by kernel_rfl) (by kernel_rfl) (by kernel_rfl) (fun _ _ _ h => h) (Or.inl ⟨by rfl, ?hy310⟩) hHeld ?rest310; (case hy310 => (intro w' hSw; obtain ⟨x0, x1, x2, x3, x4, x5, x6, x7, x8⟩ := hSw; (try simp only [List.getElem_toArray]); (try simp only [List.getElem_cons_succ]); (try simp only [List.getElem_cons_zero]); go_simp; rfl)); (try simp only [List.getElem_toArray]); (try simp only [List.getElem_cons_succ]); (try simp only [List.getElem_cons_zero]); (try simp only [Act.put]); (try simp only [List.setIfInBounds_toArray]); (try simp only [List.set_cons_succ]); (try simp only [List.set_cons_zero]))
  (refine wpAnyH_take (i := 11) (oi := _) (v := ?v311) rfl (by kernel_rfl) (by kernel_rfl) (by kernel_rfl) (fun _ _ _ h => h) (Or.inl ⟨by rfl, ?hy311⟩) hHeld ?rest311; (case hy311 => (intro w' hSw; obtain ⟨x0, x1, x2, x3, x4, x5, x6, x7, x8⟩ := hSw; (try simp only [List.getElem_toArray]); (try simp only [List.getElem_cons_succ]); (try simp only [List.getElem_cons_zero]); go_simp; rfl)); (try simp only [List.getElem_toArray]); (try simp only [List.getElem_cons_succ]); (try simp only [List.getElem_cons_zero]); (try simp only [Act.put]); (try simp only [List.setIfInBounds_toArray]); (try simp only [List.set_cons_succ]); (try simp only [List.set_cons_zero]))
  (refine wpAnyH_take (i := 12) (oi := _) (v := ?v312) rfl (by kernel_rfl) (by kernel_rfl) (by kernel_rfl) (fun _ _ _ h => h) (Or.inl ⟨by rfl, ?hy312⟩) hHeld ?rest312; (case hy312 => (intro w' hSw; obtain ⟨x0, x1, x2, x3, x4, x5, x6, x7, x8⟩ := hSw; (try simp only [List.getElem_toArray]); (try simp only [List.getElem_cons_succ]); (try simp only [List.getElem_cons_zero]); go_simp; rfl)); (try simp only [List.getElem_toArray]); (try simp only [List.getElem_cons_succ]); (try simp only [List.getElem_cons_zero]); (try simp only [Act.put]); (try simp only [List.setIfInBounds_toArray]); (try simp only [List.set_cons_succ]); (try simp only [List.set_cons_zero]))
  refine wpAnyH_ready (rs := [13]) (by kernel_rfl) (by simp) ?_
  refine AllReadyH.cons (o := _) rfl (fun K hK => ?_) ?_
  · (try simp only [List.getElem_toArray]); (try simp only [List.getElem_cons_succ]); (try simp only [List.getElem_cons_zero])
    go_simp
    refine hK.out _ _ (HS _ ((below_new W2 _).drew)) (fun hHeld => ?_)
    clear hK K
    (try simp only [Act.put]); (try simp only [List.setIfInBounds_toArray]); (try simp only [List.set_cons_succ]); (try simp only [List.set_cons_zero])
    refine wpAnyH_ready (rs := [14]) (by kernel_rfl) (by simp) ?_
    refine AllReadyH.cons (o := _) rfl (fun K hK => ?_) ?_
    · (try simp only [List.getElem_toArray]); (try simp only [List.getElem_cons_succ]); (try simp only [List.getElem_cons_zero])
      refine step_any' rfl (wp_append_lies _ (.tmp 34) (.tmp 43) 24 rfl B 48 i0 _ 6 48 Tryz.underlying24 hi0 hiz his hib rfl (by decide) (.slice ta s.to.length tcap) s.to.length (s.to.flatMap Ce.cells) rfl hWA.ownT ⟨W2.heap.size, 0, none⟩ 1 1 fr[p].cells rfl rfl hnew (Ce.one fr[p]) (by omega) (by unfold maxLen; omega) (by omega) (by have := hW2.hB; have := hW2.lt; simp; omega) (W2.heap.size + 1) (by simp) ?_)
      intro t8 cap8 w8 hO8 hG8 hor8 hlt8
      obtain ⟨hW9, hM9⟩ := hWA.setTo hO8 hG8 (by simpa using hor8) 2 (fun v' => rfl)
      have hS8 := HS8 w8 hG8
      refine hK.out _ _ hS8 (fun hHeld => ?_)
      clear hK K
      (try simp only [Act.put]); (try simp only [List.setIfInBounds_toArray]); (try simp only [List.set_cons_succ]); (try simp only [List.set_cons_zero])
      (refine wpAnyH_take (i := 15) (oi := _) (v := ?v315) rfl (by kernel_rfl) (by kernel_rfl) (by kernel_rfl) (fun _ _ _ h => h) (Or.inl ⟨by rfl, ?hy315⟩) hHeld ?rest315; (case hy315 => (intro w' hSw; obtain ⟨x0, x1, x2, x3, x4, x5, x6, x7, x8⟩ := hSw; (try simp only [List.getElem_toArray]); (try simp only [List.getElem_cons_succ]); (try simp only [List.getElem_cons_zero]); go_simp; rfl)); (try simp only [List.getElem_toArray]); (try simp only [List.getElem_cons_succ]); (try simp only [List.getElem_cons_zero]); (try simp only [Act.put]); (try simp only [List.setIfInBounds_toArray]); (try simp only [List.set_cons_succ]); (try simp only [List.set_cons_zero]))
      (refine wpAnyH_take (i := 16) (oi := _) (v := ?v316) rfl (by kernel_rfl) (by kernel_rfl) (by kernel_rfl) (fun _ _ _ h => h) (Or.inl ⟨by rfl, ?hy316⟩) hHeld ?rest316; (case hy316 => (intro w' hSw; obtain ⟨x0, x1, x2, x3, x4, x5, x6, x7, x8⟩ := hSw; (try simp only [List.getElem_toArray]); (try simp only [List.getElem_cons_succ]); (try simp only [List.getElem_cons_zero]); go_simp; rfl)); (try simp only [List.getElem_toArray]); (try simp only [List.getElem_cons_succ]); (try simp only [List.getElem_cons_zero]); (try simp only [Act.put]); (try simp only [List.setIfInBounds_toArray]); (try simp only [List.set_cons_succ]); (try simp only [List.set_cons_zero]))
      (refine wpAnyH_take (i := 17) (oi := _) (v := .bool true) rfl (by kernel_rfl) (by kernel_rfl) (by kernel_rfl) (fun _ _ _ h => h) (Or.inl ⟨by rfl, fun _ _ => by rfl⟩) hHeld ?_; (try simp only [List.getElem_toArray]); (try simp only [List.getElem_cons_succ]); (try simp only [List.getElem_cons_zero]); simp only [Act.put])
      refine wpAnyH_done (by kernel_rfl) ?_ _
      show Oper.wp _ _ _ _ _ _
      have hg9 : ∀ o, w8.frozen? ⟨g, o, none⟩ = false := fun o => by
        rw [World.frozen?_of_block (w := W2) ((hG8.block g (by simp; omega) (fun e => hW2.tg e.symm)).trans ((below_new W2 _).block g hglt))]; exact cf o
      have h19 := hS8.1
      have hMA := (Moved.ofBelow (g := g) (vt := .slice ta s.to.length tcap) (vm := .slice (some ⟨mb, 0, none⟩) s.mv.length cap) ((below_new W2 (.cells #[.int .i64 fr[p].kind, .int .i64 fr[p].num, .int .i64 fr[p].a.tag, .int .i64 fr[p].a.num, .int .i64 fr[p].b.tag, .int .i64 fr[p].b.num] 48)).drew)).trans hM9
      obtain ⟨m1, _⟩ := hMA.cells (b := w.heap.size) (by omega) hap1
      obtain ⟨m2, m3⟩ := hMA.cells (b := w.heap.size + 1) (by omega) hap2
      have ha2 := hMA.apart (b := w.heap.size + 1) (by omega) hap2
      have hMM := hM2.trans hMA
      go_simp
      go_upto_region 6 with fail
      have e2 := (m1 1).trans k2
      have e4 := (m2 0).trans k4
      have e5 := (m2 1).trans k5
      have e6 := fun o => (m3 o).trans (k6 o)
      obtain ⟨_, e1, _, _⟩ := wp_cells hW9
      obtain ⟨mb', cap', hmm, cm9, _⟩ := hW9.rowM (p := p) (by simp; exact hp)
      obtain rfl : mb = mb' := by simp at hmm; exact hmm.1
      have e3 : (w8.setCell ⟨g, 2, none⟩ (.slice (some ⟨t8, 0, none⟩) (s.to.length + 1) cap8)).cell? ⟨mb, p, none⟩ = some (.int .i64 (s.to.length : Int)) := by simpa using cm9
      clear cm9 hmm m1 m2 m3 k2 k4 k5 k6 c0 c1 c2 cf q0 q1 q2 q3 q4 q5 HS HS8 hS8 hO8 hG8 h19 hg9 hMA hWA hM9 hM2 hW2
      generalize w8.setCell ⟨g, 2, none⟩ (.slice (some ⟨t8, 0, none⟩) (s.to.length + 1) cap8) = W3 at *
      have hglt9 := hW9.lt
      have n1' : w.heap.size + 1 ≠ g := by omega
      have n2' : w.heap.size + 1 ≠ mb := by omega
      have n3' : g ≠ w.heap.size + 1 := by omega
      have n4' : mb ≠ w.heap.size + 1 := by omega
      go_region_held3 (fun w' => w'.cell? ⟨g, 1, none⟩ = some (.slice (some ⟨mb, 0, none⟩) s.mv.length cap) ∧ w'.cell? ⟨w.heap.size, 1, none⟩ = some (.int .i64 (p : Int)) ∧ w'.cell? ⟨mb, p, none⟩ = some (.int .i64 (s.to.length : Int))) (first | go_keep | exact ⟨e1, e2, e3⟩) (fail)
      go_wp2_with fail
      refine bodyPost_ret (v := .agg #[.int .i64 4, .int .i64 (s.to.length : Int)]) (by simp [results, Tryz.results56, go_sem, e4, e5]) rfl ⟨rfl, _, ?_, word_moved hMM (by omega) _ _⟩
      exact ((hW9.setOther (b := w.heap.size + 1) (o := 0) (by omega) ha2.1 ha2.2.1 ha2.2.2).setOther (b := w.heap.size + 1) (o := 1) (by omega) ha2.1 ha2.2.1 ha2.2.2).drew
    exact AllReadyH.nil
  exact AllReadyH.nil

theorem spec_word (fr : List Ce) (s : St) (d : Wd) (hd : refOk fr.length d) (hmv : s.mv.length = fr.length) (hto : s.to.length ≤ 1000) (w : World) (B g : Nat) (vf vt vm : Value) (h : WLp w B g fr s vf vt vm) :
    Calls Tryz.prog 56 #[.pointer (some ⟨g, 0, none⟩), d.val] w fun r w' => CameP w w' B g fr (moveS fr s d) vf vt vm (.returned (moveW fr s d).val) r := by
  by_cases ht : d.tag = 4
  · obtain ⟨h0, h1⟩ := hd ht
    obtain ⟨p, hp⟩ : ∃ p : Nat, d.num = (p : Int) := ⟨d.num.toNat, by omega⟩
    have hpf : p < fr.length := by omega
    have hpm : p < s.mv.length := by omega
    have e1 : moveS fr s d = comeS fr s p := by rw [moveS, if_pos ht, hp]; rfl
    have e2 : moveW fr s d = ⟨4, placeS fr s p⟩ := by rw [moveW, if_pos ht, hp]; rfl
    have hv : d.val = .agg #[.int .i64 4, .int .i64 (p : Int)] := by show Value.agg _ = _; rw [ht, hp]
    obtain ⟨c1, c2⟩ := come_eqs fr s p hpm hpf
    rw [e1, e2, hv]
    by_cases hn : s.mv[p] < 0
    · obtain ⟨f1, f2⟩ := c1 hn
      rw [f1, f2]
      exact word_yes fr s p hpm hpf hto w B g vf vt vm hn h
    · obtain ⟨f1, f2⟩ := c2 hn
      rw [f1, f2]
      exact word_no fr s p hpm w B g vf vt vm hn h
  · have e1 : moveS fr s d = s := by rw [moveS, if_neg ht]
    have e2 : moveW fr s d = d := by rw [moveW, if_neg ht]
    rw [e1, e2]
    exact word_plain fr s d ht w B g vf vt vm h
end Go.Proofs.YthikfinliiaecaaGreatDoor

