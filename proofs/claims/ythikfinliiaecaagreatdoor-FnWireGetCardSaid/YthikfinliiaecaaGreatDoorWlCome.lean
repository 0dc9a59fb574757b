/-
  The program's worklist: come.
-/
import Derived.Test.YthikfinliiaecaaGreatDoorRows
import Derived.Test.YthikfinliiaecaaGreatDoorFgAll3
import Derived.Test.YthikfinliiaecaaGreatDoorNtLast2
import Derived.WalkKit
import Derived.WalkSpells
import Derived.WalkLawsBesides
import Derived.RowKit3
import Derived.Deep.RegionWith
import Derived.Deep.RegionHeld3
import Derived.Deep.AppendLies
import Derived.Deep.Cut
namespace Go.Proofs.YthikfinliiaecaaGreatDoor
open Go.RowKit

theorem step_any' {P : Program} {o : Oper} {y : Nat → Option Bool} {a : Act} {w : World} {K : Act → World → Prop} {Q : Exit → Act → World → Prop} {E : Prop} (hg : o.guard = none) (h : Oper.wp P o a w K Q) : if Region.wanted o y = true then Oper.wp P o a w K Q else E := by
  rw [if_pos (by simp [Region.wanted, hg])]; exact h
theorem below_new (w : World) (o : Obj) : Below w.heap.size w (w.alloc o) := (Below.refl _ _).alloc (Nat.le_refl _) o
/-- The program's worklist. -/
abbrev shW (b : Nat) : Value → Value → Value → Array Value := fun vf vt vm => #[vf, vt, .int .i64 b, vm]
abbrev WLi (b : Nat) := WL 48 3 111 (shW b)
theorem wl_cells {b : Nat} {w : World} {B g : Nat} {fr : List Ce} {s : St} {vf vt vm : Value} (h : WLi b w B g fr s vf vt vm) : w.cell? ⟨g, 0, none⟩ = some vf ∧ w.cell? ⟨g, 1, none⟩ = some vt ∧ w.cell? ⟨g, 2, none⟩ = some (.int .i64 b) ∧ w.cell? ⟨g, 3, none⟩ = some vm ∧ ∀ o, w.frozen? ⟨g, o, none⟩ = false := by
  have hb := h.blk
  refine ⟨?_, ?_, ?_, ?_, fun o => ?_⟩
  · rw [cell_of_row _ _ _ _ _ _ hb]; rfl
  · rw [cell_of_row _ _ _ _ _ _ hb]; rfl
  · rw [cell_of_row _ _ _ _ _ _ hb]; rfl
  · rw [cell_of_row _ _ _ _ _ _ hb]; rfl
  · unfold World.frozen?; rw [hb]; simp
theorem ceInfo : (Tryz.prog.info? 48).map (fun i => (i.zero, i.size, i.bytes)) = some (some (.agg #[.int .i64 0, .int .i64 0, .int .i64 0, .int .i64 0, .int .i64 0, .int .i64 0]), 6, 48) := by kernel_rfl
theorem Ce.one (c : Ce) : ∀ u ∈ c.cells, u.oneCell' = true := fun u hu => by
  simp only [Ce.cells, List.mem_cons, List.not_mem_nil, or_false] at hu
  rcases hu with rfl | rfl | rfl | rfl | rfl | rfl <;> rfl
theorem wl_slice {w : World} {B : Nat} {l : List Ce} {v : Value} {C : TypeId} (h : w.ownsRow B C 6 v l.length (l.flatMap Ce.cells)) : ∃ a cap, v = .slice a l.length cap := by
  rcases h.2 with ⟨rfl, hn⟩ | ⟨g, cap, cur, rfl, _⟩
  · exact ⟨none, 0, by rw [hn]⟩
  · exact ⟨_, cap, rfl⟩

set_option maxHeartbeats 1000000 in
theorem come_no (b : Nat) (fr : List Ce) (s : St) (p : Nat) (hp : p < s.mv.length) (w : World) (B g : Nat) (vf vt vm : Value) (hneg : ¬ s.mv[p] < 0) (h : WLi b w B g fr s vf vt vm) :
    Calls Tryz.prog 68 #[.pointer (some ⟨g, 0, none⟩), .int .i64 p] w fun r w' => r = .returned (.int .i64 s.mv[p]) ∧ w' = w := by
  obtain ⟨mb, cap, rfl, cm, fm, hmg, hmlt, _⟩ := h.rowM hp
  obtain ⟨c0, c1, c2, c3, cf⟩ := wl_cells h
  have hpi : (p : Int) < (s.mv.length : Int) := by omega
  generalize s.mv[p] = x at *
  clear h
  go_enter Tryz.func68, Tryz.ntmps68
  go_wp2_with fail
  go_ret
  exact ⟨rfl, rfl⟩

set_option maxRecDepth 100000 in
set_option maxHeartbeats 4000000 in
theorem come_yes (b : Nat) (fr : List Ce) (s : St) (p : Nat) (hp : p < s.mv.length) (hpf : p < fr.length) (hto : s.to.length ≤ 1000) (w : World) (B g : Nat) (vf vt vm : Value) (hneg : s.mv[p] < 0) (h : WLi b w B g fr s vf vt vm) :
    Calls Tryz.prog 68 #[.pointer (some ⟨g, 0, none⟩), .int .i64 p] w fun r w' => CameR 48 3 111 (shW b) w w' B g fr ⟨s.to ++ [fr[p]], s.mv.set p s.to.length⟩ vf vt vm (.returned (.int .i64 (s.to.length : Int))) r := by
  obtain ⟨i0, hi0, hiz, his, hib⟩ := info_parts ceInfo
  obtain ⟨mb, cap, rfl, cm, fm, hmg, hmlt, _⟩ := h.rowM hp
  obtain ⟨c0, c1, c2, c3, cf⟩ := wl_cells h
  obtain ⟨ta, tcap, hvt⟩ := wl_slice h.ownT
  have hpi : (p : Int) < (s.mv.length : Int) := by omega
  have hp0 : (0 : Int) ≤ (p : Int) := by omega
  have hW2 : WLi b ((w.setCell ⟨mb, p, none⟩ (.int .i64 (s.to.length : Int))).drew) B g fr ⟨s.to, s.mv.set p s.to.length⟩ vf vt (.slice (some ⟨mb, 0, none⟩) s.mv.length cap) := (h.setM rfl).drew
  have hM2 : Moved w ((w.setCell ⟨mb, p, none⟩ (.int .i64 (s.to.length : Int))).drew) g vt vt (.slice (some ⟨mb, 0, none⟩) s.mv.length cap) := ⟨rfl, rfl, rfl, by show w.heap.size ≤ (w.heap.modify _ _).size; rw [Array.size_modify]; exact Nat.le_refl _, fun k _ _ _ h3 => Below.heap_setCell _ _ _ _ (fun e => h3 (by rw [e]; rfl)), fun _ _ h => h⟩
  clear h
  generalize s.mv[p] = x at *
  rw [hvt] at c1
  have hgm : g ≠ mb := Ne.symm hmg
  have c1d : w.drew.cell? ⟨g, 1, none⟩ = some (.slice ta s.to.length tcap) := c1
  have c3d : w.drew.cell? ⟨g, 3, none⟩ = some (.slice (some ⟨mb, 0, none⟩) s.mv.length cap) := c3
  go_enter Tryz.func68, Tryz.ntmps68
  go_upto_region 2 with fail
  go_region_held3 (fun w' => w'.cell? ⟨g, 1, none⟩ = some (.slice ta s.to.length tcap) ∧ w'.cell? ⟨g, 3, none⟩ = some (.slice (some ⟨mb, 0, none⟩) s.mv.length cap)) (first | go_keep | exact ⟨c1d, c3d⟩) (fail)
  go_upto_region 3 with fail
  have hsl := hW2.frm.slice
  obtain ⟨fa, fcap, rfl⟩ := hsl
  obtain ⟨fb, off, hfB, hfa, hfr⟩ := hW2.frm.at p hpf
  subst hfa
  subst hvt
  clear c0 c1 c2 c3 cf c1d c3d cm fm hneg
  generalize hWW : (w.setCell ⟨mb, p, none⟩ (.int .i64 (s.to.length : Int))).drew = W2 at *
  clear hWW
  obtain ⟨c0, c1, c2, c3, cf⟩ := wl_cells hW2
  obtain ⟨q0, q1, q2, q3, q4, q5⟩ := Ce.six hfr
  have hglt := hW2.lt
  have hgB := hW2.hB
  have hfB' : fb < B := hfB
  have HS : ∀ w', Below W2.heap.size W2 w' → (w'.cell? ⟨g, 1, none⟩ = some (.slice ta s.to.length tcap) ∧ w'.cell? ⟨g, 0, none⟩ = some (.slice (some ⟨fb, off, none⟩) fr.length fcap) ∧ w'.cell? ⟨fb, off + p * 6, none⟩ = some (.int .i64 fr[p].kind) ∧ w'.cell? ⟨fb, off + p * 6 + 1, none⟩ = some (.int .i64 fr[p].num) ∧ w'.cell? ⟨fb, off + p * 6 + 2, none⟩ = some (.int .i64 fr[p].a.tag) ∧ w'.cell? ⟨fb, off + p * 6 + 3, none⟩ = some (.int .i64 fr[p].a.num) ∧ w'.cell? ⟨fb, off + p * 6 + 4, none⟩ = some (.int .i64 fr[p].b.tag) ∧ w'.cell? ⟨fb, off + p * 6 + 5, none⟩ = some (.int .i64 fr[p].b.num)) := fun w' hb' => by
    refine ⟨?_, ?_, ?_, ?_, ?_, ?_, ?_, ?_⟩
    all_goals (rw [hb'.cell (by dsimp only; omega)]; assumption)
  have hpf' : (p : Int) < (fr.length : Int) := by omega
  have hWA : WLi b ((W2.alloc (.cells #[.int .i64 fr[p].kind, .int .i64 fr[p].num, .int .i64 fr[p].a.tag, .int .i64 fr[p].a.num, .int .i64 fr[p].b.tag, .int .i64 fr[p].b.num] 48)).drew) B g fr ⟨s.to, s.mv.set p s.to.length⟩ (.slice (some ⟨fb, off, none⟩) fr.length fcap) (.slice ta s.to.length tcap) (.slice (some ⟨mb, 0, none⟩) s.mv.length cap) := (hW2.keep (below_new W2 _)).drew
  have hnew : ∀ j u, fr[p].cells[j]? = some u → ((W2.alloc (.cells #[.int .i64 fr[p].kind, .int .i64 fr[p].num, .int .i64 fr[p].a.tag, .int .i64 fr[p].a.num, .int .i64 fr[p].b.tag, .int .i64 fr[p].b.num] 48)).drew).cell? ((⟨W2.heap.size, 0, none⟩ : Addr).add j) = some u := ow_cells_new W2 _ _
  have HS8 : ∀ w8, ((W2.alloc (.cells #[.int .i64 fr[p].kind, .int .i64 fr[p].num, .int .i64 fr[p].a.tag, .int .i64 fr[p].a.num, .int .i64 fr[p].b.tag, .int .i64 fr[p].b.num] 48)).drew).grownBy w8 (Value.ownBlock (.slice ta s.to.length tcap)) → (w8.cell? ⟨g, 1, none⟩ = some (.slice ta s.to.length tcap) ∧ w8.cell? ⟨g, 0, none⟩ = some (.slice (some ⟨fb, off, none⟩) fr.length fcap) ∧ w8.cell? ⟨fb, off + p * 6, none⟩ = some (.int .i64 fr[p].kind) ∧ w8.cell? ⟨fb, off + p * 6 + 1, none⟩ = some (.int .i64 fr[p].num) ∧ w8.cell? ⟨fb, off + p * 6 + 2, none⟩ = some (.int .i64 fr[p].a.tag) ∧ w8.cell? ⟨fb, off + p * 6 + 3, none⟩ = some (.int .i64 fr[p].a.num) ∧ w8.cell? ⟨fb, off + p * 6 + 4, none⟩ = some (.int .i64 fr[p].b.tag) ∧ w8.cell? ⟨fb, off + p * 6 + 5, none⟩ = some (.int .i64 fr[p].b.num)) := fun w8 hG => by
    have hh := HS _ ((below_new W2 (.cells #[.int .i64 fr[p].kind, .int .i64 fr[p].num, .int .i64 fr[p].a.tag, .int .i64 fr[p].a.num, .int .i64 fr[p].b.tag, .int .i64 fr[p].b.num] 48)).drew)
    obtain ⟨y0, y1, y2, y3, y4, y5, y6, y7⟩ := hh
    have hgt : some g ≠ Value.ownBlock (.slice ta s.to.length tcap) := fun e => hW2.tg e.symm
    have hft : some fb ≠ Value.ownBlock (.slice ta s.to.length tcap) := fun e => by have := (hW2.ownT.lt fb e.symm).1; omega
    exact ⟨hG.cell y0 hgt, hG.cell y1 hgt, hG.cell y2 hft, hG.cell y3 hft, hG.cell y4 hft, hG.cell y5 hft, hG.cell y6 hft, hG.cell y7 hft⟩
  clear hfr
  refine wp_region_last2 (S := fun w' => w'.cell? ⟨g, 1, none⟩ = some (.slice ta s.to.length tcap) ∧ w'.cell? ⟨g, 0, none⟩ = some (.slice (some ⟨fb, off, none⟩) fr.length fcap) ∧ w'.cell? ⟨fb, off + p * 6, none⟩ = some (.int .i64 fr[p].kind) ∧ w'.cell? ⟨fb, off + p * 6 + 1, none⟩ = some (.int .i64 fr[p].num) ∧ w'.cell? ⟨fb, off + p * 6 + 2, none⟩ = some (.int .i64 fr[p].a.tag) ∧ w'.cell? ⟨fb, off + p * 6 + 3, none⟩ = some (.int .i64 fr[p].a.num) ∧ w'.cell? ⟨fb, off + p * 6 + 4, none⟩ = some (.int .i64 fr[p].b.tag) ∧ w'.cell? ⟨fb, off + p * 6 + 5, none⟩ = some (.int .i64 fr[p].b.num)) (by kernel_rfl) (by kernel_rfl) rfl (HS _ ((Below.refl _ _).drew)) (fun hHeld => ?_)
  simp only [killLast, killL]
  (refine wpAnyH_take (i := 0) (oi := _) (v := ?v100) rfl (by kernel_rfl) (by kernel_rfl) (by kernel_rfl) (fun _ _ _ h => h) (Or.inl ⟨by rfl, ?hy100⟩) hHeld ?rest100; (case hy100 => (intro w' hSw; obtain ⟨x0, x1, x2, x3, x4, x5, x6, x7⟩ := hSw; (try simp only [List.getElem_toArray]); (try simp only [List.getElem_cons_succ]); (try simp only [List.getElem_cons_zero]); go_simp; rfl)); (try simp only [List.getElem_toArray]); (try simp only [List.getElem_cons_succ]); (try simp only [List.getElem_cons_zero]); (try simp only [Act.put]); (try simp only [List.setIfInBounds_toArray]); (try simp only [List.set_cons_succ]); (try simp only [List.set_cons_zero]))
  (refine wpAnyH_take (i := 1) (oi := _) (v := ?v101) rfl (by kernel_rfl) (by kernel_rfl) (by kernel_rfl) (fun _ _ _ h => h) (Or.inl ⟨by rfl, ?hy101⟩) hHeld ?rest101; (case hy101 => (intro w' hSw; obtain ⟨x0, x1, x2, x3, x4, x5, x6, x7⟩ := hSw; (try simp only [List.getElem_toArray]); (try simp only [List.getElem_cons_succ]); (try simp only [List.getElem_cons_zero]); go_simp; rfl)); (try simp only [List.getElem_toArray]); (try simp only [List.getElem_cons_succ]); (try simp only [List.getElem_cons_zero]); (try simp only [Act.put]); (try simp only [List.setIfInBounds_toArray]); (try simp only [List.set_cons_succ]); (try simp only [List.set_cons_zero]))
  (refine wpAnyH_take (i := 2) (oi := _) (v := ?v102) rfl (by kernel_rfl) (by kernel_rfl) (by kernel_rfl) (fun _ _ _ h => h) (Or.inl ⟨by rfl, ?hy102⟩) hHeld ?rest102; (case hy102 => (intro w' hSw; obtain ⟨x0, x1, x2, x3, x4, x5, x6, x7⟩ := hSw; (try simp only [List.getElem_toArray]); (try simp only [List.getElem_cons_succ]); (try simp only [List.getElem_cons_zero]); go_simp; rfl)); (try simp only [List.getElem_toArray]); (try simp only [List.getElem_cons_succ]); (try simp only [List.getElem_cons_zero]); (try simp only [Act.put]); (try simp only [List.setIfInBounds_toArray]); (try simp only [List.set_cons_succ]); (try simp only [List.set_cons_zero]))
  (refine wpAnyH_take (i := 3) (oi := _) (v := ?v103) rfl (by kernel_rfl) (by kernel_rfl) (by kernel_rfl) (fun _ _ _ h => h) (Or.inl ⟨by rfl, ?hy103⟩) hHeld ?rest103; (case hy103 => (intro w' hSw; obtain ⟨x0, x1, x2, x3, x4, x5, x6, x7⟩ := hSw; (try simp only [List.getElem_toArray]); (try simp only [List.getElem_cons_succ]); (try simp only [List.getElem_cons_zero]); go_simp; rfl)); (try simp only [List.getElem_toArray]); (try simp only [List.getElem_cons_succ]); (try simp only [List.getElem_cons_zero]); (try simp only [Act.put]); (try simp only [List.setIfInBounds_toArray]); (try simp only [List.set_cons_succ]); (try simp only [List.set_cons_zero]))
  (refine wpAnyH_take (i := 4) (oi := _) (v := ?v104) rfl (by kernel_rfl) (by kernel_rfl) (by kernel_rfl) (fun _ _ _ h => h) (Or.inl ⟨by rfl, ?hy104⟩) hHeld ?rest104; (case hy104 => (intro w' hSw; obtain ⟨x0, x1, x2, x3, x4, x5, x6, x7⟩ := hSw; (try simp only [List.getElem_toArray]); (try simp only [List.getElem_cons_succ]); (try simp only [List.getElem_cons_zero]); go_simp; rfl)); (try simp only [List.getElem_toArray]); (try simp only [List.getElem_cons_succ]); (try simp only [List.getElem_cons_zero]); (try simp only [Act.put]); (try simp only [List.setIfInBounds_toArray]); (try simp only [List.set_cons_succ]); (try simp only [List.set_cons_zero]))
  (refine wpAnyH_take (i := 5) (oi := _) (v := ?v105) rfl (by kernel_rfl) (by kernel_rfl) (by kernel_rfl) (fun _ _ _ h => h) (Or.inl ⟨by rfl, ?hy105⟩) hHeld ?rest105; (case hy105 => (intro w' hSw; obtain ⟨x0, x1, x2, x3, x4, x5, x6, x7⟩ := hSw; (try simp only [List.getElem_toArray]); (try simp only [List.getElem_cons_succ]); (try simp only [List.getElem_cons_zero]); go_simp; rfl)); (try simp only [List.getElem_toArray]); (try simp only [List.getElem_cons_succ]); (try simp only [List.getElem_cons_zero]); (try simp only [Act.put]); (try simp only [List.setIfInBounds_toArray]); (try simp only [List.set_cons_succ]); (try simp only [List.set_cons_zero]))
  (refine wpAnyH_take (i := 6) (oi := _) (v := ?v106) rfl (by kernel_rfl) (by kernel_rfl) (by kernel_rfl) (fun _ _ _ h => h) (Or.inl ⟨by rfl, ?hy106⟩) hHeld ?rest106; (case hy106 => (intro w' hSw; obtain ⟨x0, x1, x2, x3, x4, x5, x6, x7⟩ := hSw; (try simp only [List.getElem_toArray]); (try simp only [List.getElem_cons_succ]); (try simp only [List.getElem_cons_zero]); go_simp; rfl)); (try simp only [List.getElem_toArray]); (try simp only [List.getElem_cons_succ]); (try simp only [List.getElem_cons_zero]); (try simp only [Act.put]); (try simp only [List.setIfInBounds_toArray]); (try simp only [List.set_cons_succ]); (try simp only [List.set_cons_zero]))
  (refine wpAnyH_take (i := 7) (oi := _) (v := ?v107) rfl (by kernel_rfl) (by kernel_rfl) (by kernel_rfl) (fun _ _ _ h => h) (Or.inl ⟨by rfl, ?hy107⟩) hHeld ?rest107; (case hy107 => (intro w' hSw; obtain ⟨x0, x1, x2, x3, x4, x5, x6, x7⟩ := hSw; (try simp only [List.getElem_toArray]); (try simp only [List.getElem_cons_succ]); (try simp only [List.getElem_cons_zero]); go_simp; rfl)); (try simp only [List.getElem_toArray]); (try simp only [List.getElem_cons_succ]); (try simp only [List.getElem_cons_zero]); (try simp only [Act.put]); (try simp only [List.setIfInBounds_toArray]); (try simp only [List.set_cons_succ]); (try simp only [List.set_cons_zero]))
  (refine wpAnyH_take (i := 8) (oi := _) (v := ?v108) rfl (by kernel_rfl) (by kernel_rfl) (by kernel_rfl) (fun _ _ _ h => h) (Or.inl ⟨by rfl, ?hy108⟩) hHeld ?rest108; (case hy108 => (intro w' hSw; obtain ⟨x0, x1, x2, x3, x4, x5, x6, x7⟩ := hSw; (try simp only [List.getElem_toArray]); (try simp only [List.getElem_cons_succ]); (try simp only [List.getElem_cons_zero]); go_simp; rfl)); (try simp only [List.getElem_toArray]); (try simp only [List.getElem_cons_succ]); (try simp only [List.getElem_cons_zero]); (try simp only [Act.put]); (try simp only [List.setIfInBounds_toArray]); (try simp only [List.set_cons_succ]); (try simp only [List.set_cons_zero]))
  (refine wpAnyH_take (i := 9) (oi := _) (v := ?v109) rfl (by kernel_rfl) (by kernel_rfl) (by kernel_rfl) (fun _ _ _ h => h) (Or.inl ⟨by rfl, ?hy109⟩) hHeld ?rest109; (case hy109 => (intro w' hSw; obtain ⟨x0, x1, x2, x3, x4, x5, x6, x7⟩ := hSw; (try simp only [List.getElem_toArray]); (try simp only [List.getElem_cons_succ]); (try simp only [List.getElem_cons_zero]); go_simp; rfl)); (try simp only [List.getElem_toArray]); (try simp only [List.getElem_cons_succ]); (try simp only [List.getElem_cons_zero]); (try simp only [Act.put]); (try simp only [List.setIfInBounds_toArray]); (try simp only [List.set_cons_succ]); (try simp only [List.set_cons_zero]))
  (refine wpAnyH_take (i := 10) (oi := _) (v := ?v110) rfl (by kernel_rfl) (by kernel_rfl) (by kernel_rfl) (fun _ _ _ h => h) (Or.inl ⟨by rfl, ?hy110⟩) hHeld ?rest110; (case hy110 => (intro w' hSw; obtain ⟨x0, x1, x2, x3, x4, x5, x6, x7⟩ := hSw; (try simp only [List.getElem_toArray]); (try simp only [List.getElem_cons_succ]); (try simp only [List.getElem_cons_zero]); go_simp; rfl)); (try simp only [List.getElem_toArray]); (try simp only [List.getElem_cons_succ]); (try simp only [List.getElem_cons_zero]); (try simp only [Act.put]); (try simp only [List.setIfInBounds_toArray]); (try simp only [List.set_cons_succ]); (try simp only [List.set_cons_zero]))
  (refine wpAnyH_take (i := 11) (oi := _) (v := ?v111) rfl (by kernel_rfl) (by kernel_rfl) (by kernel_rfl) (fun _ _ _ h => h) (Or.inl ⟨by rfl, ?hy111⟩) hHeld ?rest111; (case hy111 => (intro w' hSw; obtain ⟨x0, x1, x2, x3, x4, x5, x6, x7⟩ := hSw; (try simp only [List.getElem_toArray]); (try simp only [List.getElem_cons_succ]); (try simp only [List.getElem_cons_zero]); go_simp; rfl)); (try simp only [List.getElem_toArray]); (try simp only [List.getElem_cons_succ]); (try simp only [List.getElem_cons_zero]); (try simp only [Act.put]); (try simp only [List.setIfInBounds_toArray]); (try simp only [List.set_cons_succ]); (try simp only [List.set_cons_zero]))
  refine wpAnyH_ready (rs := [12]) (by kernel_rfl) (by simp) ?_
  refine AllReadyH.cons (o := _) rfl (fun K hK => ?_) ?_
  · (try simp only [List.getElem_toArray]); (try simp only [List.getElem_cons_succ]); (try simp only [List.getElem_cons_zero])
    go_simp
    refine hK.out _ _ (HS _ ((below_new W2 _).drew)) (fun hHeld => ?_)
    clear hK K
    (try simp only [Act.put]); (try simp only [List.setIfInBounds_toArray]); (try simp only [List.set_cons_succ]); (try simp only [List.set_cons_zero])
    refine wpAnyH_ready (rs := [13]) (by kernel_rfl) (by simp) ?_
    refine AllReadyH.cons (o := _) rfl (fun K hK => ?_) ?_
    · (try simp only [List.getElem_toArray]); (try simp only [List.getElem_cons_succ]); (try simp only [List.getElem_cons_zero])
      refine step_any' rfl (wp_append_lies _ (.tmp 28) (.tmp 36) 24 rfl B 48 i0 _ 6 48 Tryz.underlying24 hi0 hiz his hib rfl (by decide) (.slice ta s.to.length tcap) s.to.length (s.to.flatMap Ce.cells) rfl hWA.ownT ⟨W2.heap.size, 0, none⟩ 1 1 fr[p].cells rfl rfl hnew (Ce.one fr[p]) (by omega) (by unfold maxLen; omega) (by omega) (by have := hW2.hB; have := hW2.lt; simp; omega) (W2.heap.size + 1) (by simp) ?_)
      intro t8 cap8 w8 hO8 hG8 hor8 hlt8
      obtain ⟨hW9, hM9⟩ := hWA.setTo hO8 hG8 (by simpa using hor8) 1 (fun v' => rfl)
      have hS8 := HS8 w8 hG8
      refine hK.out _ _ hS8 (fun hHeld => ?_)
      clear hK K
      (try simp only [Act.put]); (try simp only [List.setIfInBounds_toArray]); (try simp only [List.set_cons_succ]); (try simp only [List.set_cons_zero])
      (refine wpAnyH_take (i := 14) (oi := _) (v := ?v114) rfl (by kernel_rfl) (by kernel_rfl) (by kernel_rfl) (fun _ _ _ h => h) (Or.inl ⟨by rfl, ?hy114⟩) hHeld ?rest114; (case hy114 => (intro w' hSw; obtain ⟨x0, x1, x2, x3, x4, x5, x6, x7⟩ := hSw; (try simp only [List.getElem_toArray]); (try simp only [List.getElem_cons_succ]); (try simp only [List.getElem_cons_zero]); go_simp; rfl)); (try simp only [List.getElem_toArray]); (try simp only [List.getElem_cons_succ]); (try simp only [List.getElem_cons_zero]); (try simp only [Act.put]); (try simp only [List.setIfInBounds_toArray]); (try simp only [List.set_cons_succ]); (try simp only [List.set_cons_zero]))
      (refine wpAnyH_take (i := 15) (oi := _) (v := ?v115) rfl (by kernel_rfl) (by kernel_rfl) (by kernel_rfl) (fun _ _ _ h => h) (Or.inl ⟨by rfl, ?hy115⟩) hHeld ?rest115; (case hy115 => (intro w' hSw; obtain ⟨x0, x1, x2, x3, x4, x5, x6, x7⟩ := hSw; (try simp only [List.getElem_toArray]); (try simp only [List.getElem_cons_succ]); (try simp only [List.getElem_cons_zero]); go_simp; rfl)); (try simp only [List.getElem_toArray]); (try simp only [List.getElem_cons_succ]); (try simp only [List.getElem_cons_zero]); (try simp only [Act.put]); (try simp only [List.setIfInBounds_toArray]); (try simp only [List.set_cons_succ]); (try simp only [List.set_cons_zero]))
      (refine wpAnyH_take (i := 16) (oi := _) (v := .bool true) rfl (by kernel_rfl) (by kernel_rfl) (by kernel_rfl) (fun _ _ _ h => h) (Or.inl ⟨by rfl, fun _ _ => by rfl⟩) hHeld ?_; (try simp only [List.getElem_toArray]); (try simp only [List.getElem_cons_succ]); (try simp only [List.getElem_cons_zero]); simp only [Act.put])
      refine wpAnyH_done (by kernel_rfl) ?_ _
      show Oper.wp _ _ _ _ _ _
      have hg9 : ∀ o, w8.frozen? ⟨g, o, none⟩ = false := fun o => by
        rw [World.frozen?_of_block (w := W2) ((hG8.block g (by simp; omega) (fun e => hW2.tg e.symm)).trans ((below_new W2 _).block g hglt))]; exact cf o
      have h19 := hS8.1
      obtain ⟨e0, e1, e2, e3, ef⟩ := wl_cells hW9
      obtain ⟨mb', cap', hmm, cm9, _⟩ := hW9.rowM (p := p) (by simp; exact hp)
      obtain rfl : mb = mb' := by simp at hmm; exact hmm.1
      have cm9' : (w8.setCell ⟨g, 1, none⟩ (.slice (some ⟨t8, 0, none⟩) (s.to.length + 1) cap8)).cell? ⟨mb, p, none⟩ = some (.int .i64 (s.to.length : Int)) := by simpa using cm9
      have hMM := hM2.trans ((Moved.ofBelow ((below_new W2 _).drew)).trans hM9)
      clear cm9 hmm
      go_simp
      go_wp2_with fail
      go_ret
      exact ⟨rfl, _, hW9, hMM⟩
    exact AllReadyH.nil
  exact AllReadyH.nil
end Go.Proofs.YthikfinliiaecaaGreatDoor

