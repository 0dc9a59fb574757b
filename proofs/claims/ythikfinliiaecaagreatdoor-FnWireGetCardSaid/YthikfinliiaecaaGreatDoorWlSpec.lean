/-
  The specification's l7Copy.
-/
import Derived.Test.YthikfinliiaecaaGreatDoorWlScan
import Derived.Test.YthikfinliiaecaaGreatDoorWlOn
namespace Go.Proofs.YthikfinliiaecaaGreatDoor
open Go.RowKit

/-- One place more. -/
theorem WL.growM {C I T : TypeId} {sh : Value → Value → Value → Array Value} {W w5 : World} {B g t cap n : Nat} {fr : List Ce} {s : St} {x : Int} {vf vt vm : Value} (h : WL C I T sh W B g fr s vf vt vm) (hn : s.mv.length = n) (hO : w5.ownsRow B I 1 (.slice (some ⟨t, 0, none⟩) (n + 1) cap) (n + 1) (intsV s.mv ++ [.int .i64 x])) (hG : W.grownBy w5 vm.ownBlock) (hor : vm.ownBlock = some t ∨ t = W.heap.size) (j : Nat) (hj : ∀ v', (sh vf vt vm).setIfInBounds j v' = sh vf vt v') :
    WL C I T sh (w5.setCell ⟨g, j, none⟩ (.slice (some ⟨t, 0, none⟩) (n + 1) cap)) B g fr ⟨s.to, s.mv ++ [x]⟩ vf vt (.slice (some ⟨t, 0, none⟩) (n + 1) cap) ∧ Below B W (w5.setCell ⟨g, j, none⟩ (.slice (some ⟨t, 0, none⟩) (n + 1) cap)) := by
  have hgl := h.lt
  have hgB := h.hB
  have htg : t ≠ g := by
    rcases hor with e | e
    · exact fun e2 => h.mg (by rw [e, e2])
    · omega
  have hk : ∀ (k : Nat), k ≠ g → (w5.setCell ⟨g, j, none⟩ (.slice (some ⟨t, 0, none⟩) (n + 1) cap)).heap[k]? = w5.heap[k]? := fun k hk => Below.heap_setCell _ _ _ _ hk
  have hg5 : w5.heap[g]? = some (.cells (sh vf vt vm) T) := by rw [hG.block g hgl (fun e => h.mg e.symm)]; exact h.blk
  have htm : vt.ownBlock ≠ some t := by
    rcases hor with e | e
    · rcases h.tm with e2 | e2
      · rw [e2]; exact fun e3 => by cases e3
      · rw [← e]; exact e2
    · exact fun e2 => by have := (h.ownT.lt t e2).2; omega
  refine ⟨⟨h.hB, ?_, ?_, ?_, ?_, h.tg, fun e => htg (by simpa [Value.ownBlock] using e), Or.inr htm⟩, ?_⟩
  · unfold World.setCell
    simp only [Array.getElem?_modify, if_true]
    rw [hg5]
    simp [hj]
  · refine h.frm.same fun k hlt => ⟨?_, hlt⟩
    rw [hk k (by omega), hG.block k (by omega) (fun e => by have := (h.ownM.lt k e.symm).1; omega)]
  · refine (h.ownT.kept hG ?_).kept (ow_but_set w5 g j _) (Or.inr h.tg)
    exact h.tm
  · have h2 : (w5.setCell ⟨g, j, none⟩ (.slice (some ⟨t, 0, none⟩) (n + 1) cap)).ownsRow B I 1 (.slice (some ⟨t, 0, none⟩) (n + 1) cap) (n + 1) (intsV s.mv ++ [.int .i64 x]) := hO.kept (ow_but_set w5 g j _) (Or.inr (fun e => htg (by simpa [Value.ownBlock] using e)))
    rw [List.length_append, hn]
    simpa [intsV] using h2
  · refine ((Below.refl B W).grown hG (by omega) (fun k hk => (h.ownM.lt k hk).1)).setCell h.hB _

theorem grown_cells {w w' : World} {row : Option Nat} (hG : w.grownBy w' row) {b : Nat} (hb : b < w.heap.size) (hr : some b ≠ row) : (∀ o, w'.cell? ⟨b, o, none⟩ = w.cell? ⟨b, o, none⟩) ∧ ∀ o, w'.frozen? ⟨b, o, none⟩ = w.frozen? ⟨b, o, none⟩ :=
  ⟨fun _ => World.cell?_of_block (w := w) (hG.block b hb hr), fun _ => World.frozen?_of_block (w := w) (hG.block b hb hr)⟩
theorem wpList_append_run {P : Program} {ops : Array Oper} {rest : List Oper} {o : Oper} {a : Act} {w : World} {Q : Exit → Act → World → Prop} (hg : o.guard = none) (s x : Operand) (t : TypeId) (hop : o.op = Op.call { callee := Callee.builtin Builtin.append, args := #[s, x], argTypes := #[t, t] }) (v y r : Value) (w' : World) (hs : a.eval s = v) (hx : a.eval x = y)
    (hrun : (Builtin.append_ #[t, t] o.type #[v, y]).run P w = .ok r w') (hK : wpList P ops Q rest (a.put o.dst r) w') : wpList P ops Q (o :: rest) a w := by
  refine wpList_plain hg fun K hK' => ?_
  unfold Oper.wp
  simp [execOp, hop, resolve, invoke, builtin, hs, hx, hrun, Result.andThen]
  exact hK' _ _ hK
theorem run_append_nilC (ty : TypeId) (ad : Addr) (c : Nat) (w : World) : (Builtin.append_ #[24, 24] ty #[.slice (some ad) 0 0, .slice none 0 c]).run Tryz.prog w = .ok (.slice (some ad) 0 0) w := by
  obtain ⟨i0, hi, hz0, hz1, hz2⟩ := info_parts ceInfo
  simp [Builtin.append_, run_underlying Tryz.underlying24, sizeOf, typeInfo, hi, Builtin.lenOf, Builtin.firstCells, loadCells, storeCells]
theorem intInfo : (Tryz.prog.info? 3).map (fun i => (i.zero, i.size, i.bytes)) = some (some (.int .i64 0), 1, 8) := by kernel_rfl

/-- How l7Copy ends. -/
def CopyP (w w' : World) (fr tl : List Ce) (ws : List Wd) (r : Ending) : Prop :=
  ∃ vt v, r = .returned (.tuple #[vt, v]) ∧ w'.ownsRow w.heap.size 48 6 vt (copyS fr tl ws).to.length ((copyS fr tl ws).to.flatMap Ce.cells) ∧ w'.ownsRow w.heap.size 26 2 v (wordsW fr (st0 fr tl) ws).length ((wordsW fr (st0 fr tl) ws).flatMap Wd.cells) ∧ Below w.heap.size w w'

/-- What the copier is, ahead of its first loop. -/
theorem copier_new {w w2 : World} {fr tl : List Ce} {vf vt : Value} (hvf : Cells w (· < w.heap.size) fr vf) (hO : w2.ownsRow w.heap.size 48 6 vt tl.length (tl.flatMap Ce.cells)) (hb : Below w.heap.size w w2) :
    WLp (w2.alloc (.cells #[vf, .slice none 0 0, vt] 95)) w.heap.size w2.heap.size fr ⟨tl, []⟩ vf vt (.slice none 0 0) ∧ Below w.heap.size w (w2.alloc (.cells #[vf, .slice none 0 0, vt] 95)) := by
  have hb2 := hb.alloc hb.size (.cells #[vf, .slice none 0 0, vt] 95)
  refine ⟨⟨hb.size, heap_alloc_new _ _, hvf.keep hb2 (Nat.le_refl _), hO.alloc _, World.ownsRow_nil _ _ _ _, fun e => ?_, fun e => by simp [Value.ownBlock] at e, ?_⟩, hb2⟩
  · have := (hO.lt _ e).2; omega
  · cases hv : vt.ownBlock with
    | none => exact Or.inl rfl
    | some k => exact Or.inr (by simp [Value.ownBlock])

/-- append([]Cell{}, to...): some cells are copied, whatever they are. -/
theorem append_cells (tl : List Ce) (ht : tl.length ≤ 1048576) (w : World) (oa : Option Addr) (ocap : Nat) (hvo : Cells w (· < w.heap.size) tl (.slice oa tl.length ocap)) :
    ∃ vt w2, w2.ownsRow w.heap.size 48 6 vt tl.length (tl.flatMap Ce.cells) ∧ Below w.heap.size w w2 ∧ (Builtin.append_ #[24, 24] 24 #[.slice (some ⟨w.heap.size, 0, none⟩) 0 0, .slice oa tl.length ocap]).run Tryz.prog (w.alloc (.cells #[] 48)) = .ok vt w2 := by
  obtain ⟨i0, hi0, hiz, his, hib⟩ := info_parts ceInfo
  have hown : (w.alloc (.cells #[] 48)).ownsRow w.heap.size 48 6 (.slice (some ⟨w.heap.size, 0, none⟩) 0 0) 0 [] := World.ownsRow_made w #[] 0 (Nat.le_refl _) (Nat.zero_le _) rfl
  rcases row_cases hvo with ⟨c, hv, rfl⟩ | ⟨ad, c, hv, hc⟩
  · obtain ⟨rfl, rfl⟩ : oa = none ∧ ocap = c := by simpa using hv
    exact ⟨_, _, hown, below_new w _, run_append_nilC _ _ _ _⟩
  · obtain ⟨rfl, rfl⟩ : oa = some ad ∧ ocap = c := by simpa using hv
    have hc' : ∀ j u, (tl.flatMap Ce.cells)[j]? = some u → (w.alloc (.cells #[] 48)).cell? (ad.add j) = some u := fun j u hj => by
      have h1 := hc j u hj
      rw [← h1]
      exact (below_new w _).cell (World.block_lt_of_cell? w _ h1)
    obtain ⟨v', w', hr, h2, h3, _⟩ := run_append_own (P := Tryz.prog) (w.alloc (.cells #[] 48)) w.heap.size 24 24 48 i0 _ 6 48 Tryz.underlying24 hi0 hiz his hib rfl (by decide) _ 0 [] hown ad tl.length ocap (tl.flatMap Ce.cells) (ow_flat_len (f := Ce.cells) (n := 6) (fun _ => rfl) tl) hc' (cells_one_all tl) (by unfold maxLen; omega) (by omega) (by simp)
    exact ⟨v', w', by simpa using h2, (below_new w _).grown h3 (by simp) (fun k hk => by cases hk; exact Nat.le_refl _), hr⟩

set_option maxRecDepth 100000 in
set_option maxHeartbeats 8000000 in
theorem copy_rest (fr tl : List Ce) (ws : List Wd) (hf : fr.length ≤ 500) (ht : tl.length ≤ 500) (hws : ws.length ≤ 1048576) (hwr : ∀ d ∈ ws, refOk fr.length d) (hfr : ∀ c ∈ fr, refOk fr.length c.a ∧ refOk fr.length c.b) (w : World) (fa oa : Option Addr) (fcap ocap : Nat) (vw : Value) (hvf : Cells w (· < w.heap.size) fr (.slice fa fr.length fcap)) (hvo : Cells w (· < w.heap.size) tl (.slice oa tl.length ocap)) (hvw : Words w (· < w.heap.size) ws vw) :
    Calls Tryz.prog 26 #[.slice fa fr.length fcap, vw, .slice oa tl.length ocap] w fun r w' => CopyP w w' fr tl ws r := by
  obtain ⟨i1, hi1, hiz1, his1, hib1⟩ := info_parts intInfo
  obtain ⟨i2, hi2, hiz2, his2, hib2⟩ := info_parts wdInfo
  obtain ⟨a, cap, rfl⟩ := hvw.slice
  have hstart := append_cells tl (by omega) w oa ocap hvo
  obtain ⟨vt, w2, hO2, hB2, hrun⟩ := hstart
  obtain ⟨ta, tcap, rfl⟩ := wl_slice hO2
  obtain ⟨hW0, hB0⟩ := copier_new hvf hO2 hB2
  clear hO2
  go_enter Tryz.func26, Tryz.ntmps26
  go_upto_region 2 with (at_builtin; refine wpList_append_run rfl _ _ 24 rfl _ _ _ _ rfl rfl hrun ?_)
  clear hrun hB2
  generalize hgg : w2.heap.size = g at *
  generalize hWW : w2.alloc (.cells #[.slice fa fr.length fcap, .slice none 0 0, .slice ta tl.length tcap] 95) = W0 at *
  clear hgg hWW
  go_wp2_with fail
  go_loopg [9] fr.length (fun k i wr => ∃ (j : Nat) (vm : Value), j + k = fr.length ∧ i = .int .i64 j ∧ WLp wr w.heap.size g fr ⟨tl, List.replicate j (-1)⟩ (.slice fa fr.length fcap) (.slice ta tl.length tcap) vm ∧ Below w.heap.size w wr)
  case atStart => exact ⟨0, _, by omega, rfl, hW0, hB0⟩
  case round =>
    obtain ⟨j, vm, hjk, rfl, hW, hB⟩ := hrel
    obtain ⟨c0, c1, c2, cf⟩ := wp_cells hW
    have hgl := hW.lt
    have hgB := hW.hB
    have hown := hW.ownM
    rw [show (St.mk tl (List.replicate j (-1))).mv.length = j by simp] at hown
    by_cases hlt : j < fr.length
    · have hji : (j : Int) < (fr.length : Int) := by omega
      obtain ⟨ma, mcap, rfl⟩ : ∃ ma mcap, vm = .slice ma j mcap := by
        rcases hown.2 with ⟨rfl, rfl⟩ | ⟨x, c, _, rfl, _⟩
        · exact ⟨_, _, rfl⟩
        · exact ⟨_, _, rfl⟩
      have hWA := hW.keep (below_new wr (.cells #[.int .i64 (-1)] 3))
      have hmgk := hW.mg
      go_wp2_with (at_builtin; refine wpList_append_lies _ rfl _ _ 31 rfl w.heap.size 3 i1 (.int .i64 0) 1 8 Tryz.underlying31 hi1 hiz1 his1 hib1 rfl (by decide) (.slice ma j mcap) j _ (by rfl) (hown.alloc _) ⟨wr.heap.size, 0, none⟩ 1 1 [.int .i64 (-1)] rfl rfl (ow_cells_new wr _ _) (fun u hu => by simp at hu; subst hu; rfl) (by omega) (by unfold maxLen; omega) (by omega) (by simp; omega) (wr.heap.size + 1) (by simp) ?_; intro t8 cap8 w8 hO8 hG8 hor8 hlt8; obtain ⟨k1, k2⟩ := grown_cells hG8 (b := g) (by simp; omega) (fun e => hmgk e.symm))
      obtain ⟨hW9, hB9⟩ := hWA.growM (x := -1) (n := j) (by simp) (by simpa using hO8) hG8 (by simpa using hor8) 1 (fun v' => rfl)
      go_roundg (fr.length - (j + 1))
      case measure => omega
      case rel => exact ⟨j + 1, _, by omega, by go_num, by rw [List.replicate_succ']; exact hW9, (hB.alloc (by omega) _).trans hB9⟩
    · obtain rfl : j = fr.length := by omega
      have hst : (⟨tl, List.replicate fr.length (-1)⟩ : St) = st0 fr tl := rfl
      rw [hst] at hW
      have hji : ¬ (fr.length : Int) < (fr.length : Int) := by omega
      clear hown c0 c1 c2 cf hW0 hB0 hst
      go_upto_region 7 with fail
      have hW1 := hW.keep (below_new wr (.cells #[] 26))
      have hB1 := hB.alloc (by omega) (.cells #[] 26)
      have hap := hW.apart (Nat.le_refl wr.heap.size)
      have hOw : (wr.alloc (.cells #[] 26)).ownsRow w.heap.size 26 2 (.slice (some ⟨wr.heap.size, 0, none⟩) 0 0) 0 [] := World.ownsRow_made wr #[] 0 (by omega) (Nat.zero_le _) rfl
      have hz1 : wr.heap.size < (wr.alloc (.cells #[] 26)).heap.size := by simp
      generalize wr.heap.size = n4 at *
      generalize wr.alloc (.cells #[] 26) = W1 at *
      clear hW hB
      have hI0 := inv0 fr tl
      have hAp : ∀ x, (Value.slice (some ⟨n4, 0, none⟩) 0 0).ownBlock = some x → Apart x g (.slice ta tl.length tcap) vm := fun x hx => by
        have e : n4 = x := by simpa [Value.ownBlock] using hx
        rw [← e]; exact hap
      go_wp2_with fail
      go_loopg [10, 11] ws.length (fun k v i wr => ∃ (j : Nat) (vt' : Value), j + k = ws.length ∧ i = .int .i64 j ∧ wr.ownsRow w.heap.size 26 2 v j ((wordsW fr (st0 fr tl) (ws.take j)).flatMap Wd.cells) ∧ (∀ x, v.ownBlock = some x → Apart x g vt' vm) ∧ Inv fr tl.length tl.length (wordsS fr (st0 fr tl) (ws.take j)) ∧ WLp wr w.heap.size g fr (wordsS fr (st0 fr tl) (ws.take j)) (.slice fa fr.length fcap) vt' vm ∧ Below w.heap.size w wr)
      case atStart => exact ⟨0, _, by omega, rfl, hOw, hAp, hI0, hW1, hB1⟩
      case round =>
        obtain ⟨j, vt', hjk, rfl, hO, hA, hI', hW, hB⟩ := hrel
        have hle := hI'.le
        have hgl := hW.lt
        have hgB := hW.hB
        by_cases hlt : j < ws.length
        · obtain ⟨vb, off, hvB, rfl, hr⟩ := hvw.at j hlt
          have hvB' : vb < w.heap.size := hvB
          obtain ⟨q0, q1⟩ := Wd.two (rw_same (hB.block vb hvB) hr)
          obtain ⟨hS, hWw⟩ := words_take fr (st0 fr tl) ws j hlt
          have hc := spec_word fr (wordsS fr (st0 fr tl) (ws.take j)) ws[j] (hwr _ (List.getElem_mem hlt)) hI'.len (by omega) wr w.heap.size g _ vt' vm hW
          have hI2 := hI'.move hfr (hwr _ (List.getElem_mem hlt))
          rw [← hS] at hc hI2
          have HW : Hid (wordsW fr (st0 fr tl) (ws.take (j + 1)) = wordsW fr (st0 fr tl) (ws.take j) ++ [moveW fr (wordsS fr (st0 fr tl) (ws.take j)) ws[j]]) := hWw
          clear hWw hr
          generalize moveW fr (wordsS fr (st0 fr tl) (ws.take j)) ws[j] = d2 at *
          have hji : (j : Int) < (ws.length : Int) := by omega
          go_wp2_with (first
            | (go_at_call 56; refine hc.mono ?_; rintro r w2 ⟨rfl, vt2, hW2, hM2⟩; have hO2 := own_moved hO hM2 hA; have hz2 := hM2.size)
            | (at_builtin; refine wpList_append_lies _ rfl _ _ 33 rfl w.heap.size 26 i2 _ 2 16 Tryz.underlying33 hi2 hiz2 his2 hib2 rfl (by decide) _ j _ rfl (hO2.alloc _) ⟨w2.heap.size, 0, none⟩ 1 1 d2.cells rfl rfl (ow_cells_new w2 _ _) (Wd.one d2) (by omega) (by unfold maxLen; omega) (by omega) (by simp; omega) (w2.heap.size + 1) (by simp) ?_; intro t8 cap8 w8 hO8 hG8 hor8 hlt8))
          have hx2 : ∀ x, u10.ownBlock = some x → Apart x g vt2 vm ∧ w.heap.size ≤ x := fun x hx => ⟨hM2.apart (hO.lt x hx).2 (hA x hx), (hO.lt x hx).1⟩
          have hWA := hW2.keep (below_new w2 (.cells #[.int .i64 d2.tag, .int .i64 d2.num] 26))
          have hW8 := hWA.grown hG8 hx2
          have hB8 := ((hB.trans (hW.below hM2)).alloc (by omega) (.cells #[.int .i64 d2.tag, .int .i64 d2.num] 26)).grown hG8 (by simp; omega) (fun k hk => (hx2 k hk).2)
          have hA8 : ∀ x, (Value.slice (some ⟨t8, 0, none⟩) (j + 1) cap8).ownBlock = some x → Apart x g vt2 vm := fun x hx => by
            obtain rfl : t8 = x := by simpa [Value.ownBlock] using hx
            rcases hor8 with e | e
            · exact (hx2 t8 e).1
            · exact hWA.apart (by simp; omega)
          go_roundg (ws.length - (j + 1))
          case measure => omega
          case rel => exact ⟨j + 1, vt2, by omega, by go_num, by rw [HW.out, List.flatMap_append]; simpa using hO8, hA8, hI2, hW8, hB8⟩
        · obtain rfl : j = ws.length := by omega
          rw [List.take_length] at hO hI' hW
          have he := spec_scan tl.length fr _ (by omega) hI' hfr wr w.heap.size g _ vt' vm hW
          have hji : ¬ (ws.length : Int) < (ws.length : Int) := by omega
          go_upto_region 12 with (go_at_call 57; refine he.mono ?_; rintro r w9 ⟨rfl, vt9, hW9, hM9⟩)
          obtain ⟨c0, c1, c2, cf⟩ := wp_cells hW9
          obtain ⟨t9, cap9, rfl⟩ := wl_slice hW9.ownT
          have hO9 := own_moved hO hM9 hA
          have hB9 := hB.trans (hW.below hM9)
          have hT9 := hW9.ownT
          clear hW9 hM9 he
          go_wp2_with fail
          go_ret2
          exact ⟨_, _, rfl, hT9, by rw [wordsW_length]; exact hO9, hB9⟩
end Go.Proofs.YthikfinliiaecaaGreatDoor

