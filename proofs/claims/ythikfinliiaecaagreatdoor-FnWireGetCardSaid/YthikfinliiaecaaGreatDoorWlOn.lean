/-
  The program's workOn: a worklist of which nothing is copied yet.
-/
import Derived.Test.YthikfinliiaecaaGreatDoorFgAll10
import Derived.Lib.LazyBuf
namespace Go.Proofs.YthikfinliiaecaaGreatDoor
open Go.RowKit

/-- Cells as they lie. -/
theorem row_cases {w : World} {S : Nat → Prop} {l : List Ce} {v : Value} (h : Cells w S l v) : (∃ cap, v = .slice none 0 cap ∧ l = []) ∨ ∃ ad cap, v = .slice (some ad) l.length cap ∧ ∀ j u, (l.flatMap Ce.cells)[j]? = some u → w.cell? (ad.add j) = some u := by
  obtain ⟨a, cap, rfl, h⟩ := h
  cases a with
  | none =>
    cases l with
    | nil => exact Or.inl ⟨cap, rfl, rfl⟩
    | cons x l => obtain ⟨b, off, _, he, _⟩ := h 0 x rfl; cases he
  | some ad =>
    refine Or.inr ⟨ad, cap, rfl, fun j u hj => ?_⟩
    have hl := ow_flat_len (f := Ce.cells) (n := 6) (fun _ => rfl) l
    have hjl := (List.getElem?_eq_some_iff.1 hj).1
    have hi : j / 6 < l.length := by omega
    obtain ⟨b, off, _, he, hr⟩ := h (j / 6) _ (List.getElem?_eq_getElem hi)
    cases he
    have hm : j % 6 < (l[j / 6]).cells.length := by show j % 6 < 6; omega
    have hg := ow_flat_get (f := Ce.cells) (n := 6) (fun _ => rfl) l (j / 6) (j % 6) _ _ (List.getElem?_eq_getElem hi) (List.getElem?_eq_getElem hm)
    rw [show j / 6 * 6 + j % 6 = j by omega] at hg
    have hu := hg.symm.trans hj
    have := hr (j % 6) _ (List.getElem?_eq_getElem hm)
    rw [Addr.add_mid, ← hu, ← this, show off + j / 6 * 6 + j % 6 = off + j by omega]
theorem cells_one_all (l : List Ce) : ∀ u ∈ l.flatMap Ce.cells, u.oneCell' = true := fun u hu => by
  obtain ⟨c, _, hc⟩ := List.mem_flatMap.1 hu
  exact Ce.one c u hc

set_option maxHeartbeats 400000 in
theorem cl_Clone (l : List Ce) (v : Value) (w : World) (hl : l.length ≤ 1048576) (hv : Cells w (· < w.heap.size) l v) :
    Calls Tryz.prog 66 #[v] w fun r w' => ∃ v', r = .returned v' ∧ w'.ownsRow w.heap.size 48 6 v' l.length (l.flatMap Ce.cells) ∧ Below w.heap.size w w' := by
  obtain ⟨i0, hi, hz0, hz1, hz2⟩ := info_parts ceInfo
  have heq := fun (w : World) a n c => Lib.run_eql_slice_nil (P := Tryz.prog) w 24 48 a n c 0 0 Tryz.underlying24
  rcases row_cases hv with ⟨cap, rfl, rfl⟩ | ⟨ad, cap, rfl, hc⟩
  · go_enter Tryz.func66, Tryz.ntmps66
    go_wp2_with fail
    go_ret
    exact ⟨_, rfl, World.ownsRow_nil _ _ _ _, Below.refl _ _⟩
  · have hc' : ∀ o, ∀ j u, (l.flatMap Ce.cells)[j]? = some u → (w.alloc o).cell? (ad.add j) = some u := fun o j u hj => by
      have h1 := hc j u hj
      rw [← h1]
      exact (below_new w o).cell (World.block_lt_of_cell? w _ h1)
    have hown : (w.alloc (.cells #[] 48)).ownsRow w.heap.size 48 6 (.slice (some ⟨w.heap.size, 0, none⟩) 0 0) 0 [] := World.ownsRow_made w #[] 0 (Nat.le_refl _) (Nat.zero_le _) rfl
    go_enter Tryz.func66, Tryz.ntmps66
    go_wp2_with (at_builtin; refine wpList_append_own _ rfl _ _ 24 rfl w.heap.size 48 i0 (.agg #[.int .i64 0, .int .i64 0, .int .i64 0, .int .i64 0, .int .i64 0, .int .i64 0]) 6 48 Tryz.underlying24 hi hz0 hz1 hz2 rfl (by decide) _ 0 [] rfl hown ad l.length cap (l.flatMap Ce.cells) rfl (ow_flat_len (f := Ce.cells) (n := 6) (fun _ => rfl) l) (hc' _) (cells_one_all l) (by unfold maxLen; omega) (by omega) (by simp) ?_; intro v' w3 hown3 hgrow3 hnil3)
    go_ret
    exact ⟨_, rfl, by simpa using hown3, ((Below.refl _ _).alloc (Nat.le_refl _) _).grown hgrow3 (by simp) (fun k hk => by cases hk; exact Nat.le_refl _)⟩

theorem make_ints (n : Nat) (hn : n ≤ 1048576) (w : World) : (Instr.makeSlice 31 (.int .i64 (n : Int)) (.int .i64 (n : Int))).run Tryz.prog w =
    .ok (.slice (some ⟨w.heap.size, 0, none⟩) n n) (w.alloc (.cells (madeCells #[.int .i64 0] n) 3)) := by
  have hinfo : (Tryz.prog.info? 3).map (fun i => (i.zero, i.size, i.bytes)) = some (some (.int .i64 0), 1, 8) := by kernel_rfl
  obtain ⟨i, hi, hz⟩ := Option.map_eq_some_iff.1 hinfo
  simp only [Prod.mk.injEq] at hz
  obtain ⟨hz, hs, hb⟩ := hz
  have hr := run_make (P := Tryz.prog) w 31 3 i _ Tryz.underlying31 hi hz .i64 .i64 n n (by omega) (Int.le_refl _) (by rw [hb]; omega) (by omega)
  simpa [hs, Value.cells] using hr

theorem made_ints (w : World) (n B : Nat) (hB : B ≤ w.heap.size) (hn : n ≤ 1048576) : (w.alloc (.cells (madeCells #[.int .i64 0] n) 3)).ownsRow B 3 1 (.slice (some ⟨w.heap.size, 0, none⟩) n n) (List.replicate n (0 : Int)).length (intsV (List.replicate n 0)) := by
  refine ⟨by simp [intsV], Or.inr ⟨w.heap.size, n, madeCells #[.int .i64 0] n, by simp, hB, heap_alloc_new _ _, by simp, by unfold maxLen; omega, by simp [size_madeCells], ?_⟩⟩
  rw [toList_madeCells_one]
  simp [intsV]

theorem on_A {w w2 : World} {fr tl : List Ce} {vf vt : Value} (hf : fr.length ≤ 1000) (hvf : Cells w (· < w.heap.size) fr vf) (hO : w2.ownsRow w.drew.heap.size 48 6 vt tl.length (tl.flatMap Ce.cells)) (hB : Below w.drew.heap.size w.drew w2) :
    WLi tl.length ((w2.alloc (.cells (madeCells #[.int .i64 0] fr.length) 3)).alloc (.cells #[vf, vt, .int .i64 tl.length, .slice (some ⟨w2.heap.size, 0, none⟩) fr.length fr.length] 111)) w.heap.size (w2.heap.size + 1) fr ⟨tl, List.replicate fr.length 0⟩ vf vt (.slice (some ⟨w2.heap.size, 0, none⟩) fr.length fr.length) ∧ Below w.heap.size w ((w2.alloc (.cells (madeCells #[.int .i64 0] fr.length) 3)).alloc (.cells #[vf, vt, .int .i64 tl.length, .slice (some ⟨w2.heap.size, 0, none⟩) fr.length fr.length] 111)) := by
  have hb : Below w.heap.size w w2 := ((Below.refl _ _).drew).trans hB
  have hz := hb.size
  have hb2 : Below w.heap.size w ((w2.alloc (.cells (madeCells #[.int .i64 0] fr.length) 3)).alloc (.cells #[vf, vt, .int .i64 tl.length, .slice (some ⟨w2.heap.size, 0, none⟩) fr.length fr.length] 111)) := (hb.alloc hz _).alloc (by simp; omega) _
  have hO' : w2.ownsRow w.heap.size 48 6 vt tl.length (tl.flatMap Ce.cells) := hO
  refine ⟨⟨by omega, by simpa using heap_alloc_new (w2.alloc (.cells (madeCells #[.int .i64 0] fr.length) 3)) (.cells #[vf, vt, .int .i64 tl.length, .slice (some ⟨w2.heap.size, 0, none⟩) fr.length fr.length] 111), hvf.keep hb2 (Nat.le_refl _), (hO'.alloc _).alloc _, (made_ints w2 fr.length _ hz (by omega)).alloc _, fun e => ?_, fun e => by simp [Value.ownBlock] at e, ?_⟩, hb2⟩
  · have := (hO'.lt _ e).2; omega
  · refine Or.inr fun e => ?_
    have := (hO'.lt w2.heap.size (by rw [e]; rfl)).2
    omega
theorem on_B {w w2 : World} {fr tl : List Ce} {vf vt : Value} (hf : fr.length ≤ 1000) (hvf : Cells w (· < w.heap.size) fr vf) (hO : w2.ownsRow ((w.alloc (.cells (madeCells #[.int .i64 0] fr.length) 3)).drew).heap.size 48 6 vt tl.length (tl.flatMap Ce.cells)) (hB : Below ((w.alloc (.cells (madeCells #[.int .i64 0] fr.length) 3)).drew).heap.size ((w.alloc (.cells (madeCells #[.int .i64 0] fr.length) 3)).drew) w2) :
    WLi tl.length (w2.alloc (.cells #[vf, vt, .int .i64 tl.length, .slice (some ⟨w.heap.size, 0, none⟩) fr.length fr.length] 111)) w.heap.size w2.heap.size fr ⟨tl, List.replicate fr.length 0⟩ vf vt (.slice (some ⟨w.heap.size, 0, none⟩) fr.length fr.length) ∧ Below w.heap.size w (w2.alloc (.cells #[vf, vt, .int .i64 tl.length, .slice (some ⟨w.heap.size, 0, none⟩) fr.length fr.length] 111)) := by
  have hz1 : ((w.alloc (.cells (madeCells #[.int .i64 0] fr.length) 3)).drew).heap.size = w.heap.size + 1 := by show (w.alloc _).heap.size = _; simp
  have hzz := hB.size
  rw [hz1] at hO hB hzz
  have hb : Below w.heap.size w w2 := ((below_new w _).drew).trans (hB.mono (Nat.le_succ _))
  have hz := hb.size
  have hb2 : Below w.heap.size w (w2.alloc (.cells #[vf, vt, .int .i64 tl.length, .slice (some ⟨w.heap.size, 0, none⟩) fr.length fr.length] 111)) := hb.alloc hz _
  have hM : w2.ownsRow w.heap.size 3 1 (.slice (some ⟨w.heap.size, 0, none⟩) fr.length fr.length) (List.replicate fr.length (0 : Int)).length (intsV (List.replicate fr.length 0)) := by
    have h0 := made_ints w fr.length w.heap.size (Nat.le_refl _) (by omega)
    obtain ⟨h1, ⟨h2, _⟩ | ⟨g, cap, cur, hv, hg, hh, r⟩⟩ := h0
    · cases h2
    · obtain ⟨rfl, rfl⟩ : w.heap.size = g ∧ fr.length = cap := by simpa using hv
      exact ⟨h1, Or.inr ⟨_, _, cur, by simp, hg, by rw [hB.block w.heap.size (Nat.lt_succ_self _)]; exact hh, r⟩⟩
  refine ⟨⟨hz, heap_alloc_new _ _, hvf.keep hb2 (Nat.le_refl _), (ow_base hO (Nat.le_succ _)).alloc _, hM.alloc _, fun e => ?_, fun e => ?_, ?_⟩, hb2⟩
  · have := (hO.lt _ e).2; omega
  · have : w.heap.size = w2.heap.size := by simpa [Value.ownBlock] using e
    omega
  · refine Or.inr fun e => ?_
    have := (hO.lt w.heap.size (by rw [e]; rfl)).1
    omega
/-- The first j places are below 0. -/
def mvTo (n j : Nat) : List Int := List.replicate j (-1) ++ List.replicate (n - j) 0
theorem mvTo_next (n j : Nat) (h : j < n) : (mvTo n j).set j (-1) = mvTo n (j + 1) := by
  obtain ⟨m, hm⟩ : ∃ m, n - j = m + 1 := ⟨n - j - 1, by omega⟩
  rw [mvTo, List.set_append_right _ _ (by simp), List.length_replicate, Nat.sub_self, hm, List.replicate_succ, List.set_cons_zero, mvTo, show n - (j + 1) = m by omega, List.replicate_succ', List.append_assoc]
  rfl
theorem mvTo_length (n j : Nat) (h : j ≤ n) : (mvTo n j).length = n := by simp [mvTo]; omega
/-- How workOn ends. -/
def OnR (w w' : World) (fr tl : List Ce) (vf : Value) (r : Ending) : Prop := ∃ g vt vm, r = .returned (.pointer (some ⟨g, 0, none⟩)) ∧ WLi tl.length w' w.heap.size g fr (st0 fr tl) vf vt vm ∧ Below w.heap.size w w'

set_option maxHeartbeats 2000000 in
theorem impl_workOn (fr tl : List Ce) (hf : fr.length ≤ 1000) (ht : tl.length ≤ 1000) (w : World) (vf vo : Value) (hvf : Cells w (· < w.heap.size) fr vf) (hvo : Cells w (· < w.heap.size) tl vo) :
    Calls Tryz.prog 35 #[vf, vo] w fun r w' => OnR w w' fr tl vf r := by
  have hmk := make_ints fr.length (by omega)
  obtain ⟨fa, fcap, rfl⟩ := hvf.slice
  obtain ⟨oa, ocap, rfl⟩ := hvo.slice
  have hcl : ∀ w', Below w.heap.size w w' → Calls Tryz.prog 66 #[.slice oa tl.length ocap] w' fun r w2 => ∃ v', r = .returned v' ∧ w2.ownsRow w'.heap.size 48 6 v' tl.length (tl.flatMap Ce.cells) ∧ Below w'.heap.size w' w2 := fun w' hb => cl_Clone tl _ w' (by omega) (hvo.keep hb hb.size)
  go_enter Tryz.func35, Tryz.ntmps35
  go_upto_region 1 with fail
  go_region_with (go_at_call 66; refine (hcl _ (by first | exact (Below.refl _ _).drew | exact ((Below.refl _ _).alloc (Nat.le_refl _) _).drew)).mono ?_; rintro r w2 ⟨v2, rfl, hO2, hB2⟩; obtain ⟨a2, c2, rfl⟩ := wl_slice hO2)
  · obtain ⟨hW, hB⟩ := on_A hf hvf hO2 hB2
    obtain ⟨c0, c1, c2', c3, cf⟩ := wl_cells hW
    go_wp2_with fail
    clear c0 c1 c2' c3 cf hcl
    go_loopg [22] fr.length (fun k i wr => ∃ (j : Nat), j + k = fr.length ∧ i = .int .i64 j ∧ WLi tl.length wr w.heap.size (w2.heap.size + 1) fr ⟨tl, mvTo fr.length j⟩ (.slice fa fr.length fcap) (.slice a2 tl.length c2) (.slice (some ⟨w2.heap.size, 0, none⟩) fr.length fr.length) ∧ Below w.heap.size w wr)
    case atStart => exact ⟨0, by omega, rfl, by rw [mvTo]; exact hW, hB⟩
    case round =>
      obtain ⟨j, hjk, rfl, hWr, hBr⟩ := hrel
      obtain ⟨c0, c1, c2', c3, cf⟩ := wl_cells hWr
      by_cases hlt : j < fr.length
      · have hl := mvTo_length fr.length j (by omega)
        obtain ⟨mb, cap', hvm, cm, fm, hmg, hmlt, _⟩ := hWr.rowM (p := j) (by show j < (mvTo fr.length j).length; omega)
        obtain rfl : w2.heap.size = mb := by simp at hvm; exact hvm.1
        clear hvm
        have hji : (j : Int) < (fr.length : Int) := by omega
        generalize (St.mk tl (mvTo fr.length j)).mv[j]'(by show j < (mvTo fr.length j).length; omega) = x at cm
        have hS := hWr.setM (p := j) (x := -1) hl
        have hBM := (hWr.ownM.lt w2.heap.size rfl).1
        rw [show (St.mk tl (mvTo fr.length j)).mv.set j (-1) = mvTo fr.length (j + 1) from mvTo_next _ _ hlt] at hS
        go_wp2_with fail
        go_roundg (fr.length - (j + 1))
        case measure => omega
        case rel => exact ⟨j + 1, by omega, by go_num, hS, hBr.setCell hBM _⟩
      · obtain rfl : j = fr.length := by omega
        have hji : ¬ (fr.length : Int) < (fr.length : Int) := by omega
        go_wp2_with fail
        go_ret
        exact ⟨_, _, _, rfl, by rw [show st0 fr tl = ⟨tl, mvTo fr.length fr.length⟩ by simp [st0, mvTo]]; exact hWr, hBr⟩
  · obtain ⟨hW, hB⟩ := on_B hf hvf hO2 hB2
    obtain ⟨c0, c1, c2', c3, cf⟩ := wl_cells hW
    go_wp2_with fail
    clear c0 c1 c2' c3 cf hcl
    go_loopg [22] fr.length (fun k i wr => ∃ (j : Nat), j + k = fr.length ∧ i = .int .i64 j ∧ WLi tl.length wr w.heap.size (w2.heap.size) fr ⟨tl, mvTo fr.length j⟩ (.slice fa fr.length fcap) (.slice a2 tl.length c2) (.slice (some ⟨w.heap.size, 0, none⟩) fr.length fr.length) ∧ Below w.heap.size w wr)
    case atStart => exact ⟨0, by omega, rfl, by rw [mvTo]; exact hW, hB⟩
    case round =>
      obtain ⟨j, hjk, rfl, hWr, hBr⟩ := hrel
      obtain ⟨c0, c1, c2', c3, cf⟩ := wl_cells hWr
      by_cases hlt : j < fr.length
      · have hl := mvTo_length fr.length j (by omega)
        obtain ⟨mb, cap', hvm, cm, fm, hmg, hmlt, _⟩ := hWr.rowM (p := j) (by show j < (mvTo fr.length j).length; omega)
        obtain rfl : w.heap.size = mb := by simp at hvm; exact hvm.1
        clear hvm
        have hji : (j : Int) < (fr.length : Int) := by omega
        generalize (St.mk tl (mvTo fr.length j)).mv[j]'(by show j < (mvTo fr.length j).length; omega) = x at cm
        have hS := hWr.setM (p := j) (x := -1) hl
        have hBM := (hWr.ownM.lt w.heap.size rfl).1
        rw [show (St.mk tl (mvTo fr.length j)).mv.set j (-1) = mvTo fr.length (j + 1) from mvTo_next _ _ hlt] at hS
        go_wp2_with fail
        go_roundg (fr.length - (j + 1))
        case measure => omega
        case rel => exact ⟨j + 1, by omega, by go_num, hS, hBr.setCell hBM _⟩
      · obtain rfl : j = fr.length := by omega
        have hji : ¬ (fr.length : Int) < (fr.length : Int) := by omega
        go_wp2_with fail
        go_ret
        exact ⟨_, _, _, rfl, by rw [show st0 fr tl = ⟨tl, mvTo fr.length fr.length⟩ by simp [st0, mvTo]]; exact hWr, hBr⟩
end Go.Proofs.YthikfinliiaecaaGreatDoor

