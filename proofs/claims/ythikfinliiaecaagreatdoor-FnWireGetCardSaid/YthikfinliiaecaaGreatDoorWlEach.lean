/-
  The program's worklist: each.
-/
import Derived.Test.YthikfinliiaecaaGreatDoorWlMove
import Derived.Test.YthikfinliiaecaaGreatDoorWlSet
import Derived.Deep.LoopGhost
namespace Go.Proofs.YthikfinliiaecaaGreatDoor
open Go.RowKit

/-- The second closure, as a value. -/
abbrev changeV (qb : Nat) : Value := .func (.func 70) #[] #[.pointer (some ⟨qb, 0, none⟩)]
theorem wlSize : (Tryz.prog.info? 48).map (·.size) = some 6 := by kernel_rfl
theorem stepS_eq (fr : List Ce) (s : St) (j : Nat) (hj : j < s.to.length) : stepS fr s j = ⟨(moveS fr (moveS fr s s.to[j].a) s.to[j].b).to.set j (cellM fr s s.to[j]), (moveS fr (moveS fr s s.to[j].a) s.to[j].b).mv⟩ := by
  rw [stepS, getD_eq _ _ _ hj]; rfl
/-- How each ends. -/
def EachR (b : Nat) (w w' : World) (B g : Nat) (fr : List Ce) (s : St) (vf vt vm : Value) (r : Ending) : Prop := r = .returned (.tuple #[]) ∧ ∃ vt', WLi b w' B g fr s vf vt' vm ∧ Moved w w' g vt vt' vm

set_option maxRecDepth 100000 in
set_option maxHeartbeats 4000000 in
theorem impl_each (b : Nat) (fr : List Ce) (s : St) (hb1 : b + fr.length ≤ 1000) (hI : Inv fr b b s) (hfr : ∀ c ∈ fr, refOk fr.length c.a ∧ refOk fr.length c.b) (w : World) (B g pb qb : Nat) (vf vt vm : Value) (h : WLi b w B g fr s vf vt vm)
    (hpb : w.cell? ⟨pb, 0, none⟩ = some (.pointer (some ⟨g, 0, none⟩))) (hqb : w.cell? ⟨qb, 0, none⟩ = some (moveV pb)) (hpa : Apart pb g vt vm) (hqa : Apart qb g vt vm) :
    Calls Tryz.prog 69 #[.pointer (some ⟨g, 0, none⟩), changeV qb] w fun r w' => EachR b w w' B g fr (loopS fr (fr.length + 1) s b) vf vt vm r := by
  have hpl : pb < w.heap.size := World.block_lt_of_cell? w _ hpb
  have hql : qb < w.heap.size := World.block_lt_of_cell? w _ hqb
  obtain ⟨c0, c1, c2, c3, cf⟩ := wl_cells h
  go_enter Tryz.func69, Tryz.ntmps69
  go_wp2_with fail
  clear c0 c1 c2 c3 cf
  go_loopg [4] (fr.length + 1) (fun k i wr => ∃ (j : Nat) (s' : St) (vt' : Value), i = .int .i64 j ∧ j + k = b + fr.length + 1 ∧ Hid (loopS fr (fr.length + 1) s b = loopS fr k s' j) ∧ Inv fr b j s' ∧ WLi b wr B g fr s' vf vt' vm ∧ Moved w wr g vt vt' vm)
  case atStart => exact ⟨b, s, vt, rfl, by omega, rfl, hI, h, Moved.refl⟩
  case round =>
    obtain ⟨j, s', vt', rfl, hjk, HL, hI', hW, hM⟩ := hrel
    obtain ⟨c0, c1, c2, c3, cf⟩ := wl_cells hW
    have hle := hI'.le
    by_cases hlt : j < s'.to.length
    · obtain ⟨tb, tcap, rfl, hr, hth, htl, htB, htg⟩ := hW.rowT hlt
      obtain ⟨q0, q1, q2, q3, q4, q5⟩ := Ce.six hr
      obtain ⟨hA, hB'⟩ := hI'.refs j s'.to[j] (Nat.le_refl _) (List.getElem?_eq_getElem hlt)
      have HN : Hid (loopS fr gk s' j = loopS fr (gk - 1) (stepS fr s' j) (j + 1)) := by
        show _ = _
        obtain ⟨m, rfl⟩ : ∃ m, gk = m + 1 := ⟨gk - 1, by omega⟩
        exact loopS_step hlt
      have hI2 := hI'.step hfr hlt
      have HE := stepS_eq fr s' j hlt
      rw [HE] at hI2
      have HN' : Hid (loopS fr gk s' j = loopS fr (gk - 1) ⟨(moveS fr (moveS fr s' s'.to[j].a) s'.to[j].b).to.set j (cellM fr s' s'.to[j]), (moveS fr (moveS fr s' s'.to[j].a) s'.to[j].b).mv⟩ (j + 1)) := by
        show _ = _
        rw [HN.out, HE]
      clear HN HE
      have hp' : wr.cell? ⟨pb, 0, none⟩ = some (.pointer (some ⟨g, 0, none⟩)) := by rw [(hM.cells hpl hpa).1 0]; exact hpb
      have hq' : wr.cell? ⟨qb, 0, none⟩ = some (moveV pb) := by rw [(hM.cells hql hqa).1 0]; exact hqb
      have hc := impl_change b fr s' s'.to[j] hA hB' ⟨b, j, hI', hb1⟩ hfr wr B g pb qb vf _ vm hW hp' hq' (hM.apart hpl hpa) (hM.apart hql hqa)
      have hlen2 : j < (moveS fr (moveS fr s' s'.to[j].a) s'.to[j].b).to.length := Nat.lt_of_lt_of_le hlt (Nat.le_trans move_len move_len)
      generalize moveS fr (moveS fr s' s'.to[j].a) s'.to[j].b = s2 at *
      generalize cellM fr s' s'.to[j] = c2 at *
      have hji : (j : Int) < (s'.to.length : Int) := by omega
      have hs2l : s2.to.length ≤ 1000 := by have := hI2.le; simp at this; omega
      clear hr hA hB' hp' hq' hth
      rename_i cc2 _ _
      go_upto_region 4 with (go_at_call 70; refine hc.mono ?_; rintro r w2 ⟨rfl, vt2, hW2, hM2⟩; obtain ⟨d0, d1, d2, d3, df⟩ := wl_cells hW2)
      obtain ⟨tb2, cap2, rfl, hr2, hth2, htl2, htB2, htg2⟩ := hW2.rowT hlen2
      have hMw := hM.trans hM2
      have hglt := hW2.lt
      have hWA : WLi b (w2.alloc (.cells #[.int .i64 c2.kind, .int .i64 c2.num, .int .i64 c2.a.tag, .int .i64 c2.a.num, .int .i64 c2.b.tag, .int .i64 c2.b.num] 48)) B g fr s2 vf (.slice (some ⟨tb2, 0, none⟩) s2.to.length cap2) vm := hW2.keep (below_new w2 _)
      obtain ⟨hWS, hMS⟩ := (hWA.drew).setAt (i := j) (c := c2) rfl hlen2
      have htA := World.there_alloc hth2 (.cells #[.int .i64 c2.kind, .int .i64 c2.num, .int .i64 c2.a.tag, .int .i64 c2.a.num, .int .i64 c2.b.tag, .int .i64 c2.b.num] 48)
      have HS : (w2.alloc (.cells #[.int .i64 c2.kind, .int .i64 c2.num, .int .i64 c2.a.tag, .int .i64 c2.a.num, .int .i64 c2.b.tag, .int .i64 c2.b.num] 48)).drew.cell? ⟨g, 1, none⟩ = some (.slice (some ⟨tb2, 0, none⟩) s2.to.length cap2) ∧ (w2.alloc (.cells #[.int .i64 c2.kind, .int .i64 c2.num, .int .i64 c2.a.tag, .int .i64 c2.a.num, .int .i64 c2.b.tag, .int .i64 c2.b.num] 48)).drew.cell? ⟨w2.heap.size, 0, none⟩ = some (.int .i64 c2.kind) ∧ (w2.alloc (.cells #[.int .i64 c2.kind, .int .i64 c2.num, .int .i64 c2.a.tag, .int .i64 c2.a.num, .int .i64 c2.b.tag, .int .i64 c2.b.num] 48)).drew.cell? ⟨w2.heap.size, 1, none⟩ = some (.int .i64 c2.num) ∧ (w2.alloc (.cells #[.int .i64 c2.kind, .int .i64 c2.num, .int .i64 c2.a.tag, .int .i64 c2.a.num, .int .i64 c2.b.tag, .int .i64 c2.b.num] 48)).drew.cell? ⟨w2.heap.size, 2, none⟩ = some (.int .i64 c2.a.tag) ∧ (w2.alloc (.cells #[.int .i64 c2.kind, .int .i64 c2.num, .int .i64 c2.a.tag, .int .i64 c2.a.num, .int .i64 c2.b.tag, .int .i64 c2.b.num] 48)).drew.cell? ⟨w2.heap.size, 3, none⟩ = some (.int .i64 c2.a.num) ∧ (w2.alloc (.cells #[.int .i64 c2.kind, .int .i64 c2.num, .int .i64 c2.a.tag, .int .i64 c2.a.num, .int .i64 c2.b.tag, .int .i64 c2.b.num] 48)).drew.cell? ⟨w2.heap.size, 4, none⟩ = some (.int .i64 c2.b.tag) ∧ (w2.alloc (.cells #[.int .i64 c2.kind, .int .i64 c2.num, .int .i64 c2.a.tag, .int .i64 c2.a.num, .int .i64 c2.b.tag, .int .i64 c2.b.num] 48)).drew.cell? ⟨w2.heap.size, 5, none⟩ = some (.int .i64 c2.b.num) := by
        have hk := ow_cells_new w2 #[.int .i64 c2.kind, .int .i64 c2.num, .int .i64 c2.a.tag, .int .i64 c2.a.num, .int .i64 c2.b.tag, .int .i64 c2.b.num] 48
        refine ⟨?_, ?_, ?_, ?_, ?_, ?_, ?_⟩
        · rw [show (w2.alloc (.cells #[.int .i64 c2.kind, .int .i64 c2.num, .int .i64 c2.a.tag, .int .i64 c2.a.num, .int .i64 c2.b.tag, .int .i64 c2.b.num] 48)).drew.cell? ⟨g, 1, none⟩ = (w2.alloc (.cells #[.int .i64 c2.kind, .int .i64 c2.num, .int .i64 c2.a.tag, .int .i64 c2.a.num, .int .i64 c2.b.tag, .int .i64 c2.b.num] 48)).cell? ⟨g, 1, none⟩ from rfl, (below_new w2 _).cell (p := ⟨g, 1, none⟩) hglt]; exact d1
        · have := hk 0 _ rfl; rw [Addr.add_mid] at this; exact this
        · have := hk 1 _ rfl; rw [Addr.add_mid] at this; exact this
        · have := hk 2 _ rfl; rw [Addr.add_mid] at this; exact this
        · have := hk 3 _ rfl; rw [Addr.add_mid] at this; exact this
        · have := hk 4 _ rfl; rw [Addr.add_mid] at this; exact this
        · have := hk 5 _ rfl; rw [Addr.add_mid] at this; exact this
      have hji2 : (j : Int) < (s2.to.length : Int) := by omega
      have hj0 : (0 : Int) ≤ (j : Int) := by omega
      clear hc hW hM hW2 hM2 hr2 hth2
      refine wp_region_last2 (S := fun w' => w'.cell? ⟨g, 1, none⟩ = some (.slice (some ⟨tb2, 0, none⟩) s2.to.length cap2) ∧ w'.cell? ⟨w2.heap.size, 0, none⟩ = some (.int .i64 c2.kind) ∧ w'.cell? ⟨w2.heap.size, 1, none⟩ = some (.int .i64 c2.num) ∧ w'.cell? ⟨w2.heap.size, 2, none⟩ = some (.int .i64 c2.a.tag) ∧ w'.cell? ⟨w2.heap.size, 3, none⟩ = some (.int .i64 c2.a.num) ∧ w'.cell? ⟨w2.heap.size, 4, none⟩ = some (.int .i64 c2.b.tag) ∧ w'.cell? ⟨w2.heap.size, 5, none⟩ = some (.int .i64 c2.b.num)) (by kernel_rfl) (by kernel_rfl) rfl HS (fun hHeld => ?_)
      simp only [killLast, killL]
      (refine wpAnyH_take (i := 0) (oi := _) (v := ?v200) rfl (by kernel_rfl) (by kernel_rfl) (by kernel_rfl) (fun _ _ _ h => h) (Or.inl ⟨by rfl, ?hy200⟩) hHeld ?rest200; (case hy200 => (intro w' hSw; obtain ⟨x0, x1, x2, x3, x4, x5, x6⟩ := hSw; (try simp only [List.getElem_toArray]); (try simp only [List.getElem_cons_succ]); (try simp only [List.getElem_cons_zero]); go_simp; rfl)); (try simp only [List.getElem_toArray]); (try simp only [List.getElem_cons_succ]); (try simp only [List.getElem_cons_zero]); (try simp only [Act.put]); (try simp only [List.setIfInBounds_toArray]); (try simp only [List.set_cons_succ]); (try simp only [List.set_cons_zero]))
      (refine wpAnyH_take (i := 1) (oi := _) (v := ?v201) rfl (by kernel_rfl) (by kernel_rfl) (by kernel_rfl) (fun _ _ _ h => h) (Or.inl ⟨by rfl, ?hy201⟩) hHeld ?rest201; (case hy201 => (intro w' hSw; obtain ⟨x0, x1, x2, x3, x4, x5, x6⟩ := hSw; (try simp only [List.getElem_toArray]); (try simp only [List.getElem_cons_succ]); (try simp only [List.getElem_cons_zero]); go_simp; rfl)); (try simp only [List.getElem_toArray]); (try simp only [List.getElem_cons_succ]); (try simp only [List.getElem_cons_zero]); (try simp only [Act.put]); (try simp only [List.setIfInBounds_toArray]); (try simp only [List.set_cons_succ]); (try simp only [List.set_cons_zero]))
      (refine wpAnyH_take (i := 2) (oi := _) (v := ?v202) rfl (by kernel_rfl) (by kernel_rfl) (by kernel_rfl) (fun _ _ _ h => h) (Or.inl ⟨by rfl, ?hy202⟩) hHeld ?rest202; (case hy202 => (intro w' hSw; obtain ⟨x0, x1, x2, x3, x4, x5, x6⟩ := hSw; (try simp only [List.getElem_toArray]); (try simp only [List.getElem_cons_succ]); (try simp only [List.getElem_cons_zero]); go_simp; rfl)); (try simp only [List.getElem_toArray]); (try simp only [List.getElem_cons_succ]); (try simp only [List.getElem_cons_zero]); (try simp only [Act.put]); (try simp only [List.setIfInBounds_toArray]); (try simp only [List.set_cons_succ]); (try simp only [List.set_cons_zero]))
      (refine wpAnyH_take (i := 3) (oi := _) (v := ?v203) rfl (by kernel_rfl) (by kernel_rfl) (by kernel_rfl) (fun _ _ _ h => h) (Or.inl ⟨by rfl, ?hy203⟩) hHeld ?rest203; (case hy203 => (intro w' hSw; obtain ⟨x0, x1, x2, x3, x4, x5, x6⟩ := hSw; (try simp only [List.getElem_toArray]); (try simp only [List.getElem_cons_succ]); (try simp only [List.getElem_cons_zero]); go_simp; rfl)); (try simp only [List.getElem_toArray]); (try simp only [List.getElem_cons_succ]); (try simp only [List.getElem_cons_zero]); (try simp only [Act.put]); (try simp only [List.setIfInBounds_toArray]); (try simp only [List.set_cons_succ]); (try simp only [List.set_cons_zero]))
      (refine wpAnyH_take (i := 4) (oi := _) (v := ?v204) rfl (by kernel_rfl) (by kernel_rfl) (by kernel_rfl) (fun _ _ _ h => h) (Or.inl ⟨by rfl, ?hy204⟩) hHeld ?rest204; (case hy204 => (intro w' hSw; obtain ⟨x0, x1, x2, x3, x4, x5, x6⟩ := hSw; (try simp only [List.getElem_toArray]); (try simp only [List.getElem_cons_succ]); (try simp only [List.getElem_cons_zero]); go_simp; rfl)); (try simp only [List.getElem_toArray]); (try simp only [List.getElem_cons_succ]); (try simp only [List.getElem_cons_zero]); (try simp only [Act.put]); (try simp only [List.setIfInBounds_toArray]); (try simp only [List.set_cons_succ]); (try simp only [List.set_cons_zero]))
      (refine wpAnyH_take (i := 5) (oi := _) (v := ?v205) rfl (by kernel_rfl) (by kernel_rfl) (by kernel_rfl) (fun _ _ _ h => h) (Or.inl ⟨by rfl, ?hy205⟩) hHeld ?rest205; (case hy205 => (intro w' hSw; obtain ⟨x0, x1, x2, x3, x4, x5, x6⟩ := hSw; (try simp only [List.getElem_toArray]); (try simp only [List.getElem_cons_succ]); (try simp only [List.getElem_cons_zero]); go_simp; rfl)); (try simp only [List.getElem_toArray]); (try simp only [List.getElem_cons_succ]); (try simp only [List.getElem_cons_zero]); (try simp only [Act.put]); (try simp only [List.setIfInBounds_toArray]); (try simp only [List.set_cons_succ]); (try simp only [List.set_cons_zero]))
      (refine wpAnyH_take (i := 6) (oi := _) (v := ?v206) rfl (by kernel_rfl) (by kernel_rfl) (by kernel_rfl) (fun _ _ _ h => h) (Or.inl ⟨by rfl, ?hy206⟩) hHeld ?rest206; (case hy206 => (intro w' hSw; obtain ⟨x0, x1, x2, x3, x4, x5, x6⟩ := hSw; (try simp only [List.getElem_toArray]); (try simp only [List.getElem_cons_succ]); (try simp only [List.getElem_cons_zero]); go_simp; rfl)); (try simp only [List.getElem_toArray]); (try simp only [List.getElem_cons_succ]); (try simp only [List.getElem_cons_zero]); (try simp only [Act.put]); (try simp only [List.setIfInBounds_toArray]); (try simp only [List.set_cons_succ]); (try simp only [List.set_cons_zero]))
      (refine wpAnyH_take (i := 7) (oi := _) (v := .bool true) rfl (by kernel_rfl) (by kernel_rfl) (by kernel_rfl) (fun _ _ _ h => h) (Or.inl ⟨by rfl, fun _ _ => by rfl⟩) hHeld ?_; (try simp only [List.getElem_toArray]); (try simp only [List.getElem_cons_succ]); (try simp only [List.getElem_cons_zero]); simp only [Act.put])
      refine wpAnyH_done (by kernel_rfl) ?_ _
      show Oper.wp _ _ _ _ _ _
      refine wp_store_mid 48 _ _ rfl tb2 (j * 6) #[.int .i64 c2.kind, .int .i64 c2.num, .int .i64 c2.a.tag, .int .i64 c2.a.num, .int .i64 c2.b.tag, .int .i64 c2.b.num] (by rfl) (by rfl) htA wlSize (by simp [Value.oneCell']) ?_
      go_wp2_with fail
      go_roundg (gk - 1)
      case measure => omega
      case rel => exact ⟨j + 1, _, _, by go_num, by omega, HL.out.trans HN'.out, hI2, hWS, hMw.trans ((Moved.ofBelow ((below_new w2 _).drew)).trans hMS)⟩
    · have he : loopS fr gk s' j = s' := loopS_end hlt
      have HE : Hid (loopS fr (fr.length + 1) s b = s') := HL.out.trans he
      clear he HL
      obtain ⟨ta, tcap, rfl⟩ := wl_slice hW.ownT
      have hji : ¬ (j : Int) < (s'.to.length : Int) := by omega
      go_wp2_with fail
      go_end0
      exact ⟨rfl, _, by rw [HE.out]; exact hW, hM⟩
end Go.Proofs.YthikfinliiaecaaGreatDoor

