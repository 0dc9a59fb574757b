/-
  The specification's copier: scan.
-/
import Derived.Test.YthikfinliiaecaaGreatDoorWlWord
import Derived.Test.YthikfinliiaecaaGreatDoorWlEach
namespace Go.Proofs.YthikfinliiaecaaGreatDoor
open Go.RowKit

/-- How scan ends. -/
def ScanR (w w' : World) (B g : Nat) (fr : List Ce) (s : St) (vf vt vm : Value) (r : Ending) : Prop := r = .returned (.tuple #[]) ∧ ∃ vt', WLp w' B g fr s vf vt' vm ∧ Moved w w' g vt vt' vm

set_option maxRecDepth 100000 in
set_option maxHeartbeats 8000000 in
theorem spec_scan (b : Nat) (fr : List Ce) (s : St) (hb1 : b + fr.length ≤ 1000) (hI : Inv fr b b s) (hfr : ∀ c ∈ fr, refOk fr.length c.a ∧ refOk fr.length c.b) (w : World) (B g : Nat) (vf vt vm : Value) (h : WLp w B g fr s vf vt vm) :
    Calls Tryz.prog 57 #[.pointer (some ⟨g, 0, none⟩), .int .i64 b] w fun r w' => ScanR w w' B g fr (loopS fr (fr.length + 1) s b) vf vt vm r := by
  go_enter Tryz.func57, Tryz.ntmps57
  go_wp2_with fail
  go_loopg [1] (fr.length + 1) (fun k i wr => ∃ (j : Nat) (s' : St) (vt' : Value), i = .int .i64 j ∧ j + k = b + fr.length + 1 ∧ Hid (loopS fr (fr.length + 1) s b = loopS fr k s' j) ∧ Inv fr b j s' ∧ WLp wr B g fr s' vf vt' vm ∧ Moved w wr g vt vt' vm)
  case atStart => exact ⟨b, s, vt, rfl, by omega, rfl, hI, h, Moved.refl⟩
  case round =>
    obtain ⟨j, s', vt', rfl, hjk, HL, hI', hW, hM⟩ := hrel
    obtain ⟨c0, c1, c2, cf⟩ := wp_cells hW
    have hle := hI'.le
    by_cases hlt : j < s'.to.length
    · obtain ⟨tb, tcap, rfl, hr, hth, htl, htB, htg⟩ := hW.rowT hlt
      obtain ⟨q0, q1, q2, q3, q4, q5⟩ := Ce.six hr
      obtain ⟨hA, hB'⟩ := hI'.refs j s'.to[j] (Nat.le_refl _) (List.getElem?_eq_getElem hlt)
      have hI2 := hI'.step hfr hlt
      have HE := stepS_eq fr s' j hlt
      rw [HE] at hI2
      have HN' : Hid (loopS fr gk s' j = loopS fr (gk - 1) ⟨(moveS fr (moveS fr s' s'.to[j].a) s'.to[j].b).to.set j (cellM fr s' s'.to[j]), (moveS fr (moveS fr s' s'.to[j].a) s'.to[j].b).mv⟩ (j + 1)) := by
        show _ = _
        obtain ⟨m, rfl⟩ : ∃ m, gk = m + 1 := ⟨gk - 1, by omega⟩
        rw [loopS_step hlt, HE]
        rfl
      clear HE
      have hIa := hI'.move hfr hA
      have hW1 := hW.keep (below_new wr (.cells #[.int .i64 s'.to[j].kind, .int .i64 s'.to[j].num, .int .i64 s'.to[j].a.tag, .int .i64 s'.to[j].a.num, .int .i64 s'.to[j].b.tag, .int .i64 s'.to[j].b.num] 48))
      have hc1 := spec_word fr s' s'.to[j].a hA hI'.len (by omega) _ B g vf _ vm hW1
      have hc2 : ∀ w2 vt2, WLp w2 B g fr (moveS fr s' s'.to[j].a) vf vt2 vm → Calls Tryz.prog 56 #[.pointer (some ⟨g, 0, none⟩), s'.to[j].b.val] w2 fun r w' => CameP w2 w' B g fr (moveS fr (moveS fr s' s'.to[j].a) s'.to[j].b) vf vt2 vm (.returned (moveW fr (moveS fr s' s'.to[j].a) s'.to[j].b).val) r := fun w2 vt2 hw => spec_word fr _ s'.to[j].b hB' hIa.len (by have := hIa.le; omega) w2 B g vf vt2 vm hw
      have hlen2 : j < (moveS fr (moveS fr s' s'.to[j].a) s'.to[j].b).to.length := Nat.lt_of_lt_of_le hlt (Nat.le_trans move_len move_len)
      have hap := hW.apart (Nat.le_refl wr.heap.size)
      have hgB : B ≤ wr.heap.size := by have := hW.hB; have := hW.lt; omega
      unfold cellM at HN' hI2
      generalize moveS fr (moveS fr s' s'.to[j].a) s'.to[j].b = s2 at *
      generalize moveW fr (moveS fr s' s'.to[j].a) s'.to[j].b = mb at *
      generalize moveS fr s' s'.to[j].a = s1 at *
      generalize moveW fr s' s'.to[j].a = ma at *
      generalize s'.to[j] = c at *
      have hji : (j : Int) < (s'.to.length : Int) := by omega
      have hs2l : s2.to.length ≤ 1000 := by have := hI2.le; simp at this; omega
      have hMA : Moved w (wr.alloc (.cells #[.int .i64 c.kind, .int .i64 c.num, .int .i64 c.a.tag, .int .i64 c.a.num, .int .i64 c.b.tag, .int .i64 c.b.num] 48)) g vt _ vm := hM.alloc _
      have hwz := hM.size
      clear hr hA hB' hth hIa hM hW hI'
      go_upto_region 4 with (go_at_call 56; refine hc1.mono ?_; rintro r w2 ⟨rfl, vt2, hW2, hM2⟩; obtain ⟨k1, k2⟩ := hM2.cells (b := wr.heap.size) (by simp) hap; have hz2 := hM2.size; simp at hz2)
      have ha1 := hM2.apart (b := wr.heap.size) (by simp) hap
      have hMw2 := hMA.trans hM2
      have hsz3 : ((w2.setCell ⟨wr.heap.size, 2, none⟩ (.int .i64 ma.tag)).setCell ⟨wr.heap.size, 3, none⟩ (.int .i64 ma.num)).heap.size = w2.heap.size := by simp [World.setCell]
      have hW3 : WLp ((w2.setCell ⟨wr.heap.size, 2, none⟩ (.int .i64 ma.tag)).setCell ⟨wr.heap.size, 3, none⟩ (.int .i64 ma.num)) B g fr s1 vf vt2 vm := (hW2.setOther hgB ha1.1 ha1.2.1 ha1.2.2).setOther hgB ha1.1 ha1.2.1 ha1.2.2
      have hM3 : Moved w ((w2.setCell ⟨wr.heap.size, 2, none⟩ (.int .i64 ma.tag)).setCell ⟨wr.heap.size, 3, none⟩ (.int .i64 ma.num)) g vt vt2 vm := (hMw2.setNew hwz _).setNew hwz _
      have hc3 := hc2 _ _ hW3
      clear hc1 hc2 hW1 hW2 hM2 hMw2 hMA
      go_upto_region 5 with (go_at_call 56; refine hc3.mono ?_; rintro r w4 ⟨rfl, vt4, hW4, hM4⟩; obtain ⟨k5, k6⟩ := hM4.cells (b := wr.heap.size) (by rw [hsz3]; omega) ha1; have hz4 := hM4.size; rw [hsz3] at hz4)
      have ha5 := hM4.apart (b := wr.heap.size) (by rw [hsz3]; omega) ha1
      have hW5 : WLp ((w4.setCell ⟨wr.heap.size, 4, none⟩ (.int .i64 mb.tag)).setCell ⟨wr.heap.size, 5, none⟩ (.int .i64 mb.num)) B g fr s2 vf vt4 vm := (hW4.setOther hgB ha5.1 ha5.2.1 ha5.2.2).setOther hgB ha5.1 ha5.2.1 ha5.2.2
      have hM5 : Moved w ((w4.setCell ⟨wr.heap.size, 4, none⟩ (.int .i64 mb.tag)).setCell ⟨wr.heap.size, 5, none⟩ (.int .i64 mb.num)) g vt vt4 vm := ((hM3.trans hM4).setNew hwz _).setNew hwz _
      have z0 : ((w4.setCell ⟨wr.heap.size, 4, none⟩ (.int .i64 mb.tag)).setCell ⟨wr.heap.size, 5, none⟩ (.int .i64 mb.num)).cell? ⟨wr.heap.size, 0, none⟩ = some (.int .i64 c.kind) := by simp [go_sem, k5, k1]
      have z1 : ((w4.setCell ⟨wr.heap.size, 4, none⟩ (.int .i64 mb.tag)).setCell ⟨wr.heap.size, 5, none⟩ (.int .i64 mb.num)).cell? ⟨wr.heap.size, 1, none⟩ = some (.int .i64 c.num) := by simp [go_sem, k5, k1]
      have z2 : ((w4.setCell ⟨wr.heap.size, 4, none⟩ (.int .i64 mb.tag)).setCell ⟨wr.heap.size, 5, none⟩ (.int .i64 mb.num)).cell? ⟨wr.heap.size, 2, none⟩ = some (.int .i64 ma.tag) := by simp [go_sem, k5, k1]
      have z3 : ((w4.setCell ⟨wr.heap.size, 4, none⟩ (.int .i64 mb.tag)).setCell ⟨wr.heap.size, 5, none⟩ (.int .i64 mb.num)).cell? ⟨wr.heap.size, 3, none⟩ = some (.int .i64 ma.num) := by simp [go_sem, k5, k1]
      have z4 : ((w4.setCell ⟨wr.heap.size, 4, none⟩ (.int .i64 mb.tag)).setCell ⟨wr.heap.size, 5, none⟩ (.int .i64 mb.num)).cell? ⟨wr.heap.size, 4, none⟩ = some (.int .i64 mb.tag) := by simp [go_sem, k5, k1]
      have z5 : ((w4.setCell ⟨wr.heap.size, 4, none⟩ (.int .i64 mb.tag)).setCell ⟨wr.heap.size, 5, none⟩ (.int .i64 mb.num)).cell? ⟨wr.heap.size, 5, none⟩ = some (.int .i64 mb.num) := by simp [go_sem, k5, k1]
      clear hc3 hW3 hM3 hM4 hW4 k1 k2 k5 k6
      generalize ((w4.setCell ⟨wr.heap.size, 4, none⟩ (.int .i64 mb.tag)).setCell ⟨wr.heap.size, 5, none⟩ (.int .i64 mb.num)) = W5 at *
      obtain ⟨d0, d1, d2, df⟩ := wp_cells hW5
      obtain ⟨tb2, cap2, rfl, hr2, hth2, htl2, htB2, htg2⟩ := hW5.rowT hlen2
      obtain ⟨hWS, hMS⟩ := (hW5.drew).setAt (i := j) (c := ⟨c.kind, c.num, ma, mb⟩) rfl hlen2
      have HS : W5.drew.cell? ⟨g, 2, none⟩ = some (.slice (some ⟨tb2, 0, none⟩) s2.to.length cap2) ∧ W5.drew.cell? ⟨wr.heap.size, 0, none⟩ = some (.int .i64 c.kind) ∧ W5.drew.cell? ⟨wr.heap.size, 1, none⟩ = some (.int .i64 c.num) ∧ W5.drew.cell? ⟨wr.heap.size, 2, none⟩ = some (.int .i64 ma.tag) ∧ W5.drew.cell? ⟨wr.heap.size, 3, none⟩ = some (.int .i64 ma.num) ∧ W5.drew.cell? ⟨wr.heap.size, 4, none⟩ = some (.int .i64 mb.tag) ∧ W5.drew.cell? ⟨wr.heap.size, 5, none⟩ = some (.int .i64 mb.num) := ⟨d2, z0, z1, z2, z3, z4, z5⟩
      have htA : W5.drew.there tb2 (j * 6) 6 := hth2
      have hji2 : (j : Int) < (s2.to.length : Int) := by omega
      have hj0 : (0 : Int) ≤ (j : Int) := by omega
      clear hr2 hth2
      refine wp_region_last2 (S := fun w' => w'.cell? ⟨g, 2, none⟩ = some (.slice (some ⟨tb2, 0, none⟩) s2.to.length cap2) ∧ w'.cell? ⟨wr.heap.size, 0, none⟩ = some (.int .i64 c.kind) ∧ w'.cell? ⟨wr.heap.size, 1, none⟩ = some (.int .i64 c.num) ∧ w'.cell? ⟨wr.heap.size, 2, none⟩ = some (.int .i64 ma.tag) ∧ w'.cell? ⟨wr.heap.size, 3, none⟩ = some (.int .i64 ma.num) ∧ w'.cell? ⟨wr.heap.size, 4, none⟩ = some (.int .i64 mb.tag) ∧ w'.cell? ⟨wr.heap.size, 5, none⟩ = some (.int .i64 mb.num)) (by kernel_rfl) (by kernel_rfl) rfl HS (fun hHeld => ?_)
      simp only [killLast, killL]
      (refine wpAnyH_take (i := 0) (oi := _) (v := ?v400) rfl (by kernel_rfl) (by kernel_rfl) (by kernel_rfl) (fun _ _ _ h => h) (Or.inl ⟨by rfl, ?hy400⟩) hHeld ?rest400; (case hy400 => (intro w' hSw; obtain ⟨x0, x1, x2, x3, x4, x5, x6⟩ := hSw; (try simp only [List.getElem_toArray]); (try simp only [List.getElem_cons_succ]); (try simp only [List.getElem_cons_zero]); go_simp; rfl)); (try simp only [List.getElem_toArray]); (try simp only [List.getElem_cons_succ]); (try simp only [List.getElem_cons_zero]); (try simp only [Act.put]); (try simp only [List.setIfInBounds_toArray]); (try simp only [List.set_cons_succ]); (try simp only [List.set_cons_zero]))
      (refine wpAnyH_take (i := 1) (oi := _) (v := ?v401) rfl (by kernel_rfl) (by kernel_rfl) (by kernel_rfl) (fun _ _ _ h => h) (Or.inl ⟨by rfl, ?hy401⟩) hHeld ?rest401; (case hy401 => (intro w' hSw; obtain ⟨x0, x1, x2, x3, x4, x5, x6⟩ := hSw; (try simp only [List.getElem_toArray]); (try simp only [List.getElem_cons_succ]); (try simp only [List.getElem_cons_zero]); go_simp; rfl)); (try simp only [List.getElem_toArray]); (try simp only [List.getElem_cons_succ]); (try simp only [List.getElem_cons_zero]); (try simp only [Act.put]); (try simp only [List.setIfInBounds_toArray]); (try simp only [List.set_cons_succ]); (try simp only [List.set_cons_zero]))
      (refine wpAnyH_take (i := 2) (oi := _) (v := ?v402) rfl (by kernel_rfl) (by kernel_rfl) (by kernel_rfl) (fun _ _ _ h => h) (Or.inl ⟨by rfl, ?hy402⟩) hHeld ?rest402; (case hy402 => (intro w' hSw; obtain ⟨x0, x1, x2, x3, x4, x5, x6⟩ := hSw; (try simp only [List.getElem_toArray]); (try simp only [List.getElem_cons_succ]); (try simp only [List.getElem_cons_zero]); go_simp; rfl)); (try simp only [List.getElem_toArray]); (try simp only [List.getElem_cons_succ]); (try simp only [List.getElem_cons_zero]); (try simp only [Act.put]); (try simp only [List.setIfInBounds_toArray]); (try simp only [List.set_cons_succ]); (try simp only [List.set_cons_zero]))
      (refine wpAnyH_take (i := 3) (oi := _) (v := ?v403) rfl (by kernel_rfl) (by kernel_rfl) (by kernel_rfl) (fun _ _ _ h => h) (Or.inl ⟨by rfl, ?hy403⟩) hHeld ?rest403; (case hy403 => (intro w' hSw; obtain ⟨x0, x1, x2, x3, x4, x5, x6⟩ := hSw; (try simp only [List.getElem_toArray]); (try simp only [List.getElem_cons_succ]); (try simp only [List.getElem_cons_zero]); go_simp; rfl)); (try simp only [List.getElem_toArray]); (try simp only [List.getElem_cons_succ]); (try simp only [List.getElem_cons_zero]); (try simp only [Act.put]); (try simp only [List.setIfInBounds_toArray]); (try simp only [List.set_cons_succ]); (try simp only [List.set_cons_zero]))
      (refine wpAnyH_take (i := 4) (oi := _) (v := ?v404) rfl (by kernel_rfl) (by kernel_rfl) (by kernel_rfl) (fun _ _ _ h => h) (Or.inl ⟨by rfl, ?hy404⟩) hHeld ?rest404; (case hy404 => (intro w' hSw; obtain ⟨x0, x1, x2, x3, x4, x5, x6⟩ := hSw; (try simp only [List.getElem_toArray]); (try simp only [List.getElem_cons_succ]); (try simp only [List.getElem_cons_zero]); go_simp; rfl)); (try simp only [List.getElem_toArray]); (try simp only [List.getElem_cons_succ]); (try simp only [List.getElem_cons_zero]); (try simp only [Act.put]); (try simp only [List.setIfInBounds_toArray]); (try simp only [List.set_cons_succ]); (try simp only [List.set_cons_zero]))
      (refine wpAnyH_take (i := 5) (oi := _) (v := ?v405) rfl (by kernel_rfl) (by kernel_rfl) (by kernel_rfl) (fun _ _ _ h => h) (Or.inl ⟨by rfl, ?hy405⟩) hHeld ?rest405; (case hy405 => (intro w' hSw; obtain ⟨x0, x1, x2, x3, x4, x5, x6⟩ := hSw; (try simp only [List.getElem_toArray]); (try simp only [List.getElem_cons_succ]); (try simp only [List.getElem_cons_zero]); go_simp; rfl)); (try simp only [List.getElem_toArray]); (try simp only [List.getElem_cons_succ]); (try simp only [List.getElem_cons_zero]); (try simp only [Act.put]); (try simp only [List.setIfInBounds_toArray]); (try simp only [List.set_cons_succ]); (try simp only [List.set_cons_zero]))
      (refine wpAnyH_take (i := 6) (oi := _) (v := ?v406) rfl (by kernel_rfl) (by kernel_rfl) (by kernel_rfl) (fun _ _ _ h => h) (Or.inl ⟨by rfl, ?hy406⟩) hHeld ?rest406; (case hy406 => (intro w' hSw; obtain ⟨x0, x1, x2, x3, x4, x5, x6⟩ := hSw; (try simp only [List.getElem_toArray]); (try simp only [List.getElem_cons_succ]); (try simp only [List.getElem_cons_zero]); go_simp; rfl)); (try simp only [List.getElem_toArray]); (try simp only [List.getElem_cons_succ]); (try simp only [List.getElem_cons_zero]); (try simp only [Act.put]); (try simp only [List.setIfInBounds_toArray]); (try simp only [List.set_cons_succ]); (try simp only [List.set_cons_zero]))
      (refine wpAnyH_take (i := 7) (oi := _) (v := .bool true) rfl (by kernel_rfl) (by kernel_rfl) (by kernel_rfl) (fun _ _ _ h => h) (Or.inl ⟨by rfl, fun _ _ => by rfl⟩) hHeld ?_; (try simp only [List.getElem_toArray]); (try simp only [List.getElem_cons_succ]); (try simp only [List.getElem_cons_zero]); simp only [Act.put])
      refine wpAnyH_done (by kernel_rfl) ?_ _
      show Oper.wp _ _ _ _ _ _
      refine wp_store_mid 48 _ _ rfl tb2 (j * 6) #[.int .i64 c.kind, .int .i64 c.num, .int .i64 ma.tag, .int .i64 ma.num, .int .i64 mb.tag, .int .i64 mb.num] (by rfl) (by rfl) htA wlSize (by simp [Value.oneCell']) ?_
      go_wp2_with fail
      go_roundg (gk - 1)
      case measure => omega
      case rel => exact ⟨j + 1, _, _, by go_num, by omega, HL.out.trans HN'.out, hI2, hWS, hM5.trans ((Moved.ofBelow ((Below.refl _ _).drew)).trans hMS)⟩
    · have he : loopS fr gk s' j = s' := loopS_end hlt
      have HE : Hid (loopS fr (fr.length + 1) s b = s') := HL.out.trans he
      clear he HL
      obtain ⟨ta, tcap, rfl⟩ := wl_slice hW.ownT
      have hji : ¬ (j : Int) < (s'.to.length : Int) := by omega
      go_wp2_with fail
      go_end0
      exact ⟨rfl, _, by rw [HE.out]; exact hW, hM⟩
end Go.Proofs.YthikfinliiaecaaGreatDoor

