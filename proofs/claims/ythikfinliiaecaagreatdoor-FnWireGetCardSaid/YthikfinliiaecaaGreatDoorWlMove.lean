/-
  The program's worklist: come, whatever; the two closures of copyWords.
-/
import Derived.Test.YthikfinliiaecaaGreatDoorWlCome
namespace Go.Proofs.YthikfinliiaecaaGreatDoor
open Go.RowKit

theorem Moved.setNew {w w' : World} {g : Nat} {vt vt' vm : Value} (h : Moved w w' g vt vt' vm) {b o : Nat} (hb : w.heap.size ≤ b) (u : Value) : Moved w (w'.setCell ⟨b, o, none⟩ u) g vt vt' vm :=
  ⟨h.os, h.tape, h.output, by show _ ≤ (w'.heap.modify _ _).size; rw [Array.size_modify]; exact h.size,
    fun k hk h1 h2 h3 => (Below.heap_setCell _ _ _ _ (by show k ≠ b; omega)).trans (h.block k hk h1 h2 h3), h.new⟩
theorem Moved.pre {w w1 w' : World} {g : Nat} {vt vt' vm : Value} (hb : Below w.heap.size w w1) (h : Moved w1 w' g vt vt' vm) : Moved w w' g vt vt' vm := (Moved.ofBelow hb).trans h
theorem Moved.alloc {w w' : World} {g : Nat} {vt vt' vm : Value} (h : Moved w w' g vt vt' vm) (o : Obj) : Moved w (w'.alloc o) g vt vt' vm := h.trans (Moved.ofBelow (below_new w' o))
/-- A block that is none of the worklist's. -/
def Apart (b g : Nat) (vt vm : Value) : Prop := b ≠ g ∧ some b ≠ vt.ownBlock ∧ some b ≠ vm.ownBlock
theorem Moved.apart {w w' : World} {g b : Nat} {vt vt' vm : Value} (h : Moved w w' g vt vt' vm) (hb : b < w.heap.size) (ha : Apart b g vt vm) : Apart b g vt' vm := ⟨ha.1, h.new b hb ha.2.1, ha.2.2⟩
theorem Moved.cells {w w' : World} {g b : Nat} {vt vt' vm : Value} (h : Moved w w' g vt vt' vm) (hb : b < w.heap.size) (ha : Apart b g vt vm) : (∀ o, w'.cell? ⟨b, o, none⟩ = w.cell? ⟨b, o, none⟩) ∧ ∀ o, w'.frozen? ⟨b, o, none⟩ = w.frozen? ⟨b, o, none⟩ := by
  have := h.block b hb ha.1 ha.2.1 ha.2.2
  exact ⟨fun o => World.cell?_of_block (w := w) this, fun o => World.frozen?_of_block (w := w) this⟩

theorem getD_eq {α : Type} (l : List α) (i : Nat) (d : α) (h : i < l.length) : l.getD i d = l[i] := by rw [List.getD_eq_getElem?_getD, List.getElem?_eq_getElem h]; rfl
theorem come_eqs (fr : List Ce) (s : St) (p : Nat) (hp : p < s.mv.length) (hpf : p < fr.length) :
    (s.mv[p] < 0 → comeS fr s p = ⟨s.to ++ [fr[p]], s.mv.set p s.to.length⟩ ∧ placeS fr s p = s.to.length) ∧ (¬ s.mv[p] < 0 → comeS fr s p = s ∧ placeS fr s p = s.mv[p]) := by
  refine ⟨fun h => ?_, fun h => ?_⟩
  · have h1 : comeS fr s p = ⟨s.to ++ [fr[p]], s.mv.set p s.to.length⟩ := by rw [comeS, getD_eq _ _ _ hp, if_pos h, getD_eq _ _ _ hpf]
    refine ⟨h1, ?_⟩
    rw [placeS, h1, getD_eq _ _ _ (by simpa using hp)]
    simp
  · have h1 : comeS fr s p = s := by rw [comeS, getD_eq _ _ _ hp, if_neg h]
    exact ⟨h1, by rw [placeS, h1, getD_eq _ _ _ hp]⟩

theorem impl_come (b : Nat) (fr : List Ce) (s : St) (p : Nat) (hp : p < s.mv.length) (hpf : p < fr.length) (hto : s.to.length ≤ 1000) (w : World) (B g : Nat) (vf vt vm : Value) (h : WLi b w B g fr s vf vt vm) :
    Calls Tryz.prog 68 #[.pointer (some ⟨g, 0, none⟩), .int .i64 p] w fun r w' => CameR 48 3 111 (shW b) w w' B g fr (comeS fr s p) vf vt vm (.returned (.int .i64 (placeS fr s p))) r := by
  obtain ⟨h1, h2⟩ := come_eqs fr s p hp hpf
  by_cases hn : s.mv[p] < 0
  · obtain ⟨e1, e2⟩ := h1 hn
    rw [e1, e2]
    exact come_yes b fr s p hp hpf hto w B g vf vt vm hn h
  · obtain ⟨e1, e2⟩ := h2 hn
    rw [e1, e2]
    exact (come_no b fr s p hp w B g vf vt vm hn h).mono fun r w' ⟨hr, hw⟩ => by subst hw; exact ⟨hr, vt, h, Moved.refl⟩

/-- What the closures hold: where the worklist is, and the first closure. -/
abbrev moveV (pb : Nat) : Value := .func (.func 67) #[] #[.pointer (some ⟨pb, 0, none⟩)]
abbrev CameI (b : Nat) := CameR 48 3 111 (shW b)
theorem wl_two (w : World) (o1 o2 : Obj) : Below w.heap.size w ((w.alloc o1).alloc o2) := ((Below.refl _ _).alloc (Nat.le_refl _) o1).alloc (by simp) o2

set_option maxHeartbeats 1000000 in
theorem impl_move (b : Nat) (fr : List Ce) (s : St) (d : Wd) (hd : refOk fr.length d) (hmv : s.mv.length = fr.length) (hto : s.to.length ≤ 1000) (w : World) (B g pb : Nat) (vf vt vm : Value) (h : WLi b w B g fr s vf vt vm) (hpb : w.cell? ⟨pb, 0, none⟩ = some (.pointer (some ⟨g, 0, none⟩))) :
    Calls Tryz.prog 67 #[d.val, .pointer (some ⟨pb, 0, none⟩)] w fun r w' => CameI b w w' B g fr (moveS fr s d) vf vt vm (.returned (moveW fr s d).val) r := by
  have hpl : pb < w.heap.size := World.block_lt_of_cell? w _ hpb
  by_cases ht : d.tag = 4
  · obtain ⟨h0, h1⟩ := hd ht
    obtain ⟨p, hp⟩ : ∃ p : Nat, d.num = (p : Int) := ⟨d.num.toNat, by omega⟩
    have hpf : p < fr.length := by omega
    have e1 : moveS fr s d = comeS fr s p := by rw [moveS, if_pos ht, hp]; rfl
    have e2 : moveW fr s d = ⟨4, placeS fr s p⟩ := by rw [moveW, if_pos ht, hp]; rfl
    rw [e1, e2]
    have hv : d.val = .agg #[.int .i64 4, .int .i64 (p : Int)] := by show Value.agg _ = _; rw [ht, hp]
    rw [hv]
    have hc := impl_come b fr s p (by omega) hpf hto ((w.alloc (.cells #[.int .i64 4, .int .i64 (p : Int)] 26)).alloc (.cells #[.int .i64 0, .int .i64 0] 26)) B g vf vt vm (h.keep (wl_two w _ _))
    have hap := h.apart (Nat.le_refl w.heap.size)
    have hap2 := h.apart (Nat.le_succ w.heap.size)
    have hgB : B ≤ w.heap.size := by have := h.hB; have := h.lt; omega
    clear h e1 e2 hv h0 h1 hd
    go_enter Tryz.func67, Tryz.ntmps67
    go_wp2_with (go_at_call 68; refine hc.mono ?_; rintro r w2 ⟨rfl, vt2, hW2, hM2⟩; obtain ⟨k1, k2⟩ := hM2.cells (b := w.heap.size) (by simp; omega) hap; obtain ⟨k3, k4⟩ := hM2.cells (b := w.heap.size + 1) (by simp) hap2; have hz2 := hM2.size; simp at hz2)
    refine bodyPost_ret (v := .agg #[.int .i64 4, .int .i64 (placeS fr s p)]) (by simp [results, Tryz.results67, go_sem, k3]) rfl ⟨rfl, vt2, ?_, ?_⟩
    · have ha1 := hM2.apart (b := w.heap.size) (by simp; omega) hap
      have ha2 := hM2.apart (b := w.heap.size + 1) (by simp) hap2
      iterate 2 refine WL.setOther (b := w.heap.size + 1) ?_ (by omega) ha2.1 ha2.2.1 ha2.2.2
      refine WL.setOther (b := w.heap.size) ?_ (by omega) ha1.1 ha1.2.1 ha1.2.2
      exact hW2
    · exact Moved.setNew (Moved.setNew (Moved.setNew (Moved.pre (wl_two w _ _) hM2) (Nat.le_refl _) _) (Nat.le_succ _) _) (Nat.le_succ _) _
  · have e1 : moveS fr s d = s := by rw [moveS, if_neg ht]
    have e2 : moveW fr s d = d := by rw [moveW, if_neg ht]
    rw [e1, e2]
    have ht' : (d.tag == 4) = false := by simpa using ht
    go_enter Tryz.func67, Tryz.ntmps67
    go_wp2_with fail
    have hb : ∀ w', Below w.heap.size w w' → CameI b w w' B g fr s vf vt vm (.returned d.val) (.returned (.agg #[.int .i64 d.tag, .int .i64 d.num])) := fun w' hb => ⟨rfl, vt, h.keep hb, Moved.ofBelow hb⟩
    refine bodyPost_ret (v := .agg #[.int .i64 d.tag, .int .i64 d.num]) (by simp [results, Tryz.results67, go_sem]) rfl (hb _ ?_)
    repeat (refine Below.setCell ?_ (by dsimp only; omega) _)
    exact wl_two w _ _

/-- What the second closure does with a cell. -/
def cellM (fr : List Ce) (s : St) (c : Ce) : Ce := ⟨c.kind, c.num, moveW fr s c.a, moveW fr (moveS fr s c.a) c.b⟩

set_option maxHeartbeats 2000000 in
theorem impl_change (b : Nat) (fr : List Ce) (s : St) (c : Ce) (hA : refOk fr.length c.a) (hB' : refOk fr.length c.b) (hI : ∃ b' i, Inv fr b' i s ∧ b' + fr.length ≤ 1000) (hfr : ∀ c ∈ fr, refOk fr.length c.a ∧ refOk fr.length c.b) (w : World) (B g pb qb : Nat) (vf vt vm : Value) (h : WLi b w B g fr s vf vt vm)
    (hpb : w.cell? ⟨pb, 0, none⟩ = some (.pointer (some ⟨g, 0, none⟩))) (hqb : w.cell? ⟨qb, 0, none⟩ = some (moveV pb)) (hpa : Apart pb g vt vm) (hqa : Apart qb g vt vm) :
    Calls Tryz.prog 70 #[c.val, .pointer (some ⟨qb, 0, none⟩)] w fun r w' => CameI b w w' B g fr (moveS fr (moveS fr s c.a) c.b) vf vt vm (.returned (cellM fr s c).val) r := by
  have hpl : pb < w.heap.size := World.block_lt_of_cell? w _ hpb
  have hql : qb < w.heap.size := World.block_lt_of_cell? w _ hqb
  obtain ⟨b', i', hI, hb'⟩ := hI
  have hI2 := hI.move hfr hA
  have hap := h.apart (Nat.le_refl w.heap.size)
  have hap2 := h.apart (Nat.le_succ w.heap.size)
  have hgB : B ≤ w.heap.size := by have := h.hB; have := h.lt; omega
  have hh0 := h.keep (wl_two w (.cells #[.int .i64 c.kind, .int .i64 c.num, .int .i64 c.a.tag, .int .i64 c.a.num, .int .i64 c.b.tag, .int .i64 c.b.num] 48) (.cells #[.int .i64 0, .int .i64 0, .int .i64 0, .int .i64 0, .int .i64 0, .int .i64 0] 48))
  have hp0 : ((w.alloc (.cells #[.int .i64 c.kind, .int .i64 c.num, .int .i64 c.a.tag, .int .i64 c.a.num, .int .i64 c.b.tag, .int .i64 c.b.num] 48)).alloc (.cells #[.int .i64 0, .int .i64 0, .int .i64 0, .int .i64 0, .int .i64 0, .int .i64 0] 48)).cell? ⟨pb, 0, none⟩ = some (.pointer (some ⟨g, 0, none⟩)) := by rw [(wl_two w _ _).cell hpl]; exact hpb
  have hc1 := impl_move b fr s c.a hA hI.len (by have := hI.le; omega) _ B g pb vf vt vm hh0 hp0
  have hc2 : ∀ w2 vt2, WLi b w2 B g fr (moveS fr s c.a) vf vt2 vm → w2.cell? ⟨pb, 0, none⟩ = some (.pointer (some ⟨g, 0, none⟩)) → Calls Tryz.prog 67 #[c.b.val, .pointer (some ⟨pb, 0, none⟩)] w2 fun r w' => CameI b w2 w' B g fr (moveS fr (moveS fr s c.a) c.b) vf vt2 vm (.returned (moveW fr (moveS fr s c.a) c.b).val) r := fun w2 vt2 hw hp => impl_move b fr _ c.b hB' hI2.len (by have := hI2.le; omega) w2 B g pb vf vt2 vm hw hp
  clear hI hI2 hA hB' hfr
  obtain ⟨ma, hma⟩ : ∃ x, x = moveW fr s c.a := ⟨_, rfl⟩
  obtain ⟨mb, hmb⟩ : ∃ x, x = moveW fr (moveS fr s c.a) c.b := ⟨_, rfl⟩
  have HC : cellM fr s c = ⟨c.kind, c.num, ma, mb⟩ := by rw [cellM, hma, hmb]
  rw [HC]
  rw [← hma] at hc1
  rw [← hmb] at hc2
  clear HC hma hmb
  go_enter Tryz.func70, Tryz.ntmps70
  go_upto_region 2 with (go_at_call 67; refine hc1.mono ?_; rintro r w2 ⟨rfl, vt2, hW2, hM2⟩; obtain ⟨k1, k2⟩ := hM2.cells (b := w.heap.size) (by simp; omega) hap; obtain ⟨k3, k4⟩ := hM2.cells (b := w.heap.size + 1) (by simp) hap2; have hz2 := hM2.size; simp at hz2)
  have ha1 := hM2.apart (b := w.heap.size) (by simp; omega) hap
  have ha2 := hM2.apart (b := w.heap.size + 1) (by simp) hap2
  obtain ⟨kp, _⟩ := hM2.cells (b := pb) (by simp; omega) hpa
  obtain ⟨kq, _⟩ := hM2.cells (b := qb) (by simp; omega) hqa
  have hp2 := (kp 0).trans hp0
  have hq2 : w2.cell? ⟨qb, 0, none⟩ = some (moveV pb) := by rw [kq 0, (wl_two w _ _).cell hql]; exact hqb
  have hM2w := Moved.pre (wl_two w _ _) hM2
  clear kp kq hc1 hh0 hp0
  have hne1 : pb ≠ w.heap.size := by omega
  have hne2 : qb ≠ w.heap.size := by omega
  have hsz3 : ((w2.setCell ⟨w.heap.size, 2, none⟩ (.int .i64 ma.tag)).setCell ⟨w.heap.size, 3, none⟩ (.int .i64 ma.num)).heap.size = w2.heap.size := by simp [World.setCell]
  have hW3 : WLi b ((w2.setCell ⟨w.heap.size, 2, none⟩ (.int .i64 ma.tag)).setCell ⟨w.heap.size, 3, none⟩ (.int .i64 ma.num)) B g fr (moveS fr s c.a) vf vt2 vm := (hW2.setOther hgB ha1.1 ha1.2.1 ha1.2.2).setOther hgB ha1.1 ha1.2.1 ha1.2.2
  have hM3 : Moved w ((w2.setCell ⟨w.heap.size, 2, none⟩ (.int .i64 ma.tag)).setCell ⟨w.heap.size, 3, none⟩ (.int .i64 ma.num)) g vt vt2 vm := (hM2w.setNew (Nat.le_refl _) _).setNew (Nat.le_refl _) _
  have hp3 : ((w2.setCell ⟨w.heap.size, 2, none⟩ (.int .i64 ma.tag)).setCell ⟨w.heap.size, 3, none⟩ (.int .i64 ma.num)).cell? ⟨pb, 0, none⟩ = some (.pointer (some ⟨g, 0, none⟩)) := by
    rw [World.cell?_of_block (w := w2) ((Below.heap_setCell _ _ _ _ hne1).trans (Below.heap_setCell _ _ _ _ hne1))]; exact hp2
  have hq3 : ((w2.setCell ⟨w.heap.size, 2, none⟩ (.int .i64 ma.tag)).setCell ⟨w.heap.size, 3, none⟩ (.int .i64 ma.num)).cell? ⟨qb, 0, none⟩ = some (moveV pb) := by
    rw [World.cell?_of_block (w := w2) ((Below.heap_setCell _ _ _ _ hne2).trans (Below.heap_setCell _ _ _ _ hne2))]; exact hq2
  have hc3 := hc2 _ _ hW3 hp3
  clear hc2 hW2 hM2 hM2w
  go_upto_region 3 with (go_at_call 67; refine hc3.mono ?_; rintro r w4 ⟨rfl, vt4, hW4, hM4⟩; obtain ⟨k5, k6⟩ := hM4.cells (b := w.heap.size) (by rw [hsz3]; omega) ha1; obtain ⟨k7, k8⟩ := hM4.cells (b := w.heap.size + 1) (by rw [hsz3]; omega) ha2; have hz4 := hM4.size; rw [hsz3] at hz4)
  have ha5 := hM4.apart (b := w.heap.size) (by rw [hsz3]; omega) ha1
  have ha6 := hM4.apart (b := w.heap.size + 1) (by rw [hsz3]; omega) ha2
  have hM4w := hM3.trans hM4
  clear hc3 hW3 hM3 hM4
  go_wp2_with fail
  refine bodyPost_ret (v := (Ce.mk c.kind c.num ma mb).val) (by simp [results, Tryz.results70, go_sem, k3, k7]) rfl ⟨rfl, vt4, ?_, ?_⟩
  · iterate 6 refine WL.setOther (b := w.heap.size + 1) ?_ (by omega) ha6.1 ha6.2.1 ha6.2.2
    iterate 2 refine WL.setOther (b := w.heap.size) ?_ (by omega) ha5.1 ha5.2.1 ha5.2.2
    exact hW4
  · iterate 6 refine Moved.setNew (b := w.heap.size + 1) ?_ (Nat.le_succ _) _
    iterate 2 refine Moved.setNew (b := w.heap.size) ?_ (Nat.le_refl _) _
    exact hM4w
end Go.Proofs.YthikfinliiaecaaGreatDoor

