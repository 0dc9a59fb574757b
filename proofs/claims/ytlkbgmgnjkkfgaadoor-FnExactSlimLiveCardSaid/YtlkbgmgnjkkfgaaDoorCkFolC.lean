/-
  The program's follow: ends; two ways.
-/
import Derived.Test.YtlkbgmgnjkkfgaaDoorCkAss
namespace Go.Proofs.YtlkbgmgnjkkfgaaDoor
open Go.RowKit

theorem CW.box {w w1 w' : World} {B g : Nat} {ops : List Wd} {vl vt vq vq' : Value} {S : Tq} (h : CW w B g ops vl S vt vq) (hM : Mv w1 w' g vt vq vq') (k : Nat) (h1 : w.heap.size ≤ k) (h2 : k < w1.heap.size) : w'.heap[k]? = w1.heap[k]? := by
  have := h.lt
  refine hM.block k h2 (by omega) (fun e => ?_) (fun e => ?_)
  · have := (h.tab.lt k e.symm).2; omega
  · have := (h.qlt k e.symm).2; omega
theorem LedR.preM {w w2 w' : World} {B g : Nat} {ops : List Wd} {vl vt vq vq1 : Value} {o : Option Tq} {r : Ending} (h : LedR w2 w' B g ops vl vt vq1 o r) (hM : Mv w w2 g vt vq vq1) : LedR w w' B g ops vl vt vq o r := by
  cases o with
  | none => exact ⟨h.1, _, hM.trans h.2.choose_spec⟩
  | some S' => exact ⟨h.1, _, h.2.choose_spec.1, hM.trans h.2.choose_spec.2⟩
theorem CW.boxSet {w w1 w' : World} {B g : Nat} {ops : List Wd} {vl vt vq vq' : Value} {S S1 : Tq} (h : CW w B g ops vl S vt vq) (hb : Below w.heap.size w w1) (hC : CW w' B g ops vl S1 vt vq') (hM : Mv w1 w' g vt vq vq') (k o : Nat) (h1 : w.heap.size ≤ k) (h2 : k < w1.heap.size) (x : Value) :
    CW (w'.setCell ⟨k, o, none⟩ x) B g ops vl S1 vt vq' ∧ Mv w (w'.setCell ⟨k, o, none⟩ x) g vt vq vq' := by
  have hg := h.lt
  have hB := h.hB
  have hz : (w'.setCell ⟨k, o, none⟩ x).heap.size = w'.heap.size := by simp [World.setCell]
  have hs : ∀ i, i ≠ k → (w'.setCell ⟨k, o, none⟩ x).heap[i]? = w'.heap[i]? := fun i hi => Below.heap_setCell _ _ _ _ hi
  have hqk : some k ≠ qB vq' := hM.new k h2 (fun e => by have := (h.qlt k e.symm).2; omega)
  have hMM := (Mv.ofBelow (g := g) (vt := vt) (vq := vq) hb).trans hM
  refine ⟨hC.same (by omega) fun i hi hc => hs i (fun e => ?_), ⟨hMM.os, hMM.tape, hMM.output, by have := hMM.size; omega, fun i hi a b c => by rw [hs i (by omega)]; exact hMM.block i hi a b c, hMM.new⟩⟩
  subst e
  rcases hc with e | e | e | e
  · omega
  · omega
  · have := (h.tab.lt i e.symm).2; omega
  · exact hqk e
theorem CW.boxMv {w w1 w' : World} {B g : Nat} {ops : List Wd} {vl vt vq vq' : Value} {S : Tq} (_h : CW w B g ops vl S vt vq) (hb : Below w.heap.size w w1) (hM : Mv w1 w' g vt vq vq') (k o : Nat) (h1 : w.heap.size ≤ k) (x : Value) :
    Mv w (w'.setCell ⟨k, o, none⟩ x) g vt vq vq' := by
  have hz : (w'.setCell ⟨k, o, none⟩ x).heap.size = w'.heap.size := by simp [World.setCell]
  have hs : ∀ i, i ≠ k → (w'.setCell ⟨k, o, none⟩ x).heap[i]? = w'.heap[i]? := fun i hi => Below.heap_setCell _ _ _ _ hi
  have hMM := (Mv.ofBelow (g := g) (vt := vt) (vq := vq) hb).trans hM
  exact ⟨hMM.os, hMM.tape, hMM.output, by have := hMM.size; omega, fun i hi a b c => by rw [hs i (by omega)]; exact hMM.block i hi a b c, hMM.new⟩
theorem leadQ_size {S S' : Tq} {x : Nat × Sd} (h : leadQ S x = some S') : S'.1.length = S.1.length ∧ S'.2.length ≤ S.2.length + 1 := by
  unfold leadQ at h
  split at h
  · cases h
  · split at h
    · split at h
      · cases h
        exact ⟨rfl, by omega⟩
      · cases h
    · cases h
      simp
set_option maxHeartbeats 2000000 in
theorem follow_giveOp (ops : List Wd) (S : Tq) (k : Nat) (s : Sd) (w : World) (B g : Nat) (vl vt vq : Value) (h : CW w B g ops vl S vt vq) (hl : S.1.length = ops.length) (hk : S.1.getD k none = some s) (hkl : k < ops.length) (hlen : ops.length ≤ 200) (_hq : S.2.length ≤ 900) (hn : 0 ≤ s.n ∧ s.n ≤ 1000) (hvm : s.v ≤ 1000)
    (hT : 1 ≤ (ops.getD k op0).tag ∧ (ops.getD k op0).tag ≤ 24) (hv : ¬ s.v < takesM (ops.getD k op0).tag) (hTd : deedT (ops.getD k op0).tag = 84) (hnu : s.v = 1) :
    Calls Tryd.prog 32 #[.pointer (some ⟨g, 0, none⟩), .int .i64 (k : Int)] w fun r w' => LedR w w' B g ops vl vt vq (some S) r := by
  obtain ⟨lb, loff, lcap, tb, tcap, rfl, rfl, ff⟩ := h.ff hl hk hkl
  obtain ⟨n, v⟩ := s
  have hD := fun w => trade_kind (ops.getD k op0).tag (ops.getD k op0).num w hT
  have hE := fun w => deed_kind (ops.getD k op0).tag (ops.getD k op0).num w hT
  rw [hTd] at hE
  have htk := takes_le (ops.getD k op0).tag
  have as_nameOp := fun w => as_giveOp_nameOp (ops.getD k op0).tag (ops.getD k op0).num w
  have as_makeOp := fun w => as_giveOp_makeOp (ops.getD k op0).tag (ops.getD k op0).num w
  have as_bindOp := fun w => as_giveOp_bindOp (ops.getD k op0).tag (ops.getD k op0).num w
  have as_dropOp := fun w => as_giveOp_dropOp (ops.getD k op0).tag (ops.getD k op0).num w
  have as_ifOp := fun w => as_giveOp_ifOp (ops.getD k op0).tag (ops.getD k op0).num w
  have as_caseOp := fun w => as_giveOp_caseOp (ops.getD k op0).tag (ops.getD k op0).num w
  have as_goOp := fun w => as_giveOp_goOp (ops.getD k op0).tag (ops.getD k op0).num w
  have as_giveOp := fun w => as_giveOp_giveOp (ops.getD k op0).tag (ops.getD k op0).num w
  generalize (ops.getD k op0).tag = tag at *
  generalize (ops.getD k op0).num = num at *
  generalize takesM tag = tk at *
  generalize putsM tag = pt at *
  simp only at ff hv hn hvm hnu ⊢
  obtain ⟨ht0, ht1, ht2, ht3⟩ := htk
  have wr1 : IntKind.i64.wrap (v - tk) = v - tk := ck_wr _ (by omega) (by omega)
  have wr2 : IntKind.i64.wrap (v - tk + pt) = v - tk + pt := ck_wr _ (by omega) (by omega)
  have wr3 : IntKind.i64.wrap ((k : Int) + 1) = (k : Int) + 1 := ck_wr _ (by omega) (by omega)
  obtain ⟨c0, c1, d0, d1, d2, e0, e1, gl, tl, ll⟩ := ff.keep ((Below.refl _ _).alloc (Nat.le_refl _) (.cells #[.bool true, .int .i64 n, .int .i64 v] 71))
  have hff : Hid (FF w g k ops.length lb loff lcap tb tcap tag num n v) := ff
  obtain ⟨c0', c1', d0', d1', d2', e0', e1', gl', tl', ll'⟩ := ff
  have hki : (k : Int) < (ops.length : Int) := by omega
  have hh : Hid (CW w B g ops (.slice (some ⟨lb, loff, none⟩) ops.length lcap) S (.slice (some ⟨tb, 0, none⟩) ops.length tcap) vq) := h
  have hl' : Hid (S.1.length = ops.length) := hl
  have hb1 : Hid ((v == 1) = true) := by rw [hnu]; rfl
  clear hnu
  clear h hl hk hT hTd
  go_enter Tryd.func32, Tryd.ntmps32
  go_wp2_with (first
    | (go_at_call 33; refine (hD _).mono ?_; rintro r w2 ⟨rfl, hb2⟩; obtain ⟨x0, x1, x2, xf, xl, hb3⟩ := box3 hb2; have ff2 := hff.out.keep hb3; obtain ⟨c0, c1, d0, d1, d2, e0, e1, gl, tl, ll⟩ := ff2.keep ((Below.refl _ _).alloc (Nat.le_refl _) (.cells #[.bool false, .int .i64 n, .int .i64 (v - tk + pt)] 71)); obtain ⟨c0', c1', d0', d1', d2', e0', e1', gl', tl', ll'⟩ := ff2)
    | (go_at_call 30; refine (hE _).mono ?_; rintro r w4 ⟨rfl, hb4⟩; obtain ⟨y0, y1, y2, yf, yl, hb5⟩ := box3 hb4; have hbx := hb5.block w.heap.size xl; have z0 := (World.cell?_of_block (a := ⟨w.heap.size, 0, none⟩) hbx).trans x0; have z1 := (World.cell?_of_block (a := ⟨w.heap.size, 1, none⟩) hbx).trans x1; have z2 := (World.cell?_of_block (a := ⟨w.heap.size, 2, none⟩) hbx).trans x2; have hb6 : Below w.heap.size w w4 := hb3.trans (hb5.mono hb3.size); have f1 := yf 1; have zl : w.heap.size < w4.heap.size := (by omega); have ne1 : w2.heap.size ≠ w4.heap.size := (by omega); have ne2 : w4.heap.size ≠ w2.heap.size := (by omega); clear xf yf))
  go_ret
  refine ⟨?_, _, hh.out.keep (by first | exact hb6 | exact hb6.alloc hb6.size _ | exact (hb6.setCell (Nat.le_of_lt xl) _).alloc (hb6.setCell (Nat.le_of_lt xl) _).size _), Mv.ofBelow (by first | exact hb6 | exact hb6.alloc hb6.size _ | exact (hb6.setCell (Nat.le_of_lt xl) _).alloc (hb6.setCell (Nat.le_of_lt xl) _).size _)⟩
  show Ending.returned (.bool (v == 1)) = _
  rw [hb1.out]
set_option maxHeartbeats 2000000 in
theorem follow_giveOp_no (ops : List Wd) (S : Tq) (k : Nat) (s : Sd) (w : World) (B g : Nat) (vl vt vq : Value) (h : CW w B g ops vl S vt vq) (hl : S.1.length = ops.length) (hk : S.1.getD k none = some s) (hkl : k < ops.length) (hlen : ops.length ≤ 200) (_hq : S.2.length ≤ 900) (hn : 0 ≤ s.n ∧ s.n ≤ 1000) (hvm : s.v ≤ 1000)
    (hT : 1 ≤ (ops.getD k op0).tag ∧ (ops.getD k op0).tag ≤ 24) (hv : ¬ s.v < takesM (ops.getD k op0).tag) (hTd : deedT (ops.getD k op0).tag = 84) (hnu : ¬ s.v = 1) :
    Calls Tryd.prog 32 #[.pointer (some ⟨g, 0, none⟩), .int .i64 (k : Int)] w fun r w' => LedR w w' B g ops vl vt vq (none) r := by
  obtain ⟨lb, loff, lcap, tb, tcap, rfl, rfl, ff⟩ := h.ff hl hk hkl
  obtain ⟨n, v⟩ := s
  have hD := fun w => trade_kind (ops.getD k op0).tag (ops.getD k op0).num w hT
  have hE := fun w => deed_kind (ops.getD k op0).tag (ops.getD k op0).num w hT
  rw [hTd] at hE
  have htk := takes_le (ops.getD k op0).tag
  have as_nameOp := fun w => as_giveOp_nameOp (ops.getD k op0).tag (ops.getD k op0).num w
  have as_makeOp := fun w => as_giveOp_makeOp (ops.getD k op0).tag (ops.getD k op0).num w
  have as_bindOp := fun w => as_giveOp_bindOp (ops.getD k op0).tag (ops.getD k op0).num w
  have as_dropOp := fun w => as_giveOp_dropOp (ops.getD k op0).tag (ops.getD k op0).num w
  have as_ifOp := fun w => as_giveOp_ifOp (ops.getD k op0).tag (ops.getD k op0).num w
  have as_caseOp := fun w => as_giveOp_caseOp (ops.getD k op0).tag (ops.getD k op0).num w
  have as_goOp := fun w => as_giveOp_goOp (ops.getD k op0).tag (ops.getD k op0).num w
  have as_giveOp := fun w => as_giveOp_giveOp (ops.getD k op0).tag (ops.getD k op0).num w
  generalize (ops.getD k op0).tag = tag at *
  generalize (ops.getD k op0).num = num at *
  generalize takesM tag = tk at *
  generalize putsM tag = pt at *
  simp only at ff hv hn hvm hnu ⊢
  obtain ⟨ht0, ht1, ht2, ht3⟩ := htk
  have wr1 : IntKind.i64.wrap (v - tk) = v - tk := ck_wr _ (by omega) (by omega)
  have wr2 : IntKind.i64.wrap (v - tk + pt) = v - tk + pt := ck_wr _ (by omega) (by omega)
  have wr3 : IntKind.i64.wrap ((k : Int) + 1) = (k : Int) + 1 := ck_wr _ (by omega) (by omega)
  obtain ⟨c0, c1, d0, d1, d2, e0, e1, gl, tl, ll⟩ := ff.keep ((Below.refl _ _).alloc (Nat.le_refl _) (.cells #[.bool true, .int .i64 n, .int .i64 v] 71))
  have hff : Hid (FF w g k ops.length lb loff lcap tb tcap tag num n v) := ff
  obtain ⟨c0', c1', d0', d1', d2', e0', e1', gl', tl', ll'⟩ := ff
  have hki : (k : Int) < (ops.length : Int) := by omega
  have hh : Hid (CW w B g ops (.slice (some ⟨lb, loff, none⟩) ops.length lcap) S (.slice (some ⟨tb, 0, none⟩) ops.length tcap) vq) := h
  have hl' : Hid (S.1.length = ops.length) := hl
  have hb1 : Hid ((v == 1) = false) := (show (v == 1) = false by simpa using hnu)
  clear hnu
  clear h hl hk hT hTd
  go_enter Tryd.func32, Tryd.ntmps32
  go_wp2_with (first
    | (go_at_call 33; refine (hD _).mono ?_; rintro r w2 ⟨rfl, hb2⟩; obtain ⟨x0, x1, x2, xf, xl, hb3⟩ := box3 hb2; have ff2 := hff.out.keep hb3; obtain ⟨c0, c1, d0, d1, d2, e0, e1, gl, tl, ll⟩ := ff2.keep ((Below.refl _ _).alloc (Nat.le_refl _) (.cells #[.bool false, .int .i64 n, .int .i64 (v - tk + pt)] 71)); obtain ⟨c0', c1', d0', d1', d2', e0', e1', gl', tl', ll'⟩ := ff2)
    | (go_at_call 30; refine (hE _).mono ?_; rintro r w4 ⟨rfl, hb4⟩; obtain ⟨y0, y1, y2, yf, yl, hb5⟩ := box3 hb4; have hbx := hb5.block w.heap.size xl; have z0 := (World.cell?_of_block (a := ⟨w.heap.size, 0, none⟩) hbx).trans x0; have z1 := (World.cell?_of_block (a := ⟨w.heap.size, 1, none⟩) hbx).trans x1; have z2 := (World.cell?_of_block (a := ⟨w.heap.size, 2, none⟩) hbx).trans x2; have hb6 : Below w.heap.size w w4 := hb3.trans (hb5.mono hb3.size); have f1 := yf 1; have zl : w.heap.size < w4.heap.size := (by omega); have ne1 : w2.heap.size ≠ w4.heap.size := (by omega); have ne2 : w4.heap.size ≠ w2.heap.size := (by omega); clear xf yf))
  go_ret
  refine ⟨?_, _, Mv.ofBelow (by first | exact hb6 | exact hb6.alloc hb6.size _ | exact (hb6.setCell (Nat.le_of_lt xl) _).alloc (hb6.setCell (Nat.le_of_lt xl) _).size _)⟩
  show Ending.returned (.bool (v == 1)) = _
  rw [hb1.out]
set_option maxHeartbeats 2000000 in
theorem follow_ifOp_no (ops : List Wd) (S : Tq) (k : Nat) (s : Sd) (w : World) (B g : Nat) (vl vt vq : Value) (h : CW w B g ops vl S vt vq) (hl : S.1.length = ops.length) (hk : S.1.getD k none = some s) (hkl : k < ops.length) (hlen : ops.length ≤ 200) (hq : S.2.length ≤ 900) (hn : 0 ≤ s.n ∧ s.n ≤ 1000) (hvm : s.v ≤ 1000)
    (hT : 1 ≤ (ops.getD k op0).tag ∧ (ops.getD k op0).tag ≤ 24) (hv : ¬ s.v < takesM (ops.getD k op0).tag) (hTd : deedT (ops.getD k op0).tag = 74) (hnu : 0 ≤ (ops.getD k op0).num ∧ (ops.getD k op0).num ≤ 1000) (ho : leadQ S ((ops.getD k op0).num.toNat, ⟨s.n, s.v - takesM (ops.getD k op0).tag + putsM (ops.getD k op0).tag⟩) = none) :
    Calls Tryd.prog 32 #[.pointer (some ⟨g, 0, none⟩), .int .i64 (k : Int)] w fun r w' => LedR w w' B g ops vl vt vq (none) r := by
  obtain ⟨lb, loff, lcap, tb, tcap, rfl, rfl, ff⟩ := h.ff hl hk hkl
  obtain ⟨n, v⟩ := s
  have hD := fun w => trade_kind (ops.getD k op0).tag (ops.getD k op0).num w hT
  have hE := fun w => deed_kind (ops.getD k op0).tag (ops.getD k op0).num w hT
  rw [hTd] at hE
  have htk := takes_le (ops.getD k op0).tag
  have as_nameOp := fun w => as_ifOp_nameOp (ops.getD k op0).tag (ops.getD k op0).num w
  have as_makeOp := fun w => as_ifOp_makeOp (ops.getD k op0).tag (ops.getD k op0).num w
  have as_bindOp := fun w => as_ifOp_bindOp (ops.getD k op0).tag (ops.getD k op0).num w
  have as_dropOp := fun w => as_ifOp_dropOp (ops.getD k op0).tag (ops.getD k op0).num w
  have as_ifOp := fun w => as_ifOp_ifOp (ops.getD k op0).tag (ops.getD k op0).num w
  generalize (ops.getD k op0).tag = tag at *
  generalize (ops.getD k op0).num = num at *
  generalize takesM tag = tk at *
  generalize putsM tag = pt at *
  simp only at ff hv hn hvm hnu ho ⊢
  obtain ⟨ht0, ht1, ht2, ht3⟩ := htk
  have wr1 : IntKind.i64.wrap (v - tk) = v - tk := ck_wr _ (by omega) (by omega)
  have wr2 : IntKind.i64.wrap (v - tk + pt) = v - tk + pt := ck_wr _ (by omega) (by omega)
  have wr3 : IntKind.i64.wrap ((k : Int) + 1) = (k : Int) + 1 := ck_wr _ (by omega) (by omega)
  have hho : Hid (leadQ S (num.toNat, ⟨n, v - tk + pt⟩) = none) := ho
  clear ho
  obtain ⟨c0, c1, d0, d1, d2, e0, e1, gl, tl, ll⟩ := ff.keep ((Below.refl _ _).alloc (Nat.le_refl _) (.cells #[.bool true, .int .i64 n, .int .i64 v] 71))
  have hff : Hid (FF w g k ops.length lb loff lcap tb tcap tag num n v) := ff
  obtain ⟨c0', c1', d0', d1', d2', e0', e1', gl', tl', ll'⟩ := ff
  have hki : (k : Int) < (ops.length : Int) := by omega
  have hh : Hid (CW w B g ops (.slice (some ⟨lb, loff, none⟩) ops.length lcap) S (.slice (some ⟨tb, 0, none⟩) ops.length tcap) vq) := h
  have hl' : Hid (S.1.length = ops.length) := hl
  clear h hl hk hT hTd
  go_enter Tryd.func32, Tryd.ntmps32
  go_wp2_with (first
    | (go_at_call 33; refine (hD _).mono ?_; rintro r w2 ⟨rfl, hb2⟩; obtain ⟨x0, x1, x2, xf, xl, hb3⟩ := box3 hb2; have ff2 := hff.out.keep hb3; obtain ⟨c0, c1, d0, d1, d2, e0, e1, gl, tl, ll⟩ := ff2.keep ((Below.refl _ _).alloc (Nat.le_refl _) (.cells #[.bool false, .int .i64 n, .int .i64 (v - tk + pt)] 71)); obtain ⟨c0', c1', d0', d1', d2', e0', e1', gl', tl', ll'⟩ := ff2)
    | (go_at_call 30; refine (hE _).mono ?_; rintro r w4 ⟨rfl, hb4⟩; obtain ⟨y0, y1, y2, yf, yl, hb5⟩ := box3 hb4; have hbx := hb5.block w.heap.size xl; have z0 := (World.cell?_of_block (a := ⟨w.heap.size, 0, none⟩) hbx).trans x0; have z1 := (World.cell?_of_block (a := ⟨w.heap.size, 1, none⟩) hbx).trans x1; have z2 := (World.cell?_of_block (a := ⟨w.heap.size, 2, none⟩) hbx).trans x2; have hb6 : Below w.heap.size w w4 := hb3.trans (hb5.mono hb3.size); have f1 := yf 1; have zl : w.heap.size < w4.heap.size := (by omega); have ne1 : w2.heap.size ≠ w4.heap.size := (by omega); have ne2 : w4.heap.size ≠ w2.heap.size := (by omega); clear xf yf)
    | (go_at_call 31; refine (leadsI ops S num.toNat _ (by omega) ⟨n, v - tk + pt⟩ _ B g _ _ vq (hh.out.keep (by first | exact hb6 | exact hb6.alloc hb6.size _ | exact (hb6.setCell (Nat.le_of_lt xl) _).alloc (hb6.setCell (Nat.le_of_lt xl) _).size _)) hl'.out (by omega)).mono ?_; rintro r w7 hL; rw [hho.out] at hL; obtain ⟨rfl, vq1, hM1⟩ := hL; have hMM : Hid (Mv w w7 g _ vq vq1) := (Mv.ofBelow (by first | exact hb6 | exact hb6.alloc hb6.size _ | exact (hb6.setCell (Nat.le_of_lt xl) _).alloc (hb6.setCell (Nat.le_of_lt xl) _).size _)).trans hM1; have hbk := (CW.box hh.out hM1 w2.heap.size (Nat.le_of_lt xl) (by simp; omega)).trans (((Below.refl w4.heap.size w4).alloc (Nat.le_refl _) _).block w2.heap.size yl); have u0 := (World.cell?_of_block (a := ⟨w2.heap.size, 0, none⟩) hbk).trans y0; have u1 := (World.cell?_of_block (a := ⟨w2.heap.size, 1, none⟩) hbk).trans y1; have u2 := (World.cell?_of_block (a := ⟨w2.heap.size, 2, none⟩) hbk).trans y2; have u3 := (World.frozen?_of_block (a := ⟨w2.heap.size, 1, none⟩) hbk).trans f1; have hz7 := hM1.size; clear hM1))
  go_ret
  exact ⟨rfl, _, hMM.out⟩
set_option maxHeartbeats 2000000 in
theorem follow_ifOp (ops : List Wd) (S : Tq) (k : Nat) (s : Sd) (w : World) (B g : Nat) (vl vt vq : Value) (h : CW w B g ops vl S vt vq) (hl : S.1.length = ops.length) (hk : S.1.getD k none = some s) (hkl : k < ops.length) (hlen : ops.length ≤ 200) (hq : S.2.length ≤ 900) (hn : 0 ≤ s.n ∧ s.n ≤ 1000) (hvm : s.v ≤ 1000)
    (hT : 1 ≤ (ops.getD k op0).tag ∧ (ops.getD k op0).tag ≤ 24) (hv : ¬ s.v < takesM (ops.getD k op0).tag) (hTd : deedT (ops.getD k op0).tag = 74) (hnu : 0 ≤ (ops.getD k op0).num ∧ (ops.getD k op0).num ≤ 1000) (S1 : Tq) (ho : leadQ S ((ops.getD k op0).num.toNat, ⟨s.n, s.v - takesM (ops.getD k op0).tag + putsM (ops.getD k op0).tag⟩) = some S1) :
    Calls Tryd.prog 32 #[.pointer (some ⟨g, 0, none⟩), .int .i64 (k : Int)] w fun r w' => LedR w w' B g ops vl vt vq (leadQ S1 (k + 1, ⟨s.n, s.v - takesM (ops.getD k op0).tag + putsM (ops.getD k op0).tag⟩)) r := by
  obtain ⟨lb, loff, lcap, tb, tcap, rfl, rfl, ff⟩ := h.ff hl hk hkl
  obtain ⟨n, v⟩ := s
  have hD := fun w => trade_kind (ops.getD k op0).tag (ops.getD k op0).num w hT
  have hE := fun w => deed_kind (ops.getD k op0).tag (ops.getD k op0).num w hT
  rw [hTd] at hE
  have htk := takes_le (ops.getD k op0).tag
  have as_nameOp := fun w => as_ifOp_nameOp (ops.getD k op0).tag (ops.getD k op0).num w
  have as_makeOp := fun w => as_ifOp_makeOp (ops.getD k op0).tag (ops.getD k op0).num w
  have as_bindOp := fun w => as_ifOp_bindOp (ops.getD k op0).tag (ops.getD k op0).num w
  have as_dropOp := fun w => as_ifOp_dropOp (ops.getD k op0).tag (ops.getD k op0).num w
  have as_ifOp := fun w => as_ifOp_ifOp (ops.getD k op0).tag (ops.getD k op0).num w
  generalize (ops.getD k op0).tag = tag at *
  generalize (ops.getD k op0).num = num at *
  generalize takesM tag = tk at *
  generalize putsM tag = pt at *
  simp only at ff hv hn hvm hnu ho ⊢
  obtain ⟨ht0, ht1, ht2, ht3⟩ := htk
  have wr1 : IntKind.i64.wrap (v - tk) = v - tk := ck_wr _ (by omega) (by omega)
  have wr2 : IntKind.i64.wrap (v - tk + pt) = v - tk + pt := ck_wr _ (by omega) (by omega)
  have wr3 : IntKind.i64.wrap ((k : Int) + 1) = (k : Int) + 1 := ck_wr _ (by omega) (by omega)
  have hz1 := leadQ_size ho
  have hS1 : Hid (S1.1.length = ops.length) := hz1.1.trans hl
  have hS2 := hz1.2
  clear hz1
  have hho : Hid (leadQ S (num.toNat, ⟨n, v - tk + pt⟩) = some S1) := ho
  clear ho
  obtain ⟨c0, c1, d0, d1, d2, e0, e1, gl, tl, ll⟩ := ff.keep ((Below.refl _ _).alloc (Nat.le_refl _) (.cells #[.bool true, .int .i64 n, .int .i64 v] 71))
  have hff : Hid (FF w g k ops.length lb loff lcap tb tcap tag num n v) := ff
  obtain ⟨c0', c1', d0', d1', d2', e0', e1', gl', tl', ll'⟩ := ff
  have hki : (k : Int) < (ops.length : Int) := by omega
  have hh : Hid (CW w B g ops (.slice (some ⟨lb, loff, none⟩) ops.length lcap) S (.slice (some ⟨tb, 0, none⟩) ops.length tcap) vq) := h
  have hl' : Hid (S.1.length = ops.length) := hl
  clear h hl hk hT hTd
  go_enter Tryd.func32, Tryd.ntmps32
  go_wp2_with (first
    | (go_at_call 33; refine (hD _).mono ?_; rintro r w2 ⟨rfl, hb2⟩; obtain ⟨x0, x1, x2, xf, xl, hb3⟩ := box3 hb2; have ff2 := hff.out.keep hb3; obtain ⟨c0, c1, d0, d1, d2, e0, e1, gl, tl, ll⟩ := ff2.keep ((Below.refl _ _).alloc (Nat.le_refl _) (.cells #[.bool false, .int .i64 n, .int .i64 (v - tk + pt)] 71)); obtain ⟨c0', c1', d0', d1', d2', e0', e1', gl', tl', ll'⟩ := ff2)
    | (go_at_call 30; refine (hE _).mono ?_; rintro r w4 ⟨rfl, hb4⟩; obtain ⟨y0, y1, y2, yf, yl, hb5⟩ := box3 hb4; have hbx := hb5.block w.heap.size xl; have z0 := (World.cell?_of_block (a := ⟨w.heap.size, 0, none⟩) hbx).trans x0; have z1 := (World.cell?_of_block (a := ⟨w.heap.size, 1, none⟩) hbx).trans x1; have z2 := (World.cell?_of_block (a := ⟨w.heap.size, 2, none⟩) hbx).trans x2; have hb6 : Below w.heap.size w w4 := hb3.trans (hb5.mono hb3.size); have f1 := yf 1; have zl : w.heap.size < w4.heap.size := (by omega); have ne1 : w2.heap.size ≠ w4.heap.size := (by omega); have ne2 : w4.heap.size ≠ w2.heap.size := (by omega); clear xf yf)
    | (go_at_call 31; refine (leadsI ops S num.toNat _ (by omega) ⟨n, v - tk + pt⟩ _ B g _ _ vq (hh.out.keep (by first | exact hb6 | exact hb6.alloc hb6.size _ | exact (hb6.setCell (Nat.le_of_lt xl) _).alloc (hb6.setCell (Nat.le_of_lt xl) _).size _)) hl'.out (by omega)).mono ?_; rintro r w7 hL; rw [hho.out] at hL; obtain ⟨rfl, vq1, hC1, hM1⟩ := hL; have hbk := (CW.box hh.out hM1 w2.heap.size (Nat.le_of_lt xl) (by simp; omega)).trans (((Below.refl w4.heap.size w4).alloc (Nat.le_refl _) _).block w2.heap.size yl); have u0 := (World.cell?_of_block (a := ⟨w2.heap.size, 0, none⟩) hbk).trans y0; have u1 := (World.cell?_of_block (a := ⟨w2.heap.size, 1, none⟩) hbk).trans y1; have u2 := (World.cell?_of_block (a := ⟨w2.heap.size, 2, none⟩) hbk).trans y2; have u3 := (World.frozen?_of_block (a := ⟨w2.heap.size, 1, none⟩) hbk).trans f1; have hH : Hid (CW w7 B g ops _ S1 _ vq1) := hC1; have hMM : Hid (Mv w w7 g _ vq vq1) := (Mv.ofBelow (hb6.alloc hb6.size _)).trans hM1; have hz7 := hM1.size; clear hC1 hM1)
    | (go_at_call 31; refine (leadsI ops S1 (k + 1) _ (by omega) ⟨n, v - tk + pt⟩ _ B g _ _ vq1 hH.out hS1.out (by omega)).mono ?_; rintro r w8 hL; obtain rfl := hL.bool))
  go_ret
  exact hL.preM hMM.out
end Go.Proofs.YtlkbgmgnjkkfgaaDoor

