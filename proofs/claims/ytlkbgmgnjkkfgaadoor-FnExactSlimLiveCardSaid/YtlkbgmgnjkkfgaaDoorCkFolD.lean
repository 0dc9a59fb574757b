/-
  The program's follow: of a list's make.
-/
import Derived.Test.YtlkbgmgnjkkfgaaDoorCkFolC
import Derived.Deep.Cut
namespace Go.Proofs.YtlkbgmgnjkkfgaaDoor
open Go.RowKit

set_option maxHeartbeats 2000000 in
theorem follow_caseOp_no (ops : List Wd) (S : Tq) (k : Nat) (s : Sd) (w : World) (B g : Nat) (vl vt vq : Value) (h : CW w B g ops vl S vt vq) (hl : S.1.length = ops.length) (hk : S.1.getD k none = some s) (hkl : k < ops.length) (hlen : ops.length ≤ 200) (hq : S.2.length ≤ 900) (hn : 0 ≤ s.n ∧ s.n ≤ 1000) (hvm : s.v ≤ 1000)
    (hT : 1 ≤ (ops.getD k op0).tag ∧ (ops.getD k op0).tag ≤ 24) (hv : ¬ s.v < takesM (ops.getD k op0).tag) (hTd : deedT (ops.getD k op0).tag = 75) (hnu : 0 ≤ (ops.getD k op0).num ∧ (ops.getD k op0).num ≤ 1000) (ho : leadQ S ((ops.getD k op0).num.toNat, ⟨s.n, s.v - takesM (ops.getD k op0).tag + putsM (ops.getD k op0).tag⟩) = none) :
    Calls Tryd.prog 32 #[.pointer (some ⟨g, 0, none⟩), .int .i64 (k : Int)] w fun r w' => LedR w w' B g ops vl vt vq (none) r := by
  obtain ⟨lb, loff, lcap, tb, tcap, rfl, rfl, ff⟩ := h.ff hl hk hkl
  obtain ⟨n, v⟩ := s
  have hD := fun w => trade_kind (ops.getD k op0).tag (ops.getD k op0).num w hT
  have hE := fun w => deed_kind (ops.getD k op0).tag (ops.getD k op0).num w hT
  rw [hTd] at hE
  have htk := takes_le (ops.getD k op0).tag
  have as_nameOp := fun w => as_caseOp_nameOp (ops.getD k op0).tag (ops.getD k op0).num w
  have as_makeOp := fun w => as_caseOp_makeOp (ops.getD k op0).tag (ops.getD k op0).num w
  have as_bindOp := fun w => as_caseOp_bindOp (ops.getD k op0).tag (ops.getD k op0).num w
  have as_dropOp := fun w => as_caseOp_dropOp (ops.getD k op0).tag (ops.getD k op0).num w
  have as_ifOp := fun w => as_caseOp_ifOp (ops.getD k op0).tag (ops.getD k op0).num w
  have as_caseOp := fun w => as_caseOp_caseOp (ops.getD k op0).tag (ops.getD k op0).num w
  generalize (ops.getD k op0).tag = tag at *
  generalize (ops.getD k op0).num = num at *
  generalize takesM tag = tk at *
  generalize putsM tag = pt at *
  simp only at ff hv hn hvm hnu ho ⊢
  obtain ⟨ht0, ht1, ht2, ht3⟩ := htk
  have wr1 : IntKind.i64.wrap (v - tk) = v - tk := ck_wr _ (by omega) (by omega)
  have wr2 : IntKind.i64.wrap (v - tk + pt) = v - tk + pt := ck_wr _ (by omega) (by omega)
  have wr3 : IntKind.i64.wrap ((k : Int) + 1) = (k : Int) + 1 := ck_wr _ (by omega) (by omega)
  have wr4 : IntKind.i64.wrap (n + 2) = n + 2 := ck_wr _ (by omega) (by omega)
  have hho : Hid (leadQ S (num.toNat, ⟨n, v - tk + pt⟩) = none) := ho
  clear ho
  obtain ⟨c0, c1, d0, d1, d2, e0, e1, gl, tl, ll⟩ := ff.keep ((Below.refl _ _).alloc (Nat.le_refl _) (.cells #[.bool true, .int .i64 n, .int .i64 v] 71))
  have hff : Hid (FF w g k ops.length lb loff lcap tb tcap tag num n v) := ff
  obtain ⟨c0', c1', d0', d1', d2', e0', e1', gl', tl', ll'⟩ := ff
  have hki : (k : Int) < (ops.length : Int) := by omega
  have hh : Hid (CW w B g ops (.slice (some ⟨lb, loff, none⟩) ops.length lcap) S (.slice (some ⟨tb, 0, none⟩) ops.length tcap) vq) := h
  have hl' : Hid (S.1.length = ops.length) := hl
  clear h hl hk hT hTd
  go_enter Tryd.func32, Tryd.ntmps32
  go_wp2_with (first
    | (go_at_call 33; refine (hD _).mono ?_; rintro r w2 ⟨rfl, hb2⟩; obtain ⟨x0, x1, x2, xf, xl, hb3⟩ := box3 hb2; have ff2 := hff.out.keep hb3; obtain ⟨c0, c1, d0, d1, d2, e0, e1, gl, tl, ll⟩ := ff2.keep ((Below.refl _ _).alloc (Nat.le_refl _) (.cells #[.bool false, .int .i64 n, .int .i64 (v - tk + pt)] 71)); obtain ⟨c0', c1', d0', d1', d2', e0', e1', gl', tl', ll'⟩ := ff2)
    | (go_at_call 30; refine (hE _).mono ?_; rintro r w4 ⟨rfl, hb4⟩; obtain ⟨y0, y1, y2, yf, yl, hb5⟩ := box3 hb4; have hbx := hb5.block w.heap.size xl; have z0 := (World.cell?_of_block (a := ⟨w.heap.size, 0, none⟩) hbx).trans x0; have z1 := (World.cell?_of_block (a := ⟨w.heap.size, 1, none⟩) hbx).trans x1; have z2 := (World.cell?_of_block (a := ⟨w.heap.size, 2, none⟩) hbx).trans x2; have hb6 : Below w.heap.size w w4 := hb3.trans (hb5.mono hb3.size); have f1 := yf 1; have zl : w.heap.size < w4.heap.size := (by omega); have ne1 : w2.heap.size ≠ w4.heap.size := (by omega); have ne2 : w4.heap.size ≠ w2.heap.size := (by omega); clear xf yf)
    | (go_at_call 31; refine (leadsI ops S num.toNat _ (by omega) ⟨n, v - tk + pt⟩ _ B g _ _ vq (hh.out.keep (by first | exact hb6 | exact hb6.alloc hb6.size _ | exact (hb6.setCell (Nat.le_of_lt xl) _).alloc (hb6.setCell (Nat.le_of_lt xl) _).size _)) hl'.out (by omega)).mono ?_; rintro r w7 hL; rw [hho.out] at hL; obtain ⟨rfl, vq1, hM1⟩ := hL; have hMM : Hid (Mv w (w7.setCell ⟨w2.heap.size, 1, none⟩ (.int .i64 (n + 2))) g _ vq vq1) := CW.boxMv hh.out (hb6.alloc hb6.size _) hM1 w2.heap.size 1 (Nat.le_of_lt xl) _; have hbk := (CW.box hh.out hM1 w2.heap.size (Nat.le_of_lt xl) (by simp; omega)).trans (((Below.refl w4.heap.size w4).alloc (Nat.le_refl _) _).block w2.heap.size yl); have u0 := (World.cell?_of_block (a := ⟨w2.heap.size, 0, none⟩) hbk).trans y0; have u1 := (World.cell?_of_block (a := ⟨w2.heap.size, 1, none⟩) hbk).trans y1; have u2 := (World.cell?_of_block (a := ⟨w2.heap.size, 2, none⟩) hbk).trans y2; have u3 := (World.frozen?_of_block (a := ⟨w2.heap.size, 1, none⟩) hbk).trans f1; have hz7 := hM1.size; clear hM1))
  go_ret
  exact ⟨rfl, _, hMM.out⟩
set_option maxHeartbeats 2000000 in
theorem follow_caseOp (ops : List Wd) (S : Tq) (k : Nat) (s : Sd) (w : World) (B g : Nat) (vl vt vq : Value) (h : CW w B g ops vl S vt vq) (hl : S.1.length = ops.length) (hk : S.1.getD k none = some s) (hkl : k < ops.length) (hlen : ops.length ≤ 200) (hq : S.2.length ≤ 900) (hn : 0 ≤ s.n ∧ s.n ≤ 1000) (hvm : s.v ≤ 1000)
    (hT : 1 ≤ (ops.getD k op0).tag ∧ (ops.getD k op0).tag ≤ 24) (hv : ¬ s.v < takesM (ops.getD k op0).tag) (hTd : deedT (ops.getD k op0).tag = 75) (hnu : 0 ≤ (ops.getD k op0).num ∧ (ops.getD k op0).num ≤ 1000) (S1 : Tq) (ho : leadQ S ((ops.getD k op0).num.toNat, ⟨s.n, s.v - takesM (ops.getD k op0).tag + putsM (ops.getD k op0).tag⟩) = some S1) :
    Calls Tryd.prog 32 #[.pointer (some ⟨g, 0, none⟩), .int .i64 (k : Int)] w fun r w' => LedR w w' B g ops vl vt vq (leadQ S1 (k + 1, ⟨s.n + 2, s.v - takesM (ops.getD k op0).tag + putsM (ops.getD k op0).tag⟩)) r := by
  obtain ⟨lb, loff, lcap, tb, tcap, rfl, rfl, ff⟩ := h.ff hl hk hkl
  obtain ⟨n, v⟩ := s
  have hD := fun w => trade_kind (ops.getD k op0).tag (ops.getD k op0).num w hT
  have hE := fun w => deed_kind (ops.getD k op0).tag (ops.getD k op0).num w hT
  rw [hTd] at hE
  have htk := takes_le (ops.getD k op0).tag
  have as_nameOp := fun w => as_caseOp_nameOp (ops.getD k op0).tag (ops.getD k op0).num w
  have as_makeOp := fun w => as_caseOp_makeOp (ops.getD k op0).tag (ops.getD k op0).num w
  have as_bindOp := fun w => as_caseOp_bindOp (ops.getD k op0).tag (ops.getD k op0).num w
  have as_dropOp := fun w => as_caseOp_dropOp (ops.getD k op0).tag (ops.getD k op0).num w
  have as_ifOp := fun w => as_caseOp_ifOp (ops.getD k op0).tag (ops.getD k op0).num w
  have as_caseOp := fun w => as_caseOp_caseOp (ops.getD k op0).tag (ops.getD k op0).num w
  generalize (ops.getD k op0).tag = tag at *
  generalize (ops.getD k op0).num = num at *
  generalize takesM tag = tk at *
  generalize putsM tag = pt at *
  simp only at ff hv hn hvm hnu ho ⊢
  obtain ⟨ht0, ht1, ht2, ht3⟩ := htk
  have wr1 : IntKind.i64.wrap (v - tk) = v - tk := ck_wr _ (by omega) (by omega)
  have wr2 : IntKind.i64.wrap (v - tk + pt) = v - tk + pt := ck_wr _ (by omega) (by omega)
  have wr3 : IntKind.i64.wrap ((k : Int) + 1) = (k : Int) + 1 := ck_wr _ (by omega) (by omega)
  have wr4 : IntKind.i64.wrap (n + 2) = n + 2 := ck_wr _ (by omega) (by omega)
  have hz1 := leadQ_size ho
  have hS1 : Hid (S1.1.length = ops.length) := hz1.1.trans hl
  have hS2 := hz1.2
  clear hz1
  have hho : Hid (leadQ S (num.toNat, ⟨n, v - tk + pt⟩) = some S1) := ho
  clear ho
  obtain ⟨c0, c1, d0, d1, d2, e0, e1, gl, tl, ll⟩ := ff.keep ((Below.refl _ _).alloc (Nat.le_refl _) (.cells #[.bool true, .int .i64 n, .int .i64 v] 71))
  have hff : Hid (FF w g k ops.length lb loff lcap tb tcap tag num n v) := ff
  obtain ⟨c0', c1', d0', d1', d2', e0', e1', gl', tl', ll'⟩ := ff
  have hki : (k : Int) < (ops.length : Int) := by omega
  have hh : Hid (CW w B g ops (.slice (some ⟨lb, loff, none⟩) ops.length lcap) S (.slice (some ⟨tb, 0, none⟩) ops.length tcap) vq) := h
  have hl' : Hid (S.1.length = ops.length) := hl
  clear h hl hk hT hTd
  go_enter Tryd.func32, Tryd.ntmps32
  go_upto_region 26 with (first
    | (go_at_call 33; refine (hD _).mono ?_; rintro r w2 ⟨rfl, hb2⟩; obtain ⟨x0, x1, x2, xf, xl, hb3⟩ := box3 hb2; have ff2 := hff.out.keep hb3; obtain ⟨c0, c1, d0, d1, d2, e0, e1, gl, tl, ll⟩ := ff2.keep ((Below.refl _ _).alloc (Nat.le_refl _) (.cells #[.bool false, .int .i64 n, .int .i64 (v - tk + pt)] 71)); obtain ⟨c0', c1', d0', d1', d2', e0', e1', gl', tl', ll'⟩ := ff2)
    | (go_at_call 30; refine (hE _).mono ?_; rintro r w4 ⟨rfl, hb4⟩; obtain ⟨y0, y1, y2, yf, yl, hb5⟩ := box3 hb4; have hbx := hb5.block w.heap.size xl; have z0 := (World.cell?_of_block (a := ⟨w.heap.size, 0, none⟩) hbx).trans x0; have z1 := (World.cell?_of_block (a := ⟨w.heap.size, 1, none⟩) hbx).trans x1; have z2 := (World.cell?_of_block (a := ⟨w.heap.size, 2, none⟩) hbx).trans x2; have hb6 : Below w.heap.size w w4 := hb3.trans (hb5.mono hb3.size); have f1 := yf 1; have zl : w.heap.size < w4.heap.size := (by omega); have ne1 : w2.heap.size ≠ w4.heap.size := (by omega); have ne2 : w4.heap.size ≠ w2.heap.size := (by omega); clear xf yf)
    | (go_at_call 31; refine (leadsI ops S num.toNat _ (by omega) ⟨n, v - tk + pt⟩ _ B g _ _ vq (hh.out.keep (by first | exact hb6 | exact hb6.alloc hb6.size _ | exact (hb6.setCell (Nat.le_of_lt xl) _).alloc (hb6.setCell (Nat.le_of_lt xl) _).size _)) hl'.out (by omega)).mono ?_; rintro r w7 hL; rw [hho.out] at hL; obtain ⟨rfl, vq1, hC1, hM1⟩ := hL; have hbk := (CW.box hh.out hM1 w2.heap.size (Nat.le_of_lt xl) (by simp; omega)).trans (((Below.refl w4.heap.size w4).alloc (Nat.le_refl _) _).block w2.heap.size yl); have u0 := (World.cell?_of_block (a := ⟨w2.heap.size, 0, none⟩) hbk).trans y0; have u1 := (World.cell?_of_block (a := ⟨w2.heap.size, 1, none⟩) hbk).trans y1; have u2 := (World.cell?_of_block (a := ⟨w2.heap.size, 2, none⟩) hbk).trans y2; have u3 := (World.frozen?_of_block (a := ⟨w2.heap.size, 1, none⟩) hbk).trans f1; have hHM := CW.boxSet hh.out (hb6.alloc hb6.size _) hC1 hM1 w2.heap.size 1 (Nat.le_of_lt xl) (by simp; omega) (.int .i64 (n + 2)); have hH : Hid (CW (w7.setCell ⟨w2.heap.size, 1, none⟩ (.int .i64 (n + 2))) B g ops _ S1 _ vq1) := hHM.1; have hMM : Hid (Mv w (w7.setCell ⟨w2.heap.size, 1, none⟩ (.int .i64 (n + 2))) g _ vq vq1) := hHM.2; clear hHM; have hz7 := hM1.size; clear hC1 hM1))
  go_wp2_with (go_at_call 31; refine (leadsI ops S1 (k + 1) _ (by omega) ⟨n + 2, v - tk + pt⟩ _ B g _ _ vq1 hH.out hS1.out (by omega)).mono ?_; rintro r w8 hL; obtain rfl := hL.bool)
  go_ret
  exact hL.preM hMM.out
end Go.Proofs.YtlkbgmgnjkkfgaaDoor

