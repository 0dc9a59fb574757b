/-
  The program's follow: names.
-/
import Derived.Test.YtlkbgmgnjkkfgaaDoorCkAss
namespace Go.Proofs.YtlkbgmgnjkkfgaaDoor
open Go.RowKit

set_option maxHeartbeats 2000000 in
theorem follow_bindOp (ops : List Wd) (S : Tq) (k : Nat) (s : Sd) (w : World) (B g : Nat) (vl vt vq : Value) (h : CW w B g ops vl S vt vq) (hl : S.1.length = ops.length) (hk : S.1.getD k none = some s) (hkl : k < ops.length) (hlen : ops.length ≤ 200) (hq : S.2.length ≤ 900) (hn : 0 ≤ s.n ∧ s.n ≤ 1000) (hvm : s.v ≤ 1000)
    (hT : 1 ≤ (ops.getD k op0).tag ∧ (ops.getD k op0).tag ≤ 24) (hv : ¬ s.v < takesM (ops.getD k op0).tag) (hTd : deedT (ops.getD k op0).tag = 81) :
    Calls Tryd.prog 32 #[.pointer (some ⟨g, 0, none⟩), .int .i64 (k : Int)] w fun r w' => LedR w w' B g ops vl vt vq (leadQ S (k + 1, ⟨s.n + 1, s.v - takesM (ops.getD k op0).tag + putsM (ops.getD k op0).tag⟩)) r := by
  obtain ⟨lb, loff, lcap, tb, tcap, rfl, rfl, ff⟩ := h.ff hl hk hkl
  obtain ⟨n, v⟩ := s
  have hD := fun w => trade_kind (ops.getD k op0).tag (ops.getD k op0).num w hT
  have hE := fun w => deed_kind (ops.getD k op0).tag (ops.getD k op0).num w hT
  rw [hTd] at hE
  have htk := takes_le (ops.getD k op0).tag
  have as_nameOp := fun w => as_bindOp_nameOp (ops.getD k op0).tag (ops.getD k op0).num w
  have as_makeOp := fun w => as_bindOp_makeOp (ops.getD k op0).tag (ops.getD k op0).num w
  have as_bindOp := fun w => as_bindOp_bindOp (ops.getD k op0).tag (ops.getD k op0).num w
  generalize (ops.getD k op0).tag = tag at *
  generalize (ops.getD k op0).num = num at *
  generalize takesM tag = tk at *
  generalize putsM tag = pt at *
  simp only at ff hv hn hvm ⊢
  obtain ⟨ht0, ht1, ht2, ht3⟩ := htk
  have wr1 : IntKind.i64.wrap (v - tk) = v - tk := ck_wr _ (by omega) (by omega)
  have wr2 : IntKind.i64.wrap (v - tk + pt) = v - tk + pt := ck_wr _ (by omega) (by omega)
  have wr3 : IntKind.i64.wrap ((k : Int) + 1) = (k : Int) + 1 := ck_wr _ (by omega) (by omega)
  have wr4 : IntKind.i64.wrap (n + 1) = n + 1 := ck_wr _ (by omega) (by omega)
  obtain ⟨c0, c1, d0, d1, d2, e0, e1, gl, tl, ll⟩ := ff.keep ((Below.refl _ _).alloc (Nat.le_refl _) (.cells #[.bool true, .int .i64 n, .int .i64 v] 71))
  have hff : Hid (FF w g k ops.length lb loff lcap tb tcap tag num n v) := ff
  obtain ⟨c0', c1', d0', d1', d2', e0', e1', gl', tl', ll'⟩ := ff
  have hki : (k : Int) < (ops.length : Int) := by omega
  have hh : Hid (CW w B g ops (.slice (some ⟨lb, loff, none⟩) ops.length lcap) S (.slice (some ⟨tb, 0, none⟩) ops.length tcap) vq) := h
  have hl' : Hid (S.1.length = ops.length) := hl
  clear h hl hk hT hTd
  go_enter Tryd.func32, Tryd.ntmps32
  go_wp2_with (first
    | (go_at_call 33; refine (hD _).mono ?_; rintro r w2 ⟨rfl, hb2⟩; obtain ⟨x0, x1, x2, xf, xl, hb3⟩ := box3 hb2; have ff2 := hff.out.keep hb3; obtain ⟨c0, c1, d0, d1, d2, e0, e1, gl, tl, ll⟩ := ff2.keep ((Below.refl _ _).alloc (Nat.le_refl _) (.cells #[.bool false, .int .i64 n, .int .i64 (v - tk + pt)] 71)); obtain ⟨c0', c1', d0', d1', d2', e0', e1', gl', tl', ll'⟩ := ff2)
    | (go_at_call 30; refine (hE _).mono ?_; rintro r w4 ⟨rfl, hb4⟩; obtain ⟨y0, y1, y2, yf, yl, hb5⟩ := box3 hb4; have hbx := hb5.block w.heap.size xl; have z0 := (World.cell?_of_block (a := ⟨w.heap.size, 0, none⟩) hbx).trans x0; have z1 := (World.cell?_of_block (a := ⟨w.heap.size, 1, none⟩) hbx).trans x1; have z2 := (World.cell?_of_block (a := ⟨w.heap.size, 2, none⟩) hbx).trans x2; have hb6 : Below w.heap.size w w4 := hb3.trans (hb5.mono hb3.size); have f1 := yf 1; have zl : w.heap.size < w4.heap.size := (by omega); have ne1 : w2.heap.size ≠ w4.heap.size := (by omega); have ne2 : w4.heap.size ≠ w2.heap.size := (by omega); clear xf yf)
    | (go_at_call 31; refine (leadsI ops S (k + 1) _ (by omega) ⟨n + 1, v - tk + pt⟩ _ B g _ _ vq (hh.out.keep (by first | exact hb6 | exact hb6.alloc hb6.size _ | exact (hb6.setCell (Nat.le_of_lt xl) _).alloc (hb6.setCell (Nat.le_of_lt xl) _).size _)) hl'.out (by omega)).mono ?_; rintro r w7 hL; obtain rfl := hL.bool))
  go_ret
  exact hL.pre (by first | exact hb6 | exact hb6.alloc hb6.size _ | exact (hb6.setCell (Nat.le_of_lt xl) _).alloc (hb6.setCell (Nat.le_of_lt xl) _).size _)
set_option maxHeartbeats 2000000 in
theorem follow_dropOp (ops : List Wd) (S : Tq) (k : Nat) (s : Sd) (w : World) (B g : Nat) (vl vt vq : Value) (h : CW w B g ops vl S vt vq) (hl : S.1.length = ops.length) (hk : S.1.getD k none = some s) (hkl : k < ops.length) (hlen : ops.length ≤ 200) (hq : S.2.length ≤ 900) (hn : 0 ≤ s.n ∧ s.n ≤ 1000) (hvm : s.v ≤ 1000)
    (hT : 1 ≤ (ops.getD k op0).tag ∧ (ops.getD k op0).tag ≤ 24) (hv : ¬ s.v < takesM (ops.getD k op0).tag) (hTd : deedT (ops.getD k op0).tag = 82) (hnu : 1 ≤ (ops.getD k op0).num ∧ (ops.getD k op0).num ≤ 2) :
    Calls Tryd.prog 32 #[.pointer (some ⟨g, 0, none⟩), .int .i64 (k : Int)] w fun r w' => LedR w w' B g ops vl vt vq (leadQ S (k + 1, ⟨s.n - (ops.getD k op0).num, s.v - takesM (ops.getD k op0).tag + putsM (ops.getD k op0).tag⟩)) r := by
  obtain ⟨lb, loff, lcap, tb, tcap, rfl, rfl, ff⟩ := h.ff hl hk hkl
  obtain ⟨n, v⟩ := s
  have hD := fun w => trade_kind (ops.getD k op0).tag (ops.getD k op0).num w hT
  have hE := fun w => deed_kind (ops.getD k op0).tag (ops.getD k op0).num w hT
  rw [hTd] at hE
  have htk := takes_le (ops.getD k op0).tag
  have as_nameOp := fun w => as_dropOp_nameOp (ops.getD k op0).tag (ops.getD k op0).num w
  have as_makeOp := fun w => as_dropOp_makeOp (ops.getD k op0).tag (ops.getD k op0).num w
  have as_bindOp := fun w => as_dropOp_bindOp (ops.getD k op0).tag (ops.getD k op0).num w
  have as_dropOp := fun w => as_dropOp_dropOp (ops.getD k op0).tag (ops.getD k op0).num w
  generalize (ops.getD k op0).tag = tag at *
  generalize (ops.getD k op0).num = num at *
  generalize takesM tag = tk at *
  generalize putsM tag = pt at *
  simp only at ff hv hn hvm hnu ⊢
  obtain ⟨ht0, ht1, ht2, ht3⟩ := htk
  have wr1 : IntKind.i64.wrap (v - tk) = v - tk := ck_wr _ (by omega) (by omega)
  have wr2 : IntKind.i64.wrap (v - tk + pt) = v - tk + pt := ck_wr _ (by omega) (by omega)
  have wr3 : IntKind.i64.wrap ((k : Int) + 1) = (k : Int) + 1 := ck_wr _ (by omega) (by omega)
  have wr4 : IntKind.i64.wrap (n - num) = n - num := ck_wr _ (by omega) (by omega)
  obtain ⟨c0, c1, d0, d1, d2, e0, e1, gl, tl, ll⟩ := ff.keep ((Below.refl _ _).alloc (Nat.le_refl _) (.cells #[.bool true, .int .i64 n, .int .i64 v] 71))
  have hff : Hid (FF w g k ops.length lb loff lcap tb tcap tag num n v) := ff
  obtain ⟨c0', c1', d0', d1', d2', e0', e1', gl', tl', ll'⟩ := ff
  have hki : (k : Int) < (ops.length : Int) := by omega
  have hh : Hid (CW w B g ops (.slice (some ⟨lb, loff, none⟩) ops.length lcap) S (.slice (some ⟨tb, 0, none⟩) ops.length tcap) vq) := h
  have hl' : Hid (S.1.length = ops.length) := hl
  clear h hl hk hT hTd
  go_enter Tryd.func32, Tryd.ntmps32
  go_wp2_with (first
    | (go_at_call 33; refine (hD _).mono ?_; rintro r w2 ⟨rfl, hb2⟩; obtain ⟨x0, x1, x2, xf, xl, hb3⟩ := box3 hb2; have ff2 := hff.out.keep hb3; obtain ⟨c0, c1, d0, d1, d2, e0, e1, gl, tl, ll⟩ := ff2.keep ((Below.refl _ _).alloc (Nat.le_refl _) (.cells #[.bool false, .int .i64 n, .int .i64 (v - tk + pt)] 71)); obtain ⟨c0', c1', d0', d1', d2', e0', e1', gl', tl', ll'⟩ := ff2)
    | (go_at_call 30; refine (hE _).mono ?_; rintro r w4 ⟨rfl, hb4⟩; obtain ⟨y0, y1, y2, yf, yl, hb5⟩ := box3 hb4; have hbx := hb5.block w.heap.size xl; have z0 := (World.cell?_of_block (a := ⟨w.heap.size, 0, none⟩) hbx).trans x0; have z1 := (World.cell?_of_block (a := ⟨w.heap.size, 1, none⟩) hbx).trans x1; have z2 := (World.cell?_of_block (a := ⟨w.heap.size, 2, none⟩) hbx).trans x2; have hb6 : Below w.heap.size w w4 := hb3.trans (hb5.mono hb3.size); have f1 := yf 1; have zl : w.heap.size < w4.heap.size := (by omega); have ne1 : w2.heap.size ≠ w4.heap.size := (by omega); have ne2 : w4.heap.size ≠ w2.heap.size := (by omega); clear xf yf)
    | (go_at_call 31; refine (leadsI ops S (k + 1) _ (by omega) ⟨n - num, v - tk + pt⟩ _ B g _ _ vq (hh.out.keep (by first | exact hb6 | exact hb6.alloc hb6.size _ | exact (hb6.setCell (Nat.le_of_lt xl) _).alloc (hb6.setCell (Nat.le_of_lt xl) _).size _)) hl'.out (by omega)).mono ?_; rintro r w7 hL; obtain rfl := hL.bool))
  go_ret
  exact hL.pre (by first | exact hb6 | exact hb6.alloc hb6.size _ | exact (hb6.setCell (Nat.le_of_lt xl) _).alloc (hb6.setCell (Nat.le_of_lt xl) _).size _)
set_option maxHeartbeats 2000000 in
theorem follow_nameOp (ops : List Wd) (S : Tq) (k : Nat) (s : Sd) (w : World) (B g : Nat) (vl vt vq : Value) (h : CW w B g ops vl S vt vq) (hl : S.1.length = ops.length) (hk : S.1.getD k none = some s) (hkl : k < ops.length) (hlen : ops.length ≤ 200) (hq : S.2.length ≤ 900) (hn : 0 ≤ s.n ∧ s.n ≤ 1000) (hvm : s.v ≤ 1000)
    (hT : 1 ≤ (ops.getD k op0).tag ∧ (ops.getD k op0).tag ≤ 24) (hv : ¬ s.v < takesM (ops.getD k op0).tag) (hTd : deedT (ops.getD k op0).tag = 80) (hnu : (ops.getD k op0).num < s.n) :
    Calls Tryd.prog 32 #[.pointer (some ⟨g, 0, none⟩), .int .i64 (k : Int)] w fun r w' => LedR w w' B g ops vl vt vq (leadQ S (k + 1, ⟨s.n, s.v - takesM (ops.getD k op0).tag + putsM (ops.getD k op0).tag⟩)) r := by
  obtain ⟨lb, loff, lcap, tb, tcap, rfl, rfl, ff⟩ := h.ff hl hk hkl
  obtain ⟨n, v⟩ := s
  have hD := fun w => trade_kind (ops.getD k op0).tag (ops.getD k op0).num w hT
  have hE := fun w => deed_kind (ops.getD k op0).tag (ops.getD k op0).num w hT
  rw [hTd] at hE
  have htk := takes_le (ops.getD k op0).tag
  have as_nameOp := fun w => as_nameOp_nameOp (ops.getD k op0).tag (ops.getD k op0).num w
  generalize (ops.getD k op0).tag = tag at *
  generalize (ops.getD k op0).num = num at *
  generalize takesM tag = tk at *
  generalize putsM tag = pt at *
  simp only at ff hv hn hvm hnu ⊢
  obtain ⟨ht0, ht1, ht2, ht3⟩ := htk
  have wr1 : IntKind.i64.wrap (v - tk) = v - tk := ck_wr _ (by omega) (by omega)
  have wr2 : IntKind.i64.wrap (v - tk + pt) = v - tk + pt := ck_wr _ (by omega) (by omega)
  have wr3 : IntKind.i64.wrap ((k : Int) + 1) = (k : Int) + 1 := ck_wr _ (by omega) (by omega)
  obtain ⟨c0, c1, d0, d1, d2, e0, e1, gl, tl, ll⟩ := ff.keep ((Below.refl _ _).alloc (Nat.le_refl _) (.cells #[.bool true, .int .i64 n, .int .i64 v] 71))
  have hff : Hid (FF w g k ops.length lb loff lcap tb tcap tag num n v) := ff
  obtain ⟨c0', c1', d0', d1', d2', e0', e1', gl', tl', ll'⟩ := ff
  have hki : (k : Int) < (ops.length : Int) := by omega
  have hh : Hid (CW w B g ops (.slice (some ⟨lb, loff, none⟩) ops.length lcap) S (.slice (some ⟨tb, 0, none⟩) ops.length tcap) vq) := h
  have hl' : Hid (S.1.length = ops.length) := hl
  clear h hl hk hT hTd
  go_enter Tryd.func32, Tryd.ntmps32
  go_wp2_with (first
    | (go_at_call 33; refine (hD _).mono ?_; rintro r w2 ⟨rfl, hb2⟩; obtain ⟨x0, x1, x2, xf, xl, hb3⟩ := box3 hb2; have ff2 := hff.out.keep hb3; obtain ⟨c0, c1, d0, d1, d2, e0, e1, gl, tl, ll⟩ := ff2.keep ((Below.refl _ _).alloc (Nat.le_refl _) (.cells #[.bool false, .int .i64 n, .int .i64 (v - tk + pt)] 71)); obtain ⟨c0', c1', d0', d1', d2', e0', e1', gl', tl', ll'⟩ := ff2)
    | (go_at_call 30; refine (hE _).mono ?_; rintro r w4 ⟨rfl, hb4⟩; obtain ⟨y0, y1, y2, yf, yl, hb5⟩ := box3 hb4; have hbx := hb5.block w.heap.size xl; have z0 := (World.cell?_of_block (a := ⟨w.heap.size, 0, none⟩) hbx).trans x0; have z1 := (World.cell?_of_block (a := ⟨w.heap.size, 1, none⟩) hbx).trans x1; have z2 := (World.cell?_of_block (a := ⟨w.heap.size, 2, none⟩) hbx).trans x2; have hb6 : Below w.heap.size w w4 := hb3.trans (hb5.mono hb3.size); have f1 := yf 1; have zl : w.heap.size < w4.heap.size := (by omega); have ne1 : w2.heap.size ≠ w4.heap.size := (by omega); have ne2 : w4.heap.size ≠ w2.heap.size := (by omega); clear xf yf)
    | (go_at_call 31; refine (leadsI ops S (k + 1) _ (by omega) ⟨n, v - tk + pt⟩ _ B g _ _ vq (hh.out.keep (by first | exact hb6 | exact hb6.alloc hb6.size _ | exact (hb6.setCell (Nat.le_of_lt xl) _).alloc (hb6.setCell (Nat.le_of_lt xl) _).size _)) hl'.out (by omega)).mono ?_; rintro r w7 hL; obtain rfl := hL.bool))
  go_ret
  exact hL.pre (by first | exact hb6 | exact hb6.alloc hb6.size _ | exact (hb6.setCell (Nat.le_of_lt xl) _).alloc (hb6.setCell (Nat.le_of_lt xl) _).size _)
set_option maxHeartbeats 2000000 in
theorem follow_nameOp_no (ops : List Wd) (S : Tq) (k : Nat) (s : Sd) (w : World) (B g : Nat) (vl vt vq : Value) (h : CW w B g ops vl S vt vq) (hl : S.1.length = ops.length) (hk : S.1.getD k none = some s) (hkl : k < ops.length) (hlen : ops.length ≤ 200) (_hq : S.2.length ≤ 900) (hn : 0 ≤ s.n ∧ s.n ≤ 1000) (hvm : s.v ≤ 1000)
    (hT : 1 ≤ (ops.getD k op0).tag ∧ (ops.getD k op0).tag ≤ 24) (hv : ¬ s.v < takesM (ops.getD k op0).tag) (hTd : deedT (ops.getD k op0).tag = 80) (hnu : ¬ (ops.getD k op0).num < s.n) :
    Calls Tryd.prog 32 #[.pointer (some ⟨g, 0, none⟩), .int .i64 (k : Int)] w fun r w' => LedR w w' B g ops vl vt vq (none) r := by
  obtain ⟨lb, loff, lcap, tb, tcap, rfl, rfl, ff⟩ := h.ff hl hk hkl
  obtain ⟨n, v⟩ := s
  have hD := fun w => trade_kind (ops.getD k op0).tag (ops.getD k op0).num w hT
  have hE := fun w => deed_kind (ops.getD k op0).tag (ops.getD k op0).num w hT
  rw [hTd] at hE
  have htk := takes_le (ops.getD k op0).tag
  have as_nameOp := fun w => as_nameOp_nameOp (ops.getD k op0).tag (ops.getD k op0).num w
  generalize (ops.getD k op0).tag = tag at *
  generalize (ops.getD k op0).num = num at *
  generalize takesM tag = tk at *
  generalize putsM tag = pt at *
  simp only at ff hv hn hvm hnu ⊢
  obtain ⟨ht0, ht1, ht2, ht3⟩ := htk
  have wr1 : IntKind.i64.wrap (v - tk) = v - tk := ck_wr _ (by omega) (by omega)
  have wr2 : IntKind.i64.wrap (v - tk + pt) = v - tk + pt := ck_wr _ (by omega) (by omega)
  have wr3 : IntKind.i64.wrap ((k : Int) + 1) = (k : Int) + 1 := ck_wr _ (by omega) (by omega)
  obtain ⟨c0, c1, d0, d1, d2, e0, e1, gl, tl, ll⟩ := ff.keep ((Below.refl _ _).alloc (Nat.le_refl _) (.cells #[.bool true, .int .i64 n, .int .i64 v] 71))
  have hff : Hid (FF w g k ops.length lb loff lcap tb tcap tag num n v) := ff
  obtain ⟨c0', c1', d0', d1', d2', e0', e1', gl', tl', ll'⟩ := ff
  have hki : (k : Int) < (ops.length : Int) := by omega
  have hh : Hid (CW w B g ops (.slice (some ⟨lb, loff, none⟩) ops.length lcap) S (.slice (some ⟨tb, 0, none⟩) ops.length tcap) vq) := h
  have hl' : Hid (S.1.length = ops.length) := hl
  clear h hl hk hT hTd
  go_enter Tryd.func32, Tryd.ntmps32
  go_wp2_with (first
    | (go_at_call 33; refine (hD _).mono ?_; rintro r w2 ⟨rfl, hb2⟩; obtain ⟨x0, x1, x2, xf, xl, hb3⟩ := box3 hb2; have ff2 := hff.out.keep hb3; obtain ⟨c0, c1, d0, d1, d2, e0, e1, gl, tl, ll⟩ := ff2.keep ((Below.refl _ _).alloc (Nat.le_refl _) (.cells #[.bool false, .int .i64 n, .int .i64 (v - tk + pt)] 71)); obtain ⟨c0', c1', d0', d1', d2', e0', e1', gl', tl', ll'⟩ := ff2)
    | (go_at_call 30; refine (hE _).mono ?_; rintro r w4 ⟨rfl, hb4⟩; obtain ⟨y0, y1, y2, yf, yl, hb5⟩ := box3 hb4; have hbx := hb5.block w.heap.size xl; have z0 := (World.cell?_of_block (a := ⟨w.heap.size, 0, none⟩) hbx).trans x0; have z1 := (World.cell?_of_block (a := ⟨w.heap.size, 1, none⟩) hbx).trans x1; have z2 := (World.cell?_of_block (a := ⟨w.heap.size, 2, none⟩) hbx).trans x2; have hb6 : Below w.heap.size w w4 := hb3.trans (hb5.mono hb3.size); have f1 := yf 1; have zl : w.heap.size < w4.heap.size := (by omega); have ne1 : w2.heap.size ≠ w4.heap.size := (by omega); have ne2 : w4.heap.size ≠ w2.heap.size := (by omega); clear xf yf))
  go_ret
  exact ⟨rfl, _, Mv.ofBelow (by first | exact hb6 | exact hb6.alloc hb6.size _ | exact (hb6.setCell (Nat.le_of_lt xl) _).alloc (hb6.setCell (Nat.le_of_lt xl) _).size _)⟩
set_option maxHeartbeats 2000000 in
theorem follow_goOp (ops : List Wd) (S : Tq) (k : Nat) (s : Sd) (w : World) (B g : Nat) (vl vt vq : Value) (h : CW w B g ops vl S vt vq) (hl : S.1.length = ops.length) (hk : S.1.getD k none = some s) (hkl : k < ops.length) (hlen : ops.length ≤ 200) (hq : S.2.length ≤ 900) (hn : 0 ≤ s.n ∧ s.n ≤ 1000) (hvm : s.v ≤ 1000)
    (hT : 1 ≤ (ops.getD k op0).tag ∧ (ops.getD k op0).tag ≤ 24) (hv : ¬ s.v < takesM (ops.getD k op0).tag) (hTd : deedT (ops.getD k op0).tag = 76) (hnu : 0 ≤ (ops.getD k op0).num ∧ (ops.getD k op0).num ≤ 1000) :
    Calls Tryd.prog 32 #[.pointer (some ⟨g, 0, none⟩), .int .i64 (k : Int)] w fun r w' => LedR w w' B g ops vl vt vq (leadQ S ((ops.getD k op0).num.toNat, ⟨s.n, s.v - takesM (ops.getD k op0).tag + putsM (ops.getD k op0).tag⟩)) r := by
  obtain ⟨lb, loff, lcap, tb, tcap, rfl, rfl, ff⟩ := h.ff hl hk hkl
  obtain ⟨n, v⟩ := s
  have hD := fun w => trade_kind (ops.getD k op0).tag (ops.getD k op0).num w hT
  have hE := fun w => deed_kind (ops.getD k op0).tag (ops.getD k op0).num w hT
  rw [hTd] at hE
  have htk := takes_le (ops.getD k op0).tag
  have as_nameOp := fun w => as_goOp_nameOp (ops.getD k op0).tag (ops.getD k op0).num w
  have as_makeOp := fun w => as_goOp_makeOp (ops.getD k op0).tag (ops.getD k op0).num w
  have as_bindOp := fun w => as_goOp_bindOp (ops.getD k op0).tag (ops.getD k op0).num w
  have as_dropOp := fun w => as_goOp_dropOp (ops.getD k op0).tag (ops.getD k op0).num w
  have as_ifOp := fun w => as_goOp_ifOp (ops.getD k op0).tag (ops.getD k op0).num w
  have as_caseOp := fun w => as_goOp_caseOp (ops.getD k op0).tag (ops.getD k op0).num w
  have as_goOp := fun w => as_goOp_goOp (ops.getD k op0).tag (ops.getD k op0).num w
  generalize (ops.getD k op0).tag = tag at *
  generalize (ops.getD k op0).num = num at *
  generalize takesM tag = tk at *
  generalize putsM tag = pt at *
  simp only at ff hv hn hvm hnu ⊢
  obtain ⟨ht0, ht1, ht2, ht3⟩ := htk
  have wr1 : IntKind.i64.wrap (v - tk) = v - tk := ck_wr _ (by omega) (by omega)
  have wr2 : IntKind.i64.wrap (v - tk + pt) = v - tk + pt := ck_wr _ (by omega) (by omega)
  have wr3 : IntKind.i64.wrap ((k : Int) + 1) = (k : Int) + 1 := ck_wr _ (by omega) (by omega)
  obtain ⟨c0, c1, d0, d1, d2, e0, e1, gl, tl, ll⟩ := ff.keep ((Below.refl _ _).alloc (Nat.le_refl _) (.cells #[.bool true, .int .i64 n, .int .i64 v] 71))
  have hff : Hid (FF w g k ops.length lb loff lcap tb tcap tag num n v) := ff
  obtain ⟨c0', c1', d0', d1', d2', e0', e1', gl', tl', ll'⟩ := ff
  have hki : (k : Int) < (ops.length : Int) := by omega
  have hh : Hid (CW w B g ops (.slice (some ⟨lb, loff, none⟩) ops.length lcap) S (.slice (some ⟨tb, 0, none⟩) ops.length tcap) vq) := h
  have hl' : Hid (S.1.length = ops.length) := hl
  clear h hl hk hT hTd
  go_enter Tryd.func32, Tryd.ntmps32
  go_wp2_with (first
    | (go_at_call 33; refine (hD _).mono ?_; rintro r w2 ⟨rfl, hb2⟩; obtain ⟨x0, x1, x2, xf, xl, hb3⟩ := box3 hb2; have ff2 := hff.out.keep hb3; obtain ⟨c0, c1, d0, d1, d2, e0, e1, gl, tl, ll⟩ := ff2.keep ((Below.refl _ _).alloc (Nat.le_refl _) (.cells #[.bool false, .int .i64 n, .int .i64 (v - tk + pt)] 71)); obtain ⟨c0', c1', d0', d1', d2', e0', e1', gl', tl', ll'⟩ := ff2)
    | (go_at_call 30; refine (hE _).mono ?_; rintro r w4 ⟨rfl, hb4⟩; obtain ⟨y0, y1, y2, yf, yl, hb5⟩ := box3 hb4; have hbx := hb5.block w.heap.size xl; have z0 := (World.cell?_of_block (a := ⟨w.heap.size, 0, none⟩) hbx).trans x0; have z1 := (World.cell?_of_block (a := ⟨w.heap.size, 1, none⟩) hbx).trans x1; have z2 := (World.cell?_of_block (a := ⟨w.heap.size, 2, none⟩) hbx).trans x2; have hb6 : Below w.heap.size w w4 := hb3.trans (hb5.mono hb3.size); have f1 := yf 1; have zl : w.heap.size < w4.heap.size := (by omega); have ne1 : w2.heap.size ≠ w4.heap.size := (by omega); have ne2 : w4.heap.size ≠ w2.heap.size := (by omega); clear xf yf)
    | (go_at_call 31; refine (leadsI ops S num.toNat _ (by omega) ⟨n, v - tk + pt⟩ _ B g _ _ vq (hh.out.keep (by first | exact hb6 | exact hb6.alloc hb6.size _ | exact (hb6.setCell (Nat.le_of_lt xl) _).alloc (hb6.setCell (Nat.le_of_lt xl) _).size _)) hl'.out (by omega)).mono ?_; rintro r w7 hL; obtain rfl := hL.bool))
  go_ret
  exact hL.pre (by first | exact hb6 | exact hb6.alloc hb6.size _ | exact (hb6.setCell (Nat.le_of_lt xl) _).alloc (hb6.setCell (Nat.le_of_lt xl) _).size _)
end Go.Proofs.YtlkbgmgnjkkfgaaDoor

