/-
  The specification's one: what leads aside and on.
-/
import Derived.Test.YtlkbgmgnjkkfgaaDoorLvAll29
import Derived.Deep.Cut
namespace Go.Proofs.YtlkbgmgnjkkfgaaDoor
open Go.RowKit

set_option maxRecDepth 100000 in
set_option maxHeartbeats 4000000 in
theorem one_fun (ops : List Wd) (C : Tb × Bool) (k : Nat) (s : Sd) (w : World) (B g : Nat) (vl vt : Value) (h : SW w B g ops vl C vt) (hl : C.1.length = ops.length) (hk : C.1.getD k none = some s) (hkl : k < ops.length) (_hlen : ops.length ≤ 200) (hn : 0 ≤ s.n ∧ s.n ≤ 1000) (hvm : s.v ≤ 1000)
    (hT : 1 ≤ (ops.getD k op0).tag ∧ (ops.getD k op0).tag ≤ 24) (hnu : 0 ≤ (ops.getD k op0).num ∧ (ops.getD k op0).num ≤ 1048576) (hv : ¬ s.v < takesM (ops.getD k op0).tag) (ht : (ops.getD k op0).tag = 4)  :
    Calls Tryd.prog 23 #[.pointer (some ⟨g, 0, none⟩), .int .i64 (k : Int)] w fun r w' => r = .returned (.tuple #[]) ∧ SW w' B g ops vl (comeM (comeM C ((ops.getD k op0).num.toNat, ⟨s.n + 1, 0⟩)) (k + 1, ⟨s.n + movesM (ops.getD k op0), s.v - takesM (ops.getD k op0).tag + putsM (ops.getD k op0).tag⟩)) vt ∧ Sm w w' g vt := by
  obtain ⟨lb, loff, lcap, tb, tcap, rfl, rfl, ff⟩ := h.sf hl hk hkl
  obtain ⟨n, v⟩ := s
  have hM := fun w => spec_l6Moves (ops.getD k op0) hT hnu w
  have htk := takes_le (ops.getD k op0).tag
  have hmv := moves_le (ops.getD k op0) hnu
  generalize movesM (ops.getD k op0) = mv at *
  generalize (ops.getD k op0).tag = tag at *
  generalize (ops.getD k op0).num = num at *
  generalize takesM tag = tk at *
  generalize putsM tag = pt at *
  obtain ⟨T, bad⟩ := C
  simp only at ff hv hn ht hvm hnu hl h ⊢
  obtain ⟨tk0, tk1, pt0, pt1⟩ := htk
  have b24 : (tag == 24) = false := by rw [ht]; rfl
  have b10 : (tag == 10) = false := by rw [ht]; rfl
  have b4 : (tag == 4) = true := by simpa using ht
  have b5 : (tag == 5) = false := by rw [ht]; rfl
  have b9 : (tag == 9) = false := by rw [ht]; rfl
  have b16 : (tag == 16) = false := by rw [ht]; rfl
  have b3 : (tag == 3) = false := by rw [ht]; rfl
  clear ht
  have wr1 : IntKind.i64.wrap (n + mv) = n + mv := ck_wr _ (by omega) (by omega)
  have wr2 : IntKind.i64.wrap (v - tk) = v - tk := ck_wr _ (by omega) (by omega)
  have wr3 : IntKind.i64.wrap (v - tk + pt) = v - tk + pt := ck_wr _ (by omega) (by omega)
  have wr4 : IntKind.i64.wrap ((k : Int) + 1) = (k : Int) + 1 := ck_wr _ (by omega) (by omega)
  have wr5 : IntKind.i64.wrap (n + 1) = n + 1 := ck_wr _ (by omega) (by omega)
  obtain ⟨c0, c1, c2, cf, d0, d1, d2, e0, e1, gl, tl, ll⟩ := ff.keep ((Below.refl _ _).alloc (Nat.le_refl _) (.cells #[.int .i64 tag, .int .i64 num] 37))
  have hff : Hid (SF w g k ops.length lb loff lcap tb tcap tag num n v bad) := ff
  obtain ⟨c0', c1', c2', cf', d0', d1', d2', e0', e1', gl', tl', ll'⟩ := ff
  have hki : (k : Int) < (ops.length : Int) := by omega
  have hh : Hid (SW w B g ops (.slice (some ⟨lb, loff, none⟩) ops.length lcap) (T, bad) (.slice (some ⟨tb, 0, none⟩) ops.length tcap)) := h
  have hl' : Hid (T.length = ops.length) := hl
  clear h hl hk hT
  go_enter Tryd.func23, Tryd.ntmps23
  go_upto_region 20 with (first | (go_at_call 29; refine (hM _).mono ?_; rintro r w2 ⟨rfl, hb2⟩; obtain ⟨⟨x0, x1⟩, ⟨y0, y1, y2⟩, zl, hb3⟩ := box23 hb2; have ff2 := hff.out.keep hb3; obtain ⟨c0, c1, c2, cf, d0, d1, d2, e0, e1, gl, tl, ll⟩ := ff2; have ne1 : w.heap.size ≠ w2.heap.size := (by omega); have ne2 : w.heap.size + 1 ≠ w2.heap.size := (by omega); have ne3 : w2.heap.size ≠ w.heap.size := (by omega); have ne4 : w2.heap.size ≠ w.heap.size + 1 := (by omega); have zl0 : w.heap.size < w2.heap.size := (by omega)) | (go_at_call 22; refine (law_come ops (T, bad) num.toNat ⟨n + 1, 0⟩ _ B g _ _ (hh.out.keep (hb3.alloc hb3.size (.cells #[.int .i64 (n + mv), .int .i64 (v - tk + pt), .bool false] 54))) hl'.out num (by omega)).mono ?_; rintro r w7 ⟨rfl, hS1, hM1⟩; have hbk := hM1.block w2.heap.size (by simp) (by omega) (by simp [Value.ownBlock]; omega); have u0 := (World.cell?_of_block (a := ⟨w2.heap.size, 0, none⟩) hbk).trans (ow_cells_new w2 #[.int .i64 (n + mv), .int .i64 (v - tk + pt), .bool false] 54 0 _ rfl); have u1 := (World.cell?_of_block (a := ⟨w2.heap.size, 1, none⟩) hbk).trans (ow_cells_new w2 #[.int .i64 (n + mv), .int .i64 (v - tk + pt), .bool false] 54 1 _ rfl); have u2 := (World.cell?_of_block (a := ⟨w2.heap.size, 2, none⟩) hbk).trans (ow_cells_new w2 #[.int .i64 (n + mv), .int .i64 (v - tk + pt), .bool false] 54 2 _ rfl); have u3 := (World.frozen?_of_block (a := ⟨w2.heap.size, 0, none⟩) hbk).trans (World.frozen?_alloc_new w2 #[.int .i64 (n + mv), .int .i64 (v - tk + pt), .bool false] 54 0); have hz7 := hM1.size; have hS2 : Hid (SW w7 B g ops _ (comeM (T, bad) (num.toNat, ⟨n + 1, 0⟩)) _) := hS1; have hM2 : Hid (Sm w w7 g _) := (Sm.ofBelow (hb3.alloc hb3.size (.cells #[.int .i64 (n + mv), .int .i64 (v - tk + pt), .bool false] 54))).trans hM1; clear hS1 hM1))
  go_wp2_with (go_at_call 22; refine (law_come ops (comeM (T, bad) (num.toNat, ⟨n + 1, 0⟩)) (k + 1) ⟨n + mv, v - tk + pt⟩ _ B g _ _ hS2.out ((comeM_len _ _).trans hl'.out) ((k : Int) + 1) (by omega)).mono ?_; rintro r w8 ⟨rfl, hS3, hM3⟩)
  exact bodyPost_end (v := .tuple #[]) (by simp [results, Tryd.results23, go_sem]) rfl ⟨rfl, hS3, hM2.out.trans hM3⟩
set_option maxRecDepth 100000 in
set_option maxHeartbeats 4000000 in
theorem one_rec (ops : List Wd) (C : Tb × Bool) (k : Nat) (s : Sd) (w : World) (B g : Nat) (vl vt : Value) (h : SW w B g ops vl C vt) (hl : C.1.length = ops.length) (hk : C.1.getD k none = some s) (hkl : k < ops.length) (_hlen : ops.length ≤ 200) (hn : 0 ≤ s.n ∧ s.n ≤ 1000) (hvm : s.v ≤ 1000)
    (hT : 1 ≤ (ops.getD k op0).tag ∧ (ops.getD k op0).tag ≤ 24) (hnu : 0 ≤ (ops.getD k op0).num ∧ (ops.getD k op0).num ≤ 1048576) (hv : ¬ s.v < takesM (ops.getD k op0).tag) (ht : (ops.getD k op0).tag = 5)  :
    Calls Tryd.prog 23 #[.pointer (some ⟨g, 0, none⟩), .int .i64 (k : Int)] w fun r w' => r = .returned (.tuple #[]) ∧ SW w' B g ops vl (comeM (comeM C ((ops.getD k op0).num.toNat, ⟨s.n + 2, 0⟩)) (k + 1, ⟨s.n + movesM (ops.getD k op0), s.v - takesM (ops.getD k op0).tag + putsM (ops.getD k op0).tag⟩)) vt ∧ Sm w w' g vt := by
  obtain ⟨lb, loff, lcap, tb, tcap, rfl, rfl, ff⟩ := h.sf hl hk hkl
  obtain ⟨n, v⟩ := s
  have hM := fun w => spec_l6Moves (ops.getD k op0) hT hnu w
  have htk := takes_le (ops.getD k op0).tag
  have hmv := moves_le (ops.getD k op0) hnu
  generalize movesM (ops.getD k op0) = mv at *
  generalize (ops.getD k op0).tag = tag at *
  generalize (ops.getD k op0).num = num at *
  generalize takesM tag = tk at *
  generalize putsM tag = pt at *
  obtain ⟨T, bad⟩ := C
  simp only at ff hv hn ht hvm hnu hl h ⊢
  obtain ⟨tk0, tk1, pt0, pt1⟩ := htk
  have b24 : (tag == 24) = false := by rw [ht]; rfl
  have b10 : (tag == 10) = false := by rw [ht]; rfl
  have b4 : (tag == 4) = false := by rw [ht]; rfl
  have b5 : (tag == 5) = true := by simpa using ht
  have b9 : (tag == 9) = false := by rw [ht]; rfl
  have b16 : (tag == 16) = false := by rw [ht]; rfl
  have b3 : (tag == 3) = false := by rw [ht]; rfl
  clear ht
  have wr1 : IntKind.i64.wrap (n + mv) = n + mv := ck_wr _ (by omega) (by omega)
  have wr2 : IntKind.i64.wrap (v - tk) = v - tk := ck_wr _ (by omega) (by omega)
  have wr3 : IntKind.i64.wrap (v - tk + pt) = v - tk + pt := ck_wr _ (by omega) (by omega)
  have wr4 : IntKind.i64.wrap ((k : Int) + 1) = (k : Int) + 1 := ck_wr _ (by omega) (by omega)
  have wr6 : IntKind.i64.wrap (n + 2) = n + 2 := ck_wr _ (by omega) (by omega)
  obtain ⟨c0, c1, c2, cf, d0, d1, d2, e0, e1, gl, tl, ll⟩ := ff.keep ((Below.refl _ _).alloc (Nat.le_refl _) (.cells #[.int .i64 tag, .int .i64 num] 37))
  have hff : Hid (SF w g k ops.length lb loff lcap tb tcap tag num n v bad) := ff
  obtain ⟨c0', c1', c2', cf', d0', d1', d2', e0', e1', gl', tl', ll'⟩ := ff
  have hki : (k : Int) < (ops.length : Int) := by omega
  have hh : Hid (SW w B g ops (.slice (some ⟨lb, loff, none⟩) ops.length lcap) (T, bad) (.slice (some ⟨tb, 0, none⟩) ops.length tcap)) := h
  have hl' : Hid (T.length = ops.length) := hl
  clear h hl hk hT
  go_enter Tryd.func23, Tryd.ntmps23
  go_upto_region 20 with (first | (go_at_call 29; refine (hM _).mono ?_; rintro r w2 ⟨rfl, hb2⟩; obtain ⟨⟨x0, x1⟩, ⟨y0, y1, y2⟩, zl, hb3⟩ := box23 hb2; have ff2 := hff.out.keep hb3; obtain ⟨c0, c1, c2, cf, d0, d1, d2, e0, e1, gl, tl, ll⟩ := ff2; have ne1 : w.heap.size ≠ w2.heap.size := (by omega); have ne2 : w.heap.size + 1 ≠ w2.heap.size := (by omega); have ne3 : w2.heap.size ≠ w.heap.size := (by omega); have ne4 : w2.heap.size ≠ w.heap.size + 1 := (by omega); have zl0 : w.heap.size < w2.heap.size := (by omega)) | (go_at_call 22; refine (law_come ops (T, bad) num.toNat ⟨n + 2, 0⟩ _ B g _ _ (hh.out.keep (hb3.alloc hb3.size (.cells #[.int .i64 (n + mv), .int .i64 (v - tk + pt), .bool false] 54))) hl'.out num (by omega)).mono ?_; rintro r w7 ⟨rfl, hS1, hM1⟩; have hbk := hM1.block w2.heap.size (by simp) (by omega) (by simp [Value.ownBlock]; omega); have u0 := (World.cell?_of_block (a := ⟨w2.heap.size, 0, none⟩) hbk).trans (ow_cells_new w2 #[.int .i64 (n + mv), .int .i64 (v - tk + pt), .bool false] 54 0 _ rfl); have u1 := (World.cell?_of_block (a := ⟨w2.heap.size, 1, none⟩) hbk).trans (ow_cells_new w2 #[.int .i64 (n + mv), .int .i64 (v - tk + pt), .bool false] 54 1 _ rfl); have u2 := (World.cell?_of_block (a := ⟨w2.heap.size, 2, none⟩) hbk).trans (ow_cells_new w2 #[.int .i64 (n + mv), .int .i64 (v - tk + pt), .bool false] 54 2 _ rfl); have u3 := (World.frozen?_of_block (a := ⟨w2.heap.size, 0, none⟩) hbk).trans (World.frozen?_alloc_new w2 #[.int .i64 (n + mv), .int .i64 (v - tk + pt), .bool false] 54 0); have hz7 := hM1.size; have hS2 : Hid (SW w7 B g ops _ (comeM (T, bad) (num.toNat, ⟨n + 2, 0⟩)) _) := hS1; have hM2 : Hid (Sm w w7 g _) := (Sm.ofBelow (hb3.alloc hb3.size (.cells #[.int .i64 (n + mv), .int .i64 (v - tk + pt), .bool false] 54))).trans hM1; clear hS1 hM1))
  go_wp2_with (go_at_call 22; refine (law_come ops (comeM (T, bad) (num.toNat, ⟨n + 2, 0⟩)) (k + 1) ⟨n + mv, v - tk + pt⟩ _ B g _ _ hS2.out ((comeM_len _ _).trans hl'.out) ((k : Int) + 1) (by omega)).mono ?_; rintro r w8 ⟨rfl, hS3, hM3⟩)
  exact bodyPost_end (v := .tuple #[]) (by simp [results, Tryd.results23, go_sem]) rfl ⟨rfl, hS3, hM2.out.trans hM3⟩
end Go.Proofs.YtlkbgmgnjkkfgaaDoor

