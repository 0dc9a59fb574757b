/-
  The specification's one: what leads aside and on.
  The specification's one: of whatever op.
-/
import Derived.Test.YtlkbgmgnjkkfgaaDoorLvAll29
import Derived.Deep.Cut
import Derived.Test.YtlkbgmgnjkkfgaaDoorCkOneC
import Derived.Test.YtlkbgmgnjkkfgaaDoorCkOneD
namespace Go.Proofs.YtlkbgmgnjkkfgaaDoor
open Go.RowKit

set_option maxRecDepth 100000 in
set_option maxHeartbeats 4000000 in
theorem one_if (ops : List Wd) (C : Tb × Bool) (k : Nat) (s : Sd) (w : World) (B g : Nat) (vl vt : Value) (h : SW w B g ops vl C vt) (hl : C.1.length = ops.length) (hk : C.1.getD k none = some s) (hkl : k < ops.length) (_hlen : ops.length ≤ 200) (hn : 0 ≤ s.n ∧ s.n ≤ 1000) (hvm : s.v ≤ 1000)
    (hT : 1 ≤ (ops.getD k op0).tag ∧ (ops.getD k op0).tag ≤ 24) (hnu : 0 ≤ (ops.getD k op0).num ∧ (ops.getD k op0).num ≤ 1048576) (hv : ¬ s.v < takesM (ops.getD k op0).tag) (ht : (ops.getD k op0).tag = 9)  :
    Calls Tryd.prog 23 #[.pointer (some ⟨g, 0, none⟩), .int .i64 (k : Int)] w fun r w' => r = .returned (.tuple #[]) ∧ SW w' B g ops vl (comeM (comeM C ((ops.getD k op0).num.toNat, ⟨s.n + movesM (ops.getD k op0), s.v - takesM (ops.getD k op0).tag + putsM (ops.getD k op0).tag⟩)) (k + 1, ⟨s.n + movesM (ops.getD k op0), s.v - takesM (ops.getD k op0).tag + putsM (ops.getD k op0).tag⟩)) vt ∧ Sm w w' g vt := by
  obtain ⟨lb, loff, lcap, tb, tcap, rfl, rfl, ff⟩ := h.sf hl hk hkl
  obtain ⟨n, v⟩ := s
  have hM := fun w => spec_l6Moves (ops.getD k op0) hT hnu w
  have htk := takes_le (ops.getD k op0).tag
  have hmv := moves_le (ops.getD k op0) hnu
  generalize movesM (ops.getD k op0) = mv at *
  generalize (ops.getD k op0).tag = tag at *
  generalize (ops.getD k op0).num = num at *
  generalize takesM tag = tk at *
  generalize putsM tag = pt at *
  obtain ⟨T, bad⟩ := C
  simp only at ff hv hn ht hvm hnu hl h ⊢
  obtain ⟨tk0, tk1, pt0, pt1⟩ := htk
  have b24 : (tag == 24) = false := by rw [ht]; rfl
  have b10 : (tag == 10) = false := by rw [ht]; rfl
  have b4 : (tag == 4) = false := by rw [ht]; rfl
  have b5 : (tag == 5) = false := by rw [ht]; rfl
  have b9 : (tag == 9) = true := by simpa using ht
  have b16 : (tag == 16) = false := by rw [ht]; rfl
  have b3 : (tag == 3) = false := by rw [ht]; rfl
  clear ht
  have wr1 : IntKind.i64.wrap (n + mv) = n + mv := ck_wr _ (by omega) (by omega)
  have wr2 : IntKind.i64.wrap (v - tk) = v - tk := ck_wr _ (by omega) (by omega)
  have wr3 : IntKind.i64.wrap (v - tk + pt) = v - tk + pt := ck_wr _ (by omega) (by omega)
  have wr4 : IntKind.i64.wrap ((k : Int) + 1) = (k : Int) + 1 := ck_wr _ (by omega) (by omega)
  obtain ⟨c0, c1, c2, cf, d0, d1, d2, e0, e1, gl, tl, ll⟩ := ff.keep ((Below.refl _ _).alloc (Nat.le_refl _) (.cells #[.int .i64 tag, .int .i64 num] 37))
  have hff : Hid (SF w g k ops.length lb loff lcap tb tcap tag num n v bad) := ff
  obtain ⟨c0', c1', c2', cf', d0', d1', d2', e0', e1', gl', tl', ll'⟩ := ff
  have hki : (k : Int) < (ops.length : Int) := by omega
  have hh : Hid (SW w B g ops (.slice (some ⟨lb, loff, none⟩) ops.length lcap) (T, bad) (.slice (some ⟨tb, 0, none⟩) ops.length tcap)) := h
  have hl' : Hid (T.length = ops.length) := hl
  clear h hl hk hT
  go_enter Tryd.func23, Tryd.ntmps23
  go_upto_region 20 with (first | (go_at_call 29; refine (hM _).mono ?_; rintro r w2 ⟨rfl, hb2⟩; obtain ⟨⟨x0, x1⟩, ⟨y0, y1, y2⟩, zl, hb3⟩ := box23 hb2; have ff2 := hff.out.keep hb3; obtain ⟨c0, c1, c2, cf, d0, d1, d2, e0, e1, gl, tl, ll⟩ := ff2; have ne1 : w.heap.size ≠ w2.heap.size := (by omega); have ne2 : w.heap.size + 1 ≠ w2.heap.size := (by omega); have ne3 : w2.heap.size ≠ w.heap.size := (by omega); have ne4 : w2.heap.size ≠ w.heap.size + 1 := (by omega); have zl0 : w.heap.size < w2.heap.size := (by omega)) | (go_at_call 22; refine (law_come ops (T, bad) num.toNat ⟨n + mv, v - tk + pt⟩ _ B g _ _ (hh.out.keep (hb3.alloc hb3.size (.cells #[.int .i64 (n + mv), .int .i64 (v - tk + pt), .bool false] 54))) hl'.out num (by omega)).mono ?_; rintro r w7 ⟨rfl, hS1, hM1⟩; have hbk := hM1.block w2.heap.size (by simp) (by omega) (by simp [Value.ownBlock]; omega); have u0 := (World.cell?_of_block (a := ⟨w2.heap.size, 0, none⟩) hbk).trans (ow_cells_new w2 #[.int .i64 (n + mv), .int .i64 (v - tk + pt), .bool false] 54 0 _ rfl); have u1 := (World.cell?_of_block (a := ⟨w2.heap.size, 1, none⟩) hbk).trans (ow_cells_new w2 #[.int .i64 (n + mv), .int .i64 (v - tk + pt), .bool false] 54 1 _ rfl); have u2 := (World.cell?_of_block (a := ⟨w2.heap.size, 2, none⟩) hbk).trans (ow_cells_new w2 #[.int .i64 (n + mv), .int .i64 (v - tk + pt), .bool false] 54 2 _ rfl); have u3 := (World.frozen?_of_block (a := ⟨w2.heap.size, 0, none⟩) hbk).trans (World.frozen?_alloc_new w2 #[.int .i64 (n + mv), .int .i64 (v - tk + pt), .bool false] 54 0); have hz7 := hM1.size; have hS2 : Hid (SW w7 B g ops _ (comeM (T, bad) (num.toNat, ⟨n + mv, v - tk + pt⟩)) _) := hS1; have hM2 : Hid (Sm w w7 g _) := (Sm.ofBelow (hb3.alloc hb3.size (.cells #[.int .i64 (n + mv), .int .i64 (v - tk + pt), .bool false] 54))).trans hM1; clear hS1 hM1))
  go_wp2_with (go_at_call 22; refine (law_come ops (comeM (T, bad) (num.toNat, ⟨n + mv, v - tk + pt⟩)) (k + 1) ⟨n + mv, v - tk + pt⟩ _ B g _ _ hS2.out ((comeM_len _ _).trans hl'.out) ((k : Int) + 1) (by omega)).mono ?_; rintro r w8 ⟨rfl, hS3, hM3⟩)
  exact bodyPost_end (v := .tuple #[]) (by simp [results, Tryd.results23, go_sem]) rfl ⟨rfl, hS3, hM2.out.trans hM3⟩
set_option maxRecDepth 100000 in
set_option maxHeartbeats 4000000 in
theorem one_case (ops : List Wd) (C : Tb × Bool) (k : Nat) (s : Sd) (w : World) (B g : Nat) (vl vt : Value) (h : SW w B g ops vl C vt) (hl : C.1.length = ops.length) (hk : C.1.getD k none = some s) (hkl : k < ops.length) (_hlen : ops.length ≤ 200) (hn : 0 ≤ s.n ∧ s.n ≤ 1000) (hvm : s.v ≤ 1000)
    (hT : 1 ≤ (ops.getD k op0).tag ∧ (ops.getD k op0).tag ≤ 24) (hnu : 0 ≤ (ops.getD k op0).num ∧ (ops.getD k op0).num ≤ 1048576) (hv : ¬ s.v < takesM (ops.getD k op0).tag) (ht : (ops.getD k op0).tag = 16)  :
    Calls Tryd.prog 23 #[.pointer (some ⟨g, 0, none⟩), .int .i64 (k : Int)] w fun r w' => r = .returned (.tuple #[]) ∧ SW w' B g ops vl (comeM (comeM C ((ops.getD k op0).num.toNat, ⟨s.n + movesM (ops.getD k op0), s.v - takesM (ops.getD k op0).tag + putsM (ops.getD k op0).tag⟩)) (k + 1, ⟨s.n + movesM (ops.getD k op0) + 2, s.v - takesM (ops.getD k op0).tag + putsM (ops.getD k op0).tag⟩)) vt ∧ Sm w w' g vt := by
  obtain ⟨lb, loff, lcap, tb, tcap, rfl, rfl, ff⟩ := h.sf hl hk hkl
  obtain ⟨n, v⟩ := s
  have hM := fun w => spec_l6Moves (ops.getD k op0) hT hnu w
  have htk := takes_le (ops.getD k op0).tag
  have hmv := moves_le (ops.getD k op0) hnu
  generalize movesM (ops.getD k op0) = mv at *
  generalize (ops.getD k op0).tag = tag at *
  generalize (ops.getD k op0).num = num at *
  generalize takesM tag = tk at *
  generalize putsM tag = pt at *
  obtain ⟨T, bad⟩ := C
  simp only at ff hv hn ht hvm hnu hl h ⊢
  obtain ⟨tk0, tk1, pt0, pt1⟩ := htk
  have b24 : (tag == 24) = false := by rw [ht]; rfl
  have b10 : (tag == 10) = false := by rw [ht]; rfl
  have b4 : (tag == 4) = false := by rw [ht]; rfl
  have b5 : (tag == 5) = false := by rw [ht]; rfl
  have b9 : (tag == 9) = false := by rw [ht]; rfl
  have b16 : (tag == 16) = true := by simpa using ht
  have b3 : (tag == 3) = false := by rw [ht]; rfl
  clear ht
  have wr1 : IntKind.i64.wrap (n + mv) = n + mv := ck_wr _ (by omega) (by omega)
  have wr2 : IntKind.i64.wrap (v - tk) = v - tk := ck_wr _ (by omega) (by omega)
  have wr3 : IntKind.i64.wrap (v - tk + pt) = v - tk + pt := ck_wr _ (by omega) (by omega)
  have wr4 : IntKind.i64.wrap ((k : Int) + 1) = (k : Int) + 1 := ck_wr _ (by omega) (by omega)
  have wr7 : IntKind.i64.wrap (n + mv + 2) = n + mv + 2 := ck_wr _ (by omega) (by omega)
  obtain ⟨c0, c1, c2, cf, d0, d1, d2, e0, e1, gl, tl, ll⟩ := ff.keep ((Below.refl _ _).alloc (Nat.le_refl _) (.cells #[.int .i64 tag, .int .i64 num] 37))
  have hff : Hid (SF w g k ops.length lb loff lcap tb tcap tag num n v bad) := ff
  obtain ⟨c0', c1', c2', cf', d0', d1', d2', e0', e1', gl', tl', ll'⟩ := ff
  have hki : (k : Int) < (ops.length : Int) := by omega
  have hh : Hid (SW w B g ops (.slice (some ⟨lb, loff, none⟩) ops.length lcap) (T, bad) (.slice (some ⟨tb, 0, none⟩) ops.length tcap)) := h
  have hl' : Hid (T.length = ops.length) := hl
  clear h hl hk hT
  go_enter Tryd.func23, Tryd.ntmps23
  go_upto_region 20 with (first | (go_at_call 29; refine (hM _).mono ?_; rintro r w2 ⟨rfl, hb2⟩; obtain ⟨⟨x0, x1⟩, ⟨y0, y1, y2⟩, zl, hb3⟩ := box23 hb2; have ff2 := hff.out.keep hb3; obtain ⟨c0, c1, c2, cf, d0, d1, d2, e0, e1, gl, tl, ll⟩ := ff2; have ne1 : w.heap.size ≠ w2.heap.size := (by omega); have ne2 : w.heap.size + 1 ≠ w2.heap.size := (by omega); have ne3 : w2.heap.size ≠ w.heap.size := (by omega); have ne4 : w2.heap.size ≠ w.heap.size + 1 := (by omega); have zl0 : w.heap.size < w2.heap.size := (by omega)) | (go_at_call 22; refine (law_come ops (T, bad) num.toNat ⟨n + mv, v - tk + pt⟩ _ B g _ _ (hh.out.keep (hb3.alloc hb3.size (.cells #[.int .i64 (n + mv), .int .i64 (v - tk + pt), .bool false] 54))) hl'.out num (by omega)).mono ?_; rintro r w7 ⟨rfl, hS1, hM1⟩; have hbk := hM1.block w2.heap.size (by simp) (by omega) (by simp [Value.ownBlock]; omega); have u0 := (World.cell?_of_block (a := ⟨w2.heap.size, 0, none⟩) hbk).trans (ow_cells_new w2 #[.int .i64 (n + mv), .int .i64 (v - tk + pt), .bool false] 54 0 _ rfl); have u1 := (World.cell?_of_block (a := ⟨w2.heap.size, 1, none⟩) hbk).trans (ow_cells_new w2 #[.int .i64 (n + mv), .int .i64 (v - tk + pt), .bool false] 54 1 _ rfl); have u2 := (World.cell?_of_block (a := ⟨w2.heap.size, 2, none⟩) hbk).trans (ow_cells_new w2 #[.int .i64 (n + mv), .int .i64 (v - tk + pt), .bool false] 54 2 _ rfl); have u3 := (World.frozen?_of_block (a := ⟨w2.heap.size, 0, none⟩) hbk).trans (World.frozen?_alloc_new w2 #[.int .i64 (n + mv), .int .i64 (v - tk + pt), .bool false] 54 0); have hz7 := hM1.size; have hSM := SW.boxSet hh.out (hb3.alloc hb3.size (.cells #[.int .i64 (n + mv), .int .i64 (v - tk + pt), .bool false] 54)) hS1 hM1 w2.heap.size 0 hb3.size (.int .i64 (n + mv + 2)); have hS2 : Hid (SW (w7.setCell ⟨w2.heap.size, 0, none⟩ (.int .i64 (n + mv + 2))) B g ops _ (comeM (T, bad) (num.toNat, ⟨n + mv, v - tk + pt⟩)) _) := hSM.1; have hM2 : Hid (Sm w (w7.setCell ⟨w2.heap.size, 0, none⟩ (.int .i64 (n + mv + 2))) g _) := hSM.2; clear hSM hS1 hM1))
  go_wp2_with (go_at_call 22; refine (law_come ops (comeM (T, bad) (num.toNat, ⟨n + mv, v - tk + pt⟩)) (k + 1) ⟨n + mv + 2, v - tk + pt⟩ _ B g _ _ hS2.out ((comeM_len _ _).trans hl'.out) ((k : Int) + 1) (by omega)).mono ?_; rintro r w8 ⟨rfl, hS3, hM3⟩)
  exact bodyPost_end (v := .tuple #[]) (by simp [results, Tryd.results23, go_sem]) rfl ⟨rfl, hS3, hM2.out.trans hM3⟩
end Go.Proofs.YtlkbgmgnjkkfgaaDoor

namespace Go.Proofs.YtlkbgmgnjkkfgaaDoor
open Go.RowKit

theorem behind_moves (op : Wd) (s : Sd) : behind op s = ⟨s.n + movesM op + (if op.tag = 16 then 2 else 0), s.v - takesM op.tag + putsM op.tag⟩ := by
  unfold behind movesM
  congr 1
  by_cases h7 : op.tag = 7
  · rw [if_pos h7, if_pos h7, if_neg (by omega)]; omega
  · rw [if_neg h7, if_neg h7]
    by_cases h8 : op.tag = 8
    · rw [if_pos h8, if_pos h8, if_neg (by omega)]; omega
    · rw [if_neg h8, if_neg h8]
      by_cases h16 : op.tag = 16
      · rw [if_pos h16, if_pos h16]; omega
      · rw [if_neg h16, if_neg h16]; omega
theorem law_one (ops : List Wd) (C : Tb × Bool) (k : Nat) (s : Sd) (w : World) (B g : Nat) (vl vt : Value) (h : SW w B g ops vl C vt) (hl : C.1.length = ops.length) (hk : C.1.getD k none = some s) (hkl : k < ops.length) (hlen : ops.length ≤ 200) (hn : 0 ≤ s.n ∧ s.n ≤ 1000) (hvm : s.v ≤ 1000)
    (hT : 1 ≤ (ops.getD k op0).tag ∧ (ops.getD k op0).tag ≤ 24) (hnu : 0 ≤ (ops.getD k op0).num ∧ (ops.getD k op0).num ≤ 1048576) (hC : C.2 = false) :
    Calls Tryd.prog 23 #[.pointer (some ⟨g, 0, none⟩), .int .i64 (k : Int)] w fun r w' => r = .returned (.tuple #[]) ∧ SW w' B g ops vl (oneM ops C k s) vt ∧ Sm w w' g vt := by
  have hbh := behind_moves (ops.getD k op0) s
  unfold oneM goes
  by_cases hv : s.v < takesM (ops.getD k op0).tag
  · rw [if_pos hv]
    exact one_few ops C k s w B g vl vt h hl hk hkl hlen hn hvm hT hnu hv
  rw [if_neg hv]
  by_cases h3 : (ops.getD k op0).tag = 3
  · have hmv : movesM (ops.getD k op0) = 0 := by unfold movesM; rw [h3]; rfl
    by_cases hnn : s.n ≤ (ops.getD k op0).num
    · rw [if_pos ⟨h3, hnn⟩]
      exact one_var ops C k s w B g vl vt h hl hk hkl hlen hn hvm hT hnu hv h3 hnn
    · rw [if_neg (fun e => hnn e.2), if_neg (by omega), if_neg (by omega)]
      have ha : aside (ops.getD k op0) s = [] := by
        unfold aside
        rw [if_neg (by omega), if_neg (by omega), if_neg (by omega)]
      have := one_name ops C k s w B g vl vt h hl hk hkl hlen hn hvm hT hnu hv h3 hnn
      rw [ha, hbh, if_neg (by omega), Int.add_zero]
      exact this
  rw [if_neg (fun e => h3 e.1)]
  by_cases h24 : (ops.getD k op0).tag = 24
  · rw [if_pos h24]
    by_cases h1 : s.v = 1
    · rw [if_pos h1]
      exact one_give ops C k s w B g vl vt h hl hk hkl hlen hn hvm hT hnu hv h24 hC h1
    · rw [if_neg h1]
      exact one_giveNo ops C k s w B g vl vt h hl hk hkl hlen hn hvm hT hnu hv h24 hC h1
  rw [if_neg h24]
  by_cases h10 : (ops.getD k op0).tag = 10
  · rw [if_pos h10]
    have hmv : movesM (ops.getD k op0) = 0 := by unfold movesM; rw [h10]; rfl
    have ha : aside (ops.getD k op0) s = [((ops.getD k op0).num.toNat, ⟨s.n, s.v - takesM (ops.getD k op0).tag + putsM (ops.getD k op0).tag⟩)] := by
      unfold aside
      rw [if_neg (by omega), if_neg (by omega), if_pos (by omega)]
    have := one_go ops C k s w B g vl vt h hl hk hkl hlen hn hvm hT hnu hv h10
    rw [hmv, Int.add_zero] at this
    rw [ha]
    exact this
  rw [if_neg h10]
  by_cases h4 : (ops.getD k op0).tag = 4
  · have ha : aside (ops.getD k op0) s = [((ops.getD k op0).num.toNat, ⟨s.n + 1, 0⟩)] := by
      unfold aside
      rw [if_pos h4]
    have := one_fun ops C k s w B g vl vt h hl hk hkl hlen hn hvm hT hnu hv h4
    rw [ha, hbh, if_neg (by omega), Int.add_zero]
    exact this
  by_cases h5 : (ops.getD k op0).tag = 5
  · have ha : aside (ops.getD k op0) s = [((ops.getD k op0).num.toNat, ⟨s.n + 2, 0⟩)] := by
      unfold aside
      rw [if_neg h4, if_pos h5]
    have := one_rec ops C k s w B g vl vt h hl hk hkl hlen hn hvm hT hnu hv h5
    rw [ha, hbh, if_neg (by omega), Int.add_zero]
    exact this
  by_cases h9 : (ops.getD k op0).tag = 9
  · have hmv : movesM (ops.getD k op0) = 0 := by unfold movesM; rw [h9]; rfl
    have ha : aside (ops.getD k op0) s = [((ops.getD k op0).num.toNat, ⟨s.n, s.v - takesM (ops.getD k op0).tag + putsM (ops.getD k op0).tag⟩)] := by
      unfold aside
      rw [if_neg h4, if_neg h5, if_pos (by omega)]
    have := one_if ops C k s w B g vl vt h hl hk hkl hlen hn hvm hT hnu hv h9
    rw [ha, hbh, if_neg (by omega), Int.add_zero]
    rw [hmv, Int.add_zero] at this ⊢
    exact this
  by_cases h16 : (ops.getD k op0).tag = 16
  · have hmv : movesM (ops.getD k op0) = 0 := by unfold movesM; rw [h16]; rfl
    have ha : aside (ops.getD k op0) s = [((ops.getD k op0).num.toNat, ⟨s.n, s.v - takesM (ops.getD k op0).tag + putsM (ops.getD k op0).tag⟩)] := by
      unfold aside
      rw [if_neg h4, if_neg h5, if_pos (by omega)]
    have := one_case ops C k s w B g vl vt h hl hk hkl hlen hn hvm hT hnu hv h16
    rw [ha, hbh, if_pos h16]
    rw [hmv, Int.add_zero] at this ⊢
    exact this
  have ha : aside (ops.getD k op0) s = [] := by
    unfold aside
    rw [if_neg h4, if_neg h5, if_neg (by omega)]
  have := one_next ops C k s w B g vl vt h hl hk hkl hlen hn hvm hT hnu hv h24 h10 h4 h5 h9 h16 h3
  rw [ha, hbh, if_neg h16, Int.add_zero]
  exact this
end Go.Proofs.YtlkbgmgnjkkfgaaDoor

