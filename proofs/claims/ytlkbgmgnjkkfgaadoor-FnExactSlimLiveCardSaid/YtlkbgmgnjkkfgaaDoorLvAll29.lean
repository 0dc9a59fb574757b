/-
  The specification's one: what can't be done.
  The specification's one: give and go.
-/
import Derived.Test.YtlkbgmgnjkkfgaaDoorLvAll28
namespace Go.Proofs.YtlkbgmgnjkkfgaaDoor
open Go.RowKit

set_option maxRecDepth 100000 in
set_option maxHeartbeats 4000000 in
theorem one_few (ops : List Wd) (C : Tb × Bool) (k : Nat) (s : Sd) (w : World) (B g : Nat) (vl vt : Value) (h : SW w B g ops vl C vt) (hl : C.1.length = ops.length) (hk : C.1.getD k none = some s) (hkl : k < ops.length) (_hlen : ops.length ≤ 200) (hn : 0 ≤ s.n ∧ s.n ≤ 1000) (hvm : s.v ≤ 1000)
    (hT : 1 ≤ (ops.getD k op0).tag ∧ (ops.getD k op0).tag ≤ 24) (hnu : 0 ≤ (ops.getD k op0).num ∧ (ops.getD k op0).num ≤ 1048576) (hv : s.v < takesM (ops.getD k op0).tag) :
    Calls Tryd.prog 23 #[.pointer (some ⟨g, 0, none⟩), .int .i64 (k : Int)] w fun r w' => r = .returned (.tuple #[]) ∧ SW w' B g ops vl (C.1, true) vt ∧ Sm w w' g vt := by
  obtain ⟨lb, loff, lcap, tb, tcap, rfl, rfl, ff⟩ := h.sf hl hk hkl
  obtain ⟨n, v⟩ := s
  have hM := fun w => spec_l6Moves (ops.getD k op0) hT hnu w
  have htk := takes_le (ops.getD k op0).tag
  have hmv := moves_le (ops.getD k op0) hnu
  generalize movesM (ops.getD k op0) = mv at *
  generalize (ops.getD k op0).tag = tag at *
  generalize (ops.getD k op0).num = num at *
  generalize takesM tag = tk at *
  generalize putsM tag = pt at *
  obtain ⟨T, bad⟩ := C
  simp only at ff hv hn hvm hnu hl h ⊢
  obtain ⟨ht0, ht1, ht2, ht3⟩ := htk
  obtain ⟨c0, c1, c2, cf, d0, d1, d2, e0, e1, gl, tl, ll⟩ := ff.keep ((Below.refl _ _).alloc (Nat.le_refl _) (.cells #[.int .i64 tag, .int .i64 num] 37))
  have hff : Hid (SF w g k ops.length lb loff lcap tb tcap tag num n v bad) := ff
  obtain ⟨c0', c1', c2', cf', d0', d1', d2', e0', e1', gl', tl', ll'⟩ := ff
  have hki : (k : Int) < (ops.length : Int) := by omega
  have hh : Hid (SW w B g ops (.slice (some ⟨lb, loff, none⟩) ops.length lcap) (T, bad) (.slice (some ⟨tb, 0, none⟩) ops.length tcap)) := h
  have hl' : Hid (T.length = ops.length) := hl
  clear h hl hk hT
  go_enter Tryd.func23, Tryd.ntmps23
  go_wp2_with (go_at_call 29; refine (hM _).mono ?_; rintro r w2 ⟨rfl, hb2⟩; obtain ⟨⟨x0, x1⟩, ⟨y0, y1, y2⟩, zl, hb3⟩ := box23 hb2; have ff2 := hff.out.keep hb3; obtain ⟨c0, c1, c2, cf, d0, d1, d2, e0, e1, gl, tl, ll⟩ := ff2; have ne1 : w.heap.size ≠ w2.heap.size := (by omega); have ne2 : w.heap.size + 1 ≠ w2.heap.size := (by omega); have ne3 : w2.heap.size ≠ w.heap.size := (by omega); have ne4 : w2.heap.size ≠ w.heap.size + 1 := (by omega); have zl0 : w.heap.size < w2.heap.size := (by omega))
  have hS := (hh.out.keep hb3).fell true
  exact bodyPost_ret (v := .tuple #[]) (by simp [results, Tryd.results23, go_sem]) rfl ⟨rfl, hS.1, (Sm.ofBelow hb3).trans hS.2⟩
set_option maxRecDepth 100000 in
set_option maxHeartbeats 4000000 in
theorem one_var (ops : List Wd) (C : Tb × Bool) (k : Nat) (s : Sd) (w : World) (B g : Nat) (vl vt : Value) (h : SW w B g ops vl C vt) (hl : C.1.length = ops.length) (hk : C.1.getD k none = some s) (hkl : k < ops.length) (_hlen : ops.length ≤ 200) (hn : 0 ≤ s.n ∧ s.n ≤ 1000) (hvm : s.v ≤ 1000)
    (hT : 1 ≤ (ops.getD k op0).tag ∧ (ops.getD k op0).tag ≤ 24) (hnu : 0 ≤ (ops.getD k op0).num ∧ (ops.getD k op0).num ≤ 1048576) (hv : ¬ s.v < takesM (ops.getD k op0).tag) (h3 : (ops.getD k op0).tag = 3) (hnn : s.n ≤ (ops.getD k op0).num) :
    Calls Tryd.prog 23 #[.pointer (some ⟨g, 0, none⟩), .int .i64 (k : Int)] w fun r w' => r = .returned (.tuple #[]) ∧ SW w' B g ops vl (C.1, true) vt ∧ Sm w w' g vt := by
  obtain ⟨lb, loff, lcap, tb, tcap, rfl, rfl, ff⟩ := h.sf hl hk hkl
  obtain ⟨n, v⟩ := s
  have hM := fun w => spec_l6Moves (ops.getD k op0) hT hnu w
  have htk := takes_le (ops.getD k op0).tag
  have hmv := moves_le (ops.getD k op0) hnu
  generalize movesM (ops.getD k op0) = mv at *
  generalize (ops.getD k op0).tag = tag at *
  generalize (ops.getD k op0).num = num at *
  generalize takesM tag = tk at *
  generalize putsM tag = pt at *
  obtain ⟨T, bad⟩ := C
  simp only at ff hv hn hnn h3 hvm hnu hl h ⊢
  obtain ⟨ht0, ht1, ht2, ht3⟩ := htk
  have b3 : (tag == 3) = true := by simpa using h3
  clear h3
  obtain ⟨c0, c1, c2, cf, d0, d1, d2, e0, e1, gl, tl, ll⟩ := ff.keep ((Below.refl _ _).alloc (Nat.le_refl _) (.cells #[.int .i64 tag, .int .i64 num] 37))
  have hff : Hid (SF w g k ops.length lb loff lcap tb tcap tag num n v bad) := ff
  obtain ⟨c0', c1', c2', cf', d0', d1', d2', e0', e1', gl', tl', ll'⟩ := ff
  have hki : (k : Int) < (ops.length : Int) := by omega
  have hh : Hid (SW w B g ops (.slice (some ⟨lb, loff, none⟩) ops.length lcap) (T, bad) (.slice (some ⟨tb, 0, none⟩) ops.length tcap)) := h
  have hl' : Hid (T.length = ops.length) := hl
  clear h hl hk hT
  go_enter Tryd.func23, Tryd.ntmps23
  go_wp2_with (go_at_call 29; refine (hM _).mono ?_; rintro r w2 ⟨rfl, hb2⟩; obtain ⟨⟨x0, x1⟩, ⟨y0, y1, y2⟩, zl, hb3⟩ := box23 hb2; have ff2 := hff.out.keep hb3; obtain ⟨c0, c1, c2, cf, d0, d1, d2, e0, e1, gl, tl, ll⟩ := ff2; have ne1 : w.heap.size ≠ w2.heap.size := (by omega); have ne2 : w.heap.size + 1 ≠ w2.heap.size := (by omega); have ne3 : w2.heap.size ≠ w.heap.size := (by omega); have ne4 : w2.heap.size ≠ w.heap.size + 1 := (by omega); have zl0 : w.heap.size < w2.heap.size := (by omega))
  have hS := (hh.out.keep hb3).fell true
  exact bodyPost_ret (v := .tuple #[]) (by simp [results, Tryd.results23, go_sem]) rfl ⟨rfl, hS.1, (Sm.ofBelow hb3).trans hS.2⟩
theorem SW.boxSet {w w1 w' : World} {B g : Nat} {ops : List Wd} {vl vt : Value} {C C1 : Tb × Bool} (h : SW w B g ops vl C vt) (hb : Below w.heap.size w w1) (hC : SW w' B g ops vl C1 vt) (hM : Sm w1 w' g vt) (k o : Nat) (h1 : w.heap.size ≤ k) (x : Value) :
    SW (w'.setCell ⟨k, o, none⟩ x) B g ops vl C1 vt ∧ Sm w (w'.setCell ⟨k, o, none⟩ x) g vt := by
  have hg := h.lt
  have hB := h.hB
  have hz : (w'.setCell ⟨k, o, none⟩ x).heap.size = w'.heap.size := by simp [World.setCell]
  have hs : ∀ i, i ≠ k → (w'.setCell ⟨k, o, none⟩ x).heap[i]? = w'.heap[i]? := fun i hi => Below.heap_setCell _ _ _ _ hi
  have hMM := (Sm.ofBelow (g := g) (vt := vt) hb).trans hM
  refine ⟨hC.same fun i hi hc => hs i (fun e => ?_), ⟨hMM.os, hMM.tape, hMM.output, by have := hMM.size; omega, fun i hi a b => by rw [hs i (by omega)]; exact hMM.block i hi a b⟩⟩
  subst e
  rcases hc with e | e | e
  · omega
  · omega
  · have := (h.tab.lt i e.symm).2; omega
end Go.Proofs.YtlkbgmgnjkkfgaaDoor

namespace Go.Proofs.YtlkbgmgnjkkfgaaDoor
open Go.RowKit

set_option maxRecDepth 100000 in
set_option maxHeartbeats 4000000 in
theorem one_give (ops : List Wd) (C : Tb × Bool) (k : Nat) (s : Sd) (w : World) (B g : Nat) (vl vt : Value) (h : SW w B g ops vl C vt) (hl : C.1.length = ops.length) (hk : C.1.getD k none = some s) (hkl : k < ops.length) (_hlen : ops.length ≤ 200) (hn : 0 ≤ s.n ∧ s.n ≤ 1000) (hvm : s.v ≤ 1000)
    (hT : 1 ≤ (ops.getD k op0).tag ∧ (ops.getD k op0).tag ≤ 24) (hnu : 0 ≤ (ops.getD k op0).num ∧ (ops.getD k op0).num ≤ 1048576) (hv : ¬ s.v < takesM (ops.getD k op0).tag) (ht : (ops.getD k op0).tag = 24) (hC : C.2 = false) (h1 : s.v = 1) :
    Calls Tryd.prog 23 #[.pointer (some ⟨g, 0, none⟩), .int .i64 (k : Int)] w fun r w' => r = .returned (.tuple #[]) ∧ SW w' B g ops vl C vt ∧ Sm w w' g vt := by
  obtain ⟨lb, loff, lcap, tb, tcap, rfl, rfl, ff⟩ := h.sf hl hk hkl
  obtain ⟨n, v⟩ := s
  have hM := fun w => spec_l6Moves (ops.getD k op0) hT hnu w
  have htk := takes_le (ops.getD k op0).tag
  have hmv := moves_le (ops.getD k op0) hnu
  generalize movesM (ops.getD k op0) = mv at *
  generalize (ops.getD k op0).tag = tag at *
  generalize (ops.getD k op0).num = num at *
  generalize takesM tag = tk at *
  generalize putsM tag = pt at *
  obtain ⟨T, bad⟩ := C
  simp only at ff hv hn hC h1 ht hvm hnu hl h ⊢
  obtain ⟨tk0, tk1, pt0, pt1⟩ := htk
  have b24 : (tag == 24) = true := by simpa using ht
  have b10 : (tag == 10) = false := by rw [ht]; rfl
  have b4 : (tag == 4) = false := by rw [ht]; rfl
  have b5 : (tag == 5) = false := by rw [ht]; rfl
  have b9 : (tag == 9) = false := by rw [ht]; rfl
  have b16 : (tag == 16) = false := by rw [ht]; rfl
  have b3 : (tag == 3) = false := by rw [ht]; rfl
  clear ht
  have wr1 : IntKind.i64.wrap (n + mv) = n + mv := ck_wr _ (by omega) (by omega)
  have wr2 : IntKind.i64.wrap (v - tk) = v - tk := ck_wr _ (by omega) (by omega)
  have wr3 : IntKind.i64.wrap (v - tk + pt) = v - tk + pt := ck_wr _ (by omega) (by omega)
  have wr4 : IntKind.i64.wrap ((k : Int) + 1) = (k : Int) + 1 := ck_wr _ (by omega) (by omega)
  subst hC
  have a1 : (v != 1) = false := by simp [h1]
  clear h1
  obtain ⟨c0, c1, c2, cf, d0, d1, d2, e0, e1, gl, tl, ll⟩ := ff.keep ((Below.refl _ _).alloc (Nat.le_refl _) (.cells #[.int .i64 tag, .int .i64 num] 37))
  have hff : Hid (SF w g k ops.length lb loff lcap tb tcap tag num n v false) := ff
  obtain ⟨c0', c1', c2', cf', d0', d1', d2', e0', e1', gl', tl', ll'⟩ := ff
  have hki : (k : Int) < (ops.length : Int) := by omega
  have hh : Hid (SW w B g ops (.slice (some ⟨lb, loff, none⟩) ops.length lcap) (T, false) (.slice (some ⟨tb, 0, none⟩) ops.length tcap)) := h
  have hl' : Hid (T.length = ops.length) := hl
  clear h hl hk hT
  go_enter Tryd.func23, Tryd.ntmps23
  go_wp2_with (go_at_call 29; refine (hM _).mono ?_; rintro r w2 ⟨rfl, hb2⟩; obtain ⟨⟨x0, x1⟩, ⟨y0, y1, y2⟩, zl, hb3⟩ := box23 hb2; have ff2 := hff.out.keep hb3; obtain ⟨c0, c1, c2, cf, d0, d1, d2, e0, e1, gl, tl, ll⟩ := ff2; have ne1 : w.heap.size ≠ w2.heap.size := (by omega); have ne2 : w.heap.size + 1 ≠ w2.heap.size := (by omega); have ne3 : w2.heap.size ≠ w.heap.size := (by omega); have ne4 : w2.heap.size ≠ w.heap.size + 1 := (by omega); have zl0 : w.heap.size < w2.heap.size := (by omega))
  have hS := (hh.out.keep hb3).fell false
  exact bodyPost_ret (v := .tuple #[]) (by simp [results, Tryd.results23, go_sem]) rfl ⟨rfl, hS.1.keep ((Below.refl _ _).alloc (Nat.le_refl _) _), ((Sm.ofBelow hb3).trans hS.2).trans (Sm.ofBelow ((Below.refl _ _).alloc (Nat.le_refl _) _))⟩
set_option maxRecDepth 100000 in
set_option maxHeartbeats 4000000 in
theorem one_giveNo (ops : List Wd) (C : Tb × Bool) (k : Nat) (s : Sd) (w : World) (B g : Nat) (vl vt : Value) (h : SW w B g ops vl C vt) (hl : C.1.length = ops.length) (hk : C.1.getD k none = some s) (hkl : k < ops.length) (_hlen : ops.length ≤ 200) (hn : 0 ≤ s.n ∧ s.n ≤ 1000) (hvm : s.v ≤ 1000)
    (hT : 1 ≤ (ops.getD k op0).tag ∧ (ops.getD k op0).tag ≤ 24) (hnu : 0 ≤ (ops.getD k op0).num ∧ (ops.getD k op0).num ≤ 1048576) (hv : ¬ s.v < takesM (ops.getD k op0).tag) (ht : (ops.getD k op0).tag = 24) (hC : C.2 = false) (h1 : s.v ≠ 1) :
    Calls Tryd.prog 23 #[.pointer (some ⟨g, 0, none⟩), .int .i64 (k : Int)] w fun r w' => r = .returned (.tuple #[]) ∧ SW w' B g ops vl (C.1, true) vt ∧ Sm w w' g vt := by
  obtain ⟨lb, loff, lcap, tb, tcap, rfl, rfl, ff⟩ := h.sf hl hk hkl
  obtain ⟨n, v⟩ := s
  have hM := fun w => spec_l6Moves (ops.getD k op0) hT hnu w
  have htk := takes_le (ops.getD k op0).tag
  have hmv := moves_le (ops.getD k op0) hnu
  generalize movesM (ops.getD k op0) = mv at *
  generalize (ops.getD k op0).tag = tag at *
  generalize (ops.getD k op0).num = num at *
  generalize takesM tag = tk at *
  generalize putsM tag = pt at *
  obtain ⟨T, bad⟩ := C
  simp only at ff hv hn hC h1 ht hvm hnu hl h ⊢
  obtain ⟨tk0, tk1, pt0, pt1⟩ := htk
  have b24 : (tag == 24) = true := by simpa using ht
  have b10 : (tag == 10) = false := by rw [ht]; rfl
  have b4 : (tag == 4) = false := by rw [ht]; rfl
  have b5 : (tag == 5) = false := by rw [ht]; rfl
  have b9 : (tag == 9) = false := by rw [ht]; rfl
  have b16 : (tag == 16) = false := by rw [ht]; rfl
  have b3 : (tag == 3) = false := by rw [ht]; rfl
  clear ht
  have wr1 : IntKind.i64.wrap (n + mv) = n + mv := ck_wr _ (by omega) (by omega)
  have wr2 : IntKind.i64.wrap (v - tk) = v - tk := ck_wr _ (by omega) (by omega)
  have wr3 : IntKind.i64.wrap (v - tk + pt) = v - tk + pt := ck_wr _ (by omega) (by omega)
  have wr4 : IntKind.i64.wrap ((k : Int) + 1) = (k : Int) + 1 := ck_wr _ (by omega) (by omega)
  subst hC
  have a1 : (v != 1) = true := by simpa using h1
  clear h1
  obtain ⟨c0, c1, c2, cf, d0, d1, d2, e0, e1, gl, tl, ll⟩ := ff.keep ((Below.refl _ _).alloc (Nat.le_refl _) (.cells #[.int .i64 tag, .int .i64 num] 37))
  have hff : Hid (SF w g k ops.length lb loff lcap tb tcap tag num n v false) := ff
  obtain ⟨c0', c1', c2', cf', d0', d1', d2', e0', e1', gl', tl', ll'⟩ := ff
  have hki : (k : Int) < (ops.length : Int) := by omega
  have hh : Hid (SW w B g ops (.slice (some ⟨lb, loff, none⟩) ops.length lcap) (T, false) (.slice (some ⟨tb, 0, none⟩) ops.length tcap)) := h
  have hl' : Hid (T.length = ops.length) := hl
  clear h hl hk hT
  go_enter Tryd.func23, Tryd.ntmps23
  go_wp2_with (go_at_call 29; refine (hM _).mono ?_; rintro r w2 ⟨rfl, hb2⟩; obtain ⟨⟨x0, x1⟩, ⟨y0, y1, y2⟩, zl, hb3⟩ := box23 hb2; have ff2 := hff.out.keep hb3; obtain ⟨c0, c1, c2, cf, d0, d1, d2, e0, e1, gl, tl, ll⟩ := ff2; have ne1 : w.heap.size ≠ w2.heap.size := (by omega); have ne2 : w.heap.size + 1 ≠ w2.heap.size := (by omega); have ne3 : w2.heap.size ≠ w.heap.size := (by omega); have ne4 : w2.heap.size ≠ w.heap.size + 1 := (by omega); have zl0 : w.heap.size < w2.heap.size := (by omega))
  have hS := (hh.out.keep hb3).fell true
  exact bodyPost_ret (v := .tuple #[]) (by simp [results, Tryd.results23, go_sem]) rfl ⟨rfl, hS.1.keep ((Below.refl _ _).alloc (Nat.le_refl _) _), ((Sm.ofBelow hb3).trans hS.2).trans (Sm.ofBelow ((Below.refl _ _).alloc (Nat.le_refl _) _))⟩
set_option maxRecDepth 100000 in
set_option maxHeartbeats 4000000 in
theorem one_go (ops : List Wd) (C : Tb × Bool) (k : Nat) (s : Sd) (w : World) (B g : Nat) (vl vt : Value) (h : SW w B g ops vl C vt) (hl : C.1.length = ops.length) (hk : C.1.getD k none = some s) (hkl : k < ops.length) (_hlen : ops.length ≤ 200) (hn : 0 ≤ s.n ∧ s.n ≤ 1000) (hvm : s.v ≤ 1000)
    (hT : 1 ≤ (ops.getD k op0).tag ∧ (ops.getD k op0).tag ≤ 24) (hnu : 0 ≤ (ops.getD k op0).num ∧ (ops.getD k op0).num ≤ 1048576) (hv : ¬ s.v < takesM (ops.getD k op0).tag) (ht : (ops.getD k op0).tag = 10)  :
    Calls Tryd.prog 23 #[.pointer (some ⟨g, 0, none⟩), .int .i64 (k : Int)] w fun r w' => r = .returned (.tuple #[]) ∧ SW w' B g ops vl (comeM C ((ops.getD k op0).num.toNat, ⟨s.n + movesM (ops.getD k op0), s.v - takesM (ops.getD k op0).tag + putsM (ops.getD k op0).tag⟩)) vt ∧ Sm w w' g vt := by
  obtain ⟨lb, loff, lcap, tb, tcap, rfl, rfl, ff⟩ := h.sf hl hk hkl
  obtain ⟨n, v⟩ := s
  have hM := fun w => spec_l6Moves (ops.getD k op0) hT hnu w
  have htk := takes_le (ops.getD k op0).tag
  have hmv := moves_le (ops.getD k op0) hnu
  generalize movesM (ops.getD k op0) = mv at *
  generalize (ops.getD k op0).tag = tag at *
  generalize (ops.getD k op0).num = num at *
  generalize takesM tag = tk at *
  generalize putsM tag = pt at *
  obtain ⟨T, bad⟩ := C
  simp only at ff hv hn ht hvm hnu hl h ⊢
  obtain ⟨tk0, tk1, pt0, pt1⟩ := htk
  have b24 : (tag == 24) = false := by rw [ht]; rfl
  have b10 : (tag == 10) = true := by simpa using ht
  have b4 : (tag == 4) = false := by rw [ht]; rfl
  have b5 : (tag == 5) = false := by rw [ht]; rfl
  have b9 : (tag == 9) = false := by rw [ht]; rfl
  have b16 : (tag == 16) = false := by rw [ht]; rfl
  have b3 : (tag == 3) = false := by rw [ht]; rfl
  clear ht
  have wr1 : IntKind.i64.wrap (n + mv) = n + mv := ck_wr _ (by omega) (by omega)
  have wr2 : IntKind.i64.wrap (v - tk) = v - tk := ck_wr _ (by omega) (by omega)
  have wr3 : IntKind.i64.wrap (v - tk + pt) = v - tk + pt := ck_wr _ (by omega) (by omega)
  have wr4 : IntKind.i64.wrap ((k : Int) + 1) = (k : Int) + 1 := ck_wr _ (by omega) (by omega)
  obtain ⟨c0, c1, c2, cf, d0, d1, d2, e0, e1, gl, tl, ll⟩ := ff.keep ((Below.refl _ _).alloc (Nat.le_refl _) (.cells #[.int .i64 tag, .int .i64 num] 37))
  have hff : Hid (SF w g k ops.length lb loff lcap tb tcap tag num n v bad) := ff
  obtain ⟨c0', c1', c2', cf', d0', d1', d2', e0', e1', gl', tl', ll'⟩ := ff
  have hki : (k : Int) < (ops.length : Int) := by omega
  have hh : Hid (SW w B g ops (.slice (some ⟨lb, loff, none⟩) ops.length lcap) (T, bad) (.slice (some ⟨tb, 0, none⟩) ops.length tcap)) := h
  have hl' : Hid (T.length = ops.length) := hl
  clear h hl hk hT
  go_enter Tryd.func23, Tryd.ntmps23
  go_wp2_with (first | (go_at_call 29; refine (hM _).mono ?_; rintro r w2 ⟨rfl, hb2⟩; obtain ⟨⟨x0, x1⟩, ⟨y0, y1, y2⟩, zl, hb3⟩ := box23 hb2; have ff2 := hff.out.keep hb3; obtain ⟨c0, c1, c2, cf, d0, d1, d2, e0, e1, gl, tl, ll⟩ := ff2; have ne1 : w.heap.size ≠ w2.heap.size := (by omega); have ne2 : w.heap.size + 1 ≠ w2.heap.size := (by omega); have ne3 : w2.heap.size ≠ w.heap.size := (by omega); have ne4 : w2.heap.size ≠ w.heap.size + 1 := (by omega); have zl0 : w.heap.size < w2.heap.size := (by omega)) | (go_at_call 22; refine (law_come ops (T, bad) num.toNat ⟨n + mv, v - tk + pt⟩ _ B g _ _ (hh.out.keep (hb3.alloc hb3.size (.cells #[.int .i64 (n + mv), .int .i64 (v - tk + pt), .bool false] 54))) hl'.out num (by omega)).mono ?_; rintro r w7 ⟨rfl, hS1, hM1⟩))
  exact bodyPost_ret (v := .tuple #[]) (by simp [results, Tryd.results23, go_sem]) rfl ⟨rfl, hS1, (Sm.ofBelow (hb3.alloc hb3.size (.cells #[.int .i64 (n + mv), .int .i64 (v - tk + pt), .bool false] 54))).trans hM1⟩
end Go.Proofs.YtlkbgmgnjkkfgaaDoor

