/-
  The program's follow: of a function's make.
-/
import Derived.Test.YtlkbgmgnjkkfgaaDoorCkFolC
import Derived.Deep.Cut
import Derived.Deep.RegionHeld3
namespace Go.Proofs.YtlkbgmgnjkkfgaaDoor
open Go.RowKit

theorem CW.hold {w w1 w' : World} {B g : Nat} {ops : List Wd} {vl vt vq vq' : Value} {S : Tq} (h : CW w B g ops vl S vt vq) (hM : Mv w1 w' g vt vq vq') {a b c : Nat} (ha : w.heap.size ≤ a ∧ a < w1.heap.size) (hb : w.heap.size ≤ b ∧ b < w1.heap.size) (hc : w.heap.size ≤ c ∧ c < w1.heap.size) {W : World}
    (hs : w1.heap[a]? = W.heap[a]? ∧ w1.heap[b]? = W.heap[b]? ∧ w1.heap[c]? = W.heap[c]?) : w'.heap[a]? = W.heap[a]? ∧ w'.heap[b]? = W.heap[b]? ∧ w'.heap[c]? = W.heap[c]? :=
  ⟨(h.box hM a ha.1 ha.2).trans hs.1, (h.box hM b hb.1 hb.2).trans hs.2.1, (h.box hM c hc.1 hc.2).trans hs.2.2⟩
theorem drewBelow {B : Nat} {w w1 w2 : World} (h : Below B w w1) (k : Below w1.heap.size w1.drew w2) (hz : B ≤ w1.heap.size) : Below B w w2 := h.drew.trans (k.mono hz)
set_option maxHeartbeats 2000000 in
theorem follow_makeOp_no (ops : List Wd) (S : Tq) (k : Nat) (s : Sd) (w : World) (B g : Nat) (vl vt vq : Value) (h : CW w B g ops vl S vt vq) (hl : S.1.length = ops.length) (hk : S.1.getD k none = some s) (hkl : k < ops.length) (hlen : ops.length ≤ 200) (hq : S.2.length ≤ 900) (hn : 0 ≤ s.n ∧ s.n ≤ 1000) (hvm : s.v ≤ 1000)
    (hT : 1 ≤ (ops.getD k op0).tag ∧ (ops.getD k op0).tag ≤ 24) (hv : ¬ s.v < takesM (ops.getD k op0).tag) (hTd : deedT (ops.getD k op0).tag = 73) (hnu : 0 ≤ (ops.getD k op0).num ∧ (ops.getD k op0).num ≤ 1000) (hmk : (ops.getD k op0).tag = 4 ∨ (ops.getD k op0).tag = 5) (ho : leadQ S ((ops.getD k op0).num.toNat, ⟨s.n + (if (ops.getD k op0).tag = 5 then 2 else 1), 0⟩) = none) :
    Calls Tryd.prog 32 #[.pointer (some ⟨g, 0, none⟩), .int .i64 (k : Int)] w fun r w' => LedR w w' B g ops vl vt vq (none) r := by
  obtain ⟨lb, loff, lcap, tb, tcap, rfl, rfl, ff⟩ := h.ff hl hk hkl
  obtain ⟨n, v⟩ := s
  have hD := fun w => trade_kind (ops.getD k op0).tag (ops.getD k op0).num w hT
  have hE := fun w => deed_kind (ops.getD k op0).tag (ops.getD k op0).num w hT
  rw [hTd] at hE
  have htk := takes_le (ops.getD k op0).tag
  have as_nameOp := fun w => as_makeOp_nameOp (ops.getD k op0).tag (ops.getD k op0).num w
  have as_makeOp := fun w => as_makeOp_makeOp (ops.getD k op0).tag (ops.getD k op0).num w
  have hN := fun w => bodyNames_kind (ops.getD k op0).tag (ops.getD k op0).num w hmk
  clear hmk
  have hbn : 1 ≤ (if (ops.getD k op0).tag = 5 then 2 else 1 : Int) ∧ (if (ops.getD k op0).tag = 5 then 2 else 1 : Int) ≤ 2 := by split <;> omega
  generalize (if (ops.getD k op0).tag = 5 then 2 else 1 : Int) = bn at *
  generalize (ops.getD k op0).tag = tag at *
  generalize (ops.getD k op0).num = num at *
  generalize takesM tag = tk at *
  generalize putsM tag = pt at *
  simp only at ff hv hn hvm hnu ho ⊢
  obtain ⟨ht0, ht1, ht2, ht3⟩ := htk
  have wr1 : IntKind.i64.wrap (v - tk) = v - tk := ck_wr _ (by omega) (by omega)
  have wr2 : IntKind.i64.wrap (v - tk + pt) = v - tk + pt := ck_wr _ (by omega) (by omega)
  have wr3 : IntKind.i64.wrap ((k : Int) + 1) = (k : Int) + 1 := ck_wr _ (by omega) (by omega)
  have wr4 : IntKind.i64.wrap (n + bn) = n + bn := ck_wr _ (by omega) (by omega)
  have hho : Hid (leadQ S (num.toNat, ⟨n + bn, 0⟩) = none) := ho
  clear ho
  obtain ⟨c0, c1, d0, d1, d2, e0, e1, gl, tl, ll⟩ := ff.keep ((Below.refl _ _).alloc (Nat.le_refl _) (.cells #[.bool true, .int .i64 n, .int .i64 v] 71))
  have hff : Hid (FF w g k ops.length lb loff lcap tb tcap tag num n v) := ff
  obtain ⟨c0', c1', d0', d1', d2', e0', e1', gl', tl', ll'⟩ := ff
  have hki : (k : Int) < (ops.length : Int) := by omega
  have hh : Hid (CW w B g ops (.slice (some ⟨lb, loff, none⟩) ops.length lcap) S (.slice (some ⟨tb, 0, none⟩) ops.length tcap) vq) := h
  have hl' : Hid (S.1.length = ops.length) := hl
  clear h hl hk hT hTd
  go_enter Tryd.func32, Tryd.ntmps32
  go_upto_region 13 with (first
    | (go_at_call 33; refine (hD _).mono ?_; rintro r w2 ⟨rfl, hb2⟩; obtain ⟨x0, x1, x2, xf, xl, hb3⟩ := box3 hb2; have ff2 := hff.out.keep hb3; obtain ⟨c0, c1, d0, d1, d2, e0, e1, gl, tl, ll⟩ := ff2.keep ((Below.refl _ _).alloc (Nat.le_refl _) (.cells #[.bool false, .int .i64 n, .int .i64 (v - tk + pt)] 71)); obtain ⟨c0', c1', d0', d1', d2', e0', e1', gl', tl', ll'⟩ := ff2)
    | (go_at_call 30; refine (hE _).mono ?_; rintro r w4 ⟨rfl, hb4⟩; obtain ⟨y0, y1, y2, yf, yl, hb5⟩ := box3 hb4; have hbx := hb5.block w.heap.size xl; have z0 := (World.cell?_of_block (a := ⟨w.heap.size, 0, none⟩) hbx).trans x0; have z1 := (World.cell?_of_block (a := ⟨w.heap.size, 1, none⟩) hbx).trans x1; have z2 := (World.cell?_of_block (a := ⟨w.heap.size, 2, none⟩) hbx).trans x2; have hb6 : Below w.heap.size w w4 := hb3.trans (hb5.mono hb3.size); have f1 := yf 1; have zl : w.heap.size < w4.heap.size := (by omega); have ne1 : w2.heap.size ≠ w4.heap.size := (by omega); have ne2 : w4.heap.size ≠ w2.heap.size := (by omega); clear xf yf))
  have hb7 : Below w.heap.size w (w4.alloc (.cells #[.int .i64 tag, .int .i64 num] 73)) := hb6.alloc hb6.size _
  have hbd := (Below.refl w4.heap.size w4).alloc (Nat.le_refl _) (.cells #[.int .i64 tag, .int .i64 num] 73)
  have p1 := (World.cell?_of_block (a := ⟨w.heap.size, 1, none⟩) (hbd.block w.heap.size zl)).trans z1
  have p3 := (World.cell?_of_block (a := ⟨w2.heap.size, 0, none⟩) (hbd.block w2.heap.size yl)).trans y0
  have p4 := (World.cell?_of_block (a := ⟨w2.heap.size, 1, none⟩) (hbd.block w2.heap.size yl)).trans y1
  have p5 := (World.cell?_of_block (a := ⟨w2.heap.size, 2, none⟩) (hbd.block w2.heap.size yl)).trans y2
  have p6 : (w4.alloc (.cells #[.int .i64 tag, .int .i64 num] 73)).cell? ⟨w4.heap.size, 0, none⟩ = some (.int .i64 tag) := by simp
  have p7 : (w4.alloc (.cells #[.int .i64 tag, .int .i64 num] 73)).cell? ⟨w4.heap.size, 1, none⟩ = some (.int .i64 num) := by simp
  have l5 : w4.heap.size < (w4.alloc (.cells #[.int .i64 tag, .int .i64 num] 73)).heap.size := by simp
  generalize w4.alloc (.cells #[.int .i64 tag, .int .i64 num] 73) = w5 at *
  have HS : Hid (∀ W : World, (W.heap[w.heap.size]? = w5.heap[w.heap.size]? ∧ W.heap[w2.heap.size]? = w5.heap[w2.heap.size]? ∧ W.heap[w4.heap.size]? = w5.heap[w4.heap.size]?) → W.cell? ⟨w.heap.size, 1, none⟩ = some (.int .i64 n) ∧ W.cell? ⟨w4.heap.size, 0, none⟩ = some (.int .i64 tag) ∧ W.cell? ⟨w4.heap.size, 1, none⟩ = some (.int .i64 num)) := fun W h => ⟨(World.cell?_of_block (a := ⟨w.heap.size, 1, none⟩) h.1).trans p1, (World.cell?_of_block (a := ⟨w4.heap.size, 0, none⟩) h.2.2).trans p6, (World.cell?_of_block (a := ⟨w4.heap.size, 1, none⟩) h.2.2).trans p7⟩
  have HU : Hid (∀ W : World, (W.heap[w.heap.size]? = w5.heap[w.heap.size]? ∧ W.heap[w2.heap.size]? = w5.heap[w2.heap.size]? ∧ W.heap[w4.heap.size]? = w5.heap[w4.heap.size]?) → W.cell? ⟨w2.heap.size, 0, none⟩ = some (.bool false) ∧ W.cell? ⟨w2.heap.size, 1, none⟩ = some (.int .i64 n) ∧ W.cell? ⟨w2.heap.size, 2, none⟩ = some (.int .i64 (v - tk + pt))) := fun W h => ⟨(World.cell?_of_block (a := ⟨w2.heap.size, 0, none⟩) h.2.1).trans p3, (World.cell?_of_block (a := ⟨w2.heap.size, 1, none⟩) h.2.1).trans p4, (World.cell?_of_block (a := ⟨w2.heap.size, 2, none⟩) h.2.1).trans p5⟩
  have hs5 : w5.heap[w.heap.size]? = w5.heap[w.heap.size]? ∧ w5.heap[w2.heap.size]? = w5.heap[w2.heap.size]? ∧ w5.heap[w4.heap.size]? = w5.heap[w4.heap.size]? := ⟨rfl, rfl, rfl⟩
  have hNN : Hid (∀ w, Calls Tryd.prog 34 #[.agg #[.int .i64 tag, .int .i64 num]] w fun r w' => r = .returned (.int .i64 bn) ∧ Below w.heap.size w w') := hN
  clear hN hE hD p1 p3 p4 p5 p6 p7 x0 x1 x2 y0 y1 y2 z0 z1 z2 hbd as_nameOp as_makeOp c0 c1 d0 d1 d2 e0 e1 gl tl ll c0' c1' d0' d1' d2' e0' e1' gl' tl' ll' hff wr1 wr2
  go_region_held3 (fun w' => w'.cell? ⟨w.heap.size, 1, none⟩ = some (.int .i64 n) ∧ w'.cell? ⟨w4.heap.size, 0, none⟩ = some (.int .i64 tag) ∧ w'.cell? ⟨w4.heap.size, 1, none⟩ = some (.int .i64 num))
    (first | exact HS.out _ hs8 | exact HS.out _ hs6 | exact HS.out _ hs5)
    (first
      | (go_at_call 34; refine (hNN.out _).mono ?_; rintro r w6 ⟨rfl, hb9⟩; have hb8 : Below w.heap.size w w6 := drewBelow hb7 hb9 (by omega); have hz8 := hb9.size; have hs6 : w6.heap[w.heap.size]? = w5.heap[w.heap.size]? ∧ w6.heap[w2.heap.size]? = w5.heap[w2.heap.size]? ∧ w6.heap[w4.heap.size]? = w5.heap[w4.heap.size]? := ⟨hb9.block _ (by show w.heap.size < w5.heap.size; omega), hb9.block _ (by show w2.heap.size < w5.heap.size; omega), hb9.block _ (by show w4.heap.size < w5.heap.size; omega)⟩; replace hz8 : w5.heap.size ≤ w6.heap.size := hz8; clear hb9)
      | (go_at_call 31; refine (leadsI ops S num.toNat _ (by omega) ⟨n + bn, 0⟩ _ B g _ _ vq (hh.out.keep hb8) hl'.out (by omega)).mono ?_; rintro r w8 hL; rw [hho.out] at hL; obtain ⟨rfl, vq1, hM1⟩ := hL; have hs8 := CW.hold hh.out hM1 ⟨Nat.le_refl _, by omega⟩ ⟨Nat.le_of_lt xl, by omega⟩ ⟨by omega, by omega⟩ hs6; have hMM : Hid (Mv w w8 g _ vq vq1) := (Mv.ofBelow hb8).trans hM1; clear hM1))
  go_wp2_with fail
  go_ret
  exact ⟨rfl, _, hMM.out⟩
set_option maxHeartbeats 2000000 in
theorem follow_makeOp (ops : List Wd) (S : Tq) (k : Nat) (s : Sd) (w : World) (B g : Nat) (vl vt vq : Value) (h : CW w B g ops vl S vt vq) (hl : S.1.length = ops.length) (hk : S.1.getD k none = some s) (hkl : k < ops.length) (hlen : ops.length ≤ 200) (hq : S.2.length ≤ 900) (hn : 0 ≤ s.n ∧ s.n ≤ 1000) (hvm : s.v ≤ 1000)
    (hT : 1 ≤ (ops.getD k op0).tag ∧ (ops.getD k op0).tag ≤ 24) (hv : ¬ s.v < takesM (ops.getD k op0).tag) (hTd : deedT (ops.getD k op0).tag = 73) (hnu : 0 ≤ (ops.getD k op0).num ∧ (ops.getD k op0).num ≤ 1000) (hmk : (ops.getD k op0).tag = 4 ∨ (ops.getD k op0).tag = 5) (S1 : Tq) (ho : leadQ S ((ops.getD k op0).num.toNat, ⟨s.n + (if (ops.getD k op0).tag = 5 then 2 else 1), 0⟩) = some S1) :
    Calls Tryd.prog 32 #[.pointer (some ⟨g, 0, none⟩), .int .i64 (k : Int)] w fun r w' => LedR w w' B g ops vl vt vq (leadQ S1 (k + 1, ⟨s.n, s.v - takesM (ops.getD k op0).tag + putsM (ops.getD k op0).tag⟩)) r := by
  obtain ⟨lb, loff, lcap, tb, tcap, rfl, rfl, ff⟩ := h.ff hl hk hkl
  obtain ⟨n, v⟩ := s
  have hD := fun w => trade_kind (ops.getD k op0).tag (ops.getD k op0).num w hT
  have hE := fun w => deed_kind (ops.getD k op0).tag (ops.getD k op0).num w hT
  rw [hTd] at hE
  have htk := takes_le (ops.getD k op0).tag
  have as_nameOp := fun w => as_makeOp_nameOp (ops.getD k op0).tag (ops.getD k op0).num w
  have as_makeOp := fun w => as_makeOp_makeOp (ops.getD k op0).tag (ops.getD k op0).num w
  have hN := fun w => bodyNames_kind (ops.getD k op0).tag (ops.getD k op0).num w hmk
  clear hmk
  have hbn : 1 ≤ (if (ops.getD k op0).tag = 5 then 2 else 1 : Int) ∧ (if (ops.getD k op0).tag = 5 then 2 else 1 : Int) ≤ 2 := by split <;> omega
  generalize (if (ops.getD k op0).tag = 5 then 2 else 1 : Int) = bn at *
  generalize (ops.getD k op0).tag = tag at *
  generalize (ops.getD k op0).num = num at *
  generalize takesM tag = tk at *
  generalize putsM tag = pt at *
  simp only at ff hv hn hvm hnu ho ⊢
  obtain ⟨ht0, ht1, ht2, ht3⟩ := htk
  have wr1 : IntKind.i64.wrap (v - tk) = v - tk := ck_wr _ (by omega) (by omega)
  have wr2 : IntKind.i64.wrap (v - tk + pt) = v - tk + pt := ck_wr _ (by omega) (by omega)
  have wr3 : IntKind.i64.wrap ((k : Int) + 1) = (k : Int) + 1 := ck_wr _ (by omega) (by omega)
  have wr4 : IntKind.i64.wrap (n + bn) = n + bn := ck_wr _ (by omega) (by omega)
  have hz1 := leadQ_size ho
  have hS1 : Hid (S1.1.length = ops.length) := hz1.1.trans hl
  have hS2 := hz1.2
  clear hz1
  have hho : Hid (leadQ S (num.toNat, ⟨n + bn, 0⟩) = some S1) := ho
  clear ho
  obtain ⟨c0, c1, d0, d1, d2, e0, e1, gl, tl, ll⟩ := ff.keep ((Below.refl _ _).alloc (Nat.le_refl _) (.cells #[.bool true, .int .i64 n, .int .i64 v] 71))
  have hff : Hid (FF w g k ops.length lb loff lcap tb tcap tag num n v) := ff
  obtain ⟨c0', c1', d0', d1', d2', e0', e1', gl', tl', ll'⟩ := ff
  have hki : (k : Int) < (ops.length : Int) := by omega
  have hh : Hid (CW w B g ops (.slice (some ⟨lb, loff, none⟩) ops.length lcap) S (.slice (some ⟨tb, 0, none⟩) ops.length tcap) vq) := h
  have hl' : Hid (S.1.length = ops.length) := hl
  clear h hl hk hT hTd
  go_enter Tryd.func32, Tryd.ntmps32
  go_upto_region 13 with (first
    | (go_at_call 33; refine (hD _).mono ?_; rintro r w2 ⟨rfl, hb2⟩; obtain ⟨x0, x1, x2, xf, xl, hb3⟩ := box3 hb2; have ff2 := hff.out.keep hb3; obtain ⟨c0, c1, d0, d1, d2, e0, e1, gl, tl, ll⟩ := ff2.keep ((Below.refl _ _).alloc (Nat.le_refl _) (.cells #[.bool false, .int .i64 n, .int .i64 (v - tk + pt)] 71)); obtain ⟨c0', c1', d0', d1', d2', e0', e1', gl', tl', ll'⟩ := ff2)
    | (go_at_call 30; refine (hE _).mono ?_; rintro r w4 ⟨rfl, hb4⟩; obtain ⟨y0, y1, y2, yf, yl, hb5⟩ := box3 hb4; have hbx := hb5.block w.heap.size xl; have z0 := (World.cell?_of_block (a := ⟨w.heap.size, 0, none⟩) hbx).trans x0; have z1 := (World.cell?_of_block (a := ⟨w.heap.size, 1, none⟩) hbx).trans x1; have z2 := (World.cell?_of_block (a := ⟨w.heap.size, 2, none⟩) hbx).trans x2; have hb6 : Below w.heap.size w w4 := hb3.trans (hb5.mono hb3.size); have f1 := yf 1; have zl : w.heap.size < w4.heap.size := (by omega); have ne1 : w2.heap.size ≠ w4.heap.size := (by omega); have ne2 : w4.heap.size ≠ w2.heap.size := (by omega); clear xf yf))
  have hb7 : Below w.heap.size w (w4.alloc (.cells #[.int .i64 tag, .int .i64 num] 73)) := hb6.alloc hb6.size _
  have hbd := (Below.refl w4.heap.size w4).alloc (Nat.le_refl _) (.cells #[.int .i64 tag, .int .i64 num] 73)
  have p1 := (World.cell?_of_block (a := ⟨w.heap.size, 1, none⟩) (hbd.block w.heap.size zl)).trans z1
  have p3 := (World.cell?_of_block (a := ⟨w2.heap.size, 0, none⟩) (hbd.block w2.heap.size yl)).trans y0
  have p4 := (World.cell?_of_block (a := ⟨w2.heap.size, 1, none⟩) (hbd.block w2.heap.size yl)).trans y1
  have p5 := (World.cell?_of_block (a := ⟨w2.heap.size, 2, none⟩) (hbd.block w2.heap.size yl)).trans y2
  have p6 : (w4.alloc (.cells #[.int .i64 tag, .int .i64 num] 73)).cell? ⟨w4.heap.size, 0, none⟩ = some (.int .i64 tag) := by simp
  have p7 : (w4.alloc (.cells #[.int .i64 tag, .int .i64 num] 73)).cell? ⟨w4.heap.size, 1, none⟩ = some (.int .i64 num) := by simp
  have l5 : w4.heap.size < (w4.alloc (.cells #[.int .i64 tag, .int .i64 num] 73)).heap.size := by simp
  generalize w4.alloc (.cells #[.int .i64 tag, .int .i64 num] 73) = w5 at *
  have HS : Hid (∀ W : World, (W.heap[w.heap.size]? = w5.heap[w.heap.size]? ∧ W.heap[w2.heap.size]? = w5.heap[w2.heap.size]? ∧ W.heap[w4.heap.size]? = w5.heap[w4.heap.size]?) → W.cell? ⟨w.heap.size, 1, none⟩ = some (.int .i64 n) ∧ W.cell? ⟨w4.heap.size, 0, none⟩ = some (.int .i64 tag) ∧ W.cell? ⟨w4.heap.size, 1, none⟩ = some (.int .i64 num)) := fun W h => ⟨(World.cell?_of_block (a := ⟨w.heap.size, 1, none⟩) h.1).trans p1, (World.cell?_of_block (a := ⟨w4.heap.size, 0, none⟩) h.2.2).trans p6, (World.cell?_of_block (a := ⟨w4.heap.size, 1, none⟩) h.2.2).trans p7⟩
  have HU : Hid (∀ W : World, (W.heap[w.heap.size]? = w5.heap[w.heap.size]? ∧ W.heap[w2.heap.size]? = w5.heap[w2.heap.size]? ∧ W.heap[w4.heap.size]? = w5.heap[w4.heap.size]?) → W.cell? ⟨w2.heap.size, 0, none⟩ = some (.bool false) ∧ W.cell? ⟨w2.heap.size, 1, none⟩ = some (.int .i64 n) ∧ W.cell? ⟨w2.heap.size, 2, none⟩ = some (.int .i64 (v - tk + pt))) := fun W h => ⟨(World.cell?_of_block (a := ⟨w2.heap.size, 0, none⟩) h.2.1).trans p3, (World.cell?_of_block (a := ⟨w2.heap.size, 1, none⟩) h.2.1).trans p4, (World.cell?_of_block (a := ⟨w2.heap.size, 2, none⟩) h.2.1).trans p5⟩
  have hs5 : w5.heap[w.heap.size]? = w5.heap[w.heap.size]? ∧ w5.heap[w2.heap.size]? = w5.heap[w2.heap.size]? ∧ w5.heap[w4.heap.size]? = w5.heap[w4.heap.size]? := ⟨rfl, rfl, rfl⟩
  have hNN : Hid (∀ w, Calls Tryd.prog 34 #[.agg #[.int .i64 tag, .int .i64 num]] w fun r w' => r = .returned (.int .i64 bn) ∧ Below w.heap.size w w') := hN
  clear hN hE hD p1 p3 p4 p5 p6 p7 x0 x1 x2 y0 y1 y2 z0 z1 z2 hbd as_nameOp as_makeOp c0 c1 d0 d1 d2 e0 e1 gl tl ll c0' c1' d0' d1' d2' e0' e1' gl' tl' ll' hff wr1 wr2
  go_region_held3 (fun w' => w'.cell? ⟨w.heap.size, 1, none⟩ = some (.int .i64 n) ∧ w'.cell? ⟨w4.heap.size, 0, none⟩ = some (.int .i64 tag) ∧ w'.cell? ⟨w4.heap.size, 1, none⟩ = some (.int .i64 num))
    (first | exact HS.out _ hs8 | exact HS.out _ hs6 | exact HS.out _ hs5)
    (first
      | (go_at_call 34; refine (hNN.out _).mono ?_; rintro r w6 ⟨rfl, hb9⟩; have hb8 : Below w.heap.size w w6 := drewBelow hb7 hb9 (by omega); have hz8 := hb9.size; have hs6 : w6.heap[w.heap.size]? = w5.heap[w.heap.size]? ∧ w6.heap[w2.heap.size]? = w5.heap[w2.heap.size]? ∧ w6.heap[w4.heap.size]? = w5.heap[w4.heap.size]? := ⟨hb9.block _ (by show w.heap.size < w5.heap.size; omega), hb9.block _ (by show w2.heap.size < w5.heap.size; omega), hb9.block _ (by show w4.heap.size < w5.heap.size; omega)⟩; replace hz8 : w5.heap.size ≤ w6.heap.size := hz8; clear hb9)
      | (go_at_call 31; refine (leadsI ops S num.toNat _ (by omega) ⟨n + bn, 0⟩ _ B g _ _ vq (hh.out.keep hb8) hl'.out (by omega)).mono ?_; rintro r w8 hL; rw [hho.out] at hL; obtain ⟨rfl, vq1, hC1, hM1⟩ := hL; have hs8 := CW.hold hh.out hM1 ⟨Nat.le_refl _, by omega⟩ ⟨Nat.le_of_lt xl, by omega⟩ ⟨by omega, by omega⟩ hs6; have hH : Hid (CW w8 B g ops _ S1 _ vq1) := hC1; have hMM : Hid (Mv w w8 g _ vq vq1) := (Mv.ofBelow hb8).trans hM1; obtain ⟨u0, u1, u2⟩ := HU.out _ hs8; clear hC1 hM1))
  go_wp2_with (go_at_call 31; refine (leadsI ops S1 (k + 1) _ (by omega) ⟨n, v - tk + pt⟩ _ B g _ _ vq1 hH.out hS1.out (by omega)).mono ?_; rintro r w9 hL; obtain rfl := hL.bool)
  go_ret
  exact hL.preM hMM.out
end Go.Proofs.YtlkbgmgnjkkfgaaDoor

