/-
  The program's follow, deed by deed.
-/
import Derived.Test.YtaagnifagahgfaaDoorCkDeed
import Derived.Test.YtaagnifagahgfaaDoorCkLead
namespace Go.Proofs.YtaagnifagahgfaaDoor
open Go.RowKit

/-- What follow reads. -/
structure FF (w : World) (g k len lb loff lcap tb tcap : Nat) (tag num n v : Int) : Prop where
  c0 : w.cell? ⟨g, 0, none⟩ = some (.slice (some ⟨lb, loff, none⟩) len lcap)
  c1 : w.cell? ⟨g, 1, none⟩ = some (.slice (some ⟨tb, 0, none⟩) len tcap)
  d0 : w.cell? ⟨tb, k * 3, none⟩ = some (.bool true)
  d1 : w.cell? ⟨tb, k * 3 + 1, none⟩ = some (.int .i64 n)
  d2 : w.cell? ⟨tb, k * 3 + 2, none⟩ = some (.int .i64 v)
  e0 : w.cell? ⟨lb, loff + k * 2, none⟩ = some (.int .i64 tag)
  e1 : w.cell? ⟨lb, loff + k * 2 + 1, none⟩ = some (.int .i64 num)
  gl : g < w.heap.size
  tl : tb < w.heap.size
  ll : lb < w.heap.size
theorem FF.keep {w w' : World} {g k len lb loff lcap tb tcap : Nat} {tag num n v : Int} (h : FF w g k len lb loff lcap tb tcap tag num n v) (hb : Below w.heap.size w w') : FF w' g k len lb loff lcap tb tcap tag num n v := by
  have hg := hb.block g h.gl
  have ht := hb.block tb h.tl
  have hl := hb.block lb h.ll
  have hz := hb.size
  exact ⟨by rw [World.cell?_of_block (w := w) hg]; exact h.c0, by rw [World.cell?_of_block (w := w) hg]; exact h.c1, by rw [World.cell?_of_block (w := w) ht]; exact h.d0, by rw [World.cell?_of_block (w := w) ht]; exact h.d1, by rw [World.cell?_of_block (w := w) ht]; exact h.d2,
    by rw [World.cell?_of_block (w := w) hl]; exact h.e0, by rw [World.cell?_of_block (w := w) hl]; exact h.e1, Nat.lt_of_lt_of_le h.gl hz, Nat.lt_of_lt_of_le h.tl hz, Nat.lt_of_lt_of_le h.ll hz⟩
theorem CW.ff {w : World} {B g : Nat} {ops : List Wd} {vl vt vq : Value} {S : Tq} {k : Nat} {s : Sd} (h : CW w B g ops vl S vt vq) (hl : S.1.length = ops.length) (hk : S.1.getD k none = some s) (hkl : k < ops.length) :
    ∃ lb loff lcap tb tcap, vl = .slice (some ⟨lb, loff, none⟩) ops.length lcap ∧ vt = .slice (some ⟨tb, 0, none⟩) ops.length tcap ∧ FF w g k ops.length lb loff lcap tb tcap (ops.getD k op0).tag (ops.getD k op0).num s.n s.v := by
  obtain ⟨la, lcap, rfl⟩ := h.list.slice
  obtain ⟨c0, c1, c2, cf⟩ := h.cells
  obtain ⟨tb, tcap, rfl, htB, htl, htg, hr, hf⟩ := h.at (i := k) (by omega)
  obtain ⟨lb, loff, hlb, rfl, hrl⟩ := RowOf.at h.list k hkl
  have he : S.1[k]'(by omega) = some s := by
    rw [List.getD_eq_getElem?_getD, List.getElem?_eq_getElem (by omega)] at hk
    exact hk
  rw [he] at hr
  have ho : ops.getD k op0 = ops[k] := by
    rw [List.getD_eq_getElem?_getD, List.getElem?_eq_getElem hkl]
    rfl
  rw [ho, hl]
  rw [hl] at c1
  obtain ⟨e0, e1⟩ := Wd.two hrl
  have := h.hB
  have := h.lt
  exact ⟨lb, loff, lcap, tb, tcap, rfl, rfl, c0, c1, hr 0 _ rfl, hr 1 _ rfl, hr 2 _ rfl, e0, e1, h.lt, htl, by omega⟩
/-- A box of three. -/
theorem box3 {w w2 : World} {a b c : Value} {T : TypeId} (h : Below (w.alloc (.cells #[a, b, c] T)).heap.size (w.alloc (.cells #[a, b, c] T)) w2) :
    w2.cell? ⟨w.heap.size, 0, none⟩ = some a ∧ w2.cell? ⟨w.heap.size, 1, none⟩ = some b ∧ w2.cell? ⟨w.heap.size, 2, none⟩ = some c ∧ (∀ o, w2.frozen? ⟨w.heap.size, o, none⟩ = false) ∧ w.heap.size < w2.heap.size ∧ Below w.heap.size w w2 := by
  have hb := h.block w.heap.size (by simp)
  have hz := h.size
  have hz' : (w.alloc (.cells #[a, b, c] T)).heap.size = w.heap.size + 1 := by simp
  refine ⟨(World.cell?_of_block (a := ⟨w.heap.size, 0, none⟩) hb).trans (by simp), (World.cell?_of_block (a := ⟨w.heap.size, 1, none⟩) hb).trans (by simp), (World.cell?_of_block (a := ⟨w.heap.size, 2, none⟩) hb).trans (by simp), fun o => (World.frozen?_of_block (a := ⟨w.heap.size, o, none⟩) hb).trans (by simp), by omega, ((Below.refl _ _).alloc (Nat.le_refl _) _).trans (h.mono (by simp))⟩
theorem LedR.pre {w w2 w' : World} {B g : Nat} {ops : List Wd} {vl vt vq : Value} {o : Option Tq} {r : Ending} (h : LedR w2 w' B g ops vl vt vq o r) (hb : Below w.heap.size w w2) : LedR w w' B g ops vl vt vq o r := by
  cases o with
  | none => exact ⟨h.1, _, (Mv.ofBelow hb).trans h.2.choose_spec⟩
  | some S' => exact ⟨h.1, _, h.2.choose_spec.1, (Mv.ofBelow hb).trans h.2.choose_spec.2⟩
theorem LedR.bool {w w' : World} {B g : Nat} {ops : List Wd} {vl vt vq : Value} {o : Option Tq} {r : Ending} (h : LedR w w' B g ops vl vt vq o r) : r = .returned (.bool o.isSome) := by
  cases o with
  | none => exact h.1
  | some S' => exact h.1
theorem leadsI (ops : List Wd) (S : Tq) (p : Nat) (P : Int) (hP : P = (p : Int)) (s : Sd) (w : World) (B g : Nat) (vl vt vq : Value) (h : CW w B g ops vl S vt vq) (hl : S.1.length = ops.length) (hq : S.2.length ≤ 1000) :
    Calls Tryd.prog 45 #[.pointer (some ⟨g, 0, none⟩), .int .i64 P, .agg #[.bool false, .int .i64 s.n, .int .i64 s.v]] w fun r w' => LedR w w' B g ops vl vt vq (leadQ S (p, s)) r := by
  subst hP
  exact law_leads ops S p s w B g vl vt vq h hl hq
theorem takes_le (k : Int) : 0 ≤ takesM k ∧ takesM k ≤ 2 ∧ 0 ≤ putsM k ∧ putsM k ≤ 1 := by
  unfold takesM putsM
  repeat' split
  all_goals omega
/-- Too few values. -/
theorem follow_few (ops : List Wd) (S : Tq) (k : Nat) (s : Sd) (w : World) (B g : Nat) (vl vt vq : Value) (h : CW w B g ops vl S vt vq) (hl : S.1.length = ops.length) (hk : S.1.getD k none = some s) (hkl : k < ops.length)
    (hT : 1 ≤ (ops.getD k op0).tag ∧ (ops.getD k op0).tag ≤ 24) (hv : s.v < takesM (ops.getD k op0).tag) :
    Calls Tryd.prog 46 #[.pointer (some ⟨g, 0, none⟩), .int .i64 (k : Int)] w fun r w' => LedR w w' B g ops vl vt vq none r := by
  obtain ⟨lb, loff, lcap, tb, tcap, rfl, rfl, ff⟩ := h.ff hl hk hkl
  obtain ⟨n, v⟩ := s
  have hD := fun w => trade_kind (ops.getD k op0).tag (ops.getD k op0).num w hT
  generalize (ops.getD k op0).tag = tag at ff hD hv
  generalize (ops.getD k op0).num = num at ff hD
  generalize takesM tag = tk at hD hv
  generalize putsM tag = pt at hD
  simp only at ff hv
  obtain ⟨c0, c1, d0, d1, d2, e0, e1, gl, tl, ll⟩ := ff.keep ((Below.refl _ _).alloc (Nat.le_refl _) (.cells #[.bool true, .int .i64 n, .int .i64 v] 85))
  obtain ⟨c0', c1', d0', d1', d2', e0', e1', gl', tl', ll'⟩ := ff
  have hki : (k : Int) < (ops.length : Int) := by omega
  clear h hl hk hT
  go_enter Tryd.func46, Tryd.ntmps46
  go_wp2_with (go_at_call 57; refine (hD _).mono ?_; rintro r w2 ⟨rfl, hb2⟩; obtain ⟨x0, x1, x2, xf, xl, hb3⟩ := box3 hb2)
  go_ret
  exact ⟨rfl, _, Mv.ofBelow hb3⟩
end Go.Proofs.YtaagnifagahgfaaDoor

