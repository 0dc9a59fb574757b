/-
  The program's leads.
  The program's follow, deed by deed.
-/
import Derived.Test.YtlkbgmgnjkkfgaaDoorCkMem
import Derived.Deep.QuietTactic
import Derived.BigQuiet
import Derived.Deep.RegionHeld3
import Derived.Deep.Cut
import Derived.Test.YtlkbgmgnjkkfgaaDoorLvAll2
namespace Go.Proofs.YtlkbgmgnjkkfgaaDoor
open Go.RowKit

/-- How something that leads ends. -/
def LedR (w w' : World) (B g : Nat) (ops : List Wd) (vl vt vq : Value) (o : Option Tq) (r : Ending) : Prop :=
  match o with
  | some S' => r = .returned (.bool true) ∧ ∃ vq', CW w' B g ops vl S' vt vq' ∧ Mv w w' g vt vq vq'
  | none => r = .returned (.bool false) ∧ ∃ vq', Mv w w' g vt vq vq'
theorem ck_box {w : World} {a b c : Value} {T : TypeId} : Below w.heap.size w (w.alloc (.cells #[a, b, c] T)) := (Below.refl _ _).alloc (Nat.le_refl _) _

set_option maxRecDepth 100000 in
set_option maxHeartbeats 8000000 in
theorem leads_far (ops : List Wd) (S : Tq) (p : Nat) (s : Sd) (w : World) (B g : Nat) (vl vt vq : Value) (h : CW w B g ops vl S vt vq) (hp : ops.length ≤ p) :
    Calls Tryd.prog 31 #[.pointer (some ⟨g, 0, none⟩), .int .i64 (p : Int), .agg #[.bool false, .int .i64 s.n, .int .i64 s.v]] w fun r w' => r = .returned (.bool false) ∧ ∃ vq', Mv w w' g vt vq vq' := by
  have h2 := h.keep (ck_box (a := .bool true) (b := .int .i64 s.n) (c := .int .i64 s.v) (T := 71))
  obtain ⟨la, lcap, rfl⟩ := h.list.slice
  obtain ⟨c0, c1, c2, cf⟩ := h2.cells
  have hi : (ops.length : Int) ≤ (p : Int) := by omega
  have hM : Mv w (w.alloc (.cells #[.bool true, .int .i64 s.n, .int .i64 s.v] 71)) g vt vq vq := Mv.ofBelow ck_box
  clear h h2
  go_enter Tryd.func31, Tryd.ntmps31
  go_wp2_with fail
  go_ret
  exact ⟨rfl, _, hM⟩
set_option maxRecDepth 100000 in
set_option maxHeartbeats 8000000 in
theorem leads_low (ops : List Wd) (S : Tq) (p : Nat) (s : Sd) (w : World) (B g : Nat) (vl vt vq : Value) (h : CW w B g ops vl S vt vq) (hp : p < ops.length) (hs : s.n < 0) :
    Calls Tryd.prog 31 #[.pointer (some ⟨g, 0, none⟩), .int .i64 (p : Int), .agg #[.bool false, .int .i64 s.n, .int .i64 s.v]] w fun r w' => r = .returned (.bool false) ∧ ∃ vq', Mv w w' g vt vq vq' := by
  have h2 := h.keep (ck_box (a := .bool true) (b := .int .i64 s.n) (c := .int .i64 s.v) (T := 71))
  obtain ⟨la, lcap, rfl⟩ := h.list.slice
  obtain ⟨c0, c1, c2, cf⟩ := h2.cells
  have hi : ¬ (ops.length : Int) ≤ (p : Int) := by omega
  have hM : Mv w (w.alloc (.cells #[.bool true, .int .i64 s.n, .int .i64 s.v] 71)) g vt vq vq := Mv.ofBelow ck_box
  clear h h2
  go_enter Tryd.func31, Tryd.ntmps31
  go_wp2_with fail
  go_ret
  exact ⟨rfl, _, hM⟩
set_option maxRecDepth 100000 in
set_option maxHeartbeats 8000000 in
theorem leads_known (ops : List Wd) (S : Tq) (p : Nat) (s s0 : Sd) (w : World) (B g : Nat) (vl vt vq : Value) (h : CW w B g ops vl S vt vq) (hp : p < ops.length) (hl : S.1.length = ops.length) (hs : ¬ s.n < 0) (hk : S.1.getD p none = some s0) :
    Calls Tryd.prog 31 #[.pointer (some ⟨g, 0, none⟩), .int .i64 (p : Int), .agg #[.bool false, .int .i64 s.n, .int .i64 s.v]] w fun r w' => r = .returned (.bool (decide (s0 = s))) ∧ Below w.heap.size w w' := by
  have h2 := h.keep (ck_box (a := .bool true) (b := .int .i64 s.n) (c := .int .i64 s.v) (T := 71))
  obtain ⟨la, lcap, rfl⟩ := h.list.slice
  obtain ⟨c0, c1, c2, cf⟩ := h2.cells
  obtain ⟨tb, tcap, rfl, htB, htl, htg, hr, hf⟩ := h2.at (i := p) (by omega)
  have he : S.1[p]'(by omega) = some s0 := by
    rw [List.getD_eq_getElem?_getD, List.getElem?_eq_getElem (by omega)] at hk
    exact hk
  rw [he] at hr
  have d0 : (w.alloc (.cells #[.bool true, .int .i64 s.n, .int .i64 s.v] 71)).cell? ⟨tb, p * 3, none⟩ = some (.bool true) := hr 0 _ rfl
  have d1 : (w.alloc (.cells #[.bool true, .int .i64 s.n, .int .i64 s.v] 71)).cell? ⟨tb, p * 3 + 1, none⟩ = some (.int .i64 s0.n) := hr 1 _ rfl
  have d2 : (w.alloc (.cells #[.bool true, .int .i64 s.n, .int .i64 s.v] 71)).cell? ⟨tb, p * 3 + 2, none⟩ = some (.int .i64 s0.v) := hr 2 _ rfl
  have hi : ¬ (ops.length : Int) ≤ (p : Int) := by omega
  have hti : (p : Int) < (S.1.length : Int) := by omega
  have hM : Below w.heap.size w (w.alloc (.cells #[.bool true, .int .i64 s.n, .int .i64 s.v] 71)) := ck_box
  clear h h2 hr hk he
  obtain ⟨n, v⟩ := s
  obtain ⟨n0, v0⟩ := s0
  by_cases e1 : n0 = n
  · by_cases e2 : v0 = v
    · subst e1 e2
      rw [decide_eq_true rfl]
      go_enter Tryd.func31, Tryd.ntmps31
      go_wp2_with fail
      go_quiet (fail)
      go_wp2_with fail
      go_ret
      exact ⟨rfl, ⟨hM.os, hM.tape, hM.output, hM.size, hM.block⟩⟩
    · subst e1
      rw [decide_eq_false (by intro e; cases e; exact e2 rfl)]
      have b2 : (v0 == v) = false := by simpa using e2
      go_enter Tryd.func31, Tryd.ntmps31
      go_wp2_with fail
      go_quiet (fail)
      go_wp2_with fail
      go_ret
      exact ⟨rfl, ⟨hM.os, hM.tape, hM.output, hM.size, hM.block⟩⟩
  · rw [decide_eq_false (by intro e; cases e; exact e1 rfl)]
    have b1 : (n0 == n) = false := by simpa using e1
    go_enter Tryd.func31, Tryd.ntmps31
    go_wp2_with fail
    go_quiet (fail)
    go_wp2_with fail
    go_ret
    exact ⟨rfl, ⟨hM.os, hM.tape, hM.output, hM.size, hM.block⟩⟩
set_option maxRecDepth 100000 in
set_option maxHeartbeats 8000000 in
theorem leads_new (ops : List Wd) (S : Tq) (p : Nat) (s : Sd) (w : World) (B g : Nat) (vl vt vq : Value) (h : CW w B g ops vl S vt vq) (hp : p < ops.length) (hl : S.1.length = ops.length) (hs : ¬ s.n < 0) (hq : S.2.length ≤ 1000) (hk : S.1.getD p none = none) :
    Calls Tryd.prog 31 #[.pointer (some ⟨g, 0, none⟩), .int .i64 (p : Int), .agg #[.bool false, .int .i64 s.n, .int .i64 s.v]] w fun r w' => r = .returned (.bool true) ∧ ∃ vq', CW w' B g ops vl (S.1.set p (some s), S.2 ++ [p]) vt vq' ∧ Mv w w' g vt vq vq' := by
  have h2 := h.keep (ck_box (a := .bool true) (b := .int .i64 s.n) (c := .int .i64 s.v) (T := 71))
  obtain ⟨la, lcap, rfl⟩ := h.list.slice
  obtain ⟨c0, c1, c2, cf⟩ := h2.cells
  obtain ⟨tb, tcap, rfl, htB, htl, htg, hr, hf⟩ := h2.at (i := p) (by omega)
  have he : S.1[p]'(by omega) = none := by
    rw [List.getD_eq_getElem?_getD, List.getElem?_eq_getElem (by omega)] at hk
    exact hk
  rw [he] at hr
  have d0 : (w.alloc (.cells #[.bool true, .int .i64 s.n, .int .i64 s.v] 71)).cell? ⟨tb, p * 3, none⟩ = some (.bool false) := hr 0 _ rfl
  have d1 : (w.alloc (.cells #[.bool true, .int .i64 s.n, .int .i64 s.v] 71)).cell? ⟨tb, p * 3 + 1, none⟩ = some (.int .i64 0) := hr 1 _ rfl
  have d2 : (w.alloc (.cells #[.bool true, .int .i64 s.n, .int .i64 s.v] 71)).cell? ⟨tb, p * 3 + 2, none⟩ = some (.int .i64 0) := hr 2 _ rfl
  have hi : ¬ (ops.length : Int) ≤ (p : Int) := by omega
  have hti : (p : Int) < (S.1.length : Int) := by omega
  clear hr hk he
  go_enter Tryd.func31, Tryd.ntmps31
  go_upto_region 6 with fail
  go_region
  obtain ⟨hP, hM⟩ := h2.put s rfl (by omega : p < S.1.length)
  have hM0 : Mv w (w.alloc (.cells #[.bool true, .int .i64 s.n, .int .i64 s.v] 71)) g (.slice (some ⟨tb, 0, none⟩) S.1.length tcap) vq vq := Mv.ofBelow ck_box
  have hM2 := hM0.trans hM
  have hP' : ∀ w6, w6 = ((w.alloc (.cells #[.bool true, .int .i64 s.n, .int .i64 s.v] 71)).setCells tb (p * 3) (standV (some s))).drew → CW w6 B g ops (.slice la ops.length lcap) (S.1.set p (some s), S.2) (.slice (some ⟨tb, 0, none⟩) S.1.length tcap) vq ∧ Mv w w6 g (.slice (some ⟨tb, 0, none⟩) S.1.length tcap) vq vq := by
    intro w6 e
    subst e
    exact ⟨⟨hP.hB, hP.blk, hP.list, hP.tab, ⟨hP.que.ex⟩, hP.tg, hP.qg, hP.qt⟩, ⟨hM2.os, hM2.tape, hM2.output, hM2.size, hM2.block, hM2.new⟩⟩
  generalize hw6 : World.drew _ = w6
  obtain ⟨hP6, hM6⟩ := hP' w6 hw6.symm
  clear hP' hw6 hP hM hM0 hM2 c0 c1 c2 cf d0 d1 d2 hf htl h h2
  obtain ⟨c0, c1, c2, cf⟩ := hP6.cells
  have hgB := hP6.lt
  have hqq := (hP6.keep ((Below.refl _ _).alloc (Nat.le_refl _) (.cells #[.int .i64 (p : Int)] 3))).que
  obtain ⟨qa, qn, qcap, rfl⟩ : ∃ qa qn qcap, vq = .slice qa qn qcap := by
    obtain ⟨ao, cap, rfl, _⟩ := hqq.ex
    exact ⟨_, _, _, rfl⟩
  have hBl : Below w6.heap.size w6 (w6.alloc (.cells #[.int .i64 (p : Int)] 3)) := (Below.refl _ _).alloc (Nat.le_refl _) _
  have hBB : B ≤ (w6.alloc (.cells #[.int .i64 (p : Int)] 3)).heap.size := by
    have := hBl.size
    have := hP6.hB
    omega
  have hcc : (w6.alloc (.cells #[.int .i64 (p : Int)] 3)).cell? ⟨w6.heap.size, 0, none⟩ = some (.int .i64 (p : Int)) := by simp
  go_wp2_with (at_builtin; refine wpList_queue _ rfl (.tmp 48) (.tmp 50) rfl (q := S.2) hqq hBB rfl ⟨w6.heap.size, 0, none⟩ 1 rfl hcc hq ?_; intro v' w7 hU; obtain ⟨va, vn, vc, rfl⟩ := hU.slice; have hf7 : w7.heap[g]? = (w6.alloc (.cells #[.int .i64 (p : Int)] 3)).heap[g]? := hU.block g (Nat.lt_of_lt_of_le hgB hBl.size) (fun e => hP6.qg e.symm); have f7 : w7.frozen? ⟨g, 2, none⟩ = false := ((World.frozen?_of_block (a := ⟨g, 2, none⟩) hf7).trans (World.frozen?_of_block (a := ⟨g, 2, none⟩) (hBl.block g hgB))).trans (cf 2); have g7 : w7.cell? ⟨g, 2, none⟩ = some (.slice qa qn qcap) := ((World.cell?_of_block (a := ⟨g, 2, none⟩) hf7).trans (World.cell?_of_block (a := ⟨g, 2, none⟩) (hBl.block g hgB))).trans c2)
  go_ret
  have hZ := (hP6.keep hBl).push hU.os hU.tape hU.output hU.size hU.block hU.que hU.new
  have hM8 := (hM6.trans (Mv.ofBelow hBl)).trans hZ.2
  have hZ1 := hZ.1
  rw [hl] at hZ1 hM8
  exact ⟨rfl, _, hZ1, hM8⟩
/-- Something leads to a place, or doesn't. -/
theorem law_leads (ops : List Wd) (S : Tq) (p : Nat) (s : Sd) (w : World) (B g : Nat) (vl vt vq : Value) (h : CW w B g ops vl S vt vq) (hl : S.1.length = ops.length) (hq : S.2.length ≤ 1000) :
    Calls Tryd.prog 31 #[.pointer (some ⟨g, 0, none⟩), .int .i64 (p : Int), .agg #[.bool false, .int .i64 s.n, .int .i64 s.v]] w fun r w' => LedR w w' B g ops vl vt vq (leadQ S (p, s)) r := by
  unfold leadQ
  by_cases hp : ops.length ≤ p
  · rw [if_pos (Or.inl (by omega))]
    exact leads_far ops S p s w B g vl vt vq h hp
  · by_cases hs : s.n < 0
    · rw [if_pos (Or.inr hs)]
      exact leads_low ops S p s w B g vl vt vq h (by omega) hs
    · rw [if_neg (by rintro (h1 | h1); · simp only at h1; omega
                     · exact hs h1)]
      cases hk : S.1.getD p none with
      | none => exact leads_new ops S p s w B g vl vt vq h (by omega) hl hs hq hk
      | some s0 =>
        refine (leads_known ops S p s s0 w B g vl vt vq h (by omega) hl hs hk).mono ?_
        rintro r w' ⟨rfl, hb⟩
        by_cases e : s0 = s
        · rw [decide_eq_true e]
          simp only [e, if_true]
          exact ⟨rfl, _, h.keep hb, Mv.ofBelow hb⟩
        · rw [decide_eq_false e]
          simp only [e, if_false]
          exact ⟨rfl, _, Mv.ofBelow hb⟩
end Go.Proofs.YtlkbgmgnjkkfgaaDoor

namespace Go.Proofs.YtlkbgmgnjkkfgaaDoor
open Go.RowKit

/-- What follow reads. -/
structure FF (w : World) (g k len lb loff lcap tb tcap : Nat) (tag num n v : Int) : Prop where
  c0 : w.cell? ⟨g, 0, none⟩ = some (.slice (some ⟨lb, loff, none⟩) len lcap)
  c1 : w.cell? ⟨g, 1, none⟩ = some (.slice (some ⟨tb, 0, none⟩) len tcap)
  d0 : w.cell? ⟨tb, k * 3, none⟩ = some (.bool true)
  d1 : w.cell? ⟨tb, k * 3 + 1, none⟩ = some (.int .i64 n)
  d2 : w.cell? ⟨tb, k * 3 + 2, none⟩ = some (.int .i64 v)
  e0 : w.cell? ⟨lb, loff + k * 2, none⟩ = some (.int .i64 tag)
  e1 : w.cell? ⟨lb, loff + k * 2 + 1, none⟩ = some (.int .i64 num)
  gl : g < w.heap.size
  tl : tb < w.heap.size
  ll : lb < w.heap.size
theorem FF.keep {w w' : World} {g k len lb loff lcap tb tcap : Nat} {tag num n v : Int} (h : FF w g k len lb loff lcap tb tcap tag num n v) (hb : Below w.heap.size w w') : FF w' g k len lb loff lcap tb tcap tag num n v := by
  have hg := hb.block g h.gl
  have ht := hb.block tb h.tl
  have hl := hb.block lb h.ll
  have hz := hb.size
  exact ⟨by rw [World.cell?_of_block (w := w) hg]; exact h.c0, by rw [World.cell?_of_block (w := w) hg]; exact h.c1, by rw [World.cell?_of_block (w := w) ht]; exact h.d0, by rw [World.cell?_of_block (w := w) ht]; exact h.d1, by rw [World.cell?_of_block (w := w) ht]; exact h.d2,
    by rw [World.cell?_of_block (w := w) hl]; exact h.e0, by rw [World.cell?_of_block (w := w) hl]; exact h.e1, Nat.lt_of_lt_of_le h.gl hz, Nat.lt_of_lt_of_le h.tl hz, Nat.lt_of_lt_of_le h.ll hz⟩
theorem CW.ff {w : World} {B g : Nat} {ops : List Wd} {vl vt vq : Value} {S : Tq} {k : Nat} {s : Sd} (h : CW w B g ops vl S vt vq) (hl : S.1.length = ops.length) (hk : S.1.getD k none = some s) (hkl : k < ops.length) :
    ∃ lb loff lcap tb tcap, vl = .slice (some ⟨lb, loff, none⟩) ops.length lcap ∧ vt = .slice (some ⟨tb, 0, none⟩) ops.length tcap ∧ FF w g k ops.length lb loff lcap tb tcap (ops.getD k op0).tag (ops.getD k op0).num s.n s.v := by
  obtain ⟨la, lcap, rfl⟩ := h.list.slice
  obtain ⟨c0, c1, c2, cf⟩ := h.cells
  obtain ⟨tb, tcap, rfl, htB, htl, htg, hr, hf⟩ := h.at (i := k) (by omega)
  obtain ⟨lb, loff, hlb, rfl, hrl⟩ := RowOf.at h.list k hkl
  have he : S.1[k]'(by omega) = some s := by
    rw [List.getD_eq_getElem?_getD, List.getElem?_eq_getElem (by omega)] at hk
    exact hk
  rw [he] at hr
  have ho : ops.getD k op0 = ops[k] := by
    rw [List.getD_eq_getElem?_getD, List.getElem?_eq_getElem hkl]
    rfl
  rw [ho, hl]
  rw [hl] at c1
  obtain ⟨e0, e1⟩ := Wd.two hrl
  have := h.hB
  have := h.lt
  exact ⟨lb, loff, lcap, tb, tcap, rfl, rfl, c0, c1, hr 0 _ rfl, hr 1 _ rfl, hr 2 _ rfl, e0, e1, h.lt, htl, by omega⟩
/-- A box of three. -/
theorem box3 {w w2 : World} {a b c : Value} {T : TypeId} (h : Below (w.alloc (.cells #[a, b, c] T)).heap.size (w.alloc (.cells #[a, b, c] T)) w2) :
    w2.cell? ⟨w.heap.size, 0, none⟩ = some a ∧ w2.cell? ⟨w.heap.size, 1, none⟩ = some b ∧ w2.cell? ⟨w.heap.size, 2, none⟩ = some c ∧ (∀ o, w2.frozen? ⟨w.heap.size, o, none⟩ = false) ∧ w.heap.size < w2.heap.size ∧ Below w.heap.size w w2 := by
  have hb := h.block w.heap.size (by simp)
  have hz := h.size
  have hz' : (w.alloc (.cells #[a, b, c] T)).heap.size = w.heap.size + 1 := by simp
  refine ⟨(World.cell?_of_block (a := ⟨w.heap.size, 0, none⟩) hb).trans (by simp), (World.cell?_of_block (a := ⟨w.heap.size, 1, none⟩) hb).trans (by simp), (World.cell?_of_block (a := ⟨w.heap.size, 2, none⟩) hb).trans (by simp), fun o => (World.frozen?_of_block (a := ⟨w.heap.size, o, none⟩) hb).trans (by simp), by omega, ((Below.refl _ _).alloc (Nat.le_refl _) _).trans (h.mono (by simp))⟩
theorem LedR.pre {w w2 w' : World} {B g : Nat} {ops : List Wd} {vl vt vq : Value} {o : Option Tq} {r : Ending} (h : LedR w2 w' B g ops vl vt vq o r) (hb : Below w.heap.size w w2) : LedR w w' B g ops vl vt vq o r := by
  cases o with
  | none => exact ⟨h.1, _, (Mv.ofBelow hb).trans h.2.choose_spec⟩
  | some S' => exact ⟨h.1, _, h.2.choose_spec.1, (Mv.ofBelow hb).trans h.2.choose_spec.2⟩
theorem LedR.bool {w w' : World} {B g : Nat} {ops : List Wd} {vl vt vq : Value} {o : Option Tq} {r : Ending} (h : LedR w w' B g ops vl vt vq o r) : r = .returned (.bool o.isSome) := by
  cases o with
  | none => exact h.1
  | some S' => exact h.1
theorem leadsI (ops : List Wd) (S : Tq) (p : Nat) (P : Int) (hP : P = (p : Int)) (s : Sd) (w : World) (B g : Nat) (vl vt vq : Value) (h : CW w B g ops vl S vt vq) (hl : S.1.length = ops.length) (hq : S.2.length ≤ 1000) :
    Calls Tryd.prog 31 #[.pointer (some ⟨g, 0, none⟩), .int .i64 P, .agg #[.bool false, .int .i64 s.n, .int .i64 s.v]] w fun r w' => LedR w w' B g ops vl vt vq (leadQ S (p, s)) r := by
  subst hP
  exact law_leads ops S p s w B g vl vt vq h hl hq
theorem takes_le (k : Int) : 0 ≤ takesM k ∧ takesM k ≤ 2 ∧ 0 ≤ putsM k ∧ putsM k ≤ 1 := by
  unfold takesM putsM
  repeat' split
  all_goals omega
/-- Too few values. -/
theorem follow_few (ops : List Wd) (S : Tq) (k : Nat) (s : Sd) (w : World) (B g : Nat) (vl vt vq : Value) (h : CW w B g ops vl S vt vq) (hl : S.1.length = ops.length) (hk : S.1.getD k none = some s) (hkl : k < ops.length)
    (hT : 1 ≤ (ops.getD k op0).tag ∧ (ops.getD k op0).tag ≤ 24) (hv : s.v < takesM (ops.getD k op0).tag) :
    Calls Tryd.prog 32 #[.pointer (some ⟨g, 0, none⟩), .int .i64 (k : Int)] w fun r w' => LedR w w' B g ops vl vt vq none r := by
  obtain ⟨lb, loff, lcap, tb, tcap, rfl, rfl, ff⟩ := h.ff hl hk hkl
  obtain ⟨n, v⟩ := s
  have hD := fun w => trade_kind (ops.getD k op0).tag (ops.getD k op0).num w hT
  generalize (ops.getD k op0).tag = tag at ff hD hv
  generalize (ops.getD k op0).num = num at ff hD
  generalize takesM tag = tk at hD hv
  generalize putsM tag = pt at hD
  simp only at ff hv
  obtain ⟨c0, c1, d0, d1, d2, e0, e1, gl, tl, ll⟩ := ff.keep ((Below.refl _ _).alloc (Nat.le_refl _) (.cells #[.bool true, .int .i64 n, .int .i64 v] 71))
  obtain ⟨c0', c1', d0', d1', d2', e0', e1', gl', tl', ll'⟩ := ff
  have hki : (k : Int) < (ops.length : Int) := by omega
  clear h hl hk hT
  go_enter Tryd.func32, Tryd.ntmps32
  go_wp2_with (go_at_call 33; refine (hD _).mono ?_; rintro r w2 ⟨rfl, hb2⟩; obtain ⟨x0, x1, x2, xf, xl, hb3⟩ := box3 hb2)
  go_ret
  exact ⟨rfl, _, Mv.ofBelow hb3⟩
end Go.Proofs.YtlkbgmgnjkkfgaaDoor

