/-
  A table, a list and code in memory, as the program has them.
-/
import Derived.Test.YtlkbgmgnjkkfgaaDoorRows
import Derived.Test.YtlkbgmgnjkkfgaaDoorCkMath
import Derived.Test.YtlkbgmgnjkkfgaaDoorLvAll4
import Derived.WalkKit
import Derived.WalkSpells
import Derived.WalkLawsBesides
import Derived.RowKit3
import Derived.ArgAppend
import Derived.Deep.RegionLawGrows
import Derived.Deep.RegionLaw
namespace Go.Proofs.YtlkbgmgnjkkfgaaDoor
open Go.RowKit

def standV : Option Sd → List Value
  | some s => [.bool true, .int .i64 s.n, .int .i64 s.v]
  | none => [.bool false, .int .i64 0, .int .i64 0]
theorem standV_len : ∀ o, (standV o).length = 3
  | some _ => rfl
  | none => rfl
/-- The block of a slice's first cell. -/
def qB : Value → Option Nat
  | .slice (some a) _ _ => some a.block
  | _ => none
/-- Places lie in w as a slice of the call's own, wherever in its row it begins. -/
structure Queue (w : World) (B : Nat) (q : List Nat) (v : Value) : Prop where
  ex : ∃ ao cap, v = .slice ao q.length cap ∧ q.length ≤ cap ∧ cap ≤ maxLen ∧ (ao = none → cap = 0) ∧ ∀ a, ao = some a → B ≤ a.block ∧ a.block < w.heap.size ∧ (0 < cap → ∃ ob off cur, a = ⟨ob, off, none⟩ ∧ w.heap[ob]? = some (.cells cur 3) ∧ off + cap ≤ cur.size ∧ ∀ (i x : Nat), q[i]? = some x → cur[off + i]? = some (.int .i64 (x : Int)))
theorem Queue.same {w w' : World} {B : Nat} {q : List Nat} {v : Value} (h : Queue w B q v) (hz : w.heap.size ≤ w'.heap.size) (hs : ∀ k, k < w.heap.size → some k = qB v → w'.heap[k]? = w.heap[k]?) : Queue w' B q v := by
  obtain ⟨ao, cap, rfl, h1, h2, h3, h4⟩ := h.ex
  refine ⟨ao, cap, rfl, h1, h2, h3, fun a ha => ?_⟩
  obtain ⟨b1, b2, b3⟩ := h4 a ha
  refine ⟨b1, by omega, fun hc => ?_⟩
  obtain ⟨ob, off, cur, rfl, hh, r⟩ := b3 hc
  exact ⟨ob, off, cur, rfl, by rw [hs ob b2 (by rw [ha]; rfl)]; exact hh, r⟩
/-- The walk through code, in memory. -/
structure CW (w : World) (B g : Nat) (ops : List Wd) (vl : Value) (S : Tq) (vt vq : Value) : Prop where
  hB : B ≤ g
  blk : w.heap[g]? = some (.cells #[vl, vt, vq] 68)
  list : Words w (· < B) ops vl
  tab : w.ownsRow B 71 3 vt S.1.length (S.1.flatMap standV)
  que : Queue w B S.2 vq
  tg : vt.ownBlock ≠ some g
  qg : qB vq ≠ some g
  qt : qB vq = none ∨ qB vq ≠ vt.ownBlock
/-- What may have turned: the walk's own blocks. -/
structure Mv (w w' : World) (g : Nat) (vt vq vq' : Value) : Prop where
  os : w'.os = w.os
  tape : w'.tape = w.tape
  output : w'.output = w.output
  size : w.heap.size ≤ w'.heap.size
  block : ∀ k, k < w.heap.size → k ≠ g → some k ≠ vt.ownBlock → some k ≠ qB vq → w'.heap[k]? = w.heap[k]?
  new : ∀ k, k < w.heap.size → some k ≠ qB vq → some k ≠ qB vq'
section
variable {w w' w2 : World} {B g : Nat} {ops : List Wd} {vl : Value} {S : Tq} {vt vq vq' vq2 : Value}
theorem CW.lt (h : CW w B g ops vl S vt vq) : g < w.heap.size := (Array.getElem?_eq_some_iff.1 h.blk).1
theorem CW.same (h : CW w B g ops vl S vt vq) (hz : w.heap.size ≤ w'.heap.size) (hs : ∀ k, k < w.heap.size → (k = g ∨ k < B ∨ some k = vt.ownBlock ∨ some k = qB vq) → w'.heap[k]? = w.heap[k]?) : CW w' B g ops vl S vt vq := by
  refine ⟨h.hB, by rw [hs g h.lt (Or.inl rfl)]; exact h.blk, ?_, ?_, h.que.same hz fun k hk he => hs k hk (Or.inr (Or.inr (Or.inr he))), h.tg, h.qg, h.qt⟩
  · exact h.list.same fun k hk => ⟨hs k (by have := h.hB; have := h.lt; omega) (Or.inr (Or.inl hk)), hk⟩
  · obtain ⟨h1, ⟨h2, h3⟩ | ⟨b, cap, cur, rfl, hb, hh, r⟩⟩ := h.tab
    · exact ⟨h1, Or.inl ⟨h2, h3⟩⟩
    · exact ⟨h1, Or.inr ⟨b, cap, cur, rfl, hb, by rw [hs b (Array.getElem?_eq_some_iff.1 hh).1 (Or.inr (Or.inr (Or.inl rfl)))]; exact hh, r⟩⟩
theorem CW.keep (h : CW w B g ops vl S vt vq) (hb : Below w.heap.size w w') : CW w' B g ops vl S vt vq := h.same hb.size fun k hk _ => hb.block k hk
theorem Mv.refl (w : World) (g : Nat) (vt vq : Value) : Mv w w g vt vq vq := ⟨rfl, rfl, rfl, Nat.le_refl _, fun _ _ _ _ _ => rfl, fun _ _ h => h⟩
theorem Mv.ofBelow (h : Below w.heap.size w w') : Mv w w' g vt vq vq := ⟨h.os, h.tape, h.output, h.size, fun k hk _ _ _ => h.block k hk, fun _ _ h => h⟩
theorem Mv.trans (h : Mv w w' g vt vq vq') (k : Mv w' w2 g vt vq' vq2) : Mv w w2 g vt vq vq2 :=
  ⟨k.os.trans h.os, k.tape.trans h.tape, k.output.trans h.output, Nat.le_trans h.size k.size, fun i hi h1 h2 h3 => (k.block i (Nat.lt_of_lt_of_le hi h.size) h1 h2 (h.new i hi h3)).trans (h.block i hi h1 h2 h3), fun i hi h1 => k.new i (Nat.lt_of_lt_of_le hi h.size) (h.new i hi h1)⟩
theorem CW.qlt (h : CW w B g ops vl S vt vq) : ∀ k, qB vq = some k → B ≤ k ∧ k < w.heap.size := by
  obtain ⟨ao, cap, rfl, _, _, _, h4⟩ := h.que.ex
  intro k hk
  cases ao with
  | none => cases hk
  | some a =>
    have := h4 a rfl
    have e : a.block = k := by simpa [qB] using hk
    subst e
    exact ⟨this.1, this.2.1⟩
theorem CW.below (h : CW w B g ops vl S vt vq) (hm : Mv w w' g vt vq vq') : Below B w w' := by
  have := h.hB
  have := h.lt
  refine ⟨hm.os, hm.tape, hm.output, hm.size, fun k hk => hm.block k (by omega) (by omega) (fun e => ?_) (fun e => ?_)⟩
  · have := (h.tab.lt k e.symm).1; omega
  · have := (h.qlt k e.symm).1; omega
/-- The cells of the walk. -/
theorem CW.cells (h : CW w B g ops vl S vt vq) : w.cell? ⟨g, 0, none⟩ = some vl ∧ w.cell? ⟨g, 1, none⟩ = some vt ∧ w.cell? ⟨g, 2, none⟩ = some vq ∧ ∀ o, w.frozen? ⟨g, o, none⟩ = false := by
  have hb := h.blk
  refine ⟨?_, ?_, ?_, fun o => ?_⟩
  · rw [cell_of_row _ _ _ _ _ _ hb]; rfl
  · rw [cell_of_row _ _ _ _ _ _ hb]; rfl
  · rw [cell_of_row _ _ _ _ _ _ hb]; rfl
  · unfold World.frozen?; rw [hb]; simp
/-- What stands at a place of the table. -/
theorem CW.at (h : CW w B g ops vl S vt vq) {i : Nat} (hi : i < S.1.length) : ∃ tb cap, vt = .slice (some ⟨tb, 0, none⟩) S.1.length cap ∧ B ≤ tb ∧ tb < w.heap.size ∧ tb ≠ g ∧ w.rangeAt tb (i * 3) (standV S.1[i]) ∧ ∀ o, w.frozen? ⟨tb, o, none⟩ = false := by
  have hO := h.tab
  obtain ⟨h1, ⟨h2, h3⟩ | ⟨b, cap, cur, e, hb, hh, r⟩⟩ := hO
  · omega
  · subst e
    refine ⟨b, cap, rfl, hb, (Array.getElem?_eq_some_iff.1 hh).1, fun e => h.tg (by rw [e]; rfl), fun j u hj => ?_, fun o => ?_⟩
    · have := h.tab.cells (g := b) rfl (i * 3 + j) u (ow_flat_get standV_len S.1 i j _ u (List.getElem?_eq_getElem hi) hj)
      rw [Addr.add_mid] at this
      simpa using this
    · unfold World.frozen?; rw [hh]; simp
/-- An entry of the table is written. -/
theorem CW.put (h : CW w B g ops vl S vt vq) {p tb cap n : Nat} (s : Sd) (hv : vt = .slice (some ⟨tb, 0, none⟩) n cap) (hp : p < S.1.length) :
    CW (w.setCells tb (p * 3) (standV (some s))) B g ops vl (S.1.set p (some s), S.2) vt vq ∧ Mv w (w.setCells tb (p * 3) (standV (some s))) g vt vq vq := by
  subst hv
  have hn : n = S.1.length := by
    obtain ⟨h1, ⟨h2, h3⟩ | ⟨b, cap', cur, e, hb, hh, r⟩⟩ := h.tab
    · cases h2
    · simp at e
      omega
  have hk : ∀ k, k ≠ tb → (w.setCells tb (p * 3) (standV (some s))).heap[k]? = w.heap[k]? := fun k hk => rw_heap_setCells tb _ _ w k hk
  have htg : tb ≠ g := fun e => h.tg (by rw [e]; rfl)
  have hBt := (h.tab.lt tb rfl).1
  have hz := rw_size_setCells tb (standV (some s)) (p * 3) w
  have hb0 := rw_below_setCells (B := 0) (b := tb) (Nat.zero_le _) (standV (some s)) (p * 3) w (Below.refl _ _)
  have hqt : qB vq ≠ some tb := by
    rcases h.qt with e | e
    · rw [e]; simp
    · exact e
  refine ⟨⟨h.hB, by rw [hk g (Ne.symm htg)]; exact h.blk, h.list.same fun k hlt => ⟨hk k (by omega), hlt⟩, ?_, h.que.same (by omega) fun k _ he => hk k (fun e => hqt (by rw [← he, e])), h.tg, h.qg, h.qt⟩, ⟨hb0.os, hb0.tape, hb0.output, by omega, fun k _ _ h2 _ => hk k (fun e => h2 (by rw [e]; rfl)), fun _ _ h => h⟩⟩
  have h1 := h.tab
  rw [hn] at h1
  have h2 := ow_setCells (standV (some s)) (p * 3) w _ h1
  rw [flat_set standV_len (some s) S.1 p hp] at h2
  show World.ownsRow _ B _ 3 _ (S.1.set p (some s)).length ((S.1.set p (some s)).flatMap standV)
  rw [List.length_set, hn]
  exact h2
/-- The list got longer, and is noted. -/
theorem CW.push (h : CW w B g ops vl S vt vq) {w5 : World} {p : Nat} {v' : Value} (hos : w5.os = w.os) (htp : w5.tape = w.tape) (hop : w5.output = w.output) (hsz : w.heap.size ≤ w5.heap.size) (hblk : ∀ k, k < w.heap.size → some k ≠ qB vq → w5.heap[k]? = w.heap[k]?)
    (hq : Queue w5 B (S.2 ++ [p]) v') (hnew : ∀ k, qB v' = some k → some k = qB vq ∨ w.heap.size ≤ k) :
    CW (w5.setCell ⟨g, 2, none⟩ v') B g ops vl (S.1, S.2 ++ [p]) vt v' ∧ Mv w (w5.setCell ⟨g, 2, none⟩ v') g vt vq v' := by
  have hgl := h.lt
  have hk : ∀ k, k ≠ g → (w5.setCell ⟨g, 2, none⟩ v').heap[k]? = w5.heap[k]? := fun k hk => Below.heap_setCell _ _ _ _ hk
  have hz : (w5.setCell ⟨g, 2, none⟩ v').heap.size = w5.heap.size := by simp [World.setCell]
  have hqg' : qB v' ≠ some g := fun e => by
    rcases hnew g e with h1 | h1
    · exact h.qg h1.symm
    · omega
  have hqt' : qB v' = none ∨ qB v' ≠ vt.ownBlock := by
    cases hv : qB v' with
    | none => exact Or.inl rfl
    | some k =>
      right
      intro e
      rcases hnew k hv with h1 | h1
      · rcases h.qt with h2 | h2
        · rw [h2] at h1; cases h1
        · exact h2 (by rw [← h1, e])
      · have := (h.tab.lt k e.symm).2
        omega
  have hB := h.hB
  refine ⟨⟨h.hB, ?_, h.list.same fun k hlt => ⟨by rw [hk k (by omega)]; exact hblk k (by omega) (fun e => by have := (h.qlt k e.symm).1; omega), hlt⟩, ?_, hq.same (by omega) fun k _ he => hk k (fun e => hqg' (by rw [← he, e])), h.tg, hqg', hqt'⟩, ⟨hos, htp, hop, by omega, fun k h1 h2 _ h4 => by rw [hk k h2]; exact hblk k h1 h4, fun k h1 h2 e => by
    rcases hnew k e.symm with h3 | h3
    · exact h2 h3
    · omega⟩⟩
  · unfold World.setCell
    simp only [Array.getElem?_modify]
    rw [hblk g hgl (fun e => h.qg e.symm), h.blk]
    simp
  · obtain ⟨h1, ⟨h2, h3⟩ | ⟨b, cap, cur, rfl, hb, hh, r⟩⟩ := h.tab
    · exact ⟨h1, Or.inl ⟨h2, h3⟩⟩
    · refine ⟨h1, Or.inr ⟨b, cap, cur, rfl, hb, ?_, r⟩⟩
      rw [hk b (fun e => h.tg (by rw [← e]; rfl)), hblk b (Array.getElem?_eq_some_iff.1 hh).1 (fun e => ?_)]
      · exact hh
      · rcases h.qt with h2 | h2
        · rw [h2] at e; cases e
        · exact h2 e.symm
end
/-- A row of the call's own is a list. -/
theorem queue_own {w : World} {B lo n : Nat} {q : List Nat} {v : Value} (hn : n = q.length) (hB : B ≤ lo) (h : w.ownsRow lo 3 1 v n (q.map fun (x : Nat) => Value.int .i64 (x : Int))) : Queue w B q v ∧ ∀ k, qB v = some k → lo ≤ k := by
  subst hn
  obtain ⟨h1, ⟨rfl, h3⟩ | ⟨b, cap, cur, rfl, hb, hh, hc, hm, hs, ht⟩⟩ := h
  · exact ⟨⟨none, 0, by rw [h3], by omega, by simp [maxLen], fun _ => rfl, fun a ha => (by cases ha)⟩, fun k hk => (by cases hk)⟩
  · refine ⟨⟨some ⟨b, 0, none⟩, cap, rfl, hc, hm, fun e => (by cases e), fun a ha => ?_⟩, fun k hk => ?_⟩
    · cases ha
      refine ⟨by show B ≤ b; omega, (Array.getElem?_eq_some_iff.1 hh).1, fun _ => ⟨b, 0, cur, rfl, hh, by omega, fun i x hi => ?_⟩⟩
      have hi' : i < q.length := (List.getElem?_eq_some_iff.1 hi).1
      have : (q.map fun (x : Nat) => Value.int .i64 (x : Int))[i]? = some (.int .i64 (x : Int)) := by rw [List.getElem?_map, hi]; rfl
      rw [← ht, List.getElem?_take, if_pos (by omega)] at this
      rw [Nat.zero_add, ← Array.getElem?_toList]
      exact this
    · have e : b = k := by simpa [qB] using hk
      omega
/-- A list that got longer by one. -/
structure Pushed (w w' : World) (B : Nat) (q : List Nat) (p : Nat) (v v' : Value) : Prop where
  os : w'.os = w.os
  tape : w'.tape = w.tape
  output : w'.output = w.output
  size : w.heap.size ≤ w'.heap.size
  block : ∀ k, k < w.heap.size → some k ≠ qB v → w'.heap[k]? = w.heap[k]?
  que : Queue w' B (q ++ [p]) v'
  new : ∀ k, qB v' = some k → some k = qB v ∨ w.heap.size ≤ k
  slice : ∃ ao n cap, v' = .slice ao n cap
theorem ckInfo : (Tryd.prog.info? 3).map (fun i => (i.zero, i.size, i.bytes)) = some (some (.int .i64 0), 1, 8) := by kernel_rfl
theorem wpList_queue (w : World) {ops : Array Oper} {rest : List Oper} {o : Oper} {a : Act} {Q : Exit → Act → World → Prop}
    (hg : o.guard = none) (s x : Operand) (hop : o.op = Op.call { callee := Callee.builtin Builtin.append, args := #[s, x], argTypes := #[24, 24] })
    {B : Nat} {q : List Nat} {v : Value} {p : Nat} (hQ : Queue w B q v) (hB : B ≤ w.heap.size) (hs : a.eval s = v)
    (ad : Addr) (c : Nat) (hx : a.eval x = .slice (some ad) 1 c) (hc : w.cell? ad = some (.int .i64 (p : Int))) (hlen : q.length ≤ 1000)
    (hK : ∀ v' w', Pushed w w' B q p v v' → wpList Tryd.prog ops Q rest (a.put o.dst v') w') :
    wpList Tryd.prog ops Q (o :: rest) a w := by
  obtain ⟨i1, hi1, hiz1, his1, hib1⟩ := info_parts ckInfo
  obtain ⟨ao, cap, rfl, h1, h2, h3, h4⟩ := hQ.ex
  have hcj : ∀ (j : Nat) u, [Value.int .i64 (p : Int)][j]? = some u → w.cell? (ad.add j) = some u := by
    intro j u hj
    match j, hj with
    | 0, hj =>
      cases hj
      obtain ⟨ab, ao', asp⟩ := ad
      have e : (⟨ab, ao', asp⟩ : Addr).add 0 = ⟨ab, ao', asp⟩ := Addr.add_zero' _
      rw [e]
      exact hc
  have h1c : ∀ u ∈ [Value.int .i64 (p : Int)], u.oneCell' = true := by
    intro u hu
    simp at hu
    subst hu
    rfl
  by_cases hr : q.length + 1 ≤ cap
  · cases hao : ao with
    | none => have := h3 hao; omega
    | some a0 =>
      subst hao
      obtain ⟨b1, b2, b3⟩ := h4 a0 rfl
      obtain ⟨ob, off, cur, rfl, hh, hsz, hx'⟩ := b3 (by omega)
      have hcur : off + q.length < cur.size := by omega
      have hcell : w.cell? ⟨ob, off + q.length * 1 + 0, none⟩ = some (cur[off + q.length]'hcur) := by
        rw [cell_of_row _ _ _ _ _ _ hh, Nat.mul_one, Nat.add_zero]
        exact Array.getElem?_eq_getElem hcur
      refine wpList_append_arg w hg s x 24 hop 3 i1 (.int .i64 0) 1 8 Tryd.underlying24 hi1 hiz1 his1 hib1 rfl (by decide) ob off q.length cap (q.map fun (x : Nat) => Value.int .i64 (x : Int)) hs (by simp) (fun j u hj => ?_) ad 1 c [.int .i64 (p : Int)] hx rfl hcj h1c (fun _ j hj => ?_) (by unfold maxLen; omega) (by omega) (fun _ => ?_) (fun hc' => absurd hr (by omega))
      · rw [List.getElem?_map] at hj
        cases hq : q[j]? with
        | none => rw [hq] at hj; cases hj
        | some y =>
          rw [hq] at hj
          cases hj
          rw [cell_of_row _ _ _ _ _ _ hh]
          exact hx' j y hq
      · have : j = 0 := by simpa using hj
        subst this
        rw [hcell]
        refine ⟨rfl, ?_⟩
        unfold World.frozen?
        rw [hh]
        simp
      · have hk : ∀ k, k ≠ ob → (w.setCells ob (off + q.length * 1) [.int .i64 (p : Int)]).heap[k]? = w.heap[k]? := fun k hk => rw_heap_setCells ob _ _ w k hk
        have hz := rw_size_setCells ob [.int .i64 (p : Int)] (off + q.length * 1) w
        have hb0 := rw_below_setCells (B := 0) (b := ob) (Nat.zero_le _) [.int .i64 (p : Int)] (off + q.length * 1) w (Below.refl _ _)
        refine hK _ _ ⟨hb0.os, hb0.tape, hb0.output, by omega, fun k _ h => hk k (fun e => h (by rw [e]; rfl)), ⟨some ⟨ob, off, none⟩, cap, by simp, by simp; omega, h2, (fun e => by cases e), fun a ha => ?_⟩, fun k hk => Or.inl hk.symm, ⟨_, _, _, rfl⟩⟩
        cases ha
        refine ⟨b1, by rw [hz]; exact b2, fun _ => ⟨ob, off, cur.setIfInBounds (off + q.length) (.int .i64 (p : Int)), rfl, ?_, by simpa using hsz, fun i y hi => ?_⟩⟩
        · show (w.setCell ⟨ob, off + q.length * 1, none⟩ (.int .i64 (p : Int))).heap[ob]? = _
          unfold World.setCell
          simp only [Array.getElem?_modify]
          rw [hh]
          simp
        · by_cases e : i = q.length
          · subst e
            rw [List.getElem?_append_right (Nat.le_refl _), Nat.sub_self] at hi
            cases hi
            rw [Array.getElem?_setIfInBounds_self, if_pos hcur]
          · have hi' : i < q.length := by
              have := (List.getElem?_eq_some_iff.1 hi).1
              simp at this
              omega
            rw [List.getElem?_append_left hi'] at hi
            rw [Array.getElem?_setIfInBounds_ne (by omega)]
            exact hx' i y hi
  · have hn : ao = none → q.length = 0 ∧ cap = 0 := fun e => by have := h3 e; omega
    refine wpList_append_grows w hg s x 24 hop 3 i1 (.int .i64 0) 1 8 Tryd.underlying24 hi1 hiz1 his1 hib1 rfl (by decide) ao q.length cap (q.map fun (x : Nat) => Value.int .i64 (x : Int)) hs hn (by simp) (fun a0 ha j u hj => ?_) ad 1 c [.int .i64 (p : Int)] hx rfl hcj h1c (by omega) (by unfold maxLen; omega) (by omega) ?_
    · obtain ⟨_, _, b3⟩ := h4 a0 ha
      have hj' : j < q.length := by
        have := (List.getElem?_eq_some_iff.1 hj).1
        simpa using this
      obtain ⟨ob, off, cur, rfl, hh, hsz, hx'⟩ := b3 (by omega)
      rw [List.getElem?_map] at hj
      cases hq : q[j]? with
      | none => rw [hq] at hj; cases hj
      | some y =>
        rw [hq] at hj
        cases hj
        rw [Addr.add_lit, cell_of_row _ _ _ _ _ _ hh]
        exact hx' j y hq
    · intro v' w' hO hG
      have hO' : w'.ownsRow w.heap.size 3 1 v' (q ++ [p]).length ((q ++ [p]).map fun (x : Nat) => Value.int .i64 (x : Int)) := by simpa using hO
      obtain ⟨hq', hn'⟩ := queue_own rfl hB hO'
      refine hK v' w' ⟨hG.os, hG.tape, hG.output, hG.size, fun k hk _ => hG.block k hk (by simp), hq', fun k hk => Or.inr (hn' k hk), ?_⟩
      obtain ⟨ao', cap', rfl, _⟩ := hq'.ex
      exact ⟨_, _, _, rfl⟩
end Go.Proofs.YtlkbgmgnjkkfgaaDoor

