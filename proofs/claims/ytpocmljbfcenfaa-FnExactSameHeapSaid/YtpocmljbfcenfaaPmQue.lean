/-
  A list of pairs of words that lies in a row of the call's own, wherever in its row it begins; append of some pairs to it.
-/
import Derived.Test.YtpocmljbfcenfaaPmMath
import Derived.Test.YtpocmljbfcenfaaRwRow
import Derived.ArgAppend
namespace Go.Proofs.Ytpocmljbfcenfaa
open Go.RowKit

def setArr (cur : Array Value) (o : Nat) : List Value → Array Value
  | [] => cur
  | u :: us => setArr (cur.setIfInBounds o u) (o + 1) us
theorem setArr_size : ∀ (us : List Value) (o : Nat) (cur : Array Value), (setArr cur o us).size = cur.size
  | [], _, _ => rfl
  | u :: us, o, cur => by
    show (setArr (cur.setIfInBounds o u) (o + 1) us).size = _
    rw [setArr_size us]
    simp
theorem setArr_low : ∀ (us : List Value) (o : Nat) (cur : Array Value) (j : Nat), j < o → (setArr cur o us)[j]? = cur[j]?
  | [], _, _, _, _ => rfl
  | u :: us, o, cur, j, h => by
    show (setArr (cur.setIfInBounds o u) (o + 1) us)[j]? = _
    rw [setArr_low us _ _ j (by omega), Array.getElem?_setIfInBounds_ne (by omega)]
theorem setArr_at : ∀ (us : List Value) (o : Nat) (cur : Array Value) (i : Nat) (u : Value), o + us.length ≤ cur.size → us[i]? = some u → (setArr cur o us)[o + i]? = some u
  | [], _, _, i, u, _, h => by simp at h
  | v :: us, o, cur, 0, u, hl, h => by
    cases h
    show (setArr (cur.setIfInBounds o v) (o + 1) us)[o]? = _
    rw [setArr_low us _ _ o (by omega), Array.getElem?_setIfInBounds_self, if_pos (by simp at hl; omega)]
  | v :: us, o, cur, i + 1, u, hl, h => by
    show (setArr (cur.setIfInBounds o v) (o + 1) us)[o + (i + 1)]? = _
    have := setArr_at us (o + 1) (cur.setIfInBounds o v) i u (by simp at hl ⊢; omega) (by simpa using h)
    rw [show o + (i + 1) = o + 1 + i by omega]
    exact this
theorem block_setCells (b : Nat) (t : TypeId) : ∀ (us : List Value) (o : Nat) (w : World) (cur : Array Value), w.heap[b]? = some (.cells cur t) → (w.setCells b o us).heap[b]? = some (.cells (setArr cur o us) t)
  | [], _, _, _, h => h
  | u :: us, o, w, cur, h => block_setCells b t us (o + 1) (w.setCell ⟨b, o, none⟩ u) (cur.setIfInBounds o u) (by
      unfold World.setCell
      simp only [Array.getElem?_modify]
      rw [h]
      simp)
/-- The block of a slice's first cell. -/
def qBP : Value → Option Nat
  | .slice (some a) _ _ => some a.block
  | _ => none
/-- Pairs lie in w as a slice of the call's own, wherever in its row it begins. -/
structure QueP (w : World) (B : Nat) (q : List Pw) (v : Value) : Prop where
  ex : ∃ ao cap, v = .slice ao q.length cap ∧ q.length ≤ cap ∧ cap ≤ maxLen ∧ (ao = none → cap = 0) ∧ ∀ a, ao = some a → B ≤ a.block ∧ a.block < w.heap.size ∧ (0 < cap → ∃ ob off cur, a = ⟨ob, off, none⟩ ∧ w.heap[ob]? = some (.cells cur 43) ∧ off + cap * 4 ≤ cur.size ∧ ∀ (i : Nat) (u : Value), (q.flatMap Pw.cells)[i]? = some u → cur[off + i]? = some u)
theorem QueP.same {w w' : World} {B : Nat} {q : List Pw} {v : Value} (h : QueP w B q v) (hz : w.heap.size ≤ w'.heap.size) (hs : ∀ k, k < w.heap.size → some k = qBP v → w'.heap[k]? = w.heap[k]?) : QueP w' B q v := by
  obtain ⟨ao, cap, rfl, h1, h2, h3, h4⟩ := h.ex
  refine ⟨ao, cap, rfl, h1, h2, h3, fun a ha => ?_⟩
  obtain ⟨b1, b2, b3⟩ := h4 a ha
  refine ⟨b1, by omega, fun hc => ?_⟩
  obtain ⟨ob, off, cur, rfl, hh, r⟩ := b3 hc
  exact ⟨ob, off, cur, rfl, by rw [hs ob b2 (by rw [ha]; rfl)]; exact hh, r⟩
theorem QueP.keep {w w' : World} {B : Nat} {q : List Pw} {v : Value} (h : QueP w B q v) (hb : Below w.heap.size w w') : QueP w' B q v := h.same hb.size fun k hk _ => hb.block k hk
theorem pw_len (q : List Pw) : (q.flatMap Pw.cells).length = q.length * 4 := by
  induction q with
  | nil => rfl
  | cons p q ih => rw [List.flatMap_cons, List.length_append, ih]; simp [Pw.cells]; omega
theorem pw_one (q : List Pw) : ∀ u ∈ q.flatMap Pw.cells, u.oneCell' = true := by
  intro u hu
  obtain ⟨p, _, hp⟩ := List.mem_flatMap.1 hu
  simp [Pw.cells] at hp
  rcases hp with rfl | rfl | rfl | rfl <;> rfl
theorem queP_own {w : World} {B lo n : Nat} {q : List Pw} {v : Value} (hn : n = q.length) (hB : B ≤ lo) (h : w.ownsRow lo 43 4 v n (q.flatMap Pw.cells)) : QueP w B q v ∧ ∀ k, qBP v = some k → lo ≤ k := by
  subst hn
  obtain ⟨h1, ⟨rfl, h3⟩ | ⟨b, cap, cur, rfl, hb, hh, hc, hm, hs, ht⟩⟩ := h
  · exact ⟨⟨none, 0, by rw [h3], by omega, by simp [maxLen], fun _ => rfl, fun a ha => (by cases ha)⟩, fun k hk => (by cases hk)⟩
  · refine ⟨⟨some ⟨b, 0, none⟩, cap, rfl, hc, hm, fun e => (by cases e), fun a ha => ?_⟩, fun k hk => ?_⟩
    · cases ha
      refine ⟨by show B ≤ b; omega, (Array.getElem?_eq_some_iff.1 hh).1, fun _ => ⟨b, 0, cur, rfl, hh, by omega, fun i u hi => ?_⟩⟩
      have hi' : i < q.length * 4 := by have := (List.getElem?_eq_some_iff.1 hi).1; rw [pw_len] at this; exact this
      rw [← ht, List.getElem?_take, if_pos (by omega)] at hi
      rw [Nat.zero_add, ← Array.getElem?_toList]
      exact hi
    · have e : b = k := by simpa [qBP] using hk
      omega
/-- A list that got longer. -/
structure PushP (w w' : World) (B : Nat) (q l : List Pw) (v v' : Value) : Prop where
  os : w'.os = w.os
  tape : w'.tape = w.tape
  output : w'.output = w.output
  size : w.heap.size ≤ w'.heap.size
  block : ∀ k, k < w.heap.size → some k ≠ qBP v → w'.heap[k]? = w.heap[k]?
  que : QueP w' B (q ++ l) v'
  new : ∀ k, qBP v' = some k → some k = qBP v ∨ w.heap.size ≤ k
theorem pmInfo : (Try.prog.info? 43).map (fun i => (i.zero.map (fun z => z.cells.size), i.size, i.bytes)) = some (some 4, 4, 32) := by kernel_rfl
theorem pm_parts : ∃ i z, Try.prog.info? 43 = some i ∧ i.zero = some z ∧ z.cells.size = 4 ∧ i.size = 4 ∧ i.bytes = 32 := by
  have h := pmInfo
  cases hi : Try.prog.info? 43 with
  | none => rw [hi] at h; cases h
  | some i =>
    rw [hi] at h
    simp only [Option.map_some, Option.some.injEq, Prod.mk.injEq] at h
    obtain ⟨h1, h2, h3⟩ := h
    cases hz : i.zero with
    | none => rw [hz] at h1; cases h1
    | some z =>
      rw [hz] at h1
      exact ⟨i, z, rfl, hz, by simpa using h1, h2, h3⟩
theorem wpList_queP (w : World) {ops : Array Oper} {rest : List Oper} {o : Oper} {a : Act} {Q : Exit → Act → World → Prop}
    (hg : o.guard = none) (s x : Operand) (hop : o.op = Op.call { callee := Callee.builtin Builtin.append, args := #[s, x], argTypes := #[44, 44] })
    {B : Nat} {q l : List Pw} {v : Value} (hQ : QueP w B q v) (hB : B ≤ w.heap.size) (hs : a.eval s = v)
    (ad : Addr) (c : Nat) (hx : a.eval x = .slice (some ad) l.length c) (hc : ∀ j u, (l.flatMap Pw.cells)[j]? = some u → w.cell? (ad.add j) = some u) (hl0 : 0 < l.length) (hl : l.length ≤ 2) (hlen : q.length ≤ 1000000)
    (hK : ∀ v' w', PushP w w' B q l v v' → wpList Try.prog ops Q rest (a.put o.dst v') w') :
    wpList Try.prog ops Q (o :: rest) a w := by
  obtain ⟨i1, z1, hi1, hiz1, hz4, his1, hib1⟩ := pm_parts
  obtain ⟨ao, cap, rfl, h1, h2, h3, h4⟩ := hQ.ex

  by_cases hr : q.length + l.length ≤ cap
  · cases hao : ao with
    | none => have := h3 hao; omega
    | some a0 =>
      subst hao
      obtain ⟨b1, b2, b3⟩ := h4 a0 rfl
      obtain ⟨ob, off, cur, rfl, hh, hsz, hx'⟩ := b3 (by omega)
      have hin : off + q.length * 4 + l.length * 4 ≤ cur.size := by omega
      refine wpList_append_arg w hg s x 44 hop 43 i1 z1 4 32 Try.underlying44 hi1 hiz1 his1 hib1 hz4 (by decide) ob off q.length cap (q.flatMap Pw.cells) hs (pw_len q) (fun j u hj => ?_) ad l.length c (l.flatMap Pw.cells) hx (pw_len l) hc (pw_one l) (fun _ j hj => ?_) (by unfold maxLen; omega) (by omega) (fun _ => ?_) (fun hc' => absurd hr (by omega))
      · rw [cell_of_row _ _ _ _ _ _ hh]
        exact hx' j u hj
      · rw [pw_len] at hj
        have hcell : w.cell? ⟨ob, off + q.length * 4 + j, none⟩ = some (cur[off + q.length * 4 + j]'(by omega)) := by
          rw [cell_of_row _ _ _ _ _ _ hh]
          exact Array.getElem?_eq_getElem _
        rw [hcell]
        refine ⟨rfl, ?_⟩
        unfold World.frozen?
        rw [hh]
        simp
      · have hk : ∀ k, k ≠ ob → (w.setCells ob (off + q.length * 4) (l.flatMap Pw.cells)).heap[k]? = w.heap[k]? := fun k hk => rw_heap_setCells ob _ _ w k hk
        have hz := rw_size_setCells ob (l.flatMap Pw.cells) (off + q.length * 4) w
        have hb0 := rw_below_setCells (B := 0) (b := ob) (Nat.zero_le _) (l.flatMap Pw.cells) (off + q.length * 4) w (Below.refl _ _)
        refine hK _ _ ⟨hb0.os, hb0.tape, hb0.output, by omega, fun k _ h => hk k (fun e => h (by rw [e]; rfl)), ⟨some ⟨ob, off, none⟩, cap, by simp, by simp; omega, h2, (fun e => by cases e), fun a ha => ?_⟩, fun k hk => Or.inl hk.symm⟩
        cases ha
        refine ⟨b1, by rw [hz]; exact b2, fun _ => ⟨ob, off, setArr cur (off + q.length * 4) (l.flatMap Pw.cells), rfl, block_setCells ob _ _ _ w cur hh, by rw [setArr_size]; exact hsz, fun i u hi => ?_⟩⟩
        rw [List.flatMap_append] at hi
        by_cases e : i < q.length * 4
        · rw [List.getElem?_append_left (by rw [pw_len]; exact e)] at hi
          rw [setArr_low _ _ _ _ (by omega)]
          exact hx' i u hi
        · rw [List.getElem?_append_right (by rw [pw_len]; omega), pw_len] at hi
          have := setArr_at (l.flatMap Pw.cells) (off + q.length * 4) cur (i - q.length * 4) u (by rw [pw_len]; omega) hi
          rw [show off + i = off + q.length * 4 + (i - q.length * 4) by omega]
          exact this
  · have hn : ao = none → q.length = 0 ∧ cap = 0 := fun e => by have := h3 e; omega
    refine wpList_append_grows w hg s x 44 hop 43 i1 z1 4 32 Try.underlying44 hi1 hiz1 his1 hib1 hz4 (by decide) ao q.length cap (q.flatMap Pw.cells) hs hn (pw_len q) (fun a0 ha j u hj => ?_) ad l.length c (l.flatMap Pw.cells) hx (pw_len l) hc (pw_one l) (by omega) (by unfold maxLen; omega) (by omega) ?_
    · obtain ⟨_, _, b3⟩ := h4 a0 ha
      have hj' : j < q.length * 4 := by have := (List.getElem?_eq_some_iff.1 hj).1; rw [pw_len] at this; exact this
      obtain ⟨ob, off, cur, rfl, hh, hsz, hx'⟩ := b3 (by omega)
      rw [Addr.add_lit, cell_of_row _ _ _ _ _ _ hh]
      exact hx' j u hj
    · intro v' w' hO hG
      have hO' : w'.ownsRow w.heap.size 43 4 v' (q ++ l).length ((q ++ l).flatMap Pw.cells) := by rw [List.flatMap_append, List.length_append]; exact hO
      obtain ⟨hq', hn'⟩ := queP_own rfl hB hO'
      exact hK v' w' ⟨hG.os, hG.tape, hG.output, hG.size, fun k hk _ => hG.block k hk (by simp), hq', fun k hk => Or.inr (hn' k hk)⟩
theorem QueP.first {w : World} {B : Nat} {p : Pw} {q : List Pw} {v : Value} (h : QueP w B (p :: q) v) : ∃ ob off cap, v = .slice (some ⟨ob, off, none⟩) (q.length + 1) cap ∧ q.length + 1 ≤ cap ∧ ob < w.heap.size ∧ ((w.cell? ⟨ob, off, none⟩ = some (.int .i64 p.x.tag) ∧ w.cell? ⟨ob, off + 1, none⟩ = some (.int .i64 p.x.num)) ∧ (w.cell? ⟨ob, off + 2, none⟩ = some (.int .i64 p.y.tag) ∧ w.cell? ⟨ob, off + 3, none⟩ = some (.int .i64 p.y.num))) ∧
    ∀ ao', (0 < cap - 1 → ao' = some ⟨ob, off + 4, none⟩) → (∃ o s, ao' = some ⟨ob, o, s⟩) → QueP w B q (.slice ao' q.length (cap - 1)) := by
  obtain ⟨ao, cap, rfl, h1, h2, h3, h4⟩ := h.ex
  simp only [List.length_cons] at h1
  cases hao : ao with
  | none => have := h3 hao; omega
  | some a0 =>
    obtain ⟨b1, b2, b3⟩ := h4 a0 hao
    obtain ⟨ob, off, cur, rfl, hh, hsz, hx⟩ := b3 (by omega)
    refine ⟨ob, off, cap, rfl, h1, b2, ⟨⟨?_, ?_⟩, ⟨?_, ?_⟩⟩, fun ao' h5 h6 => ⟨ao', cap - 1, rfl, by omega, by omega, fun e => ?_, fun a ha => ?_⟩⟩
    · rw [cell_of_row _ _ _ _ _ _ hh]
      exact hx 0 (.int .i64 p.x.tag) rfl
    · rw [cell_of_row _ _ _ _ _ _ hh]
      exact hx 1 (.int .i64 p.x.num) rfl
    · rw [cell_of_row _ _ _ _ _ _ hh]
      exact hx 2 (.int .i64 p.y.tag) rfl
    · rw [cell_of_row _ _ _ _ _ _ hh]
      exact hx 3 (.int .i64 p.y.num) rfl
    · obtain ⟨o, s, e'⟩ := h6
      rw [e'] at e
      cases e
    · obtain ⟨o, s, e'⟩ := h6
      rw [e'] at ha
      cases ha
      refine ⟨b1, b2, fun hc => ?_⟩
      have h7 := h5 hc
      rw [e'] at h7
      cases h7
      refine ⟨ob, off + 4, cur, rfl, hh, by omega, fun i u hi => ?_⟩
      rw [show off + 4 + i = off + (i + 4) by omega]
      exact hx (i + 4) u (by rw [List.flatMap_cons]; simpa [Pw.cells] using hi)
theorem run_pm_none (ty : TypeId) (v : Value) (w : World) (hv : (∃ ad n cap, v = .slice (some ad) n cap ∧ n ≤ cap) ∨ v = .slice none 0 0) :
    (Builtin.append_ #[44, 44] ty #[v, .slice none 0 0]).run Try.prog w = .ok v w := by
  obtain ⟨i1, z1, hi, hz, hz4, hs1, hb1⟩ := pm_parts
  rcases hv with ⟨ad, n, cap, rfl, hn⟩ | rfl
  · simp [Builtin.append_, run_underlying Try.underlying44, sizeOf, typeInfo, hi, Builtin.lenOf, Builtin.firstCells, loadCells, hn, storeCells]
  · simp [Builtin.append_, run_underlying Try.underlying44, sizeOf, typeInfo, hi, Builtin.lenOf, Builtin.firstCells]
theorem QueP.plain {w : World} {B : Nat} {q : List Pw} {v : Value} (h : QueP w B q v) : (∃ ad n cap, v = .slice (some ad) n cap ∧ n ≤ cap) ∨ v = .slice none 0 0 := by
  obtain ⟨ao, cap, rfl, h1, h2, h3, h4⟩ := h.ex
  cases ao with
  | none => have := h3 rfl; subst this; exact Or.inr (by rw [show q.length = 0 by omega])
  | some a => exact Or.inl ⟨a, _, _, rfl, h1⟩
theorem wpList_queP_none (w : World) {ops : Array Oper} {rest : List Oper} {o : Oper} {a : Act} {Q : Exit → Act → World → Prop}
    (hg : o.guard = none) (s x : Operand) (hop : o.op = Op.call { callee := Callee.builtin Builtin.append, args := #[s, x], argTypes := #[44, 44] })
    {B : Nat} {q : List Pw} {v : Value} (hQ : QueP w B q v) (hs : a.eval s = v) (hx : a.eval x = .slice none 0 0)
    (hK : wpList Try.prog ops Q rest (a.put o.dst v) w) :
    wpList Try.prog ops Q (o :: rest) a w := by
  have hrun := run_pm_none o.type v w hQ.plain
  refine wpList_plain hg fun K hK' => ?_
  unfold Oper.wp
  simp [execOp, hop, resolve, invoke, builtin, hs, hx, hrun, Result.andThen]
  exact hK' _ _ hK
end Go.Proofs.Ytpocmljbfcenfaa
