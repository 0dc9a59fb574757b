/-
  The law's own toExpr, toExprS: a copy in new memory.
-/
import Derived.Test.YtdghblpaccaaiaaDoorRows
import Derived.Test.YtdghblpaccaaiaaDoorExLies
import Derived.Test.YtdghblpaccaaiaaDoorExSz
import Derived.WalkKit
import Derived.WalkSpells
import Derived.WalkLawsBesides
namespace Go.Proofs.YtdghblpaccaaiaaDoor
open Go.RowKit

theorem heap_setCells (b : Nat) : ∀ (vs : List Value) (o : Nat) (w : World) (k : Nat), k ≠ b → (w.setCells b o vs).heap[k]? = w.heap[k]?
  | [], _, _, _, _ => rfl
  | v :: r, o, w, k, h => by
    rw [World.setCells, heap_setCells b r (o + 1) _ k h]
    exact Below.heap_setCell _ _ _ _ h
theorem size_setCells (b : Nat) : ∀ (vs : List Value) (o : Nat) (w : World), (w.setCells b o vs).heap.size = w.heap.size
  | [], _, _ => rfl
  | v :: r, o, w => by
    rw [World.setCells, size_setCells b r (o + 1)]
    simp [World.setCell]
theorem Below.setCells {B b : Nat} {a : World} (hB : B ≤ b) : ∀ (vs : List Value) (o : Nat) (w : World), Below B a w → Below B a (w.setCells b o vs)
  | [], _, _, h => h
  | v :: r, o, w, h => by
    rw [World.setCells]
    exact Below.setCells hB r (o + 1) _ (h.setCell (p := ⟨b, o, none⟩) hB v)

theorem there_made (w : World) (z : Array Value) (n : Nat) (t : TypeId) : (w.alloc (.cells (madeCells z n) t)).there w.heap.size 0 n := fun j hj => by
  have hb : (w.alloc (.cells (madeCells z n) t)).heap[w.heap.size]? = some (.cells (madeCells z n) t) := heap_alloc_new _ _
  refine ⟨?_, ?_⟩
  · rw [cell_of_row _ _ _ _ _ _ hb]; simp [size_madeCells, hj]
  · unfold World.frozen?
    rw [hb]
    simp
theorem there_part {w : World} {b o n : Nat} (h : w.there b 0 n) (hn : o + 5 ≤ n) : w.there b o 5 := fun j hj => by
  have := h (o + j) (by omega)
  simpa using this

theorem there_same {w w' : World} {b o n : Nat} (hs : w'.heap[b]? = w.heap[b]?) (h : w.there b o n) : w'.there b o n := fun j hj => by
  obtain ⟨h1, h2⟩ := h j hj
  exact ⟨by rw [World.cell?_of_block (w := w) hs]; exact h1, by rw [World.frozen?_of_block (w := w) hs]; exact h2⟩
theorem one_cells {w : World} {S : Nat → Prop} (e : Ex) {s : Value} (h : Lies w S e.kids s) : (#[Value.int .i64 e.kind, .string e.name, .string e.tail, .int .i64 e.num, s] : Array Value).all (·.oneCell') = true := by
  obtain ⟨a, cap, rfl⟩ := h.slice
  simp [Value.oneCell']

/-- The first of es are copied: they lie in block nb, their parts behind it. -/
def Done (w : World) (nb : Nat) (es : List Ex) (ss : List Value) : Prop :=
  ∀ (i : Nat) (e : Ex) (s : Value), es[i]? = some e → ss[i]? = some s → w.rangeAt nb (0 + i * 5) (e.cells s) ∧ Lies w (fun b => nb < b ∧ b < w.heap.size) e.kids s

theorem Done.next {wr w2 : World} {nb : Nat} {es : List Ex} {ss : List Value} {s : Value} {k : Nat} (hd : Done wr nb es ss) (hk : ss.length = k) (hlt : k < es.length) (hnb : nb < wr.heap.size) (hb : Below wr.heap.size wr w2)
    (hth : w2.there nb (k * 5) 5) (hs : Lies w2 (fun b => wr.heap.size ≤ b ∧ b < w2.heap.size) es[k].kids s) : Done (w2.setCells nb (k * 5) (es[k].cells s)) nb es (ss ++ [s]) := by
  intro i e s' hi hs'
  by_cases h : i < k
  · rw [List.getElem?_append_left (by omega)] at hs'
    obtain ⟨h1, h2⟩ := hd i e s' hi hs'
    refine ⟨World.rangeAt_setCells_apart (rangeAt_same (hb.block nb hnb) h1) _ _ _ (Or.inr (Or.inl ?_)), h2.same fun b ⟨hb1, hb2⟩ => ⟨?_, hb1, ?_⟩⟩
    · simp [Ex.cells]; omega
    · rw [heap_setCells _ _ _ _ _ (by omega)]; exact hb.block b hb2
    · rw [size_setCells]; have := hb.size; omega
  · have hik : i = k := by
      have := (List.getElem?_eq_some_iff.1 hs').1
      simp at this; omega
    subst hik
    rw [List.getElem?_append_right (by omega)] at hs'
    simp [hk] at hs'
    subst hs'
    rw [List.getElem?_eq_getElem hlt] at hi
    cases hi
    refine ⟨?_, hs.same fun b ⟨hb1, hb2⟩ => ⟨?_, ?_, ?_⟩⟩
    · have := World.rangeAt_setCells_same w2 nb (i * 5) (es[i].cells s) hth
      simpa using this
    · exact heap_setCells _ _ _ _ _ (by omega)
    · omega
    · rw [size_setCells]; exact hb2

theorem Done.all {w : World} {nb : Nat} {es : List Ex} {ss : List Value} (hd : Done w nb es ss) (hl : ss.length = es.length) (hnb : nb < w.heap.size) (cap : Nat) : Lies w (fun b => nb ≤ b ∧ b < w.heap.size) es (.slice (some ⟨nb, 0, none⟩) es.length cap) :=
  .some nb 0 cap es ss ⟨Nat.le_refl _, hnb⟩ hl (fun i e s h1 h2 => (hd i e s h1 h2).1) fun i e s h1 h2 => (hd i e s h1 h2).2.same fun _ ⟨hb1, hb2⟩ => ⟨rfl, by omega, hb2⟩

/-- What toExpr does with one expression. -/
def ToOf (e : Ex) : Prop := ∀ (w : World) (s : Value), Lies w (· < w.heap.size) e.kids s →
  Calls Tryd.prog 6 #[e.val s] w fun r w' => ∃ s', r = .returned (e.val s') ∧ Lies w' (fun b => w.heap.size ≤ b ∧ b < w'.heap.size) e.kids s' ∧ Below w.heap.size w w'

theorem make_exprs (n : Nat) (hn : n ≤ 1048576) (w : World) : (Instr.makeSlice 27 (.int .i64 (n : Int)) (.int .i64 (n : Int))).run Tryd.prog w =
    .ok (.slice (some ⟨w.heap.size, 0, none⟩) n n) (w.alloc (.cells (madeCells #[.int .i64 0, .string ⟨#[]⟩, .string ⟨#[]⟩, .int .i64 0, .slice none 0 0] (n * 5)) 29)) := by
  have hinfo : (Tryd.prog.info? 29).map (fun i => (i.zero, i.size, i.bytes)) = some (some (.agg #[.int .i64 0, .string ⟨#[]⟩, .string ⟨#[]⟩, .int .i64 0, .slice none 0 0]), 5, 72) := by kernel_rfl
  obtain ⟨i, hi, hz⟩ := Option.map_eq_some_iff.1 hinfo
  simp only [Prod.mk.injEq] at hz
  obtain ⟨hz, hs, hb⟩ := hz
  have hr := run_make (P := Tryd.prog) w 27 29 i _ Tryd.underlying27 hi hz .i64 .i64 n n (by omega) (Int.le_refl _) (by rw [hb]; omega) (by omega)
  simpa [hs, Value.cells] using hr

theorem exprSize : (Tryd.prog.info? 29).map (·.size) = some 5 := by kernel_rfl

/-- One round's end: one part more is copied. -/
theorem toS_step {w wr w2 : World} {es : List Ex} {ss : List Value} {s' : Value} {k : Nat} (hdone : Done wr w.heap.size es ss) (hss : Hid (ss.length = k)) (hlt : k < es.length) (hnb : w.heap.size < wr.heap.size) (hb2 : Below wr.heap.size wr w2)
    (hp : w2.there w.heap.size (k * 5) 5) (hth : wr.there w.heap.size 0 (es.length * 5)) (hl2 : Lies w2 (fun b => wr.heap.size ≤ b ∧ b < w2.heap.size) es[k].kids s') (hb : Below w.heap.size w wr) :
    ∃ (k' : Nat) (ss' : List Value), k' ≤ es.length ∧ Value.int .i64 ((k : Int) + 1) = .int .i64 k' ∧ Hid (ss'.length = k') ∧
      Done (w2.setCells w.heap.size (k * 5) [.int .i64 es[k].kind, .string es[k].name, .string es[k].tail, .int .i64 es[k].num, s']) w.heap.size es ss' ∧
      (w2.setCells w.heap.size (k * 5) [.int .i64 es[k].kind, .string es[k].name, .string es[k].tail, .int .i64 es[k].num, s']).there w.heap.size 0 (es.length * 5) ∧
      w.heap.size < (w2.setCells w.heap.size (k * 5) [.int .i64 es[k].kind, .string es[k].name, .string es[k].tail, .int .i64 es[k].num, s']).heap.size ∧
      Below w.heap.size w (w2.setCells w.heap.size (k * 5) [.int .i64 es[k].kind, .string es[k].name, .string es[k].tail, .int .i64 es[k].num, s']) := by
  refine ⟨k + 1, ss ++ [s'], by omega, by simp, ?_, Done.next hdone hss.out hlt hnb hb2 hp hl2, World.there_setCells (there_same (hb2.block _ hnb) hth) _ _ _, ?_, Below.setCells (Nat.le_refl _) _ _ _ (hb.trans (hb2.mono hb.size))⟩
  · have := hss.out
    show (ss ++ [s']).length = k + 1
    simp; omega
  · rw [size_setCells]; have := hb2.size; omega

set_option maxHeartbeats 400000 in
theorem toS (es : List Ex) (hlen : es.length ≤ 1048576) (ih : ∀ e ∈ es, ToOf e) (w : World) (v : Value) (hv : Lies w (· < w.heap.size) es v) :
    Calls Tryd.prog 12 #[v] w fun r w' => ∃ v', r = .returned v' ∧ Lies w' (fun b => w.heap.size ≤ b ∧ b < w'.heap.size) es v' ∧ Below w.heap.size w w' := by
  obtain ⟨a, cap, rfl⟩ := hv.slice
  have hmk := make_exprs es.length hlen
  go_enter Tryd.func12, Tryd.ntmps12
  go_wp2_with fail
  go_loopw [4] (fun i wr => ∃ (k : Nat) (ss : List Value), k ≤ es.length ∧ i = .int .i64 k ∧ Hid (ss.length = k) ∧ Done wr w.heap.size es ss ∧ wr.there w.heap.size 0 (es.length * 5) ∧ w.heap.size < wr.heap.size ∧ Below w.heap.size w wr) (fun i _ => es.length - (intOf i).toNat)
  case atStart => exact ⟨0, [], by omega, rfl, rfl, fun i e s _ h => by simp at h, there_made _ _ _ _, by simp, (Below.refl _ _).alloc (Nat.le_refl _) _⟩
  case round =>
    obtain ⟨k, ss, hk, rfl, hss, hdone, hth, hnb, hb⟩ := hrel
    by_cases hlt : k < es.length
    · obtain ⟨b, off, cap', s, hS, hsl, hr, hl⟩ := hv.at (List.getElem?_eq_getElem hlt)
      obtain ⟨rfl, rfl⟩ : a = some ⟨b, off, none⟩ ∧ cap = cap' := by simpa using hsl
      obtain ⟨c0, c1, c2, c3, c4⟩ := Ex.five (rangeAt_same (hb.block b hS) hr)
      have hl' := (hl.keep hb hb.size)
      clear hr hl hsl
      have HT : ∀ w2, Below wr.heap.size wr w2 → w2.there w.heap.size (k * 5) 5 := fun w2 hb2 => there_part (there_same (hb2.block _ hnb) hth) (by omega)
      go_wp2_with (first | (go_at_call 6; refine (ih es[k] (List.getElem_mem hlt) _ _ hl').mono ?_; rintro e w2 ⟨s', rfl, hl2, hb2⟩) | (refine wpList_store_mid rfl 29 _ _ rfl w.heap.size (k * 5) #[.int .i64 es[k].kind, .string es[k].name, .string es[k].tail, .int .i64 es[k].num, s'] ?hx ?hy ?ht ?hi ?h1 ?_))
      case hx => rfl
      case hy => rfl
      case ht => exact HT w2 hb2
      case hi => exact exprSize
      case h1 => exact one_cells es[k] hl2
      go_roundw
      case rel => exact toS_step hdone hss hlt hnb hb2 (HT w2 hb2) hth hl2 hb
      case measure => simp [intOf]; omega
    · go_wp2_with fail
      go_ret
      exact ⟨_, rfl, hdone.all (by have := hss.out; omega) hnb _, hb⟩

theorem lies_set {w : World} {S : Nat → Prop} {es : List Ex} {v : Value} {p : Addr} {u : Value} (h : Lies w S es v) (hp : ¬ S p.block) : Lies (w.setCell p u) S es v :=
  h.same fun _ hb => ⟨Below.heap_setCell _ _ _ _ (fun e => hp (e ▸ hb)), hb⟩

set_option maxHeartbeats 400000 in
theorem to (e : Ex) : e.Wee → ToOf e := by
  induction e using Ex.ind with
  | h e ih =>
    intro hf w s hv
    obtain ⟨_, hk, hx⟩ := hf
    have ihS := toS e.kids hk (fun x hx' => ih x hx' (hx x hx'))
    have hv' : ∀ o1 o2 o3, Lies (((w.alloc o1).alloc o2).alloc o3) (· < (((w.alloc o1).alloc o2).alloc o3).heap.size) e.kids s := fun o1 o2 o3 => hv.keep ((((Below.refl _ _).alloc (Nat.le_refl _) o1).alloc (by simp) o2).alloc (by simp; omega) o3) (by simp; omega)
    go_enter Tryd.func6, Tryd.ntmps6
    go_wp2_with (go_at_call 12; refine (ihS _ _ (hv' _ _ _)).mono ?_; rintro r w2 ⟨s', rfl, hl2, hb2⟩; obtain ⟨a', cap', rfl⟩ := hl2.slice; obtain ⟨hc, hf⟩ := bcell hb2; have hz := hb2.size; simp at hz)
    refine bodyPost_ret (v := e.val (.slice a' e.kids.length cap')) (by simp [results, Tryd.results6, go_sem, hc]) rfl ⟨_, rfl, ?_, ?_⟩
    · refine Lies.same (S := fun b => w.heap.size + 1 + 1 + 1 ≤ b ∧ b < w2.heap.size) ?_ (fun b hb => ⟨rfl, by omega, by simp [World.setCell]; omega⟩)
      have hl3 : Lies w2 (fun b => w.heap.size + 1 + 1 + 1 ≤ b ∧ b < w2.heap.size) e.kids (.slice a' e.kids.length cap') := by simpa using hl2
      clear hc hf hb2 ihS hv' hl2
      repeat (refine lies_set ?_ (fun h => by have h1 := h.1; dsimp only at h1; omega))
      exact hl3
    · have hb3 : Below w.heap.size w w2 := ((((Below.refl _ _).alloc (Nat.le_refl _) _).alloc (by simp) _).alloc (by simp; omega) _).trans (hb2.mono (by simp; omega))
      clear hc hf hb2 ihS hv' hl2
      repeat (refine Below.setCell ?_ (by dsimp only; omega) _)
      exact hb3
end Go.Proofs.YtdghblpaccaaiaaDoor
