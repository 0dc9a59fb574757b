/-
  The law's own toExpr: what it makes has room for all of its parts.
-/
import Derived.Test.YtdghblpaccaaiaaDoorExTo
namespace Go.Proofs.YtdghblpaccaaiaaDoor
open Go.RowKit

/-- As Lies; and each row has room for what lies in it. -/
inductive Tight (w : World) (S : Nat → Prop) : List Ex → Value → Prop
  | some (b off cap : Nat) (es : List Ex) (ss : List Value) (hb : S b) (hcap : es.length ≤ cap) (hl : ss.length = es.length)
      (hc : ∀ (i : Nat) (e : Ex) (s : Value), es[i]? = Option.some e → ss[i]? = Option.some s → w.rangeAt b (off + i * 5) (e.cells s))
      (hk : ∀ (i : Nat) (e : Ex) (s : Value), es[i]? = Option.some e → ss[i]? = Option.some s → Tight w S e.kids s) :
      Tight w S es (.slice (Option.some ⟨b, off, Option.none⟩) es.length cap)
theorem Tight.lies {w : World} {S : Nat → Prop} {es : List Ex} {v : Value} (h : Tight w S es v) : Lies w S es v := by
  induction h with
  | some b off cap es ss hb hcap hl hc hk ih => exact Lies.some b off cap es ss hb hl hc ih
theorem Tight.same {w w' : World} {S S' : Nat → Prop} {es : List Ex} {v : Value} (h : Tight w S es v) (hs : ∀ b, S b → w'.heap[b]? = w.heap[b]? ∧ S' b) : Tight w' S' es v := by
  induction h with
  | some b off cap es ss hb hcap hl hc hk ih => exact Tight.some b off cap es ss (hs b hb).2 hcap hl (fun i e s h1 h2 => rangeAt_same (hs b hb).1 (hc i e s h1 h2)) ih
theorem Tight.keep {w w' : World} {B B' : Nat} {es : List Ex} {v : Value} (h : Tight w (· < B) es v) (hb : Below B w w') (hB : B ≤ B') : Tight w' (· < B') es v :=
  h.same fun b hlt => ⟨hb.block b hlt, Nat.lt_of_lt_of_le hlt hB⟩
theorem Tight.slice {w : World} {S : Nat → Prop} {es : List Ex} {v : Value} (h : Tight w S es v) : ∃ b off cap, v = .slice (Option.some ⟨b, off, Option.none⟩) es.length cap ∧ S b ∧ es.length ≤ cap := by
  cases h with
  | some b off cap es ss hb hcap _ _ _ => exact ⟨b, off, cap, rfl, hb, hcap⟩
theorem Tight.at {w : World} {S : Nat → Prop} {es : List Ex} {v : Value} (h : Tight w S es v) {i : Nat} {e : Ex} (hi : es[i]? = Option.some e) :
    ∃ b off cap s, S b ∧ v = .slice (Option.some ⟨b, off, Option.none⟩) es.length cap ∧ w.rangeAt b (off + i * 5) (e.cells s) ∧ Tight w S e.kids s := by
  cases h with
  | some b off cap es ss hb hcap hl hc hk =>
    obtain ⟨hlt, _⟩ := List.getElem?_eq_some_iff.1 hi
    have h2 : ss[i]? = Option.some ss[i] := List.getElem?_eq_getElem (by omega)
    exact ⟨b, off, cap, ss[i], hb, rfl, hc i e _ hi h2, hk i e _ hi h2⟩
theorem tight_lt {w : World} {N : Nat} {es : List Ex} {v : Value} (h : Tight w (fun b => N ≤ b ∧ b < w.heap.size) es v) : Tight w (· < w.heap.size) es v :=
  h.same fun _ hb => ⟨rfl, hb.2⟩

/-- The first of es are copied: they lie in block nb, their parts behind it. -/
def DoneT (w : World) (nb : Nat) (es : List Ex) (ss : List Value) : Prop :=
  ∀ (i : Nat) (e : Ex) (s : Value), es[i]? = some e → ss[i]? = some s → w.rangeAt nb (0 + i * 5) (e.cells s) ∧ Tight w (fun b => nb < b ∧ b < w.heap.size) e.kids s

theorem DoneT.next {wr w2 : World} {nb : Nat} {es : List Ex} {ss : List Value} {s : Value} {k : Nat} (hd : DoneT wr nb es ss) (hk : ss.length = k) (hlt : k < es.length) (hnb : nb < wr.heap.size) (hb : Below wr.heap.size wr w2)
    (hth : w2.there nb (k * 5) 5) (hs : Tight w2 (fun b => wr.heap.size ≤ b ∧ b < w2.heap.size) es[k].kids s) : DoneT (w2.setCells nb (k * 5) (es[k].cells s)) nb es (ss ++ [s]) := by
  intro i e s' hi hs'
  by_cases h : i < k
  · rw [List.getElem?_append_left (by omega)] at hs'
    obtain ⟨h1, h2⟩ := hd i e s' hi hs'
    refine ⟨World.rangeAt_setCells_apart (rangeAt_same (hb.block nb hnb) h1) _ _ _ (Or.inr (Or.inl ?_)), h2.same fun b ⟨hb1, hb2⟩ => ⟨?_, hb1, ?_⟩⟩
    · simp [Ex.cells]; omega
    · rw [heap_setCells _ _ _ _ _ (by omega)]; exact hb.block b hb2
    · rw [size_setCells]; have := hb.size; omega
  · have hik : i = k := by
      have := (List.getElem?_eq_some_iff.1 hs').1
      simp at this; omega
    subst hik
    rw [List.getElem?_append_right (by omega)] at hs'
    simp [hk] at hs'
    subst hs'
    rw [List.getElem?_eq_getElem hlt] at hi
    cases hi
    refine ⟨?_, hs.same fun b ⟨hb1, hb2⟩ => ⟨?_, ?_, ?_⟩⟩
    · have := World.rangeAt_setCells_same w2 nb (i * 5) (es[i].cells s) hth
      simpa using this
    · exact heap_setCells _ _ _ _ _ (by omega)
    · omega
    · rw [size_setCells]; exact hb2

theorem DoneT.all {w : World} {nb : Nat} {es : List Ex} {ss : List Value} (hd : DoneT w nb es ss) (hl : ss.length = es.length) (hnb : nb < w.heap.size) : Tight w (fun b => nb ≤ b ∧ b < w.heap.size) es (.slice (some ⟨nb, 0, none⟩) es.length es.length) :=
  .some nb 0 es.length es ss ⟨Nat.le_refl _, hnb⟩ (Nat.le_refl _) hl (fun i e s h1 h2 => (hd i e s h1 h2).1) fun i e s h1 h2 => (hd i e s h1 h2).2.same fun _ ⟨hb1, hb2⟩ => ⟨rfl, by omega, hb2⟩

/-- What toExpr does with one expression. -/
def TiOf (e : Ex) : Prop := ∀ (w : World) (s : Value), Lies w (· < w.heap.size) e.kids s →
  Calls Tryd.prog 6 #[e.val s] w fun r w' => ∃ s', r = .returned (e.val s') ∧ Tight w' (fun b => w.heap.size ≤ b ∧ b < w'.heap.size) e.kids s' ∧ Below w.heap.size w w'

/-- One round's end: one part more is copied. -/
theorem tiS_step {w wr w2 : World} {es : List Ex} {ss : List Value} {s' : Value} {k : Nat} (hdone : DoneT wr w.heap.size es ss) (hss : Hid (ss.length = k)) (hlt : k < es.length) (hnb : w.heap.size < wr.heap.size) (hb2 : Below wr.heap.size wr w2)
    (hp : w2.there w.heap.size (k * 5) 5) (hth : wr.there w.heap.size 0 (es.length * 5)) (hl2 : Tight w2 (fun b => wr.heap.size ≤ b ∧ b < w2.heap.size) es[k].kids s') (hb : Below w.heap.size w wr) :
    ∃ (k' : Nat) (ss' : List Value), k' ≤ es.length ∧ Value.int .i64 ((k : Int) + 1) = .int .i64 k' ∧ Hid (ss'.length = k') ∧
      DoneT (w2.setCells w.heap.size (k * 5) [.int .i64 es[k].kind, .string es[k].name, .string es[k].tail, .int .i64 es[k].num, s']) w.heap.size es ss' ∧
      (w2.setCells w.heap.size (k * 5) [.int .i64 es[k].kind, .string es[k].name, .string es[k].tail, .int .i64 es[k].num, s']).there w.heap.size 0 (es.length * 5) ∧
      w.heap.size < (w2.setCells w.heap.size (k * 5) [.int .i64 es[k].kind, .string es[k].name, .string es[k].tail, .int .i64 es[k].num, s']).heap.size ∧
      Below w.heap.size w (w2.setCells w.heap.size (k * 5) [.int .i64 es[k].kind, .string es[k].name, .string es[k].tail, .int .i64 es[k].num, s']) := by
  refine ⟨k + 1, ss ++ [s'], by omega, by simp, ?_, DoneT.next hdone hss.out hlt hnb hb2 hp hl2, World.there_setCells (there_same (hb2.block _ hnb) hth) _ _ _, ?_, Below.setCells (Nat.le_refl _) _ _ _ (hb.trans (hb2.mono hb.size))⟩
  · have := hss.out
    show (ss ++ [s']).length = k + 1
    simp; omega
  · rw [size_setCells]; have := hb2.size; omega

set_option maxHeartbeats 400000 in
theorem tiS (es : List Ex) (hlen : es.length ≤ 1048576) (ih : ∀ e ∈ es, TiOf e) (w : World) (v : Value) (hv : Lies w (· < w.heap.size) es v) :
    Calls Tryd.prog 12 #[v] w fun r w' => ∃ v', r = .returned v' ∧ Tight w' (fun b => w.heap.size ≤ b ∧ b < w'.heap.size) es v' ∧ Below w.heap.size w w' := by
  obtain ⟨a, cap, rfl⟩ := hv.slice
  have hmk := make_exprs es.length hlen
  go_enter Tryd.func12, Tryd.ntmps12
  go_wp2_with fail
  go_loopw [4] (fun i wr => ∃ (k : Nat) (ss : List Value), k ≤ es.length ∧ i = .int .i64 k ∧ Hid (ss.length = k) ∧ DoneT wr w.heap.size es ss ∧ wr.there w.heap.size 0 (es.length * 5) ∧ w.heap.size < wr.heap.size ∧ Below w.heap.size w wr) (fun i _ => es.length - (intOf i).toNat)
  case atStart => exact ⟨0, [], by omega, rfl, rfl, fun i e s _ h => by simp at h, there_made _ _ _ _, by simp, (Below.refl _ _).alloc (Nat.le_refl _) _⟩
  case round =>
    obtain ⟨k, ss, hk, rfl, hss, hdone, hth, hnb, hb⟩ := hrel
    by_cases hlt : k < es.length
    · obtain ⟨b, off, cap', s, hS, hsl, hr, hl⟩ := hv.at (List.getElem?_eq_getElem hlt)
      obtain ⟨rfl, rfl⟩ : a = some ⟨b, off, none⟩ ∧ cap = cap' := by simpa using hsl
      obtain ⟨c0, c1, c2, c3, c4⟩ := Ex.five (rangeAt_same (hb.block b hS) hr)
      have hl' := (hl.keep hb hb.size)
      clear hr hl hsl
      have HT : ∀ w2, Below wr.heap.size wr w2 → w2.there w.heap.size (k * 5) 5 := fun w2 hb2 => there_part (there_same (hb2.block _ hnb) hth) (by omega)
      go_wp2_with (first | (go_at_call 6; refine (ih es[k] (List.getElem_mem hlt) _ _ hl').mono ?_; rintro e w2 ⟨s', rfl, hl2, hb2⟩) | (refine wpList_store_mid rfl 29 _ _ rfl w.heap.size (k * 5) #[.int .i64 es[k].kind, .string es[k].name, .string es[k].tail, .int .i64 es[k].num, s'] ?hx ?hy ?ht ?hi ?h1 ?_))
      case hx => rfl
      case hy => rfl
      case ht => exact HT w2 hb2
      case hi => exact exprSize
      case h1 => exact one_cells es[k] hl2.lies
      go_roundw
      case rel => exact tiS_step hdone hss hlt hnb hb2 (HT w2 hb2) hth hl2 hb
      case measure => simp [intOf]; omega
    · go_wp2_with fail
      go_ret
      exact ⟨_, rfl, hdone.all (by have := hss.out; omega) hnb, hb⟩

theorem tight_set {w : World} {S : Nat → Prop} {es : List Ex} {v : Value} {p : Addr} {u : Value} (h : Tight w S es v) (hp : ¬ S p.block) : Tight (w.setCell p u) S es v :=
  h.same fun _ hb => ⟨Below.heap_setCell _ _ _ _ (fun e => hp (e ▸ hb)), hb⟩

set_option maxHeartbeats 400000 in
theorem ti (e : Ex) : e.Wee → TiOf e := by
  induction e using Ex.ind with
  | h e ih =>
    intro hf w s hv
    obtain ⟨_, hk, hx⟩ := hf
    have ihS := tiS e.kids hk (fun x hx' => ih x hx' (hx x hx'))
    have hv' : ∀ o1 o2 o3, Lies (((w.alloc o1).alloc o2).alloc o3) (· < (((w.alloc o1).alloc o2).alloc o3).heap.size) e.kids s := fun o1 o2 o3 => hv.keep ((((Below.refl _ _).alloc (Nat.le_refl _) o1).alloc (by simp) o2).alloc (by simp; omega) o3) (by simp; omega)
    go_enter Tryd.func6, Tryd.ntmps6
    go_wp2_with (go_at_call 12; refine (ihS _ _ (hv' _ _ _)).mono ?_; rintro r w2 ⟨s', rfl, hl2, hb2⟩; obtain ⟨a', cap', rfl⟩ := hl2.lies.slice; obtain ⟨hc, hf⟩ := bcell hb2; have hz := hb2.size; simp at hz)
    refine bodyPost_ret (v := e.val (.slice a' e.kids.length cap')) (by simp [results, Tryd.results6, go_sem, hc]) rfl ⟨_, rfl, ?_, ?_⟩
    · refine Tight.same (S := fun b => w.heap.size + 1 + 1 + 1 ≤ b ∧ b < w2.heap.size) ?_ (fun b hb => ⟨rfl, by omega, by simp [World.setCell]; omega⟩)
      have hl3 : Tight w2 (fun b => w.heap.size + 1 + 1 + 1 ≤ b ∧ b < w2.heap.size) e.kids (.slice a' e.kids.length cap') := by simpa using hl2
      clear hc hf hb2 ihS hv' hl2
      repeat (refine tight_set ?_ (fun h => by have h1 := h.1; dsimp only at h1; omega))
      exact hl3
    · have hb3 : Below w.heap.size w w2 := ((((Below.refl _ _).alloc (Nat.le_refl _) _).alloc (by simp) _).alloc (by simp; omega) _).trans (hb2.mono (by simp; omega))
      clear hc hf hb2 ihS hv' hl2
      repeat (refine Below.setCell ?_ (by dsimp only; omega) _)
      exact hb3
end Go.Proofs.YtdghblpaccaaiaaDoor
