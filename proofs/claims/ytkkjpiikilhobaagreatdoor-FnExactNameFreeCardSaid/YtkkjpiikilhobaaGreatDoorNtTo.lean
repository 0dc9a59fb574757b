/-
  The law's own toExpr, toExprS: the copy's rows lie each in a block of its own.
-/
import Derived.Test.YtkkjpiikilhobaaGreatDoorNtTree
namespace Go.Proofs.YtkkjpiikilhobaaGreatDoor
open Go.RowKit

/-- What toExpr does with one expression. -/
def ToT (e : Ex) : Prop := ∀ (w : World) (s : Value), Lies w (· < w.heap.size) e.kids s →
  Calls Tryz.prog 6 #[e.val s] w fun r w' => ∃ s', r = .returned (e.val s') ∧ Tree w' w.heap.size w'.heap.size e.kids s' ∧ Below w.heap.size w w'

set_option maxHeartbeats 400000 in
theorem toTS (es : List Ex) (hlen : es.length ≤ 1048576) (ih : ∀ e ∈ es, ToT e) (w : World) (v : Value) (hv : Lies w (· < w.heap.size) es v) :
    Calls Tryz.prog 16 #[v] w fun r w' => ∃ v', r = .returned v' ∧ Tree w' w.heap.size w'.heap.size es v' ∧ Below w.heap.size w w' := by
  obtain ⟨a, cap, rfl⟩ := hv.slice
  have hmk := make_exprs es.length hlen
  go_enter Tryz.func16, Tryz.ntmps16
  go_wp2_with fail
  go_loopw [4] (fun i wr => ∃ (k : Nat), k ≤ es.length ∧ i = .int .i64 k ∧ Grow wr w.heap.size es k ∧ wr.there w.heap.size 0 (es.length * 5) ∧ Below w.heap.size w wr) (fun i _ => es.length - (intOf i).toNat)
  case atStart => exact ⟨0, by omega, rfl, Grow.start es (by simp), there_made _ _ _ _, (Below.refl _ _).alloc (Nat.le_refl _) _⟩
  case round =>
    obtain ⟨k, hk, rfl, hG, hth, hb⟩ := hrel
    by_cases hlt : k < es.length
    · obtain ⟨b, off, cap', s, hS, hsl, hr, hl⟩ := hv.at (List.getElem?_eq_getElem hlt)
      obtain ⟨rfl, rfl⟩ : a = some ⟨b, off, none⟩ ∧ cap = cap' := by simpa using hsl
      obtain ⟨c0, c1, c2, c3, c4⟩ := Ex.five (rangeAt_same (hb.block b hS) hr)
      have hl' := (hl.keep hb hb.size)
      have hnb := hG.lt
      clear hr hl hsl
      have HT : ∀ w2, Below wr.heap.size wr w2 → w2.there w.heap.size (k * 5) 5 := fun w2 hb2 => there_part (there_same (hb2.block _ hnb) hth) (by omega)
      go_wp2_with (first | (go_at_call 6; refine (ih es[k] (List.getElem_mem hlt) _ _ hl').mono ?_; rintro e w2 ⟨s', rfl, hl2, hb2⟩) | (refine wpList_store_mid rfl 30 _ _ rfl w.heap.size (k * 5) #[.int .i64 es[k].kind, .string es[k].name, .string es[k].tail, .int .i64 es[k].num, s'] ?hx ?hy ?ht ?hi ?h1 ?_))
      case hx => rfl
      case hy => rfl
      case ht => exact HT w2 hb2
      case hi => exact exprSize
      case h1 => exact one_cells es[k] hl2.lies
      go_roundw
      case rel => exact ⟨k + 1, by omega, by go_num, hG.next hlt hb2 (HT w2 hb2) (Nat.le_refl _) hl2, World.there_setCells (there_same (hb2.block _ hnb) hth) _ _ _, Below.setCells (Nat.le_refl _) _ _ _ (hb.trans (hb2.mono hb.size))⟩
      case measure => simp [intOf]; omega
    · obtain rfl : k = es.length := by omega
      go_wp2_with fail
      go_ret
      exact ⟨_, rfl, hG.all hth (Nat.le_refl _) _, hb⟩

theorem tree_set {w : World} {lo hi : Nat} {es : List Ex} {v : Value} {p : Addr} {u : Value} (h : Tree w lo hi es v) (hp : p.block < lo) : Tree (w.setCell p u) lo hi es v :=
  h.same fun b hb _ => Below.heap_setCell _ _ _ _ (by omega)

set_option maxHeartbeats 400000 in
theorem toT (e : Ex) : e.Wee → ToT e := by
  induction e using Ex.ind with
  | h e ih =>
    intro hf w s hv
    obtain ⟨_, hk, hx⟩ := hf
    have ihS := toTS e.kids hk (fun x hx' => ih x hx' (hx x hx'))
    have hv' : ∀ o1 o2 o3, Lies (((w.alloc o1).alloc o2).alloc o3) (· < (((w.alloc o1).alloc o2).alloc o3).heap.size) e.kids s := fun o1 o2 o3 => hv.keep ((((Below.refl _ _).alloc (Nat.le_refl _) o1).alloc (by simp) o2).alloc (by simp; omega) o3) (by simp; omega)
    go_enter Tryz.func6, Tryz.ntmps6
    go_wp2_with (go_at_call 16; refine (ihS _ _ (hv' _ _ _)).mono ?_; rintro r w2 ⟨s', rfl, hl2, hb2⟩; obtain ⟨a', cap', rfl⟩ := hl2.slice; obtain ⟨hc, hf⟩ := bcell hb2; have hz := hb2.size; simp at hz)
    refine bodyPost_ret (v := e.val (.slice a' e.kids.length cap')) (by simp [results, Tryz.results6, go_sem, hc]) rfl ⟨_, rfl, ?_, ?_⟩
    · have hl3 : Tree w2 (w.heap.size + 1 + 1 + 1) w2.heap.size e.kids (.slice a' e.kids.length cap') := by simpa using hl2
      clear hc hf hb2 ihS hv' hl2
      refine Tree.wide (lo := w.heap.size + 1 + 1 + 1) (hi := w2.heap.size) ?_ (by omega) (by simp [World.setCell])
      repeat (refine tree_set ?_ (by dsimp only; omega))
      exact hl3
    · have hb3 : Below w.heap.size w w2 := ((((Below.refl _ _).alloc (Nat.le_refl _) _).alloc (by simp) _).alloc (by simp; omega) _).trans (hb2.mono (by simp; omega))
      clear hc hf hb2 ihS hv' hl2
      repeat (refine Below.setCell ?_ (by dsimp only; omega) _)
      exact hb3
end Go.Proofs.YtkkjpiikilhobaaGreatDoor
