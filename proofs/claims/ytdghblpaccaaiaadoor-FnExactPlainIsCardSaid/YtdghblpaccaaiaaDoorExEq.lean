/-
  The law's own eqExpr, eqExprS: an expression is the same as its copy.
-/
import Derived.Test.YtdghblpaccaaiaaDoorRows
import Derived.Test.YtdghblpaccaaiaaDoorExLies
import Derived.Test.YtdghblpaccaaiaaDoorExSz
import Derived.WalkKit
import Derived.WalkSpells
import Derived.WalkLawsBesides
import Derived.Deep.RegionWith
namespace Go.Proofs.YtdghblpaccaaiaaDoor
open Go.RowKit

theorem Lies.drew {w : World} {B : Nat} {es : List Ex} {v : Value} (h : Lies w (· < B) es v) : Lies w.drew (· < B) es v :=
  h.same fun _ hb => ⟨rfl, hb⟩

/-- What eqExpr does with an expression, lying at two places. -/
def EqOf (e : Ex) : Prop := ∀ (w : World) (s1 s2 : Value), Lies w (· < w.heap.size) e.kids s1 → Lies w (· < w.heap.size) e.kids s2 →
  Calls Tryd.prog 8 #[e.val s1, e.val s2] w fun r w' => r = .returned (.bool true) ∧ Below w.heap.size w w'

set_option maxHeartbeats 400000 in
theorem eqS (es : List Ex) (hlen : es.length ≤ 1048576) (ih : ∀ e ∈ es, EqOf e) (w : World) (v1 v2 : Value) (hv1 : Lies w (· < w.heap.size) es v1) (hv2 : Lies w (· < w.heap.size) es v2) :
    Calls Tryd.prog 15 #[v1, v2] w fun r w' => r = .returned (.bool true) ∧ Below w.heap.size w w' := by
  obtain ⟨a1, cap1, rfl⟩ := hv1.slice
  obtain ⟨a2, cap2, rfl⟩ := hv2.slice
  go_enter Tryd.func15, Tryd.ntmps15
  go_wp2_with fail
  go_loopw [5] (fun i wr => ∃ (k : Nat), k ≤ es.length ∧ i = .int .i64 k ∧ Below w.heap.size w wr) (fun i _ => es.length - (intOf i).toNat)
  case atStart => exact ⟨0, by omega, rfl, Below.refl _ _⟩
  case round =>
    obtain ⟨k, hk, rfl, hb⟩ := hrel
    by_cases hlt : k < es.length
    · obtain ⟨b1, off1, cap1', s1, hS1, hsl1, hr1, hl1⟩ := hv1.at (List.getElem?_eq_getElem hlt)
      obtain ⟨rfl, rfl⟩ : a1 = some ⟨b1, off1, none⟩ ∧ cap1 = cap1' := by simpa using hsl1
      obtain ⟨b2, off2, cap2', s2, hS2, hsl2, hr2, hl2⟩ := hv2.at (List.getElem?_eq_getElem hlt)
      obtain ⟨rfl, rfl⟩ : a2 = some ⟨b2, off2, none⟩ ∧ cap2 = cap2' := by simpa using hsl2
      obtain ⟨c0, c1, c2, c3, c4⟩ := Ex.five (rangeAt_same (hb.block b1 hS1) hr1)
      obtain ⟨d0, d1, d2, d3, d4⟩ := Ex.five (rangeAt_same (hb.block b2 hS2) hr2)
      have hl1' := (hl1.keep hb hb.size)
      have hl2' := (hl2.keep hb hb.size)
      clear hr1 hl1 hsl1 hr2 hl2 hsl2
      have hi : (k : Int) < (es.length : Int) := by omega
      go_wp2_with fail
      go_region_with (go_at_call 8; refine (ih es[k] (List.getElem_mem hlt) _ _ _ hl1'.drew hl2'.drew).mono ?_; rintro r w2 ⟨rfl, hb2⟩)
      all_goals
        go_wp2_with fail
        go_roundw
        case rel => exact ⟨k + 1, by omega, by go_num, hb.drew.trans (hb2.mono hb.size)⟩
        case measure => simp [intOf]; omega
    · go_wp2_with fail
      go_ret
      exact ⟨rfl, hb⟩

set_option maxHeartbeats 400000 in
theorem eq (e : Ex) : e.Wee → EqOf e := by
  induction e using Ex.ind with
  | h e ih =>
    intro hf w s1 s2 hv1 hv2
    obtain ⟨_, hk, hx⟩ := hf
    have ihS := eqS e.kids hk (fun x hx' => ih x hx' (hx x hx'))
    have hb1 : ∀ o1 o2, Below w.heap.size w ((w.alloc o1).alloc o2) := fun o1 o2 => ((Below.refl _ _).alloc (Nat.le_refl _) o1).alloc (by simp) o2
    have hv1' : ∀ o1 o2, Lies ((w.alloc o1).alloc o2) (· < ((w.alloc o1).alloc o2).heap.size) e.kids s1 := fun o1 o2 => hv1.keep (hb1 o1 o2) (by simp; omega)
    have hv2' : ∀ o1 o2, Lies ((w.alloc o1).alloc o2) (· < ((w.alloc o1).alloc o2).heap.size) e.kids s2 := fun o1 o2 => hv2.keep (hb1 o1 o2) (by simp; omega)
    go_enter Tryd.func8, Tryd.ntmps8
    go_wp2_with (go_at_call 15; refine (ihS _ _ _ (hv1' _ _) (hv2' _ _)).mono ?_; rintro r w2 ⟨rfl, hb2⟩)
    go_ret
    exact ⟨rfl, (hb1 _ _).trans (hb2.mono (by simp; omega))⟩
end Go.Proofs.YtdghblpaccaaiaaDoor
