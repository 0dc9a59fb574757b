/-
  The law's own szExpr, szExprS: they answer some number, whatever the expression; nothing old is written.
-/
import Derived.Test.YtdghblpaccaaiaaDoorRows
import Derived.Test.YtdghblpaccaaiaaDoorExLies
import Derived.WalkKit
import Derived.WalkSpells
import Derived.WalkLawsBesides
namespace Go.Proofs.YtdghblpaccaaiaaDoor
open Go.RowKit

theorem bcell {W w1 : World} (hb : Below W.heap.size W w1) : (∀ b o, b < W.heap.size → w1.cell? ⟨b, o, none⟩ = W.cell? ⟨b, o, none⟩) ∧ (∀ b o, b < W.heap.size → w1.frozen? ⟨b, o, none⟩ = W.frozen? ⟨b, o, none⟩) :=
  ⟨fun b o h => hb.cell (p := ⟨b, o, none⟩) h, fun b o h => hb.frozen (p := ⟨b, o, none⟩) h⟩

/-- What szExpr does with one expression. -/
def SzOf (e : Ex) : Prop := ∀ (w : World) (s : Value) (left : Int), Lies w (· < w.heap.size) e.kids s → 0 ≤ left → left ≤ 1048576 →
  Calls Tryd.prog 4 #[e.val s, .int .i64 left] w fun r w' => (∃ n : Int, r = .returned (.int .i64 n) ∧ n ≤ left ∧ (0 ≤ n → e.Wee)) ∧ Below w.heap.size w w'

theorem wee_snoc (es : List Ex) (k : Nat) (n : Int) (hlt : k < es.length) (h : ∀ i (hi : i < es.length), i < k → (es[i]).Wee) (hw : 0 ≤ n → es[k].Wee) (hn : 0 ≤ n) : Hid (∀ i (hi : i < es.length), i < k + 1 → (es[i]).Wee) := by
  intro i hi hik
  by_cases e : i = k
  · subst e; exact hw hn
  · exact h i hi (by omega)
theorem wee_all (es : List Ex) (h : ∀ i (hi : i < es.length), (es[i]).Wee) : ∀ x ∈ es, x.Wee := by
  intro x hx
  obtain ⟨i, hi, rfl⟩ := List.getElem_of_mem hx
  exact h i hi

set_option maxHeartbeats 400000 in
theorem szS (es : List Ex) (hlen : es.length ≤ maxLen) (ih : ∀ e ∈ es, SzOf e) (w : World) (v : Value) (left : Int) (hv : Lies w (· < w.heap.size) es v) (h0 : 0 ≤ left) (h1 : left ≤ 1048576) :
    Calls Tryd.prog 9 #[v, .int .i64 left] w fun r w' => (∃ n : Int, r = .returned (.int .i64 n) ∧ n ≤ left ∧ (0 ≤ n → es.length ≤ 1048576 ∧ ∀ x ∈ es, x.Wee)) ∧ Below w.heap.size w w' := by
  unfold maxLen at hlen
  obtain ⟨a, cap, rfl⟩ := hv.slice
  by_cases hneg : left - es.length < 0
  · go_enter Tryd.func9, Tryd.ntmps9
    go_wp2_with fail
    go_ret
    exact ⟨⟨_, rfl, by omega, by omega⟩, Below.refl _ _⟩
  · go_enter Tryd.func9, Tryd.ntmps9
    go_wp2_with fail
    go_loopw [1, 5] (fun l i wr => ∃ (k : Nat) (m : Int), k ≤ es.length ∧ i = .int .i64 k ∧ l = .int .i64 m ∧ 0 ≤ m ∧ m ≤ left ∧ Hid (∀ i (hi : i < es.length), i < k → (es[i]).Wee) ∧ Below w.heap.size w wr) (fun _ i _ => es.length - (intOf i).toNat)
    case atStart => exact ⟨0, _, by omega, rfl, rfl, by omega, by omega, fun _ _ h => absurd h (by omega), Below.refl _ _⟩
    case round =>
      obtain ⟨k, m, hk, rfl, rfl, hm0, hm1, hwee, hb⟩ := hrel
      by_cases hlt : k < es.length
      · obtain ⟨b, off, cap', s, hS, hsl, hr, hl⟩ := hv.at (List.getElem?_eq_getElem hlt)
        obtain ⟨rfl, rfl⟩ : a = some ⟨b, off, none⟩ ∧ cap = cap' := by simpa using hsl
        obtain ⟨c0, c1, c2, c3, c4⟩ := Ex.five (rangeAt_same (hb.block b hS) hr)
        have hl' := (hl.keep hb hb.size)
        clear hr hl hsl
        go_wp2_with (go_at_call 4; refine (ih es[k] (List.getElem_mem hlt) _ _ _ hl' hm0 (by omega)).mono ?_; rintro e w' ⟨⟨n, rfl, hn, hw⟩, hb2⟩; have HW : Hid (0 ≤ n → es[k].Wee) := hw; clear hw)
        · go_ret
          exact ⟨⟨_, rfl, by omega, by omega⟩, hb.trans (hb2.mono hb.size)⟩
        · go_roundw
          case rel => exact ⟨k + 1, n, by omega, by go_num, rfl, by omega, by omega, wee_snoc es k n hlt hwee.out HW.out (by omega), hb.trans (hb2.mono hb.size)⟩
          case measure => simp [intOf]; omega
      · go_wp2_with fail
        go_ret
        exact ⟨⟨_, rfl, by omega, fun _ => ⟨by omega, wee_all es (fun i hi => hwee.out i hi (by omega))⟩⟩, hb⟩

set_option maxHeartbeats 400000 in
theorem sz (e : Ex) : e.Fit → SzOf e := by
  induction e using Ex.ind with
  | h e ih =>
    intro hf w s left hv h0 h1
    obtain ⟨_, hn, ht, hk, hx⟩ := hf
    have ihS := szS e.kids hk (fun x hx' => ih x hx' (hx x hx'))
    unfold maxLen at hn ht hk
    by_cases hneg1 : left - e.name.size < 0
    · go_enter Tryd.func4, Tryd.ntmps4
      go_wp2_with fail
      go_ret
      exact ⟨⟨_, rfl, by omega, by omega⟩, (Below.refl _ _).alloc (Nat.le_refl _) _⟩
    by_cases hneg2 : left - e.name.size - e.tail.size < 0
    · go_enter Tryd.func4, Tryd.ntmps4
      go_wp2_with fail
      go_ret
      exact ⟨⟨_, rfl, by omega, by omega⟩, (Below.refl _ _).alloc (Nat.le_refl _) _⟩
    have hv' : ∀ o, Lies (w.alloc o) (· < (w.alloc o).heap.size) e.kids s := fun o => hv.keep ((Below.refl _ _).alloc (Nat.le_refl _) o) (by simp)
    go_enter Tryd.func4, Tryd.ntmps4
    go_wp2_with (go_at_call 9; refine (ihS _ _ _ (hv' _) (by omega) (by omega)).mono ?_; rintro r w' ⟨⟨n, rfl, hn, hw⟩, hb2⟩; have HW : Hid (0 ≤ n → e.kids.length ≤ 1048576 ∧ ∀ x ∈ e.kids, x.Wee) := hw; clear hw)
    all_goals go_ret
    all_goals exact ⟨⟨_, rfl, by omega, fun hn0 => .mk e (HW.out (by omega)).1 (HW.out (by omega)).2⟩, ((Below.refl _ _).alloc (Nat.le_refl _) _).trans (hb2.mono (by simp))⟩
end Go.Proofs.YtdghblpaccaaiaaDoor
