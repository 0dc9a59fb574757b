/-
  How many parts an expression has; szExpr bounds it; expressions whose fields are marks.
-/
import Derived.Test.YtkkjpiikilhobaaGreatDoorNtTree
namespace Go.Proofs.YtkkjpiikilhobaaGreatDoor
open Go.RowKit

mutual
/-- How many parts there are, with it. -/
def cntM : Ex → Nat
  | .mk _ _ _ _ ks => 1 + cntAll ks
def cntAll : List Ex → Nat
  | [] => 0
  | e :: es => cntM e + cntAll es
end
theorem cntM_eq (e : Ex) : cntM e = 1 + cntAll e.kids := by cases e; rw [cntM]; rfl
theorem cntAll_append (a b : List Ex) : cntAll (a ++ b) = cntAll a + cntAll b := by
  induction a with
  | nil => simp [cntAll]
  | cons x a ih => rw [List.cons_append, cntAll, cntAll, ih]; omega
theorem cntAll_take (es : List Ex) (k : Nat) (h : k < es.length) : cntAll (es.take (k + 1)) = cntAll (es.take k) + (1 + cntAll es[k].kids) := by
  rw [List.take_succ_eq_append_getElem h, cntAll_append, cntAll, cntAll, cntM_eq]; omega
theorem cntAll_le (es : List Ex) (k : Nat) : cntAll (es.take k) ≤ cntAll es := by
  have := cntAll_append (es.take k) (es.drop k)
  rw [List.take_append_drop] at this; omega

/-- What szExpr does with one expression. -/
def SzC (e : Ex) : Prop := ∀ (w : World) (s : Value) (left : Int), Lies w (· < w.heap.size) e.kids s → 0 ≤ left → left ≤ 1048576 →
  Calls Tryz.prog 4 #[e.val s, .int .i64 left] w fun r w' => (∃ n : Int, r = .returned (.int .i64 n) ∧ n ≤ left ∧ (0 ≤ n → e.Wee ∧ (cntAll e.kids : Int) + n ≤ left)) ∧ Below w.heap.size w w'

theorem cnt_snoc (es : List Ex) (k : Nat) (m n left : Int) (hlt : k < es.length) (h : (cntAll (es.take k) : Int) + m + (es.length - k) ≤ left) (hw : 0 ≤ n → es[k].Wee ∧ (cntAll es[k].kids : Int) + n ≤ m) (hn : 0 ≤ n) : Hid ((cntAll (es.take (k + 1)) : Int) + n + (es.length - ((k + 1 : Nat) : Int)) ≤ left) := by
  show _ ≤ _
  have := (hw hn).2
  rw [cntAll_take es k hlt]
  push_cast
  omega

set_option maxHeartbeats 400000 in
theorem szCS (es : List Ex) (hlen : es.length ≤ maxLen) (ih : ∀ e ∈ es, SzC e) (w : World) (v : Value) (left : Int) (hv : Lies w (· < w.heap.size) es v) (h0 : 0 ≤ left) (h1 : left ≤ 1048576) :
    Calls Tryz.prog 13 #[v, .int .i64 left] w fun r w' => (∃ n : Int, r = .returned (.int .i64 n) ∧ n ≤ left ∧ (0 ≤ n → (es.length ≤ 1048576 ∧ ∀ x ∈ es, x.Wee) ∧ (cntAll es : Int) + n ≤ left)) ∧ Below w.heap.size w w' := by
  unfold maxLen at hlen
  obtain ⟨a, cap, rfl⟩ := hv.slice
  by_cases hneg : left - es.length < 0
  · go_enter Tryz.func13, Tryz.ntmps13
    go_wp2_with fail
    go_ret
    exact ⟨⟨_, rfl, by omega, by omega⟩, Below.refl _ _⟩
  · go_enter Tryz.func13, Tryz.ntmps13
    go_wp2_with fail
    go_loopw [1, 5] (fun l i wr => ∃ (k : Nat) (m : Int), k ≤ es.length ∧ i = .int .i64 k ∧ l = .int .i64 m ∧ 0 ≤ m ∧ m ≤ left ∧ Hid (∀ i (hi : i < es.length), i < k → (es[i]).Wee) ∧ Hid ((cntAll (es.take k) : Int) + m + (es.length - (k : Int)) ≤ left) ∧ Below w.heap.size w wr) (fun _ i _ => es.length - (intOf i).toNat)
    case atStart => exact ⟨0, _, by omega, rfl, rfl, by omega, by omega, fun _ _ h => absurd h (by omega), by show _ ≤ _; simp [cntAll], Below.refl _ _⟩
    case round =>
      obtain ⟨k, m, hk, rfl, rfl, hm0, hm1, hwee, hcnt, hb⟩ := hrel
      by_cases hlt : k < es.length
      · obtain ⟨b, off, cap', s, hS, hsl, hr, hl⟩ := hv.at (List.getElem?_eq_getElem hlt)
        obtain ⟨rfl, rfl⟩ : a = some ⟨b, off, none⟩ ∧ cap = cap' := by simpa using hsl
        obtain ⟨c0, c1, c2, c3, c4⟩ := Ex.five (rangeAt_same (hb.block b hS) hr)
        have hl' := (hl.keep hb hb.size)
        clear hr hl hsl
        go_wp2_with (go_at_call 4; refine (ih es[k] (List.getElem_mem hlt) _ _ _ hl' hm0 (by omega)).mono ?_; rintro e w' ⟨⟨n, rfl, hn, hw⟩, hb2⟩; have HW : Hid (0 ≤ n → es[k].Wee ∧ (cntAll es[k].kids : Int) + n ≤ m) := hw; clear hw)
        · go_ret
          exact ⟨⟨_, rfl, by omega, by omega⟩, hb.trans (hb2.mono hb.size)⟩
        · go_roundw
          case rel => exact ⟨k + 1, n, by omega, by go_num, rfl, by omega, by omega, wee_snoc es k n hlt hwee.out (fun h => (HW.out h).1) (by omega), cnt_snoc es k m n left hlt hcnt.out HW.out (by omega), hb.trans (hb2.mono hb.size)⟩
          case measure => simp [intOf]; omega
      · have HC : Hid ((cntAll es : Int) + m ≤ left) := by
          have := hcnt.out
          rw [List.take_of_length_le (by omega)] at this
          show _ ≤ _
          omega
        go_wp2_with fail
        go_ret
        exact ⟨⟨_, rfl, by omega, fun _ => ⟨⟨by omega, wee_all es (fun i hi => hwee.out i hi (by omega))⟩, HC.out⟩⟩, hb⟩

set_option maxHeartbeats 400000 in
theorem szC (e : Ex) : e.Fit → SzC e := by
  induction e using Ex.ind with
  | h e ih =>
    intro hf w s left hv h0 h1
    obtain ⟨_, hn, ht, hk, hx⟩ := hf
    have ihS := szCS e.kids hk (fun x hx' => ih x hx' (hx x hx'))
    unfold maxLen at hn ht hk
    by_cases hneg1 : left - e.name.size < 0
    · go_enter Tryz.func4, Tryz.ntmps4
      go_wp2_with fail
      go_ret
      exact ⟨⟨_, rfl, by omega, by omega⟩, (Below.refl _ _).alloc (Nat.le_refl _) _⟩
    by_cases hneg2 : left - e.name.size - e.tail.size < 0
    · go_enter Tryz.func4, Tryz.ntmps4
      go_wp2_with fail
      go_ret
      exact ⟨⟨_, rfl, by omega, by omega⟩, (Below.refl _ _).alloc (Nat.le_refl _) _⟩
    have hv' : ∀ o, Lies (w.alloc o) (· < (w.alloc o).heap.size) e.kids s := fun o => hv.keep ((Below.refl _ _).alloc (Nat.le_refl _) o) (by simp)
    go_enter Tryz.func4, Tryz.ntmps4
    go_wp2_with (go_at_call 13; refine (ihS _ _ _ (hv' _) (by omega) (by omega)).mono ?_; rintro r w' ⟨⟨n, rfl, hn, hw⟩, hb2⟩; have HW : Hid (0 ≤ n → (e.kids.length ≤ 1048576 ∧ ∀ x ∈ e.kids, x.Wee) ∧ (cntAll e.kids : Int) + n ≤ left - e.name.size - e.tail.size) := hw; clear hw)
    all_goals go_ret
    all_goals exact ⟨⟨_, rfl, by omega, fun hn0 => ⟨.mk e (HW.out (by omega)).1.1 (HW.out (by omega)).1.2, by have := (HW.out (by omega)).2; omega⟩⟩, ((Below.refl _ _).alloc (Nat.le_refl _) _).trans (hb2.mono (by simp))⟩

/-- The figures of a number ahead of a text. -/
def mtx (k : Nat) (out : ByteArray) : ByteArray := if k = 0 then out else mtx (k / 10) (⟨#[UInt8.ofNat (48 + k % 10)]⟩ ++ out)
termination_by k
decreasing_by omega
/-- The mark of a number. -/
def markT (k : Nat) : ByteArray := ⟨#[109]⟩ ++ mtx k ⟨#[]⟩
mutual
/-- An expression marked from a number on. -/
def markM : Ex → Nat → Ex
  | .mk _ _ _ _ ks, k => .mk k (markT (k + 1)) (markT (k + 2)) ((k + 3 : Nat) : Int) (markAll ks (k + 4))
def markAll : List Ex → Nat → List Ex
  | [], _ => []
  | e :: es, k => markM e k :: markAll es (k + 4 * cntM e)
end
theorem markM_eq (e : Ex) (k : Nat) : markM e k = .mk k (markT (k + 1)) (markT (k + 2)) ((k + 3 : Nat) : Int) (markAll e.kids (k + 4)) := by cases e; rw [markM]; rfl
theorem markAll_append (a b : List Ex) : ∀ k, markAll (a ++ b) k = markAll a k ++ markAll b (k + 4 * cntAll a) := by
  induction a with
  | nil => intro k; simp [markAll, cntAll]
  | cons x a ih =>
    intro k
    rw [List.cons_append, markAll, markAll, ih, cntAll, List.cons_append]
    congr 3; omega
theorem markAll_length (es : List Ex) : ∀ k, (markAll es k).length = es.length := by
  induction es with
  | nil => intro k; simp [markAll]
  | cons x a ih => intro k; rw [markAll, List.length_cons, List.length_cons, ih]
theorem markAll_get (es : List Ex) (k i : Nat) (h : i < es.length) : (markAll es k)[i]? = some (markM es[i] (k + 4 * cntAll (es.take i))) := by
  have h1 : es = es.take i ++ (es[i] :: es.drop (i + 1)) := by rw [← List.drop_eq_getElem_cons h, List.take_append_drop]
  conv => lhs; rw [h1]
  rw [markAll_append, List.getElem?_append_right (by rw [markAll_length]; simp; omega), markAll_length, markAll]
  simp [Nat.min_eq_left (Nat.le_of_lt h)]
/-- The first i are marked. -/
def markTo (es : List Ex) (k i : Nat) : List Ex := markAll (es.take i) k ++ es.drop i
theorem markTo_length (es : List Ex) (k i : Nat) (h : i ≤ es.length) : (markTo es k i).length = es.length := by
  rw [markTo, List.length_append, markAll_length]; simp; omega
theorem markTo_zero (es : List Ex) (k : Nat) : markTo es k 0 = es := by simp [markTo, markAll]
theorem markTo_end (es : List Ex) (k : Nat) : markTo es k es.length = markAll es k := by simp [markTo]
theorem markTo_get (es : List Ex) (k i : Nat) (h : i < es.length) (h' : i < (markTo es k i).length) : (markTo es k i)[i] = es[i] := by
  have : (markTo es k i)[i]? = some es[i] := by
    rw [markTo, List.getElem?_append_right (by rw [markAll_length]; simp; omega), markAll_length, List.length_take, Nat.min_eq_left (Nat.le_of_lt h), Nat.sub_self, List.drop_eq_getElem_cons h]; rfl
  rw [List.getElem?_eq_getElem h'] at this
  exact Option.some.inj this
theorem markTo_next (es : List Ex) (k i : Nat) (h : i < es.length) : (markTo es k i).set i (markM es[i] (k + 4 * cntAll (es.take i))) = markTo es k (i + 1) := by
  have hl : (markAll (es.take i) k).length = i := by rw [markAll_length]; simp; omega
  rw [markTo, List.set_append_right _ _ (by omega), hl, Nat.sub_self, List.drop_eq_getElem_cons h, List.set_cons_zero, markTo, List.take_succ_eq_append_getElem h, markAll_append, markAll, markAll, List.append_assoc]
  rfl
end Go.Proofs.YtkkjpiikilhobaaGreatDoor
