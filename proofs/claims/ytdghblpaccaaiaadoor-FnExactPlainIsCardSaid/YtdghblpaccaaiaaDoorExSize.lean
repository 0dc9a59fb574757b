/-
  The specification's l1Size, l1Ok, ExprOk.
-/
import Derived.Test.YtdghblpaccaaiaaDoorExBare
import Derived.Deep.RegionWith
import Derived.Deep.QuietTactic
import Derived.BigQuiet
namespace Go.Proofs.YtdghblpaccaaiaaDoor
open Go.RowKit

theorem spec_l1Bare (k : Int) (a b : ByteArray) (u : Int) (s : Value) (w : World) (ha : a.size ≤ maxLen) (hb : b.size ≤ maxLen) :
    Calls Tryd.prog 23 #[.agg #[.int .i64 k, .string a, .string b, .int .i64 u, s]] w fun r w' => r = .returned (.bool (bareC k a b u)) ∧ Below w.heap.size w w' := by
  by_cases h0 : k = 1 ∨ k = 2 ∨ k = 15
  · exact bare_num k h0 a b u s w
  by_cases h1 : k = 3 ∨ k = 4 ∨ k = 6
  · exact bare_one k h1 a b u s w ha
  by_cases h2 : k = 7 ∨ k = 14
  · exact bare_two k h2 a b u s w ha hb
  · refine bare_none k ?_ ?_ ?_ ?_ ?_ ?_ ?_ ?_ a b u s w ⟨?_, ?_, ?_⟩
    all_goals first | (simp; omega) | skip
    · unfold namesN; rw [if_neg h1, if_neg h2]
    · unfold leastN; rw [if_neg (by omega)]
    · unfold mostN; rw [if_neg (by omega), if_neg (by omega), if_neg (by omega)]

mutual
/-- How many parts an expression has; 61 if there are more than 60, or it is not ok. -/
def sizeM : Ex → Int → Int
  | .mk k n t u ks, deep => if 14 < deep ∨ (ks.length : Int) ≠ kidsN k ∨ bareC k n t u = false then 61 else sizeAll ks (deep + 1) 1
def sizeAll : List Ex → Int → Int → Int
  | [], _, n => n
  | e :: es, d, n => if 60 < n + sizeM e d then 61 else sizeAll es d (n + sizeM e d)
end

theorem sizeAll_bd (d : Int) : ∀ (es : List Ex) (n : Int), (∀ e ∈ es, 1 ≤ sizeM e d ∧ sizeM e d ≤ 61) → 1 ≤ n → n ≤ 60 → 1 ≤ sizeAll es d n ∧ sizeAll es d n ≤ 61
  | [], n, _, h1, h2 => by rw [sizeAll]; omega
  | e :: es, n, h, h1, h2 => by
    rw [sizeAll]
    have he := h e (by simp)
    split
    · omega
    · exact sizeAll_bd d es _ (fun x hx => h x (by simp [hx])) (by omega) (by omega)

theorem sizeM_eq (e : Ex) (d : Int) : sizeM e d = if 14 < d ∨ (e.kids.length : Int) ≠ kidsN e.kind ∨ bareC e.kind e.name e.tail e.num = false then 61 else sizeAll e.kids (d + 1) 1 := by
  cases e; rw [sizeM]; rfl

theorem sizeM_bd (e : Ex) : ∀ d, 1 ≤ sizeM e d ∧ sizeM e d ≤ 61 := by
  induction e using Ex.ind with
  | h e ih =>
    intro d
    rw [sizeM_eq]
    split
    · omega
    · exact sizeAll_bd (d + 1) e.kids 1 (fun x hx => ih x hx (d + 1)) (by omega) (by omega)

theorem sizeAll_drop (es : List Ex) (d n : Int) (k : Nat) (h : k < es.length) : sizeAll (es.drop k) d n = if 60 < n + sizeM es[k] d then 61 else sizeAll (es.drop (k + 1)) d (n + sizeM es[k] d) := by
  rw [List.drop_eq_getElem_cons h, sizeAll]

/-- What l1Size does with one expression. -/
def SizeOfEx (e : Ex) : Prop := ∀ (w : World) (s : Value) (deep : Int), Lies w (· < w.heap.size) e.kids s → 0 ≤ deep → deep ≤ 100 →
  Calls Tryd.prog 16 #[e.val s, .int .i64 deep] w fun r w' => r = .returned (.int .i64 (sizeM e deep)) ∧ Below w.heap.size w w'

theorem below_box_drewN (w : World) (o : Obj) (n : Nat) : Below w.heap.size w ((w.alloc o).drewN n) :=
  below_drewN ((Below.refl _ _).alloc (Nat.le_refl _) _) n
theorem below_box_drew {w w2 : World} {o : Obj} (h : Below (w.alloc o).drew.heap.size (w.alloc o).drew w2) : Below w.heap.size w w2 :=
  ((Below.refl _ _).alloc (Nat.le_refl _) _).drew.trans (h.mono (by show w.heap.size ≤ (w.alloc o).heap.size; simp))
theorem below_step {w w2 : World} {o : Obj} (h : Below (w.alloc o).drew.heap.size (w.alloc o).drew w2) : Below (w.heap.size + 1) (w.alloc o) w2 :=
  (Below.refl _ _).drew.trans (h.mono (by show w.heap.size + 1 ≤ (w.alloc o).heap.size; simp))
theorem below_of_box {w wr : World} {o : Obj} (h : Below (w.heap.size + 1) (w.alloc o) wr) : Below w.heap.size w wr :=
  ((Below.refl _ _).alloc (Nat.le_refl _) _).trans (h.mono (by omega))
theorem cell4_of_box {w wr : World} {a b c d x : Value} {t : TypeId} (h : Below (w.heap.size + 1) (w.alloc (.cells #[a, b, c, d, x] t)) wr) : wr.cell? ⟨w.heap.size, 4, none⟩ = some x := by
  rw [h.cell (p := ⟨w.heap.size, 4, none⟩) (by show w.heap.size < w.heap.size + 1; omega), cell_of_row _ _ _ _ _ _ (heap_alloc_new w _)]
  rfl

theorem below_box_trans {w wr w3 : World} {o : Obj} (h : Below (w.heap.size + 1) (w.alloc o) wr) (h3 : Below wr.heap.size wr w3) : Below (w.heap.size + 1) (w.alloc o) w3 :=
  h.trans (h3.mono (by have := h.size; simpa using this))

set_option maxHeartbeats 2000000 in
theorem size_walk (e : Ex) (hf : e.Fit) (ih : ∀ x ∈ e.kids, SizeOfEx x) : SizeOfEx e := by
  intro w s deep hv h0 h1
  obtain ⟨_, hn, ht, hk, hx⟩ := hf
  have hbare := spec_l1Bare e.kind e.name e.tail e.num
  have hk2 := hk
  unfold maxLen at hk2
  obtain ⟨a, cap, rfl⟩ := hv.slice
  by_cases hdeep : 14 < deep
  · have HS : Hid (sizeM e deep = 61) := by
      show _ = _
      rw [sizeM_eq, if_pos (Or.inl hdeep)]
    have hd : decide (14 < deep) = true := by simpa using hdeep
    go_enter Tryd.func16, Tryd.ntmps16
    go_wp2_with fail
    go_quiet (fail)
    go_wp2_with fail
    go_ret
    exact ⟨ret_int HS.out.symm, below_box_drewN _ _ _⟩
  have hd : decide (14 < deep) = false := by simpa using hdeep
  by_cases hkk : (e.kids.length : Int) = kidsN e.kind
  · have hne : ((e.kids.length : Int) != kidsN e.kind) = false := by simpa using hkk
    have HK : Hid ((e.kids.length : Int) = kidsN e.kind) := hkk
    clear hkk
    cases hbb : bareC e.kind e.name e.tail e.num
    · have HS : Hid (sizeM e deep = 61) := by
        show _ = _
        rw [sizeM_eq, if_pos (Or.inr (Or.inr hbb))]
      go_enter Tryd.func16, Tryd.ntmps16
      go_wp2_with fail
      go_region_with (first | (go_at_call 22; refine (spec_l1Kids _ _).mono ?_; rintro r w2 ⟨rfl, rfl⟩) | (go_at_call 23; refine (hbare _ _ hn ht).mono ?_; rintro r w2 ⟨rfl, hb2⟩; rw [hbb]))
      all_goals
        go_wp2_with fail
        go_ret
        exact ⟨ret_int HS.out.symm, below_box_drew hb2⟩
    have HS : Hid (sizeM e deep = sizeAll (e.kids.drop 0) (deep + 1) 1) := by
      show _ = _
      rw [sizeM_eq, if_neg (by have := HK.out; rintro (h | h | h); exact hdeep h; exact h this; rw [hbb] at h; cases h)]; rfl
    go_enter Tryd.func16, Tryd.ntmps16
    go_wp2_with fail
    go_region_with (first | (go_at_call 22; refine (spec_l1Kids _ _).mono ?_; rintro r w2 ⟨rfl, rfl⟩) | (go_at_call 23; refine (hbare _ _ hn ht).mono ?_; rintro r w2 ⟨rfl, hb2⟩; rw [hbb]))
    all_goals
      go_wp2_with fail
      go_loopw [5, 6] (fun n i wr => ∃ (k : Nat) (m : Int), k ≤ e.kids.length ∧ i = .int .i64 k ∧ n = .int .i64 m ∧ 1 ≤ m ∧ m ≤ 60 ∧ Hid (sizeM e deep = sizeAll (e.kids.drop k) (deep + 1) m) ∧ Below (w.heap.size + 1) (w.alloc (.cells #[.int .i64 e.kind, .string e.name, .string e.tail, .int .i64 e.num, .slice a e.kids.length cap] 29)) wr) (fun _ i _ => e.kids.length - (intOf i).toNat)
      case atStart => exact ⟨0, 1, by omega, rfl, rfl, by omega, by omega, HS, below_step hb2⟩
      case round =>
        obtain ⟨k, m, hkl, rfl, rfl, hm1, hm2, HE, hb⟩ := hrel
        have hbw := below_of_box hb
        have hc4 := cell4_of_box hb
        by_cases hlt : k < e.kids.length
        · obtain ⟨b, off, cap', s, hS, hsl, hr, hl⟩ := hv.at (List.getElem?_eq_getElem hlt)
          obtain ⟨rfl, rfl⟩ : a = some ⟨b, off, none⟩ ∧ cap = cap' := by simpa using hsl
          obtain ⟨c0, c1, c2, c3, c4⟩ := Ex.five (rangeAt_same (hbw.block b hS) hr)
          have hl' := (hl.keep hbw hbw.size)
          have hsb := sizeM_bd e.kids[k] (deep + 1)
          have hsd := sizeAll_drop e.kids (deep + 1) m k hlt
          have HD : Hid (sizeAll (e.kids.drop k) (deep + 1) m = if 60 < m + sizeM e.kids[k] (deep + 1) then 61 else sizeAll (e.kids.drop (k + 1)) (deep + 1) (m + sizeM e.kids[k] (deep + 1))) := hsd
          clear hr hl hsl hsd
          go_wp2_with (go_at_call 16; refine (ih e.kids[k] (List.getElem_mem hlt) _ _ _ hl' (by omega) (by omega)).mono ?_; rintro r w3 ⟨rfl, hb3⟩)
          · go_ret
            exact ⟨ret_int (by rw [HE.out, HD.out, if_pos (by omega)]), hbw.trans (hb3.mono hbw.size)⟩
          · go_roundw
            case rel => exact ⟨k + 1, _, by omega, by go_num, rfl, by omega, by omega, by show _ = _; rw [HE.out, HD.out, if_neg (by omega)], below_box_trans hb hb3⟩
            case measure => simp [intOf]; omega
        · go_wp2_with fail
          go_ret
          exact ⟨ret_int (by rw [HE.out, List.drop_eq_nil_of_le (by omega), sizeAll]), hbw⟩
  · have HS : Hid (sizeM e deep = 61) := by
      show _ = _
      rw [sizeM_eq, if_pos (Or.inr (Or.inl hkk))]
    have hne : ((e.kids.length : Int) != kidsN e.kind) = true := by simpa using hkk
    go_enter Tryd.func16, Tryd.ntmps16
    go_wp2_with fail
    go_quiet ((go_at_call 22; exact Calls.quiet_of_same ((spec_l1Kids _ _).mono fun _ _ h => ⟨h.1, h.2.symm⟩)))
    go_wp2_with fail
    go_ret
    exact ⟨ret_int HS.out.symm, below_box_drewN _ _ _⟩

theorem spec_l1Size (e : Ex) : e.Fit → SizeOfEx e := by
  induction e using Ex.ind with
  | h e ih =>
    intro hf
    have hx : ∀ x ∈ e.kids, x.Fit := by cases hf; assumption
    exact size_walk e hf fun x hm => ih x hm (hx x hm)

set_option maxHeartbeats 400000 in
theorem spec_l1Ok (e : Ex) (hf : e.Fit) (w : World) (s : Value) (hv : Lies w (· < w.heap.size) e.kids s) :
    Calls Tryd.prog 10 #[e.val s] w fun r w' => r = .returned (.bool (decide (sizeM e 1 ≤ 60))) ∧ Below w.heap.size w w' := by
  have hv' : ∀ o, Lies (w.alloc o) (· < (w.alloc o).heap.size) e.kids s := fun o => hv.keep ((Below.refl _ _).alloc (Nat.le_refl _) o) (by simp)
  go_enter Tryd.func10, Tryd.ntmps10
  go_wp2_with (go_at_call 16; refine (spec_l1Size e hf _ _ _ (hv' _) (by omega) (by omega)).mono ?_; rintro r w2 ⟨rfl, hb2⟩)
  go_ret
  exact ⟨rfl, ((Below.refl _ _).alloc (Nat.le_refl _) _).trans (hb2.mono (by simp))⟩

end Go.Proofs.YtdghblpaccaaiaaDoor
