/-
  The program's CodeOk.
  The specification's l1In, l6Fits, l6Moves.
  The specification's come: its table in memory.
-/
import Derived.Test.YtlkbgmgnjkkfgaaDoorLvAll14
import Derived.Test.YtlkbgmgnjkkfgaaDoorCkFits
import Derived.Test.YtlkbgmgnjkkfgaaDoorLvAll2
import Derived.Deep.QuietTactic
import Derived.BigQuiet
import Derived.Test.YtlkbgmgnjkkfgaaDoorLvAll13
import Derived.Test.YtlkbgmgnjkkfgaaDoorLvAll4
namespace Go.Proofs.YtlkbgmgnjkkfgaaDoor
open Go.RowKit

/-- What CodeOk answers. -/
def codeM (ops : List Wd) : Bool := decide (1 ≤ ops.length ∧ ops.length ≤ 200) && (ops.all (fun op => fitsM op ops.length) && runQ ops ops.length (startQ ops))
theorem codeM_len (ops : List Wd) (h : ¬ (1 ≤ ops.length ∧ ops.length ≤ 200)) : codeM ops = false := by
  unfold codeM
  rw [decide_eq_false h]
  rfl
theorem codeM_bad (ops : List Wd) (k : Nat) (hk : k < ops.length) (h : fitsM ops[k] ops.length = false) : codeM ops = false := by
  unfold codeM
  have : (ops.all fun op => fitsM op ops.length) = false := by
    rw [List.all_eq_false]
    exact ⟨_, List.getElem_mem hk, by rw [h]; simp⟩
  rw [this]
  simp
theorem codeM_fit (ops : List Wd) (hl : 1 ≤ ops.length ∧ ops.length ≤ 200) (h : ∀ k (hk : k < ops.length), fitsM ops[k] ops.length = true) : codeM ops = runQ ops ops.length (startQ ops) := by
  unfold codeM
  have : (ops.all fun op => fitsM op ops.length) = true := by
    rw [List.all_eq_true]
    intro x hx
    obtain ⟨k, hk, rfl⟩ := List.getElem_of_mem hx
    exact h k hk
  rw [this, decide_eq_true hl]
  simp
theorem getD_at (ops : List Wd) (k : Nat) (hk : k < ops.length) : ops.getD k op0 = ops[k] := by
  rw [List.getD_eq_getElem?_getD, List.getElem?_eq_getElem hk]
  rfl

set_option maxRecDepth 100000 in
set_option maxHeartbeats 4000000 in
theorem impl_CodeOk (ops : List Wd) (hn : ops.length ≤ 1048576) (w : World) (v : Value) (hv : Words w (· < w.heap.size) ops v) :
    Calls Tryd.prog 16 #[v] w fun r w' => r = .returned (.bool (codeM ops)) ∧ Below w.heap.size w w' := by
  obtain ⟨a, cap, rfl⟩ := hv.slice
  by_cases hl1 : ops.length < 1
  · rw [codeM_len ops (by omega)]
    have h0 : ops.length = 0 := by omega
    have h1 : (ops.length : Int) < 1 := by omega
    clear hv h0
    go_enter Tryd.func16, Tryd.ntmps16
    go_wp2_with fail
    go_ret
    exact ⟨rfl, Below.refl _ _⟩
  by_cases hl2 : 200 < ops.length
  · rw [codeM_len ops (by omega)]
    have h1 : ¬ (ops.length : Int) < 1 := by omega
    have h2 : (200 : Int) < ops.length := by omega
    clear hv
    go_enter Tryd.func16, Tryd.ntmps16
    go_wp2_with fail
    go_ret
    exact ⟨rfl, Below.refl _ _⟩
  have h1 : ¬ (ops.length : Int) < 1 := by omega
  have h2 : ¬ (200 : Int) < ops.length := by omega
  have hl : 1 ≤ ops.length ∧ ops.length ≤ 200 := by omega
  have hV : Hid (Words w (· < w.heap.size) ops (.slice a ops.length cap)) := hv
  have hat := fun i hi => hv.at i hi
  have hat' : Hid (∀ i (hi : i < ops.length), ∃ b off, b < w.heap.size ∧ a = some ⟨b, off, none⟩ ∧ w.rangeAt b (off + i * 2) (Wd.cells ops[i])) := hat
  clear hv hat
  generalize hR : codeM ops = R
  go_enter Tryd.func16, Tryd.ntmps16
  go_wp2_with fail
  go_loopg [15] ops.length (fun k i wr => ∃ j : Nat, j + k = ops.length ∧ i = .int .i64 (j : Int) ∧ Hid (∀ m (hm : m < ops.length), m < j → fitsM ops[m] ops.length = true) ∧ Below w.heap.size w wr)
  case atStart => exact ⟨0, by omega, rfl, (fun m hm h => absurd h (by omega)), Below.refl _ _⟩
  case round =>
    obtain ⟨j, hj, rfl, hall, hb⟩ := hrel
    by_cases hlt : j < ops.length
    · obtain ⟨b, off, hbl, rfl, hr⟩ := hat'.out j hlt
      obtain ⟨d0, d1⟩ := Wd.two (rw_same (hb.block b hbl) hr)
      have hki : (j : Int) < (ops.length : Int) := by omega
      have hbw : b < wr.heap.size := by have := hb.size; omega
      have hF := fun w => law_numFits ops[j] (ops.length : Int) w (by omega)
      have hwj : IntKind.i64.wrap ((j : Int) + 1) = (j : Int) + 1 := ck_wr _ (by omega) (by omega)
      cases hfj : fitsM ops[j] ops.length
      · obtain rfl : R = false := hR.symm.trans (codeM_bad ops j hlt hfj)
        clear hR
        rw [hfj] at hF
        generalize ops[j] = op at d0 d1 hF
        go_wp2_with (go_at_call 24; refine (hF _).mono ?_; rintro r w5 ⟨rfl, hb5⟩)
        go_ret
        exact ⟨rfl, (hb.alloc hb.size _).trans (hb5.mono (by have := hb.size; simp; omega))⟩
      · rw [hfj] at hF
        have hall2 : Hid (∀ m (hm : m < ops.length), m < j + 1 → fitsM ops[m] ops.length = true) := fun m hm h => by
          by_cases e : m = j
          · subst e; exact hfj
          · exact hall.out m hm (by omega)
        clear hfj
        generalize ops[j] = op at d0 d1 hF
        go_wp2_with (go_at_call 24; refine (hF _).mono ?_; rintro r w5 ⟨rfl, hb5⟩)
        go_roundg (ops.length - (j + 1))
        case measure => omega
        case rel => exact ⟨j + 1, by omega, by go_num, hall2, (hb.alloc hb.size _).trans (hb5.mono (by have := hb.size; simp; omega))⟩
    · obtain rfl : j = ops.length := by omega
      have hki : ¬ (ops.length : Int) < (ops.length : Int) := by omega
      have hRR : R = runQ ops ops.length (startQ ops) := hR.symm.trans (codeM_fit ops hl (fun k hk => hall.out k hk hk))
      clear hR
      have hff : ∀ k, k < ops.length → fitsM (ops.getD k op0) ops.length = true := fun k hk => by rw [getD_at ops k hk]; exact hall.out k hk hk
      have hS := impl_standsFit ops hl hff wr (.slice a ops.length cap) (hV.out.keep hb hb.size)
      rw [← hRR] at hS
      clear hff hRR
      go_wp2_with (go_at_call 25; refine hS.mono ?_; rintro r w5 ⟨rfl, hb5⟩)
      go_ret
      exact ⟨rfl, hb.trans (hb5.mono hb.size)⟩
end Go.Proofs.YtlkbgmgnjkkfgaaDoor

namespace Go.Proofs.YtlkbgmgnjkkfgaaDoor
open Go.RowKit

theorem ck_l1In (x lo hi : Int) (w : World) : Calls Tryd.prog 21 #[.int .i64 x, .int .i64 lo, .int .i64 hi] w fun r w' => r = .returned (.bool (decide (lo ≤ x ∧ x ≤ hi))) ∧ w = w' := by
  by_cases h1 : lo ≤ x
  · rw [show decide (lo ≤ x ∧ x ≤ hi) = decide (x ≤ hi) from by simp [h1]]
    go_enter Tryd.func21, Tryd.ntmps21
    go_wp2_with fail
    go_ret
    exact ⟨rfl, rfl⟩
  · rw [decide_eq_false (fun h => h1 h.1)]
    go_enter Tryd.func21, Tryd.ntmps21
    go_wp2_with fail
    go_ret
    exact ⟨rfl, rfl⟩
theorem fits_some (k n size lo hi : Int) (hk : 1 ≤ k ∧ k ≤ 24) (h1 : leastM k = lo) (h2 : mostM k size = hi) : fitsM ⟨k, n⟩ size = (decide (lo ≤ n) && decide (n ≤ hi)) := by
  unfold fitsM
  show decide (1 ≤ k ∧ k ≤ 24 ∧ leastM k ≤ n ∧ n ≤ mostM k size) = _
  rw [h1, h2]
  simp [hk]
set_option maxHeartbeats 4000000 in
theorem spec_l6Fits (op : Wd) (size : Int) (hz : 1 ≤ size ∧ size ≤ 1048576) (w : World) :
    Calls Tryd.prog 20 #[.agg #[.int .i64 op.tag, .int .i64 op.num], .int .i64 size] w fun r w' => r = .returned (.bool (fitsM op size)) ∧ Below w.heap.size w w' := by
  obtain ⟨k, n⟩ := op
  have wr : IntKind.i64.wrap (size - 1) = size - 1 := ck_wr _ (by omega) (by omega)
  have hc : (k = 1 ∨ k = 2 ∨ k = 3 ∨ k = 4 ∨ k = 5 ∨ k = 9 ∨ k = 10 ∨ k = 16 ∨ k = 8 ∨ k = 17) ∨ ¬ (k = 1 ∨ k = 2 ∨ k = 3 ∨ k = 4 ∨ k = 5 ∨ k = 9 ∨ k = 10 ∨ k = 16 ∨ k = 8 ∨ k = 17) := Decidable.em _
  rcases hc with (rfl | rfl | rfl | rfl | rfl | rfl | rfl | rfl | rfl | rfl) | h
  case inr =>
    have n1 : k ≠ 1 := by omega
    have n2 : k ≠ 2 := by omega
    have n3 : k ≠ 3 := by omega
    have n4 : k ≠ 4 := by omega
    have n5 : k ≠ 5 := by omega
    have n9 : k ≠ 9 := by omega
    have n10 : k ≠ 10 := by omega
    have n16 : k ≠ 16 := by omega
    have n8 : k ≠ 8 := by omega
    have n17 : k ≠ 17 := by omega
    clear h
    by_cases hk : 1 ≤ k ∧ k ≤ 24
    · have hl : leastM k = 0 := by
        unfold leastM
        rw [if_neg (by omega), if_neg (by omega)]
      have hm : mostM k size = 0 := by
        unfold mostM
        rw [if_neg (by omega), if_neg (by omega), if_neg (by omega), if_neg (by omega), if_neg (by omega), if_neg (by omega)]
      have hI := fun w => ck_l1In k 1 24 w
      rw [decide_eq_true hk] at hI
      rw [fits_some k n size 0 0 hk hl hm]
      have hR : Hid ((decide ((0 : Int) ≤ n) && decide (n ≤ 0)) = (n == 0)) := by
        show _ = _
        by_cases e : n = 0
        · subst e; rfl
        · rw [← Bool.decide_and, decide_eq_false (by omega)]
          symm
          simpa using e
      clear hl hm hk
      go_enter Tryd.func20, Tryd.ntmps20
      go_wp2_with (go_at_call 21; refine (hI _).mono ?_; rintro r w2 ⟨rfl, rfl⟩)
      go_ret
      exact ⟨by rw [hR.out]; rfl, (Below.refl _ _).alloc (Nat.le_refl _) _⟩
    · have hI := fun w => ck_l1In k 1 24 w
      rw [decide_eq_false hk] at hI
      rw [show fitsM ⟨k, n⟩ size = false from by unfold fitsM; rw [decide_eq_false (fun h => hk ⟨h.1, h.2.1⟩)]]
      clear hk
      go_enter Tryd.func20, Tryd.ntmps20
      go_wp2_with (go_at_call 21; refine (hI _).mono ?_; rintro r w2 ⟨rfl, rfl⟩)
      go_ret
      exact ⟨rfl, (Below.refl _ _).alloc (Nat.le_refl _) _⟩
  all_goals
    rw [fits_some _ n size _ _ (by omega) rfl rfl]
    go_enter Tryd.func20, Tryd.ntmps20
    go_wp2_with (go_at_call 21; refine (ck_l1In _ _ _ _).mono ?_; rintro r w2 ⟨rfl, rfl⟩)
    go_ret
    exact ⟨rfl, (Below.refl _ _).alloc (Nat.le_refl _) _⟩
/-- How many names come or go. -/
def movesM (op : Wd) : Int := if op.tag = 7 then 1 else if op.tag = 8 then -op.num else 0
set_option maxHeartbeats 4000000 in
theorem spec_l6Moves (op : Wd) (hk : 1 ≤ op.tag ∧ op.tag ≤ 24) (hn : 0 ≤ op.num ∧ op.num ≤ 1048576) (w : World) :
    Calls Tryd.prog 29 #[.agg #[.int .i64 op.tag, .int .i64 op.num]] w fun r w' => r = .returned (.tuple #[.int .i64 (takesM op.tag), .int .i64 (putsM op.tag), .int .i64 (movesM op)]) ∧ Below w.heap.size w w' := by
  obtain ⟨k, n⟩ := op
  simp only at hk hn ⊢
  have wr : IntKind.i64.wrap (-n) = -n := ck_wr _ (by omega) (by omega)
  rcases code_cases k hk with (rfl | rfl | rfl | rfl | rfl | rfl | rfl | rfl | rfl | rfl | rfl | rfl | rfl | rfl | rfl | rfl | rfl | rfl | rfl | rfl | rfl | rfl | rfl | rfl)
  case inr.inr.inr.inr.inr.inr.inr.inl =>
    go_enter Tryd.func29, Tryd.ntmps29
    go_wp2_with fail
    go_quiet (fail)
    go_wp2_with fail
    have hM : Below w.heap.size w (w.alloc (.cells #[.int .i64 8, .int .i64 n] 37)) := (Below.refl _ _).alloc (Nat.le_refl _) _
    exact bodyPost_ret (v := .tuple #[.int .i64 (takesM 8), .int .i64 (putsM 8), .int .i64 (movesM ⟨8, n⟩)]) (by simp [results, Tryd.results29, go_sem, takesM, putsM, movesM]) rfl ⟨rfl, ⟨hM.os, hM.tape, hM.output, hM.size, hM.block⟩⟩
  all_goals
    go_enter Tryd.func29, Tryd.ntmps29
    go_wp2_with fail
    exact bodyPost_ret (v := .tuple #[.int .i64 (takesM _), .int .i64 (putsM _), .int .i64 (movesM ⟨_, n⟩)]) (by simp [results, Tryd.results29, go_sem, takesM, putsM, movesM]) rfl ⟨rfl, (Below.refl _ _).alloc (Nat.le_refl _) _⟩
end Go.Proofs.YtlkbgmgnjkkfgaaDoor

namespace Go.Proofs.YtlkbgmgnjkkfgaaDoor
open Go.RowKit

def stateV : Option Sd → List Value
  | some s => [.int .i64 s.n, .int .i64 s.v, .bool true]
  | none => [.int .i64 0, .int .i64 0, .bool false]
theorem stateV_len : ∀ o, (stateV o).length = 3
  | some _ => rfl
  | none => rfl
/-- The specification's check, in memory. -/
structure SW (w : World) (B g : Nat) (ops : List Wd) (vl : Value) (C : Tb × Bool) (vt : Value) : Prop where
  hB : B ≤ g
  blk : w.heap[g]? = some (.cells #[vl, vt, .bool C.2] 51)
  list : Words w (· < B) ops vl
  tab : w.ownsRow B 54 3 vt C.1.length (C.1.flatMap stateV)
  tg : vt.ownBlock ≠ some g
/-- What may have turned. -/
structure Sm (w w' : World) (g : Nat) (vt : Value) : Prop where
  os : w'.os = w.os
  tape : w'.tape = w.tape
  output : w'.output = w.output
  size : w.heap.size ≤ w'.heap.size
  block : ∀ k, k < w.heap.size → k ≠ g → some k ≠ vt.ownBlock → w'.heap[k]? = w.heap[k]?
section
variable {w w' w2 : World} {B g : Nat} {ops : List Wd} {vl : Value} {C : Tb × Bool} {vt : Value}
theorem SW.lt (h : SW w B g ops vl C vt) : g < w.heap.size := (Array.getElem?_eq_some_iff.1 h.blk).1
theorem SW.same (h : SW w B g ops vl C vt) (hs : ∀ k, k < w.heap.size → (k = g ∨ k < B ∨ some k = vt.ownBlock) → w'.heap[k]? = w.heap[k]?) : SW w' B g ops vl C vt := by
  refine ⟨h.hB, by rw [hs g h.lt (Or.inl rfl)]; exact h.blk, ?_, ?_, h.tg⟩
  · exact h.list.same fun k hk => ⟨hs k (by have := h.hB; have := h.lt; omega) (Or.inr (Or.inl hk)), hk⟩
  · obtain ⟨h1, ⟨h2, h3⟩ | ⟨b, cap, cur, rfl, hb, hh, r⟩⟩ := h.tab
    · exact ⟨h1, Or.inl ⟨h2, h3⟩⟩
    · exact ⟨h1, Or.inr ⟨b, cap, cur, rfl, hb, by rw [hs b (Array.getElem?_eq_some_iff.1 hh).1 (Or.inr (Or.inr rfl))]; exact hh, r⟩⟩
theorem SW.keep (h : SW w B g ops vl C vt) (hb : Below w.heap.size w w') : SW w' B g ops vl C vt := h.same fun k hk _ => hb.block k hk
theorem Sm.refl (w : World) (g : Nat) (vt : Value) : Sm w w g vt := ⟨rfl, rfl, rfl, Nat.le_refl _, fun _ _ _ _ => rfl⟩
theorem Sm.ofBelow (h : Below w.heap.size w w') : Sm w w' g vt := ⟨h.os, h.tape, h.output, h.size, fun k hk _ _ => h.block k hk⟩
theorem Sm.trans (h : Sm w w' g vt) (k : Sm w' w2 g vt) : Sm w w2 g vt :=
  ⟨k.os.trans h.os, k.tape.trans h.tape, k.output.trans h.output, Nat.le_trans h.size k.size, fun i hi h1 h2 => (k.block i (Nat.lt_of_lt_of_le hi h.size) h1 h2).trans (h.block i hi h1 h2)⟩
theorem SW.below (h : SW w B g ops vl C vt) (hm : Sm w w' g vt) : Below B w w' := by
  have := h.hB
  have := h.lt
  refine ⟨hm.os, hm.tape, hm.output, hm.size, fun k hk => hm.block k (by omega) (by omega) (fun e => ?_)⟩
  have := (h.tab.lt k e.symm).1; omega
theorem SW.cells (h : SW w B g ops vl C vt) : w.cell? ⟨g, 0, none⟩ = some vl ∧ w.cell? ⟨g, 1, none⟩ = some vt ∧ w.cell? ⟨g, 2, none⟩ = some (.bool C.2) ∧ w.frozen? ⟨g, 2, none⟩ = false := by
  have hb := h.blk
  refine ⟨?_, ?_, ?_, ?_⟩
  · rw [cell_of_row _ _ _ _ _ _ hb]; rfl
  · rw [cell_of_row _ _ _ _ _ _ hb]; rfl
  · rw [cell_of_row _ _ _ _ _ _ hb]; rfl
  · unfold World.frozen?; rw [hb]; simp
theorem SW.at (h : SW w B g ops vl C vt) {i : Nat} (hi : i < C.1.length) : ∃ tb cap, vt = .slice (some ⟨tb, 0, none⟩) C.1.length cap ∧ B ≤ tb ∧ tb < w.heap.size ∧ tb ≠ g ∧ w.rangeAt tb (i * 3) (stateV C.1[i]) ∧ ∀ o, w.frozen? ⟨tb, o, none⟩ = false := by
  have hO := h.tab
  obtain ⟨h1, ⟨h2, h3⟩ | ⟨b, cap, cur, e, hb, hh, r⟩⟩ := hO
  · omega
  · subst e
    refine ⟨b, cap, rfl, hb, (Array.getElem?_eq_some_iff.1 hh).1, fun e => h.tg (by rw [e]; rfl), fun j u hj => ?_, fun o => ?_⟩
    · have := h.tab.cells (g := b) rfl (i * 3 + j) u (ow_flat_get stateV_len C.1 i j _ u (List.getElem?_eq_getElem hi) hj)
      rw [Addr.add_mid] at this
      simpa using this
    · unfold World.frozen?; rw [hh]; simp
theorem SW.put (h : SW w B g ops vl C vt) {p tb cap n : Nat} (s : Sd) (hv : vt = .slice (some ⟨tb, 0, none⟩) n cap) (hp : p < C.1.length) :
    SW (w.setCells tb (p * 3) (stateV (some s))) B g ops vl (C.1.set p (some s), C.2) vt ∧ Sm w (w.setCells tb (p * 3) (stateV (some s))) g vt := by
  subst hv
  have hn : n = C.1.length := by
    obtain ⟨h1, ⟨h2, h3⟩ | ⟨b, cap', cur, e, hb, hh, r⟩⟩ := h.tab
    · cases h2
    · simp at e
      omega
  have hk : ∀ k, k ≠ tb → (w.setCells tb (p * 3) (stateV (some s))).heap[k]? = w.heap[k]? := fun k hk => rw_heap_setCells tb _ _ w k hk
  have htg : tb ≠ g := fun e => h.tg (by rw [e]; rfl)
  have hBt := (h.tab.lt tb rfl).1
  have hz := rw_size_setCells tb (stateV (some s)) (p * 3) w
  have hb0 := rw_below_setCells (B := 0) (b := tb) (Nat.zero_le _) (stateV (some s)) (p * 3) w (Below.refl _ _)
  refine ⟨⟨h.hB, by rw [hk g (Ne.symm htg)]; exact h.blk, h.list.same fun k hlt => ⟨hk k (by omega), hlt⟩, ?_, h.tg⟩, ⟨hb0.os, hb0.tape, hb0.output, by omega, fun k _ _ h2 => hk k (fun e => h2 (by rw [e]; rfl))⟩⟩
  have h1 := h.tab
  rw [hn] at h1
  have h2 := ow_setCells (stateV (some s)) (p * 3) w _ h1
  rw [flat_set stateV_len (some s) C.1 p hp] at h2
  show World.ownsRow _ B _ 3 _ (C.1.set p (some s)).length ((C.1.set p (some s)).flatMap stateV)
  rw [List.length_set, hn]
  exact h2
theorem SW.fell (h : SW w B g ops vl C vt) (b : Bool) : SW (w.setCell ⟨g, 2, none⟩ (.bool b)) B g ops vl (C.1, b) vt ∧ Sm w (w.setCell ⟨g, 2, none⟩ (.bool b)) g vt := by
  have hk : ∀ k, k ≠ g → (w.setCell ⟨g, 2, none⟩ (.bool b)).heap[k]? = w.heap[k]? := fun k hk => Below.heap_setCell _ _ _ _ hk
  have hz : (w.setCell ⟨g, 2, none⟩ (.bool b)).heap.size = w.heap.size := by simp [World.setCell]
  have hB := h.hB
  have hgl := h.lt
  refine ⟨⟨h.hB, ?_, h.list.same fun k hlt => ⟨hk k (by omega), hlt⟩, ?_, h.tg⟩, ⟨rfl, rfl, rfl, by omega, fun k _ h1 _ => hk k h1⟩⟩
  · unfold World.setCell
    simp only [Array.getElem?_modify]
    rw [h.blk]
    simp
  · obtain ⟨h1, ⟨h2, h3⟩ | ⟨b', cap, cur, rfl, hb, hh, r⟩⟩ := h.tab
    · exact ⟨h1, Or.inl ⟨h2, h3⟩⟩
    · refine ⟨h1, Or.inr ⟨b', cap, cur, rfl, hb, ?_, r⟩⟩
      rw [hk b' (fun e => h.tg (by rw [← e]; rfl))]
      exact hh
end
/-- Something is come to. -/
def comeM (C : Tb × Bool) (x : Nat × Sd) : Tb × Bool :=
  if C.1.length ≤ x.1 ∨ x.2.n < 0 ∨ x.2.v < 0 then (C.1, true)
  else match C.1.getD x.1 none with
    | some s => if s = x.2 then (C.1, C.2) else (C.1, true)
    | none => (C.1.set x.1 (some x.2), C.2)
end Go.Proofs.YtlkbgmgnjkkfgaaDoor

