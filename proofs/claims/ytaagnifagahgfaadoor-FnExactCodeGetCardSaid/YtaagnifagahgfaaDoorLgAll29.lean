/-
  What is written as code is read as it, by the one and the other.
  The specification's l1In, l6Fits, l6Moves.
-/
import Derived.Test.YtaagnifagahgfaaDoorLsFind
import Derived.Test.YtaagnifagahgfaaDoorLnGetB
import Derived.Test.YtaagnifagahgfaaDoorCkDeed
import Derived.Deep.QuietTactic
import Derived.BigQuiet
namespace Go.Proofs.YtaagnifagahgfaaDoor
open Go.RowKit

/-- How the specification reads a line. -/
structure Reads (line : List UInt8) (op : Wd) : Prop where
  kind : 1 ≤ op.tag ∧ op.tag ≤ 24
  cut : (hasM op.tag = false ∧ cutG 32 2 line = [codeB op.tag] ∧ op.num = 0) ∨ (hasM op.tag = true ∧ ∃ d, cutG 32 2 line = [codeB op.tag, d] ∧ op.num = numM d)
theorem tab_inj : ∀ i, i < 24 → ∀ j, j < 24 → codeTab.getD i [] = codeTab.getD j [] → i = j := by decide
theorem codeB_inj {a b : Int} (ha : 1 ≤ a ∧ a ≤ 24) (hb : 1 ≤ b ∧ b ≤ 24) (h : codeB a = codeB b) : a = b := by
  have := tab_inj (a.toNat - 1) (by omega) (b.toNat - 1) (by omega) h
  omega
theorem reads_unique {line : List UInt8} {a b : Wd} (ha : Reads line a) (hb : Reads line b) : a = b := by
  obtain ⟨ka, ca⟩ := ha
  obtain ⟨kb, cb⟩ := hb
  obtain ⟨ta, na⟩ := a
  obtain ⟨tb, nb⟩ := b
  simp only at *
  rcases ca with ⟨h1, h2, h3⟩ | ⟨h1, d, h2, h3⟩
  · rcases cb with ⟨g1, g2, g3⟩ | ⟨g1, e, g2, g3⟩
    · rw [h2] at g2
      have := codeB_inj ka kb (by simpa using g2)
      rw [this, h3, g3]
    · rw [h2] at g2
      simp at g2
  · rcases cb with ⟨g1, g2, g3⟩ | ⟨g1, e, g2, g3⟩
    · rw [h2] at g2
      simp at g2
    · rw [h2] at g2
      simp at g2
      have := codeB_inj ka kb g2.1
      rw [this, h3, g3, g2.2]
/-- An op as it may stand in code. -/
structure OpFit (op : Wd) : Prop where
  kind : 1 ≤ op.tag ∧ op.tag ≤ 24
  num : 0 ≤ op.num ∧ op.num ≤ 999999
  none : hasM op.tag = false → op.num = 0
theorem codeM_fit' {ops : List Wd} (h : codeM ops = true) : (1 ≤ ops.length ∧ ops.length ≤ 200) ∧ ∀ x ∈ ops, OpFit x := by
  unfold codeM at h
  rw [Bool.and_eq_true, Bool.and_eq_true, List.all_eq_true] at h
  have hl := of_decide_eq_true h.1
  refine ⟨hl, fun x hx => ?_⟩
  obtain ⟨h1, h2, h3, h4⟩ := of_decide_eq_true (h.2.1 x hx)
  unfold leastM at h3
  unfold mostM at h4
  refine ⟨⟨h1, h2⟩, ⟨?_, ?_⟩, fun hm => ?_⟩
  · split at h3
    · omega
    · split at h3 <;> omega
  · repeat' split at h4
    all_goals omega
  · have hn := of_decide_eq_false hm
    repeat' split at h4
    all_goals (split at h3 <;> omega)
/-- A line without its newline. -/
def wordL (op : Wd) : List UInt8 := codeB op.tag ++ numT op
theorem opT_word (op : Wd) : opT op = wordL op ++ [10] := rfl
theorem tab_bytes : ∀ x ∈ codeTab, (10 : UInt8) ∉ x ∧ (32 : UInt8) ∉ x := by decide
theorem codeB_bytes (k : Int) : (10 : UInt8) ∉ codeB k ∧ (32 : UInt8) ∉ codeB k := by
  unfold codeB
  rw [List.getD_eq_getElem?_getD]
  cases hc : codeTab[k.toNat - 1]? with
  | none => simp
  | some x => exact tab_bytes x (List.mem_of_getElem? hc)
theorem itoa_nat {n : Int} (h : 0 ≤ n) : Lib.itoa n = Lib.decDigits n.toNat := by
  rw [← Lib.itoa_nonneg, Int.toNat_of_nonneg h]
theorem word_bytes {op : Wd} (h : OpFit op) : (10 : UInt8) ∉ wordL op := by
  obtain ⟨h1, h2⟩ := codeB_bytes op.tag
  unfold wordL numT
  rw [itoa_nat h.num.1]
  obtain ⟨_, _, h3, _⟩ := num_dec op.num.toNat (by have := h.num; omega)
  rw [List.mem_append]
  rintro (hm | hm)
  · exact h1 hm
  · split at hm
    · rcases List.mem_append.1 hm with hm | hm
      · simp at hm
      · exact h3 hm
    · simp at hm
theorem reads_own {op : Wd} (h : OpFit op) : Reads (wordL op) op := by
  obtain ⟨_, h2⟩ := codeB_bytes op.tag
  obtain ⟨h5, _, _, h6⟩ := num_dec op.num.toNat (by have := h.num; omega)
  refine ⟨h.kind, ?_⟩
  unfold wordL numT
  cases hm : hasM op.tag with
  | false =>
    left
    refine ⟨rfl, ?_, h.none hm⟩
    rw [if_neg (by simp), List.append_nil, cutG_none h2]
  | true =>
    right
    refine ⟨rfl, Lib.itoa op.num, ?_, ?_⟩
    · rw [if_pos rfl]
      show cutG 32 2 (codeB op.tag ++ 32 :: Lib.itoa op.num) = _
      rw [cutG_hit _ h2, itoa_nat h.num.1, cutG_none h6]
    · rw [itoa_nat h.num.1, h5]
      have := h.num.1
      omega
/-! ### The program's reading -/
theorem trim_word (l : List UInt8) : Lib.trimSuffix (l ++ [10]) [10] = l := by
  unfold Lib.trimSuffix
  have : Lib.hasSuffix (l ++ [10]) [10] = true := by
    unfold Lib.hasSuffix
    rw [List.isSuffixOf_iff_suffix]
    exact ⟨l, rfl⟩
  rw [if_pos this]
  simp
theorem pre_blank (c : UInt8) (l : List UInt8) : ([32] : List UInt8).isPrefixOf (c :: l) = (32 == c) := by
  simp [List.isPrefixOf]
theorem cut_blank : ∀ (p q : List UInt8), (32 : UInt8) ∉ p → Lib.index (p ++ 32 :: q) [32] = (p.length : Int)
  | [], q, _ => by
    rw [List.nil_append, Lib.index, pre_blank]
    rfl
  | c :: p, q, h => by
    have h1 : ¬ ((32 == c) = true) := by
      intro e
      exact h (by rw [beq_iff_eq] at e; rw [e]; simp)
    have h2 := cut_blank p q (fun e => h (by simp [e]))
    rw [List.cons_append, Lib.index, pre_blank, if_neg h1, h2, if_neg (by rw [beq_iff_eq]; omega), List.length_cons]
    omega
theorem no_blank : ∀ (p : List UInt8), (32 : UInt8) ∉ p → Lib.index p [32] = -1
  | [], _ => rfl
  | c :: p, h => by
    have h1 : ¬ ((32 == c) = true) := by
      intro e
      exact h (by rw [beq_iff_eq] at e; rw [e]; simp)
    rw [Lib.index, pre_blank, if_neg h1, no_blank p (fun e => h (by simp [e]))]
    rfl
theorem kind_own : ∀ j, j < 24 → kindAt (codeTab.getD j []) 24 = (j : Int) + 1 := by decide
theorem line_own {op : Wd} (h : OpFit op) : lineOpM (opT op) = op := by
  obtain ⟨tg, nm⟩ := op
  have hk : 1 ≤ tg ∧ tg ≤ 24 := h.kind
  obtain ⟨_, h2⟩ := codeB_bytes tg
  obtain ⟨_, h5, _, h6⟩ := num_dec nm.toNat (by have := h.num; simp only at this; omega)
  have hn0 : 0 ≤ nm := h.num.1
  have hkind : kindAt (codeB tg) 24 = tg := by
    have := kind_own (tg.toNat - 1) (by omega)
    unfold codeB
    rw [this]
    omega
  unfold lineOpM
  rw [opT_word, trim_word]
  unfold wordL numT
  cases hm : hasM tg with
  | false =>
    have hz : nm = 0 := h.none hm
    simp only
    rw [if_neg (by simp), List.append_nil]
    have e : Lib.cut (codeB tg) [32] = (codeB tg, [], false) := by
      unfold Lib.cut
      rw [no_blank _ h2, if_neg (by decide)]
    rw [e]
    show (⟨kindAt (codeB tg) 24, _⟩ : Wd) = _
    rw [hkind, hz]
    rfl
  | true =>
    simp only
    rw [if_pos trivial]
    have e : Lib.cut (codeB tg ++ ([32] ++ Lib.itoa nm)) [32] = (codeB tg, Lib.itoa nm, true) := by
      have ei : Lib.index (codeB tg ++ ([32] ++ Lib.itoa nm)) [32] = ((codeB tg).length : Int) := cut_blank _ (Lib.itoa nm) h2
      unfold Lib.cut
      rw [ei, if_pos (Int.natCast_nonneg _), Int.toNat_natCast]
      simp
    rw [e]
    show (⟨kindAt (codeB tg) 24, if (atoiV (Lib.itoa nm)).2 = true then (atoiV (Lib.itoa nm)).1 else 0⟩ : Wd) = _
    have e2 : atoiV (Lib.itoa nm) = (nm, true) := by
      unfold atoiV
      rw [itoa_nat hn0, h5, Int.toNat_of_nonneg hn0]
    rw [hkind, e2]
    rfl
theorem cutLine_own : ∀ (p q : List UInt8), (10 : UInt8) ∉ p → cutLine (p ++ 10 :: q) = (p ++ [10], q)
  | [], q, _ => rfl
  | c :: p, q, h => by
    rw [List.cons_append, cutLine, if_neg (fun e => h (by simp [e])), cutLine_own p q (fun e => h (by simp [e]))]
    rfl
theorem cut_code {op : Wd} (h : OpFit op) (q : List UInt8) : cutLine (opT op ++ q) = (opT op, q) := by
  rw [opT_word, List.append_assoc]
  exact cutLine_own _ q (word_bytes h)
theorem rest_code : ∀ (ops : List Wd) (k : Nat), (∀ x ∈ ops, OpFit x) → restL k (codeT ops) = codeT (ops.drop k)
  | ops, 0, _ => rfl
  | [], k + 1, _ => by
    show restL (k + 1) [] = _
    rw [rest_nil]
    simp [codeT]
  | op :: ops, k + 1, h => by
    rw [restL]
    show restL k (cutLine (opT op ++ codeT ops)).2 = _
    rw [cut_code (h op (by simp)), rest_code ops k (fun x hx => h x (by simp [hx]))]
    rfl
theorem code_nil {ops : List Wd} (h : codeT ops = []) : ops = [] := by
  cases ops with
  | nil => rfl
  | cons op ops =>
    have := congrArg List.length h
    simp [codeT, opT_word] at this
/-- Code is read back by the program from how it is written. -/
theorem ops_own {ops : List Wd} (h : ∀ x ∈ ops, OpFit x) : opsL (codeT ops) (cntL (codeT ops)) = ops := by
  have hc : cntL (codeT ops) = ops.length := by
    have h1 := lns_end (codeT ops)
    rw [rest_code ops _ h] at h1
    have h2 := code_nil h1
    have h3 : ops.length ≤ cntL (codeT ops) := by
      have := congrArg List.length h2
      simp at this
      omega
    apply Decidable.byContradiction
    intro hn
    refine lns_rest (l := codeT ops) (k := ops.length) (by omega) ?_
    rw [rest_code ops _ h, List.drop_length]
    rfl
  rw [hc]
  apply List.ext_getElem
  · rw [opsL_length]
  · intro i h1 h2
    rw [opsL_length] at h1
    simp only [opsL, List.getElem_map, List.getElem_range]
    unfold lineL
    rw [rest_code ops i h, List.drop_eq_getElem_cons h1]
    show lineOpM (cutLine (opT ops[i] ++ codeT (ops.drop (i + 1)))).1 = _
    rw [cut_code (h _ (List.getElem_mem h1))]
    exact line_own (h _ (List.getElem_mem h1))
/-! ### The specification's reading -/
theorem lines_own : ∀ (op : Wd) (ops : List Wd) (m : Nat), ops.length ≤ m → (∀ x ∈ op :: ops, OpFit x) → cutG 10 m ((codeT (op :: ops)).dropLast) = (op :: ops).map wordL
  | op, [], m, _, h => by
    have e : (codeT [op]).dropLast = wordL op := by simp [codeT, opT_word]
    rw [e, cutG_none (word_bytes (h op (by simp)))]
    rfl
  | op, o2 :: ops, 0, hm, _ => by simp at hm
  | op, o2 :: ops, m + 1, hm, h => by
    have e : (codeT (op :: o2 :: ops)).dropLast = wordL op ++ 10 :: (codeT (o2 :: ops)).dropLast := by
      show (opT op ++ codeT (o2 :: ops)).dropLast = _
      rw [opT_word, List.append_assoc, List.dropLast_append_of_ne_nil (by simp)]
      congr 1
      show (10 :: codeT (o2 :: ops)).dropLast = _
      rw [List.dropLast_cons_of_ne_nil (fun e => by have := code_nil e; cases this)]
    rw [e, cutG_hit _ (word_bytes (h op (by simp))), lines_own o2 ops m (by simp at hm; omega) (fun x hx => h x (by simp [hx]))]
    rfl
end Go.Proofs.YtaagnifagahgfaaDoor

namespace Go.Proofs.YtaagnifagahgfaaDoor
open Go.RowKit

theorem ck_l1In (x lo hi : Int) (w : World) : Calls Tryd.prog 23 #[.int .i64 x, .int .i64 lo, .int .i64 hi] w fun r w' => r = .returned (.bool (decide (lo ≤ x ∧ x ≤ hi))) ∧ w = w' := by
  by_cases h1 : lo ≤ x
  · rw [show decide (lo ≤ x ∧ x ≤ hi) = decide (x ≤ hi) from by simp [h1]]
    go_enter Tryd.func23, Tryd.ntmps23
    go_wp2_with fail
    go_ret
    exact ⟨rfl, rfl⟩
  · rw [decide_eq_false (fun h => h1 h.1)]
    go_enter Tryd.func23, Tryd.ntmps23
    go_wp2_with fail
    go_ret
    exact ⟨rfl, rfl⟩
theorem fits_some (k n size lo hi : Int) (hk : 1 ≤ k ∧ k ≤ 24) (h1 : leastM k = lo) (h2 : mostM k size = hi) : fitsM ⟨k, n⟩ size = (decide (lo ≤ n) && decide (n ≤ hi)) := by
  unfold fitsM
  show decide (1 ≤ k ∧ k ≤ 24 ∧ leastM k ≤ n ∧ n ≤ mostM k size) = _
  rw [h1, h2]
  simp [hk]
set_option maxHeartbeats 4000000 in
theorem spec_l6Fits (op : Wd) (size : Int) (hz : 1 ≤ size ∧ size ≤ 1048576) (w : World) :
    Calls Tryd.prog 22 #[.agg #[.int .i64 op.tag, .int .i64 op.num], .int .i64 size] w fun r w' => r = .returned (.bool (fitsM op size)) ∧ Below w.heap.size w w' := by
  obtain ⟨k, n⟩ := op
  have wr : IntKind.i64.wrap (size - 1) = size - 1 := ck_wr _ (by omega) (by omega)
  have hc : (k = 1 ∨ k = 2 ∨ k = 3 ∨ k = 4 ∨ k = 5 ∨ k = 9 ∨ k = 10 ∨ k = 16 ∨ k = 8 ∨ k = 17) ∨ ¬ (k = 1 ∨ k = 2 ∨ k = 3 ∨ k = 4 ∨ k = 5 ∨ k = 9 ∨ k = 10 ∨ k = 16 ∨ k = 8 ∨ k = 17) := Decidable.em _
  rcases hc with (rfl | rfl | rfl | rfl | rfl | rfl | rfl | rfl | rfl | rfl) | h
  case inr =>
    have n1 : k ≠ 1 := by omega
    have n2 : k ≠ 2 := by omega
    have n3 : k ≠ 3 := by omega
    have n4 : k ≠ 4 := by omega
    have n5 : k ≠ 5 := by omega
    have n9 : k ≠ 9 := by omega
    have n10 : k ≠ 10 := by omega
    have n16 : k ≠ 16 := by omega
    have n8 : k ≠ 8 := by omega
    have n17 : k ≠ 17 := by omega
    clear h
    by_cases hk : 1 ≤ k ∧ k ≤ 24
    · have hl : leastM k = 0 := by
        unfold leastM
        rw [if_neg (by omega), if_neg (by omega)]
      have hm : mostM k size = 0 := by
        unfold mostM
        rw [if_neg (by omega), if_neg (by omega), if_neg (by omega), if_neg (by omega), if_neg (by omega), if_neg (by omega)]
      have hI := fun w => ck_l1In k 1 24 w
      rw [decide_eq_true hk] at hI
      rw [fits_some k n size 0 0 hk hl hm]
      have hR : Hid ((decide ((0 : Int) ≤ n) && decide (n ≤ 0)) = (n == 0)) := by
        show _ = _
        by_cases e : n = 0
        · subst e; rfl
        · rw [← Bool.decide_and, decide_eq_false (by omega)]
          symm
          simpa using e
      clear hl hm hk
      go_enter Tryd.func22, Tryd.ntmps22
      go_wp2_with (go_at_call 23; refine (hI _).mono ?_; rintro r w2 ⟨rfl, rfl⟩)
      go_ret
      exact ⟨by rw [hR.out]; rfl, (Below.refl _ _).alloc (Nat.le_refl _) _⟩
    · have hI := fun w => ck_l1In k 1 24 w
      rw [decide_eq_false hk] at hI
      rw [show fitsM ⟨k, n⟩ size = false from by unfold fitsM; rw [decide_eq_false (fun h => hk ⟨h.1, h.2.1⟩)]]
      clear hk
      go_enter Tryd.func22, Tryd.ntmps22
      go_wp2_with (go_at_call 23; refine (hI _).mono ?_; rintro r w2 ⟨rfl, rfl⟩)
      go_ret
      exact ⟨rfl, (Below.refl _ _).alloc (Nat.le_refl _) _⟩
  all_goals
    rw [fits_some _ n size _ _ (by omega) rfl rfl]
    go_enter Tryd.func22, Tryd.ntmps22
    go_wp2_with (go_at_call 23; refine (ck_l1In _ _ _ _).mono ?_; rintro r w2 ⟨rfl, rfl⟩)
    go_ret
    exact ⟨rfl, (Below.refl _ _).alloc (Nat.le_refl _) _⟩
/-- How many names come or go. -/
def movesM (op : Wd) : Int := if op.tag = 7 then 1 else if op.tag = 8 then -op.num else 0
set_option maxHeartbeats 4000000 in
theorem spec_l6Moves (op : Wd) (hk : 1 ≤ op.tag ∧ op.tag ≤ 24) (hn : 0 ≤ op.num ∧ op.num ≤ 1048576) (w : World) :
    Calls Tryd.prog 38 #[.agg #[.int .i64 op.tag, .int .i64 op.num]] w fun r w' => r = .returned (.tuple #[.int .i64 (takesM op.tag), .int .i64 (putsM op.tag), .int .i64 (movesM op)]) ∧ Below w.heap.size w w' := by
  obtain ⟨k, n⟩ := op
  simp only at hk hn ⊢
  have wr : IntKind.i64.wrap (-n) = -n := ck_wr _ (by omega) (by omega)
  rcases code_cases k hk with (rfl | rfl | rfl | rfl | rfl | rfl | rfl | rfl | rfl | rfl | rfl | rfl | rfl | rfl | rfl | rfl | rfl | rfl | rfl | rfl | rfl | rfl | rfl | rfl)
  case inr.inr.inr.inr.inr.inr.inr.inl =>
    go_enter Tryd.func38, Tryd.ntmps38
    go_wp2_with fail
    go_quiet (fail)
    go_wp2_with fail
    have hM : Below w.heap.size w (w.alloc (.cells #[.int .i64 8, .int .i64 n] 33)) := (Below.refl _ _).alloc (Nat.le_refl _) _
    exact bodyPost_ret (v := .tuple #[.int .i64 (takesM 8), .int .i64 (putsM 8), .int .i64 (movesM ⟨8, n⟩)]) (by simp [results, Tryd.results38, go_sem, takesM, putsM, movesM]) rfl ⟨rfl, ⟨hM.os, hM.tape, hM.output, hM.size, hM.block⟩⟩
  all_goals
    go_enter Tryd.func38, Tryd.ntmps38
    go_wp2_with fail
    exact bodyPost_ret (v := .tuple #[.int .i64 (takesM _), .int .i64 (putsM _), .int .i64 (movesM ⟨_, n⟩)]) (by simp [results, Tryd.results38, go_sem, takesM, putsM, movesM]) rfl ⟨rfl, (Below.refl _ _).alloc (Nat.le_refl _) _⟩
end Go.Proofs.YtaagnifagahgfaaDoor

