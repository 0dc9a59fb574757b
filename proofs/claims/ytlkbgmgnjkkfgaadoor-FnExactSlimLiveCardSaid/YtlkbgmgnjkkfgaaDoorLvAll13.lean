/-
  The program's follow.
  Code that can be run: what stands ahead stays small. Mathematics; no program is named here.
-/
import Derived.Test.YtlkbgmgnjkkfgaaDoorCkFolA
import Derived.Test.YtlkbgmgnjkkfgaaDoorCkFolB
import Derived.Test.YtlkbgmgnjkkfgaaDoorCkFolD
import Derived.Test.YtlkbgmgnjkkfgaaDoorCkFolE
import Derived.Test.YtlkbgmgnjkkfgaaDoorCkMath
import Derived.Laws.MakeOwn
import Derived.Laws.AppendOwn
namespace Go.Proofs.YtlkbgmgnjkkfgaaDoor
open Go.RowKit

theorem leadsQ_one (S : Tq) (x : Nat × Sd) : leadsQ S [x] = leadQ S x := by
  rw [leadsQ]
  cases leadQ S x <;> rfl
theorem leadsQ_two (S : Tq) (x y : Nat × Sd) : leadsQ S [x, y] = match leadQ S x with | none => none | some S' => leadQ S' y := by
  rw [leadsQ]
  cases leadQ S x with
  | none => rfl
  | some S' => exact leadsQ_one S' y
theorem aside_no (op : Wd) (s : Sd) (h : op.tag ≠ 4 ∧ op.tag ≠ 5 ∧ op.tag ≠ 9 ∧ op.tag ≠ 10 ∧ op.tag ≠ 16) : aside op s = [] := by
  unfold aside
  rw [if_neg h.1, if_neg h.2.1, if_neg (by omega)]
theorem aside_way (op : Wd) (s : Sd) (h : op.tag = 9 ∨ op.tag = 10 ∨ op.tag = 16) : aside op s = [(op.num.toNat, ⟨s.n, s.v - takesM op.tag + putsM op.tag⟩)] := by
  unfold aside
  rw [if_neg (by omega), if_neg (by omega), if_pos h]
theorem aside_make (op : Wd) (s : Sd) (h : op.tag = 4 ∨ op.tag = 5) : aside op s = [(op.num.toNat, ⟨s.n + (if op.tag = 5 then 2 else 1), 0⟩)] := by
  unfold aside
  rcases h with h | h
  · rw [if_pos h, if_neg (by omega)]
  · rw [if_neg (by omega), if_pos h, if_pos h]
theorem behind_plain (op : Wd) (s : Sd) (h : op.tag ≠ 7 ∧ op.tag ≠ 8 ∧ op.tag ≠ 16) : behind op s = ⟨s.n, s.v - takesM op.tag + putsM op.tag⟩ := by
  unfold behind
  rw [if_neg h.1, if_neg h.2.1, if_neg h.2.2]
theorem goes_plain (op : Wd) (k : Nat) (s : Sd) (hv : ¬ s.v < takesM op.tag) (h : op.tag ≠ 3 ∧ op.tag ≠ 24 ∧ op.tag ≠ 10) : goes op k s = some (aside op s ++ [(k + 1, behind op s)]) := by
  unfold goes
  rw [if_neg hv, if_neg (by omega), if_neg h.2.1, if_neg h.2.2]
set_option maxHeartbeats 1000000 in
/-- An op that leads on. -/
theorem law_follow (ops : List Wd) (S : Tq) (k : Nat) (s : Sd) (w : World) (B g : Nat) (vl vt vq : Value) (h : CW w B g ops vl S vt vq) (hl : S.1.length = ops.length) (hk : S.1.getD k none = some s) (hkl : k < ops.length) (hlen : ops.length ≤ 200) (hq : S.2.length ≤ 900) (hn : 0 ≤ s.n ∧ s.n ≤ 1000) (hvm : s.v ≤ 1000)
    (hf : fitsM (ops.getD k op0) ops.length = true) :
    Calls Tryd.prog 32 #[.pointer (some ⟨g, 0, none⟩), .int .i64 (k : Int)] w fun r w' => LedR w w' B g ops vl vt vq (followQ ops S k) r := by
  have hf' := of_decide_eq_true hf
  have hT : 1 ≤ (ops.getD k op0).tag ∧ (ops.getD k op0).tag ≤ 24 := ⟨hf'.1, hf'.2.1⟩
  obtain ⟨_, _, hlo, hhi⟩ := hf'
  clear hf
  rw [show followQ ops S k = (match goes (ops.getD k op0) k s with | none => none | some l => leadsQ S l) by rw [followQ, hk]; rfl]
  by_cases hv : s.v < takesM (ops.getD k op0).tag
  · rw [show goes (ops.getD k op0) k s = none by unfold goes; rw [if_pos hv]]
    exact follow_few ops S k s w B g vl vt vq h hl hk hkl hT hv
  have key : ∀ c : Int, (ops.getD k op0).tag = c → deedT (ops.getD k op0).tag = deedT c := fun c e => by rw [e]
  by_cases h3 : (ops.getD k op0).tag = 3
  · by_cases hnu : (ops.getD k op0).num < s.n
    · rw [show goes (ops.getD k op0) k s = some [(k + 1, ⟨s.n, s.v - takesM (ops.getD k op0).tag + putsM (ops.getD k op0).tag⟩)] by
        unfold goes
        rw [if_neg hv, if_neg (by omega), if_neg (by omega), if_neg (by omega), aside_no _ _ (by omega), behind_plain _ _ (by omega)]
        rfl]
      simp only [leadsQ_one]
      exact follow_nameOp ops S k s w B g vl vt vq h hl hk hkl hlen hq hn hvm hT hv (key 3 h3) hnu
    · rw [show goes (ops.getD k op0) k s = none by
        unfold goes
        rw [if_neg hv, if_pos (by omega)]]
      exact follow_nameOp_no ops S k s w B g vl vt vq h hl hk hkl hlen hq hn hvm hT hv (key 3 h3) hnu
  by_cases h24 : (ops.getD k op0).tag = 24
  · by_cases hnu : s.v = 1
    · rw [show goes (ops.getD k op0) k s = some [] by
        unfold goes
        rw [if_neg hv, if_neg (by omega), if_pos h24, if_pos hnu]]
      exact follow_giveOp ops S k s w B g vl vt vq h hl hk hkl hlen hq hn hvm hT hv (key 24 h24) hnu
    · rw [show goes (ops.getD k op0) k s = none by
        unfold goes
        rw [if_neg hv, if_neg (by omega), if_pos h24, if_neg hnu]]
      exact follow_giveOp_no ops S k s w B g vl vt vq h hl hk hkl hlen hq hn hvm hT hv (key 24 h24) hnu
  by_cases h10 : (ops.getD k op0).tag = 10
  · rw [show goes (ops.getD k op0) k s = some [((ops.getD k op0).num.toNat, ⟨s.n, s.v - takesM (ops.getD k op0).tag + putsM (ops.getD k op0).tag⟩)] by
      unfold goes
      rw [if_neg hv, if_neg (by omega), if_neg (by omega), if_pos h10, aside_way _ _ (by omega)]]
    simp only [leadsQ_one]
    have hb : 0 ≤ (ops.getD k op0).num ∧ (ops.getD k op0).num ≤ 1000 := by
      rw [h10] at hlo hhi
      change (0 : Int) ≤ _ at hlo
      change _ ≤ (ops.length : Int) - 1 at hhi
      omega
    exact follow_goOp ops S k s w B g vl vt vq h hl hk hkl hlen hq hn hvm hT hv (key 10 h10) hb
  rw [goes_plain _ _ _ hv ⟨h3, h24, h10⟩]
  have plain : ∀ (_ : (ops.getD k op0).tag ≠ 4 ∧ (ops.getD k op0).tag ≠ 5 ∧ (ops.getD k op0).tag ≠ 9 ∧ (ops.getD k op0).tag ≠ 10 ∧ (ops.getD k op0).tag ≠ 16), (match (some (aside (ops.getD k op0) s ++ [(k + 1, behind (ops.getD k op0) s)]) : Option (List (Nat × Sd))) with | none => none | some l => leadsQ S l) = leadQ S (k + 1, behind (ops.getD k op0) s) := fun hh => by
    rw [aside_no _ _ hh]
    exact leadsQ_one S _
  have two : ∀ x, aside (ops.getD k op0) s = [x] → (match (some (aside (ops.getD k op0) s ++ [(k + 1, behind (ops.getD k op0) s)]) : Option (List (Nat × Sd))) with | none => none | some l => leadsQ S l) = match leadQ S x with | none => none | some S' => leadQ S' (k + 1, behind (ops.getD k op0) s) := fun x e => by
    rw [e]
    exact leadsQ_two S _ _
  by_cases h45 : (ops.getD k op0).tag = 4 ∨ (ops.getD k op0).tag = 5
  · have hb : 0 ≤ (ops.getD k op0).num ∧ (ops.getD k op0).num ≤ 1000 := by
      rcases h45 with e | e <;> (rw [e] at hlo hhi; change (0 : Int) ≤ _ at hlo; change _ ≤ (ops.length : Int) - 1 at hhi; omega)
    have hd : deedT (ops.getD k op0).tag = 73 := by rcases h45 with e | e <;> (rw [e]; rfl)
    rw [two _ (aside_make _ _ h45), behind_plain _ _ (by omega)]
    cases ho : leadQ S ((ops.getD k op0).num.toNat, ⟨s.n + (if (ops.getD k op0).tag = 5 then 2 else 1), 0⟩) with
    | none => exact follow_makeOp_no ops S k s w B g vl vt vq h hl hk hkl hlen hq hn hvm hT hv hd hb h45 ho
    | some S1 => exact follow_makeOp ops S k s w B g vl vt vq h hl hk hkl hlen hq hn hvm hT hv hd hb h45 S1 ho
  by_cases h9 : (ops.getD k op0).tag = 9
  · have hb : 0 ≤ (ops.getD k op0).num ∧ (ops.getD k op0).num ≤ 1000 := by
      rw [h9] at hlo hhi
      change (0 : Int) ≤ _ at hlo
      change _ ≤ (ops.length : Int) - 1 at hhi
      omega
    rw [two _ (aside_way _ _ (by omega)), behind_plain _ _ (by omega)]
    cases ho : leadQ S ((ops.getD k op0).num.toNat, ⟨s.n, s.v - takesM (ops.getD k op0).tag + putsM (ops.getD k op0).tag⟩) with
    | none => exact follow_ifOp_no ops S k s w B g vl vt vq h hl hk hkl hlen hq hn hvm hT hv (key 9 h9) hb ho
    | some S1 => exact follow_ifOp ops S k s w B g vl vt vq h hl hk hkl hlen hq hn hvm hT hv (key 9 h9) hb S1 ho
  by_cases h16 : (ops.getD k op0).tag = 16
  · have hb : 0 ≤ (ops.getD k op0).num ∧ (ops.getD k op0).num ≤ 1000 := by
      rw [h16] at hlo hhi
      change (0 : Int) ≤ _ at hlo
      change _ ≤ (ops.length : Int) - 1 at hhi
      omega
    have hbe : behind (ops.getD k op0) s = ⟨s.n + 2, s.v - takesM (ops.getD k op0).tag + putsM (ops.getD k op0).tag⟩ := by
      unfold behind
      rw [if_neg (by omega), if_neg (by omega), if_pos h16]
    rw [two _ (aside_way _ _ (by omega)), hbe]
    cases ho : leadQ S ((ops.getD k op0).num.toNat, ⟨s.n, s.v - takesM (ops.getD k op0).tag + putsM (ops.getD k op0).tag⟩) with
    | none => exact follow_caseOp_no ops S k s w B g vl vt vq h hl hk hkl hlen hq hn hvm hT hv (key 16 h16) hb ho
    | some S1 => exact follow_caseOp ops S k s w B g vl vt vq h hl hk hkl hlen hq hn hvm hT hv (key 16 h16) hb S1 ho
  rw [plain (by omega)]
  by_cases h7 : (ops.getD k op0).tag = 7
  · rw [show behind (ops.getD k op0) s = ⟨s.n + 1, s.v - takesM (ops.getD k op0).tag + putsM (ops.getD k op0).tag⟩ by
      unfold behind
      rw [if_pos h7]]
    exact follow_bindOp ops S k s w B g vl vt vq h hl hk hkl hlen hq hn hvm hT hv (key 7 h7)
  by_cases h8 : (ops.getD k op0).tag = 8
  · have hb : 1 ≤ (ops.getD k op0).num ∧ (ops.getD k op0).num ≤ 2 := by
      rw [h8] at hlo hhi
      change (1 : Int) ≤ _ at hlo
      change _ ≤ (2 : Int) at hhi
      omega
    rw [show behind (ops.getD k op0) s = ⟨s.n - (ops.getD k op0).num, s.v - takesM (ops.getD k op0).tag + putsM (ops.getD k op0).tag⟩ by
      unfold behind
      rw [if_neg h7, if_pos h8]]
    exact follow_dropOp ops S k s w B g vl vt vq h hl hk hkl hlen hq hn hvm hT hv (key 8 h8) hb
  rw [behind_plain _ _ (by omega)]
  by_cases h12 : (ops.getD k op0).tag = 1 ∨ (ops.getD k op0).tag = 2
  · have hd : deedT (ops.getD k op0).tag = 79 := by rcases h12 with e | e <;> (rw [e]; rfl)
    exact follow_figureOp ops S k s w B g vl vt vq h hl hk hkl hlen hq hn hvm hT hv hd
  by_cases h17 : (ops.getD k op0).tag = 17
  · exact follow_signOp ops S k s w B g vl vt vq h hl hk hkl hlen hq hn hvm hT hv (key 17 h17)
  have hd : deedT (ops.getD k op0).tag = 85 := by
    unfold deedT
    rw [if_neg (by omega), if_neg (by omega), if_neg (by omega), if_neg (by omega), if_neg (by omega), if_neg (by omega), if_neg (by omega), if_neg (by omega), if_neg (by omega), if_neg (by omega), if_neg (by omega), if_neg (by omega)]
  exact follow_workOp ops S k s w B g vl vt vq h hl hk hkl hlen hq hn hvm hT hv hd
end Go.Proofs.YtlkbgmgnjkkfgaaDoor

namespace Go.Proofs.YtlkbgmgnjkkfgaaDoor

def Bd (m : Int) (T : Tb) : Prop := ∀ k s, T.getD k none = some s → 0 ≤ s.n ∧ s.n ≤ 2 * m ∧ s.v ≤ m
theorem Bd.mono {m m' : Int} {T : Tb} (h : Bd m T) (hm : m ≤ m') : Bd m' T := fun k s hk => by
  have := h k s hk
  omega
theorem leadQ_bd {m : Int} {S S' : Tq} {x : Nat × Sd} (h : leadQ S x = some S') (hb : Bd m S.1) (hx : x.2.n ≤ 2 * m ∧ x.2.v ≤ m) : Bd m S'.1 := by
  unfold leadQ at h
  split at h
  · cases h
  · rename_i hnx
    cases hT : S.1.getD x.1 none with
    | some s =>
      rw [hT] at h
      simp only at h
      split at h
      · cases h; exact hb
      · cases h
    | none =>
      rw [hT] at h
      cases h
      intro k s hk
      have hk : (S.1.set x.1 (some x.2)).getD k none = some s := hk
      rw [getD_set (by omega)] at hk
      split at hk
      · cases hk
        omega
      · exact hb k s hk
theorem leadsQ_bd {m : Int} : ∀ (l : List (Nat × Sd)) (S S' : Tq), leadsQ S l = some S' → Bd m S.1 → (∀ x ∈ l, x.2.n ≤ 2 * m ∧ x.2.v ≤ m) → Bd m S'.1
  | [], S, S', h, hb, _ => by cases h; exact hb
  | x :: l, S, S', h, hb, hx => by
    rw [leadsQ] at h
    cases h1 : leadQ S x with
    | none => rw [h1] at h; cases h
    | some S1 =>
      rw [h1] at h
      exact leadsQ_bd l S1 S' h (leadQ_bd h1 hb (hx x (by simp))) (fun y hy => hx y (by simp [hy]))
theorem leadsQ_len : ∀ (l : List (Nat × Sd)) (S S' : Tq), leadsQ S l = some S' → S'.1.length = S.1.length
  | [], S, S', h => by cases h; rfl
  | x :: l, S, S', h => by
    rw [leadsQ] at h
    cases h1 : leadQ S x with
    | none => rw [h1] at h; cases h
    | some S1 =>
      rw [h1] at h
      refine (leadsQ_len l S1 S' h).trans ?_
      unfold leadQ at h1
      split at h1
      · cases h1
      · split at h1
        · split at h1
          · cases h1; rfl
          · cases h1
        · cases h1
          simp
theorem followQ_len {ops : List Wd} {S S' : Tq} {k : Nat} (h : followQ ops S k = some S') : S'.1.length = S.1.length := by
  unfold followQ at h
  cases hg : goes (ops.getD k op0) k ((S.1.getD k none).getD ⟨0, 0⟩) with
  | none => rw [hg] at h; cases h
  | some l => rw [hg] at h; exact leadsQ_len l S S' h
theorem putsM_le (k : Int) : putsM k ≤ 1 ∧ 0 ≤ takesM k := by
  unfold takesM putsM
  constructor
  · split <;> omega
  · split
    · omega
    · split <;> omega
theorem aside_bd (op : Wd) (s : Sd) (x : Nat × Sd) (h : x ∈ aside op s) : x.2.n ≤ s.n + 2 ∧ (x.2.v ≤ s.v + 1 ∨ x.2.v = 0) := by
  have := putsM_le op.tag
  unfold aside at h
  split at h
  · simp at h; subst h; exact ⟨by show s.n + 1 ≤ _; omega, Or.inr rfl⟩
  · split at h
    · simp at h; subst h; exact ⟨Int.le_refl _, Or.inr rfl⟩
    · split at h
      · simp at h; subst h; exact ⟨by show s.n ≤ _; omega, Or.inl (by show s.v - _ + _ ≤ _; omega)⟩
      · simp at h
theorem behind_bd (op : Wd) (s : Sd) (hf : op.tag = 8 → 0 ≤ op.num) : (behind op s).n ≤ s.n + 2 ∧ (behind op s).v ≤ s.v + 1 := by
  have := putsM_le op.tag
  unfold behind
  refine ⟨?_, by show s.v - _ + _ ≤ _; omega⟩
  show (if op.tag = 7 then s.n + 1 else if op.tag = 8 then s.n - op.num else if op.tag = 16 then s.n + 2 else s.n) ≤ _
  split
  · omega
  · split
    · rename_i h; have := hf h; omega
    · split <;> omega
theorem goes_bd (op : Wd) (k : Nat) (s : Sd) (l : List (Nat × Sd)) (h : goes op k s = some l) (hf : op.tag = 8 → 0 ≤ op.num) : ∀ x ∈ l, x.2.n ≤ s.n + 2 ∧ (x.2.v ≤ s.v + 1 ∨ x.2.v = 0) := by
  intro x hx
  unfold goes at h
  split at h
  · cases h
  · split at h
    · cases h
    · split at h
      · split at h
        · cases h; simp at hx
        · cases h
      · split at h
        · cases h; exact aside_bd op s x hx
        · cases h
          rcases List.mem_append.1 hx with hx | hx
          · exact aside_bd op s x hx
          · simp at hx
            subst hx
            have := behind_bd op s hf
            exact ⟨this.1, Or.inl this.2⟩
theorem followQ_bd {m : Int} {ops : List Wd} {S S' : Tq} {k : Nat} {s : Sd} (h : followQ ops S k = some S') (hb : Bd m S.1) (_hm : 0 ≤ m) (hk : S.1.getD k none = some s) (hf : (ops.getD k op0).tag = 8 → 0 ≤ (ops.getD k op0).num) : Bd (m + 1) S'.1 := by
  unfold followQ at h
  rw [hk] at h
  have h : (match goes (ops.getD k op0) k s with | none => none | some l => leadsQ S l) = some S' := h
  cases hg : goes (ops.getD k op0) k s with
  | none => rw [hg] at h; cases h
  | some l =>
    rw [hg] at h
    refine leadsQ_bd l S S' h (hb.mono (by omega)) (fun x hx => ?_)
    have h1 := goes_bd _ _ _ _ hg hf x hx
    have h2 := hb k s hk
    omega
/-- Rows of three zeroes. -/
theorem made3 (a b c : Value) (m : Nat) : (madeCells #[a, b, c] (m * 3)).toList = (List.replicate m [a, b, c]).flatten := by
  induction m with
  | zero => simp [madeCells]
  | succ m ih =>
    have hf : ∀ k : Nat, ((#[a, b, c] : Array Value)[(m * 3 + k) % 3]!) = (#[a, b, c] : Array Value)[k % 3]! := fun k => by rw [Nat.add_comm, Nat.add_mul_mod_self_right]
    simp only [madeCells, Array.toList_map, Array.toList_range] at ih ⊢
    rw [Nat.succ_mul, List.replicate_succ', List.flatten_concat, ← ih, show m * 3 + 3 = m * 3 + 1 + 1 + 1 from rfl, List.range_succ, List.range_succ, List.range_succ]
    simp only [List.map_append, List.append_assoc]
    congr 1
    have e0 := hf 0
    have e1 := hf 1
    have e2 := hf 2
    show [(#[a, b, c] : Array Value)[(m * 3 + 0) % 3]!, (#[a, b, c] : Array Value)[(m * 3 + 1) % 3]!, (#[a, b, c] : Array Value)[(m * 3 + 1 + 1) % 3]!] = [a, b, c]
    rw [e0, e1, show m * 3 + 1 + 1 = m * 3 + 2 from rfl, e2]
    rfl
theorem made3_own (w : World) (a b c : Value) (m B : Nat) (T : TypeId) (hB : B ≤ w.heap.size) (hm : m ≤ 1048576) : (w.alloc (.cells (madeCells #[a, b, c] (m * 3)) T)).ownsRow B T 3 (.slice (some ⟨w.heap.size, 0, none⟩) m m) m (List.replicate m [a, b, c]).flatten := by
  refine ⟨by rw [← made3]; simp [size_madeCells], Or.inr ⟨w.heap.size, m, madeCells #[a, b, c] (m * 3), rfl, hB, heap_alloc_new _ _, Nat.le_refl _, by unfold maxLen; omega, size_madeCells _ _, ?_⟩⟩
  rw [List.take_of_length_le (by simp [size_madeCells]), made3]
end Go.Proofs.YtlkbgmgnjkkfgaaDoor

