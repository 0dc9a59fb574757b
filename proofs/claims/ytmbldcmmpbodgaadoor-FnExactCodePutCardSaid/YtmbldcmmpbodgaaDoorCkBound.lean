/-
  Code that can be run: what stands ahead stays small. Mathematics; no program is named here.
-/
import Derived.Test.YtmbldcmmpbodgaaDoorCkMath
import Derived.Laws.MakeOwn
import Derived.Laws.AppendOwn
namespace Go.Proofs.YtmbldcmmpbodgaaDoor

def Bd (m : Int) (T : Tb) : Prop := ∀ k s, T.getD k none = some s → 0 ≤ s.n ∧ s.n ≤ 2 * m ∧ s.v ≤ m
theorem Bd.mono {m m' : Int} {T : Tb} (h : Bd m T) (hm : m ≤ m') : Bd m' T := fun k s hk => by
  have := h k s hk
  omega
theorem leadQ_bd {m : Int} {S S' : Tq} {x : Nat × Sd} (h : leadQ S x = some S') (hb : Bd m S.1) (hx : x.2.n ≤ 2 * m ∧ x.2.v ≤ m) : Bd m S'.1 := by
  unfold leadQ at h
  split at h
  · cases h
  · rename_i hnx
    cases hT : S.1.getD x.1 none with
    | some s =>
      rw [hT] at h
      simp only at h
      split at h
      · cases h; exact hb
      · cases h
    | none =>
      rw [hT] at h
      cases h
      intro k s hk
      have hk : (S.1.set x.1 (some x.2)).getD k none = some s := hk
      rw [getD_set (by omega)] at hk
      split at hk
      · cases hk
        omega
      · exact hb k s hk
theorem leadsQ_bd {m : Int} : ∀ (l : List (Nat × Sd)) (S S' : Tq), leadsQ S l = some S' → Bd m S.1 → (∀ x ∈ l, x.2.n ≤ 2 * m ∧ x.2.v ≤ m) → Bd m S'.1
  | [], S, S', h, hb, _ => by cases h; exact hb
  | x :: l, S, S', h, hb, hx => by
    rw [leadsQ] at h
    cases h1 : leadQ S x with
    | none => rw [h1] at h; cases h
    | some S1 =>
      rw [h1] at h
      exact leadsQ_bd l S1 S' h (leadQ_bd h1 hb (hx x (by simp))) (fun y hy => hx y (by simp [hy]))
theorem leadsQ_len : ∀ (l : List (Nat × Sd)) (S S' : Tq), leadsQ S l = some S' → S'.1.length = S.1.length
  | [], S, S', h => by cases h; rfl
  | x :: l, S, S', h => by
    rw [leadsQ] at h
    cases h1 : leadQ S x with
    | none => rw [h1] at h; cases h
    | some S1 =>
      rw [h1] at h
      refine (leadsQ_len l S1 S' h).trans ?_
      unfold leadQ at h1
      split at h1
      · cases h1
      · split at h1
        · split at h1
          · cases h1; rfl
          · cases h1
        · cases h1
          simp
theorem followQ_len {ops : List Wd} {S S' : Tq} {k : Nat} (h : followQ ops S k = some S') : S'.1.length = S.1.length := by
  unfold followQ at h
  cases hg : goes (ops.getD k op0) k ((S.1.getD k none).getD ⟨0, 0⟩) with
  | none => rw [hg] at h; cases h
  | some l => rw [hg] at h; exact leadsQ_len l S S' h
theorem putsM_le (k : Int) : putsM k ≤ 1 ∧ 0 ≤ takesM k := by
  unfold takesM putsM
  constructor
  · split <;> omega
  · split
    · omega
    · split <;> omega
theorem aside_bd (op : Wd) (s : Sd) (x : Nat × Sd) (h : x ∈ aside op s) : x.2.n ≤ s.n + 2 ∧ (x.2.v ≤ s.v + 1 ∨ x.2.v = 0) := by
  have := putsM_le op.tag
  unfold aside at h
  split at h
  · simp at h; subst h; exact ⟨by show s.n + 1 ≤ _; omega, Or.inr rfl⟩
  · split at h
    · simp at h; subst h; exact ⟨Int.le_refl _, Or.inr rfl⟩
    · split at h
      · simp at h; subst h; exact ⟨by show s.n ≤ _; omega, Or.inl (by show s.v - _ + _ ≤ _; omega)⟩
      · simp at h
theorem behind_bd (op : Wd) (s : Sd) (hf : op.tag = 8 → 0 ≤ op.num) : (behind op s).n ≤ s.n + 2 ∧ (behind op s).v ≤ s.v + 1 := by
  have := putsM_le op.tag
  unfold behind
  refine ⟨?_, by show s.v - _ + _ ≤ _; omega⟩
  show (if op.tag = 7 then s.n + 1 else if op.tag = 8 then s.n - op.num else if op.tag = 16 then s.n + 2 else s.n) ≤ _
  split
  · omega
  · split
    · rename_i h; have := hf h; omega
    · split <;> omega
theorem goes_bd (op : Wd) (k : Nat) (s : Sd) (l : List (Nat × Sd)) (h : goes op k s = some l) (hf : op.tag = 8 → 0 ≤ op.num) : ∀ x ∈ l, x.2.n ≤ s.n + 2 ∧ (x.2.v ≤ s.v + 1 ∨ x.2.v = 0) := by
  intro x hx
  unfold goes at h
  split at h
  · cases h
  · split at h
    · cases h
    · split at h
      · split at h
        · cases h; simp at hx
        · cases h
      · split at h
        · cases h; exact aside_bd op s x hx
        · cases h
          rcases List.mem_append.1 hx with hx | hx
          · exact aside_bd op s x hx
          · simp at hx
            subst hx
            have := behind_bd op s hf
            exact ⟨this.1, Or.inl this.2⟩
theorem followQ_bd {m : Int} {ops : List Wd} {S S' : Tq} {k : Nat} {s : Sd} (h : followQ ops S k = some S') (hb : Bd m S.1) (_hm : 0 ≤ m) (hk : S.1.getD k none = some s) (hf : (ops.getD k op0).tag = 8 → 0 ≤ (ops.getD k op0).num) : Bd (m + 1) S'.1 := by
  unfold followQ at h
  rw [hk] at h
  have h : (match goes (ops.getD k op0) k s with | none => none | some l => leadsQ S l) = some S' := h
  cases hg : goes (ops.getD k op0) k s with
  | none => rw [hg] at h; cases h
  | some l =>
    rw [hg] at h
    refine leadsQ_bd l S S' h (hb.mono (by omega)) (fun x hx => ?_)
    have h1 := goes_bd _ _ _ _ hg hf x hx
    have h2 := hb k s hk
    omega
/-- Rows of three zeroes. -/
theorem made3 (a b c : Value) (m : Nat) : (madeCells #[a, b, c] (m * 3)).toList = (List.replicate m [a, b, c]).flatten := by
  induction m with
  | zero => simp [madeCells]
  | succ m ih =>
    have hf : ∀ k : Nat, ((#[a, b, c] : Array Value)[(m * 3 + k) % 3]!) = (#[a, b, c] : Array Value)[k % 3]! := fun k => by rw [Nat.add_comm, Nat.add_mul_mod_self_right]
    simp only [madeCells, Array.toList_map, Array.toList_range] at ih ⊢
    rw [Nat.succ_mul, List.replicate_succ', List.flatten_concat, ← ih, show m * 3 + 3 = m * 3 + 1 + 1 + 1 from rfl, List.range_succ, List.range_succ, List.range_succ]
    simp only [List.map_append, List.append_assoc]
    congr 1
    have e0 := hf 0
    have e1 := hf 1
    have e2 := hf 2
    show [(#[a, b, c] : Array Value)[(m * 3 + 0) % 3]!, (#[a, b, c] : Array Value)[(m * 3 + 1) % 3]!, (#[a, b, c] : Array Value)[(m * 3 + 1 + 1) % 3]!] = [a, b, c]
    rw [e0, e1, show m * 3 + 1 + 1 = m * 3 + 2 from rfl, e2]
    rfl
theorem made3_own (w : World) (a b c : Value) (m B : Nat) (T : TypeId) (hB : B ≤ w.heap.size) (hm : m ≤ 1048576) : (w.alloc (.cells (madeCells #[a, b, c] (m * 3)) T)).ownsRow B T 3 (.slice (some ⟨w.heap.size, 0, none⟩) m m) m (List.replicate m [a, b, c]).flatten := by
  refine ⟨by rw [← made3]; simp [size_madeCells], Or.inr ⟨w.heap.size, m, madeCells #[a, b, c] (m * 3), rfl, hB, heap_alloc_new _ _, Nat.le_refl _, by unfold maxLen; omega, size_madeCells _ _, ?_⟩⟩
  rw [List.take_of_length_le (by simp [size_madeCells]), made3]
end Go.Proofs.YtmbldcmmpbodgaaDoor
