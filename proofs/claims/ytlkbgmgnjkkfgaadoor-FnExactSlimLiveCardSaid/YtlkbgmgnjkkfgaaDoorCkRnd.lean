/-
  The specification's rounds over all places of a code, and what they find. Mathematics.
-/
import Derived.Test.YtlkbgmgnjkkfgaaDoorLvAll16
namespace Go.Proofs.YtlkbgmgnjkkfgaaDoor

theorem comeM_lead (T : Tb) (b : Bool) (x : Nat × Sd) (hv : 0 ≤ x.2.v) : comeM (T, b) x = match leadT T x with
    | none => (T, true)
    | some T' => (T', b) := by
  unfold comeM leadT
  by_cases h : T.length ≤ x.1 ∨ x.2.n < 0
  · rw [if_pos (by simp only; omega), if_pos h]
  · rw [if_neg (by simp only; omega), if_neg h]
    simp only
    cases hT : T.getD x.1 none with
    | some s => simp only; split <;> rfl
    | none => rfl
theorem comeM_bad (C : Tb × Bool) (x : Nat × Sd) (h : C.2 = true) : (comeM C x).2 = true := by
  unfold comeM
  split
  · rfl
  · split
    · split
      · exact h
      · rfl
    · exact h
theorem comeM_len (C : Tb × Bool) (x : Nat × Sd) : (comeM C x).1.length = C.1.length := by
  unfold comeM
  split
  · rfl
  · split
    · split <;> rfl
    · simp
theorem comes_bad : ∀ (l : List (Nat × Sd)) (C : Tb × Bool), C.2 = true → (l.foldl comeM C).2 = true
  | [], _, h => h
  | x :: l, C, h => by rw [List.foldl_cons]; exact comes_bad l _ (comeM_bad C x h)
theorem comes_len : ∀ (l : List (Nat × Sd)) (C : Tb × Bool), (l.foldl comeM C).1.length = C.1.length
  | [], _ => rfl
  | x :: l, C => by rw [List.foldl_cons, comes_len l, comeM_len]
theorem comes_lead : ∀ (l : List (Nat × Sd)) (T : Tb), (∀ x ∈ l, 0 ≤ x.2.v) → (leadsT T l = none → (l.foldl comeM (T, false)).2 = true) ∧ ∀ T', leadsT T l = some T' → l.foldl comeM (T, false) = (T', false)
  | [], T, _ => ⟨fun h => (by cases h), fun T' h => by cases h; rfl⟩
  | x :: l, T, hx => by
    rw [List.foldl_cons, comeM_lead T false x (hx x (by simp)), leadsT]
    cases h1 : leadT T x with
    | none => exact ⟨fun _ => comes_bad l _ rfl, fun T' h => (by cases h)⟩
    | some T1 => exact comes_lead l T1 (fun y hy => hx y (by simp [hy]))
/-- An op is gone on from. -/
def oneM (ops : List Wd) (C : Tb × Bool) (k : Nat) (s : Sd) : Tb × Bool := match goes (ops.getD k op0) k s with
  | none => (C.1, true)
  | some l => l.foldl comeM C
theorem oneM_len (ops : List Wd) (C : Tb × Bool) (k : Nat) (s : Sd) : (oneM ops C k s).1.length = C.1.length := by
  unfold oneM
  cases goes (ops.getD k op0) k s with
  | none => rfl
  | some l => exact comes_len l C
theorem puts_ge (k : Int) : 0 ≤ putsM k := by
  unfold putsM
  split <;> omega
theorem goes_v (op : Wd) (k : Nat) (s : Sd) (l : List (Nat × Sd)) (h : goes op k s = some l) : ∀ x ∈ l, 0 ≤ x.2.v := by
  have hp := puts_ge op.tag
  intro x hx
  unfold goes at h
  split at h
  · cases h
  · rename_i hv
    have hA : ∀ x ∈ aside op s, 0 ≤ x.2.v := by
      intro x hx
      unfold aside at hx
      split at hx
      · simp at hx; subst hx; exact Int.le_refl _
      · split at hx
        · simp at hx; subst hx; exact Int.le_refl _
        · split at hx
          · simp at hx; subst hx; show 0 ≤ s.v - takesM op.tag + putsM op.tag; omega
          · simp at hx
    split at h
    · cases h
    · split at h
      · split at h
        · cases h; simp at hx
        · cases h
      · split at h
        · cases h; exact hA x hx
        · cases h
          rcases List.mem_append.1 hx with hx | hx
          · exact hA x hx
          · simp at hx
            subst hx
            show 0 ≤ s.v - takesM op.tag + putsM op.tag
            omega
theorem oneM_follow (ops : List Wd) (T : Tb) (k : Nat) (s : Sd) (h : T.getD k none = some s) : (followT ops T k = none → (oneM ops (T, false) k s).2 = true) ∧ ∀ T', followT ops T k = some T' → oneM ops (T, false) k s = (T', false) := by
  unfold followT oneM
  rw [h]
  show ((match goes (ops.getD k op0) k s with | none => none | some l => leadsT T l) = none → _) ∧ ∀ T', (match goes (ops.getD k op0) k s with | none => none | some l => leadsT T l) = some T' → _
  cases hg : goes (ops.getD k op0) k s with
  | none => exact ⟨fun _ => rfl, fun T' h => (by cases h)⟩
  | some l => exact comes_lead l T (goes_v _ _ _ _ hg)
/-! ### Rounds -/
def dn (D : List Bool) (k : Nat) : Prop := D.getD k false = true
def cntD (D : List Bool) : Nat := D.countP id
theorem dn_lt {D : List Bool} {k : Nat} (h : dn D k) : k < D.length := by
  apply Decidable.byContradiction
  intro hn
  unfold dn at h
  rw [List.getD_eq_getElem?_getD, List.getElem?_eq_none (by omega)] at h
  cases h
theorem dn_set {D : List Bool} {p q : Nat} (hp : p < D.length) : dn (D.set p true) q ↔ q = p ∨ dn D q := by
  unfold dn
  simp only [List.getD_eq_getElem?_getD]
  by_cases e : q = p
  · subst e
    rw [List.getElem?_set_self hp]
    simp
  · rw [List.getElem?_set_ne (fun h => e h.symm)]
    simp [e]
theorem cntD_set {D : List Bool} {p : Nat} (hp : p < D.length) (h : ¬ dn D p) : cntD (D.set p true) = cntD D + 1 := by
  unfold cntD
  have e : D[p] = false := by
    unfold dn at h
    rw [List.getD_eq_getElem?_getD, List.getElem?_eq_getElem hp] at h
    simpa using h
  rw [List.countP_set hp, e]
  simp
theorem cntD_le (D : List Bool) : cntD D ≤ D.length := List.countP_le_length
theorem cntD_all {D : List Bool} (h : D.length ≤ cntD D) (k : Nat) (hk : k < D.length) : dn D k := by
  have h1 : D.countP id = D.length := Nat.le_antisymm (cntD_le D) h
  rw [List.countP_eq_length] at h1
  unfold dn
  rw [List.getD_eq_getElem?_getD, List.getElem?_eq_getElem hk]
  exact h1 _ (List.getElem_mem hk)
theorem cntD_rep (n : Nat) : cntD (List.replicate n false) = 0 := by
  simp [cntD, List.countP_replicate]
theorem dn_rep (n k : Nat) : ¬ dn (List.replicate n false) k := by
  unfold dn
  rw [List.getD_eq_getElem?_getD, List.getElem?_replicate]
  split <;> simp
structure Well (ops : List Wd) (T : Tb) (D : List Bool) : Prop where
  low : Low T
  start : T.getD 0 none = some ⟨0, 0⟩
  done : Done ops T (dn D)
  known : ∀ k, dn D k → ∃ s, T.getD k none = some s
  part : ∀ F, Good ops F → Part T F
  bd : Bd (cntD D : Nat) T
structure RInv (ops : List Wd) (C : Tb × Bool) (D : List Bool) : Prop where
  lenT : C.1.length = ops.length
  lenD : D.length = ops.length
  bad : C.2 = true → ¬ ∃ F, Good ops F
  well : C.2 = false → Well ops C.1 D
def AllD (T : Tb) (D : List Bool) : Prop := ∀ k s, T.getD k none = some s → dn D k
structure Outer (ops : List Wd) (n : Nat) (C : Tb × Bool) (D : List Bool) : Prop where
  inv : RInv ops C D
  far : C.2 = false → AllD C.1 D ∨ n ≤ cntD D
structure Inner (ops : List Wd) (n j : Nat) (C : Tb × Bool) (D : List Bool) : Prop where
  inv : RInv ops C D
  far : C.2 = false → AllD C.1 D ∨ n + 1 ≤ cntD D ∨ (n ≤ cntD D ∧ ∃ k, j ≤ k ∧ (∃ s, C.1.getD k none = some s) ∧ ¬ dn D k)
theorem Outer.inner {ops : List Wd} {n : Nat} {C : Tb × Bool} {D : List Bool} (h : Outer ops n C D) : Inner ops n 0 C D := by
  refine ⟨h.inv, fun hb => ?_⟩
  rcases h.far hb with h1 | h1
  · exact Or.inl h1
  · by_cases ha : AllD C.1 D
    · exact Or.inl ha
    · refine Or.inr (Or.inr ⟨h1, ?_⟩)
      apply Classical.byContradiction
      intro hn
      exact ha fun k s hk => Classical.byContradiction fun hd => hn ⟨k, Nat.zero_le _, ⟨s, hk⟩, hd⟩
theorem Inner.outer {ops : List Wd} {n : Nat} {C : Tb × Bool} {D : List Bool} (h : Inner ops n ops.length C D) : Outer ops (n + 1) C D := by
  refine ⟨h.inv, fun hb => ?_⟩
  rcases h.far hb with h1 | h1 | ⟨_, k, hk, ⟨s, hs⟩, _⟩
  · exact Or.inl h1
  · exact Or.inr h1
  · rw [List.getD_eq_getElem?_getD, List.getElem?_eq_none (by have := h.inv.lenT; omega)] at hs
    cases hs
theorem Inner.bad {ops : List Wd} {n j : Nat} {C : Tb × Bool} {D : List Bool} (h : Inner ops n j C D) (hb : C.2 = true) : Outer ops (n + 1) C D := ⟨h.inv, fun hf => by rw [hb] at hf; cases hf⟩
theorem Inner.skip {ops : List Wd} {n j : Nat} {C : Tb × Bool} {D : List Bool} (h : Inner ops n j C D) (hs : C.1.getD j none = none ∨ dn D j) : Inner ops n (j + 1) C D := by
  refine ⟨h.inv, fun hb => ?_⟩
  rcases h.far hb with h1 | h1 | ⟨h1, k, hk, ⟨s, hks⟩, hd⟩
  · exact Or.inl h1
  · exact Or.inr (Or.inl h1)
  · refine Or.inr (Or.inr ⟨h1, k, ?_, ⟨s, hks⟩, hd⟩)
    have : k ≠ j := by
      rintro rfl
      rcases hs with hs | hs
      · rw [hks] at hs; cases hs
      · exact hd hs
    omega
theorem Inner.one {ops : List Wd} {n j : Nat} {T : Tb} {D : List Bool} {s : Sd} (h : Inner ops n j (T, false) D) (hs : T.getD j none = some s) (hd : ¬ dn D j) (hf : (ops.getD j op0).tag = 8 → 0 ≤ (ops.getD j op0).num) :
    Inner ops n (j + 1) (oneM ops (T, false) j s) (D.set j true) := by
  obtain ⟨o1, o2⟩ := oneM_follow ops T j s hs
  have hlT : T.length = ops.length := h.inv.lenT
  have hlD := h.inv.lenD
  have hW : Well ops T D := h.inv.well rfl
  have hj : j < D.length := by
    rw [hlD, ← hlT]
    apply Decidable.byContradiction
    intro hn
    rw [List.getD_eq_getElem?_getD, List.getElem?_eq_none (by omega)] at hs
    cases hs
  cases hfo : followT ops T j with
  | none =>
    have hb := o1 hfo
    refine ⟨⟨by rw [oneM_len]; exact hlT, by rw [List.length_set]; exact hlD, fun _ => ?_, fun hf => by rw [hb] at hf; cases hf⟩, fun hf => by rw [hb] at hf; cases hf⟩
    rintro ⟨F, hG⟩
    obtain ⟨T', h1, _⟩ := followT_part hG hlT (hW.part F hG) hs
    rw [hfo] at h1
    cases h1
  | some T' =>
    rw [o2 T' hfo]
    obtain ⟨g, hlow, _⟩ := followT_some hfo hW.low hs
    have hc := cntD_set hj hd
    refine ⟨⟨g.1.trans hlT, by rw [List.length_set]; exact hlD, fun hf => (by cases hf), fun _ => ⟨hlow, g.2 _ _ hW.start, ?_, fun k hk => ?_, fun F hG => ?_, ?_⟩⟩, fun _ => Or.inr (Or.inl ?_)⟩
    · exact hW.done.next hfo hW.low hs (fun k hk => ((dn_set hj).1 hk).symm) hW.known
    · rcases (dn_set hj).1 hk with rfl | hk
      · exact ⟨s, g.2 _ _ hs⟩
      · obtain ⟨s', h'⟩ := hW.known k hk
        exact ⟨s', g.2 _ _ h'⟩
    · obtain ⟨T2, h1, _, h3⟩ := followT_part hG hlT (hW.part F hG) hs
      rw [hfo] at h1
      cases h1
      exact h3
    · have ht := followQ_tab ops (T, []) j
      rw [hfo] at ht
      obtain ⟨S', hS, e⟩ := Option.map_eq_some_iff.1 ht
      have := followQ_bd hS hW.bd (by omega) hs hf
      rw [e] at this
      rw [hc]
      exact this.mono (by omega)
    · show n + 1 ≤ cntD (D.set j true)
      rw [hc]
      rcases h.far rfl with h1 | h1 | h1
      · exact absurd (h1 j s hs) hd
      · omega
      · omega
theorem Outer.start {ops : List Wd} (hl : 1 ≤ ops.length) : Outer ops 0 (comeM (List.replicate ops.length none, false) (0, ⟨0, 0⟩)) (List.replicate ops.length false) := by
  have hs := start_lead ops hl
  have ht := leadQ_tab (List.replicate ops.length none, []) (0, ⟨0, 0⟩)
  rw [hs] at ht
  have ht : leadT (List.replicate ops.length none) (0, ⟨0, 0⟩) = some (startQ ops).1 := ht.symm
  rw [comeM_lead _ _ _ (Int.le_refl _), ht]
  obtain ⟨_, hbd, hln⟩ := start_ok ops hl
  have h0 : (startQ ops).1.getD 0 none = some ⟨0, 0⟩ := by
    have := (leadT_some ht (fun k s h => by rw [start_getD] at h; cases h)).2.2.2.1
    exact this
  refine ⟨⟨hln, by simp, fun h => (by cases h), fun _ => ⟨fun k s h => ?_, h0, fun k s hk => absurd hk (dn_rep _ _), fun k hk => absurd hk (dn_rep _ _), fun F hG k s h => ?_, ?_⟩⟩, fun _ => Or.inr (Nat.zero_le _)⟩
  · obtain ⟨_, rfl⟩ := start_at ops hl k s h
    exact Int.le_refl _
  · obtain ⟨rfl, rfl⟩ := start_at ops hl k s h
    exact hG.start
  · rw [cntD_rep]
    exact hbd
theorem Outer.answer {ops : List Wd} {C : Tb × Bool} {D : List Bool} (h : Outer ops ops.length C D) (hl : 1 ≤ ops.length) : (!C.2) = runQ ops ops.length (startQ ops) := by
  obtain ⟨hqo, hbd, hln⟩ := start_ok ops hl
  have h0 : (startQ ops).1.getD 0 none = some ⟨0, 0⟩ := by
    have hs := start_lead ops hl
    have ht := leadQ_tab (List.replicate ops.length none, []) (0, ⟨0, 0⟩)
    rw [hs] at ht
    exact (leadT_some ht.symm (fun k s h => by rw [start_getD] at h; cases h)).2.2.2.1
  obtain ⟨r1, r2⟩ := runQ_good (ops := ops) ops.length (startQ ops) 0 hln (by omega) hqo (fun k s h => by obtain ⟨_, rfl⟩ := start_at ops hl k s h; exact Int.le_refl _) h0 (fun k s hk h => by
    obtain ⟨rfl, _⟩ := start_at ops hl k s h
    exact absurd (by simp [startQ]) hk.2)
  cases hb : C.2 with
  | true =>
    have := h.inv.bad hb
    cases hr : runQ ops ops.length (startQ ops) with
    | true => exact absurd (r1 hr) this
    | false => rfl
  | false =>
    have hW := h.inv.well hb
    have hA : AllD C.1 D := by
      rcases h.far hb with h1 | h1
      · exact h1
      · intro k s hk
        refine cntD_all (by have := h.inv.lenD; omega) k ?_
        rw [h.inv.lenD, ← h.inv.lenT]
        apply Decidable.byContradiction
        intro hn
        rw [List.getD_eq_getElem?_getD, List.getElem?_eq_none (by omega)] at hk
        cases hk
    have hG := hW.done.good h.inv.lenT hW.low hW.start hA
    rw [r2 ⟨_, hG, fun k s hk => by obtain ⟨rfl, rfl⟩ := start_at ops hl k s hk; exact hW.start⟩]
    rfl
end Go.Proofs.YtlkbgmgnjkkfgaaDoor

