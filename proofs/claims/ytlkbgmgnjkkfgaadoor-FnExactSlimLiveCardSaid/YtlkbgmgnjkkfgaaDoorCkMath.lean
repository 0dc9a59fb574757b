/-
  Code that can be run: what stands ahead of each op; two ways of going through it say the same. Mathematics; no program is named here.
-/
import Derived.Test.YtlkbgmgnjkkfgaaDoorLvAll0
namespace Go.Proofs.YtlkbgmgnjkkfgaaDoor

/-- How many names and values stand ahead of an op. -/
structure Sd where
  n : Int
  v : Int
deriving DecidableEq
def takesM (k : Int) : Int := if k = 6 ∨ k = 11 ∨ k = 15 ∨ k = 17 ∨ k = 19 then 2 else if k = 12 ∨ k = 13 ∨ k = 18 ∨ k = 22 ∨ k = 23 ∨ k = 7 ∨ k = 9 ∨ k = 16 then 1 else 0
def putsM (k : Int) : Int := if k = 7 ∨ k = 9 ∨ k = 16 ∨ k = 10 ∨ k = 8 ∨ k = 24 then 0 else 1
/-- Behind an op: names, values. -/
def behind (op : Wd) (s : Sd) : Sd := ⟨if op.tag = 7 then s.n + 1 else if op.tag = 8 then s.n - op.num else if op.tag = 16 then s.n + 2 else s.n, s.v - takesM op.tag + putsM op.tag⟩
/-- Where an op leads besides the next one, with what ahead. -/
def aside (op : Wd) (s : Sd) : List (Nat × Sd) :=
  if op.tag = 4 then [(op.num.toNat, ⟨s.n + 1, 0⟩)] else if op.tag = 5 then [(op.num.toNat, ⟨s.n + 2, 0⟩)]
  else if op.tag = 9 ∨ op.tag = 10 ∨ op.tag = 16 then [(op.num.toNat, ⟨s.n, s.v - takesM op.tag + putsM op.tag⟩)] else []
/-- Where an op leads; nothing, if it can't be done. -/
def goes (op : Wd) (at' : Nat) (s : Sd) : Option (List (Nat × Sd)) :=
  if s.v < takesM op.tag then none
  else if op.tag = 3 ∧ s.n ≤ op.num then none
  else if op.tag = 24 then (if s.v = 1 then some [] else none)
  else if op.tag = 10 then some (aside op s)
  else some (aside op s ++ [(at' + 1, behind op s)])
abbrev Tb := List (Option Sd)
/-- Something leads to a place. -/
def leadT (T : Tb) (x : Nat × Sd) : Option Tb :=
  if T.length ≤ x.1 ∨ x.2.n < 0 then none
  else match T.getD x.1 none with
    | some s => if s = x.2 then some T else none
    | none => some (T.set x.1 (some x.2))
def leadsT (T : Tb) : List (Nat × Sd) → Option Tb
  | [] => some T
  | x :: l => match leadT T x with
    | none => none
    | some T' => leadsT T' l
def op0 : Wd := ⟨0, 0⟩
def followT (ops : List Wd) (T : Tb) (k : Nat) : Option Tb :=
  match goes (ops.getD k op0) k ((T.getD k none).getD ⟨0, 0⟩) with
  | none => none
  | some l => leadsT T l
/-- What stands ahead of all ops to which something leads. -/
structure Good (ops : List Wd) (F : Nat → Option Sd) : Prop where
  start : F 0 = some ⟨0, 0⟩
  each : ∀ k s, F k = some s → k < ops.length ∧ 0 ≤ s.n ∧ ∃ l, goes (ops.getD k op0) k s = some l ∧ ∀ x ∈ l, F x.1 = some x.2
/-- A table is part of what stands ahead. -/
def Part (T : Tb) (F : Nat → Option Sd) : Prop := ∀ k s, T.getD k none = some s → F k = some s
theorem getD_set {T : Tb} {p q : Nat} {v : Option Sd} (hp : p < T.length) : (T.set p v).getD q none = if q = p then v else T.getD q none := by
  simp only [List.getD_eq_getElem?_getD]
  by_cases e : q = p
  · subst e
    rw [List.getElem?_set_self hp, if_pos rfl]
    rfl
  · rw [List.getElem?_set_ne (fun h => e h.symm), if_neg e]
theorem leadT_part {ops : List Wd} {F : Nat → Option Sd} {T : Tb} {x : Nat × Sd} (hG : Good ops F) (hl : T.length = ops.length) (hP : Part T F) (hx : F x.1 = some x.2) : ∃ T', leadT T x = some T' ∧ T'.length = ops.length ∧ Part T' F := by
  obtain ⟨h1, h2, _⟩ := hG.each _ _ hx
  unfold leadT
  rw [if_neg (by omega)]
  cases hT : T.getD x.1 none with
  | some s =>
    have : s = x.2 := by have := hP _ _ hT; rw [hx] at this; exact (Option.some.inj this).symm
    refine ⟨T, ?_, hl, hP⟩
    simp [this]
  | none =>
    refine ⟨_, rfl, by simpa using hl, fun k s hk => ?_⟩
    rw [getD_set (by omega)] at hk
    by_cases e : k = x.1
    · rw [if_pos e] at hk
      rw [e, hx]
      exact hk
    · rw [if_neg e] at hk
      exact hP k s hk
theorem leadsT_part {ops : List Wd} {F : Nat → Option Sd} (hG : Good ops F) : ∀ (l : List (Nat × Sd)) (T : Tb), T.length = ops.length → Part T F → (∀ x ∈ l, F x.1 = some x.2) → ∃ T', leadsT T l = some T' ∧ T'.length = ops.length ∧ Part T' F
  | [], T, hl, hP, _ => ⟨T, rfl, hl, hP⟩
  | x :: l, T, hl, hP, hx => by
    obtain ⟨T1, e1, l1, p1⟩ := leadT_part hG hl hP (hx x (by simp))
    rw [leadsT, e1]
    exact leadsT_part hG l T1 l1 p1 (fun y hy => hx y (by simp [hy]))
theorem followT_part {ops : List Wd} {F : Nat → Option Sd} {T : Tb} {k : Nat} {s : Sd} (hG : Good ops F) (hl : T.length = ops.length) (hP : Part T F) (hk : T.getD k none = some s) : ∃ T', followT ops T k = some T' ∧ T'.length = ops.length ∧ Part T' F := by
  obtain ⟨_, _, l, h3, h4⟩ := hG.each _ _ (hP _ _ hk)
  unfold followT
  rw [hk]
  show ∃ T', (match goes (ops.getD k op0) k s with | none => none | some l => leadsT T l) = some T' ∧ _
  rw [h3]
  exact leadsT_part hG l T hl hP h4

/-- A table grows. -/
def Grows (T T' : Tb) : Prop := T'.length = T.length ∧ ∀ k s, T.getD k none = some s → T'.getD k none = some s
theorem Grows.refl (T : Tb) : Grows T T := ⟨rfl, fun _ _ h => h⟩
theorem Grows.trans {a b c : Tb} (h : Grows a b) (k : Grows b c) : Grows a c := ⟨k.1.trans h.1, fun i s hi => k.2 i s (h.2 i s hi)⟩
/-- Names are never fewer than none. -/
def Low (T : Tb) : Prop := ∀ k s, T.getD k none = some s → 0 ≤ s.n
theorem leadT_some {T T' : Tb} {x : Nat × Sd} (h : leadT T x = some T') (hlow : Low T) : Grows T T' ∧ Low T' ∧ x.1 < T.length ∧ T'.getD x.1 none = some x.2 ∧ ∀ k, T.getD k none = none → T'.getD k none ≠ none → k = x.1 := by
  unfold leadT at h
  split at h
  · cases h
  · rename_i hx
    cases hT : T.getD x.1 none with
    | some s =>
      rw [hT] at h
      simp only at h
      split at h
      · rename_i e
        cases h
        subst e
        exact ⟨Grows.refl _, hlow, by omega, hT, fun k h1 h2 => absurd h1 h2⟩
      · cases h
    | none =>
      rw [hT] at h
      cases h
      have hxl : x.1 < T.length := by omega
      refine ⟨⟨by simp, fun k s hk => ?_⟩, fun k s hk => ?_, hxl, by rw [getD_set hxl, if_pos rfl], fun k h1 h2 => ?_⟩
      · rw [getD_set hxl, if_neg (fun e => by subst e; rw [hT] at hk; cases hk)]
        exact hk
      · rw [getD_set hxl] at hk
        split at hk
        · cases hk; omega
        · exact hlow k s hk
      · rw [getD_set hxl] at h2
        split at h2
        · assumption
        · exact absurd h1 h2
theorem leadsT_some : ∀ (l : List (Nat × Sd)) (T T' : Tb), leadsT T l = some T' → Low T → Grows T T' ∧ Low T' ∧ ∀ x ∈ l, T'.getD x.1 none = some x.2
  | [], T, T', h, hl => by
    cases h
    exact ⟨Grows.refl _, hl, fun x hx => by simp at hx⟩
  | x :: l, T, T', h, hl => by
    rw [leadsT] at h
    cases h1 : leadT T x with
    | none => rw [h1] at h; cases h
    | some T1 =>
      rw [h1] at h
      obtain ⟨g1, l1, _, x1, _⟩ := leadT_some h1 hl
      obtain ⟨g2, l2, x2⟩ := leadsT_some l T1 T' h l1
      refine ⟨g1.trans g2, l2, fun y hy => ?_⟩
      rcases List.mem_cons.1 hy with rfl | hy
      · exact g2.2 _ _ x1
      · exact x2 y hy
theorem followT_some {ops : List Wd} {T T' : Tb} {k : Nat} {s : Sd} (h : followT ops T k = some T') (hlow : Low T) (hk : T.getD k none = some s) : Grows T T' ∧ Low T' ∧ ∃ l, goes (ops.getD k op0) k s = some l ∧ ∀ x ∈ l, T'.getD x.1 none = some x.2 := by
  unfold followT at h
  rw [hk] at h
  have h : (match goes (ops.getD k op0) k s with | none => none | some l => leadsT T l) = some T' := h
  cases hg : goes (ops.getD k op0) k s with
  | none => rw [hg] at h; cases h
  | some l =>
    rw [hg] at h
    obtain ⟨g, l1, x1⟩ := leadsT_some l T T' h hlow
    exact ⟨g, l1, l, rfl, x1⟩
/-- All of which D holds were gone through. -/
def Done (ops : List Wd) (T : Tb) (D : Nat → Prop) : Prop := ∀ k s, D k → T.getD k none = some s → ∃ l, goes (ops.getD k op0) k s = some l ∧ ∀ x ∈ l, T.getD x.1 none = some x.2
theorem Done.next {ops : List Wd} {T T' : Tb} {D D' : Nat → Prop} {k : Nat} {s : Sd} (h : Done ops T D) (hf : followT ops T k = some T') (hlow : Low T) (hk : T.getD k none = some s) (hD : ∀ j, D' j → D j ∨ j = k) (hT : ∀ j, D j → ∃ s, T.getD j none = some s) : Done ops T' D' := by
  obtain ⟨g, _, l, hg, hx⟩ := followT_some hf hlow hk
  intro j s' hj hjs
  rcases hD j hj with hj | rfl
  · obtain ⟨s0, h0⟩ := hT j hj
    have := g.2 j s0 h0
    rw [this] at hjs
    cases hjs
    obtain ⟨l', h1, h2⟩ := h j _ hj h0
    exact ⟨l', h1, fun x hx => g.2 _ _ (h2 x hx)⟩
  · have := g.2 j s hk
    rw [this] at hjs
    cases hjs
    exact ⟨l, hg, hx⟩
theorem Done.good {ops : List Wd} {T : Tb} {D : Nat → Prop} (h : Done ops T D) (hl : T.length = ops.length) (hlow : Low T) (h0 : T.getD 0 none = some ⟨0, 0⟩) (hall : ∀ k s, T.getD k none = some s → D k) : Good ops (fun k => T.getD k none) := by
  refine ⟨h0, fun k s hk => ⟨?_, hlow k s hk, h k s (hall k s hk) hk⟩⟩
  have hk : T.getD k none = some s := hk
  apply Decidable.byContradiction
  intro hn
  rw [List.getD_eq_getElem?_getD, List.getElem?_eq_none (by omega)] at hk
  cases hk
/-! ### A list of what is still to be gone through -/

/-- A table, and places from which it is still to be gone on. -/
abbrev Tq := Tb × List Nat
def leadQ (S : Tq) (x : Nat × Sd) : Option Tq :=
  if S.1.length ≤ x.1 ∨ x.2.n < 0 then none
  else match S.1.getD x.1 none with
    | some s => if s = x.2 then some S else none
    | none => some (S.1.set x.1 (some x.2), S.2 ++ [x.1])
def leadsQ (S : Tq) : List (Nat × Sd) → Option Tq
  | [] => some S
  | x :: l => match leadQ S x with
    | none => none
    | some S' => leadsQ S' l
def followQ (ops : List Wd) (S : Tq) (k : Nat) : Option Tq :=
  match goes (ops.getD k op0) k ((S.1.getD k none).getD ⟨0, 0⟩) with
  | none => none
  | some l => leadsQ S l
def runQ (ops : List Wd) : Nat → Tq → Bool
  | 0, _ => true
  | n + 1, S => match S.2 with
    | [] => true
    | k :: q => match followQ ops (S.1, q) k with
      | none => false
      | some S' => runQ ops n S'
def cnt (T : Tb) : Nat := T.countP (fun o => o.isSome)
/-- The list holds places that are known, each once counted. -/
structure Qok (S : Tq) (p : Nat) : Prop where
  known : ∀ k ∈ S.2, ∃ s, S.1.getD k none = some s
  num : cnt S.1 = p + S.2.length
theorem leadQ_tab (S : Tq) (x : Nat × Sd) : (leadQ S x).map (·.1) = leadT S.1 x := by
  unfold leadQ leadT
  split
  · rfl
  · cases S.1.getD x.1 none with
    | some s =>
      simp only
      split <;> rfl
    | none => rfl
theorem leadsQ_tab : ∀ (l : List (Nat × Sd)) (S : Tq), (leadsQ S l).map (·.1) = leadsT S.1 l
  | [], _ => rfl
  | x :: l, S => by
    have h := leadQ_tab S x
    rw [leadsQ, leadsT, ← h]
    cases leadQ S x with
    | none => rfl
    | some S' => exact leadsQ_tab l S'
theorem followQ_tab (ops : List Wd) (S : Tq) (k : Nat) : (followQ ops S k).map (·.1) = followT ops S.1 k := by
  unfold followQ followT
  cases goes (ops.getD k op0) k ((S.1.getD k none).getD ⟨0, 0⟩) with
  | none => rfl
  | some l => exact leadsQ_tab l S
theorem cnt_set {T : Tb} {p : Nat} {s : Sd} (hp : p < T.length) (h : T.getD p none = none) : cnt (T.set p (some s)) = cnt T + 1 := by
  unfold cnt
  have e : T[p] = none := by
    rw [List.getD_eq_getElem?_getD, List.getElem?_eq_getElem hp] at h
    exact h
  rw [List.countP_set hp, e]
  simp
theorem leadQ_ok {S S' : Tq} {x : Nat × Sd} {p : Nat} (h : leadQ S x = some S') (hq : Qok S p) : Qok S' p := by
  unfold leadQ at h
  split at h
  · cases h
  · rename_i hx
    cases hT : S.1.getD x.1 none with
    | some s =>
      rw [hT] at h
      simp only at h
      split at h
      · cases h; exact hq
      · cases h
    | none =>
      rw [hT] at h
      cases h
      have hxl : x.1 < S.1.length := by omega
      refine ⟨fun k hk => ?_, ?_⟩
      · show ∃ s, (S.1.set x.1 (some x.2)).getD k none = some s
        rw [getD_set hxl]
        split
        · exact ⟨_, rfl⟩
        · rename_i hne
          rcases List.mem_append.1 hk with hk | hk
          · exact hq.known k hk
          · exact absurd (by simpa using hk) hne
      · show cnt (S.1.set x.1 (some x.2)) = p + (S.2 ++ [x.1]).length
        rw [cnt_set hxl hT, hq.num]
        simp
        omega
theorem leadsQ_ok : ∀ (l : List (Nat × Sd)) (S S' : Tq) (p : Nat), leadsQ S l = some S' → Qok S p → Qok S' p
  | [], S, S', p, h, hq => by cases h; exact hq
  | x :: l, S, S', p, h, hq => by
    rw [leadsQ] at h
    cases h1 : leadQ S x with
    | none => rw [h1] at h; cases h
    | some S1 => rw [h1] at h; exact leadsQ_ok l S1 S' p h (leadQ_ok h1 hq)
theorem followQ_ok {ops : List Wd} {S S' : Tq} {k p : Nat} (h : followQ ops S k = some S') (hq : Qok S p) : Qok S' p := by
  unfold followQ at h
  cases hg : goes (ops.getD k op0) k ((S.1.getD k none).getD ⟨0, 0⟩) with
  | none => rw [hg] at h; cases h
  | some l => rw [hg] at h; exact leadsQ_ok l S S' p h hq
theorem cnt_le (T : Tb) : cnt T ≤ T.length := List.countP_le_length
/-- Going on from a list: it comes to an end without a fault just if there is a good way to stand. -/
theorem leadsQ_new : ∀ (l : List (Nat × Sd)) (S S' : Tq), leadsQ S l = some S' → Low S.1 → ∀ k s, S'.1.getD k none = some s → (∃ s', S.1.getD k none = some s') ∨ k ∈ S'.2
  | [], S, S', h, _, k, s, hk => by cases h; exact Or.inl ⟨s, hk⟩
  | x :: l, S, S', h, hl, k, s, hk => by
    rw [leadsQ] at h
    cases h1 : leadQ S x with
    | none => rw [h1] at h; cases h
    | some S1 =>
      rw [h1] at h
      have ht : leadT S.1 x = some S1.1 := by rw [← leadQ_tab, h1]; rfl
      have hl1 := (leadT_some ht hl).2.1
      rcases leadsQ_new l S1 S' h hl1 k s hk with ⟨s', h2⟩ | h2
      · cases h0 : S.1.getD k none with
        | some s0 => exact Or.inl ⟨s0, rfl⟩
        | none =>
          right
          have hkx := (leadT_some ht hl).2.2.2.2 k h0 (by rw [h2]; simp)
          have hin : k ∈ S1.2 := by
            unfold leadQ at h1
            split at h1
            · cases h1
            · subst hkx
              rw [h0] at h1
              cases h1
              simp
          have hmono : ∀ (l : List (Nat × Sd)) (A B : Tq), leadsQ A l = some B → ∀ j ∈ A.2, j ∈ B.2 := by
            intro l
            induction l with
            | nil => intro A B h j hj; cases h; exact hj
            | cons y l ih =>
              intro A B h j hj
              rw [leadsQ] at h
              cases h3 : leadQ A y with
              | none => rw [h3] at h; cases h
              | some A1 =>
                rw [h3] at h
                refine ih A1 B h j ?_
                unfold leadQ at h3
                split at h3
                · cases h3
                · cases h4 : A.1.getD y.1 none with
                  | some s => rw [h4] at h3; simp only at h3; split at h3
                              · cases h3; exact hj
                              · cases h3
                  | none => rw [h4] at h3; cases h3; exact List.mem_append_left _ hj
          exact hmono l S1 S' h k hin
      · exact Or.inr h2
theorem runQ_good {ops : List Wd} : ∀ (n : Nat) (S : Tq) (p : Nat), S.1.length = ops.length → ops.length ≤ n + p → Qok S p → Low S.1 → S.1.getD 0 none = some ⟨0, 0⟩ → Done ops S.1 (fun k => (∃ s, S.1.getD k none = some s) ∧ k ∉ S.2) →
    (runQ ops n S = true → ∃ F, Good ops F) ∧ ((∃ F, Good ops F ∧ Part S.1 F) → runQ ops n S = true)
  | 0, S, p, hl, hn, hq, hlow, h0, hd => by
    have h1 := cnt_le S.1
    have h2 := hq.num
    have hq0 : S.2 = [] := List.length_eq_zero_iff.1 (by omega)
    refine ⟨fun _ => ⟨_, hd.good hl hlow h0 fun k s hk => ⟨⟨s, hk⟩, by rw [hq0]; simp⟩⟩, fun _ => rfl⟩
  | n + 1, S, p, hl, hn, hq, hlow, h0, hd => by
    rw [runQ]
    cases hS : S.2 with
    | nil => exact ⟨fun _ => ⟨_, hd.good hl hlow h0 fun k s hk => ⟨⟨s, hk⟩, by rw [hS]; simp⟩⟩, fun _ => rfl⟩
    | cons k q =>
      obtain ⟨s, hks⟩ := hq.known k (by rw [hS]; simp)
      have hq1 : Qok (S.1, q) (p + 1) := ⟨fun j hj => hq.known j (by rw [hS]; exact List.mem_cons_of_mem _ hj), by
        have := hq.num
        rw [hS] at this
        show cnt S.1 = _
        simp at this ⊢
        omega⟩
      simp only
      cases hf : followQ ops (S.1, q) k with
      | none =>
        refine ⟨fun h => (by cases h), fun ⟨F, hG, hP⟩ => ?_⟩
        have ht := followQ_tab ops (S.1, q) k
        rw [hf] at ht
        obtain ⟨T', h1, _⟩ := followT_part hG hl hP hks
        rw [h1] at ht
        cases ht
      | some S' =>
        have ht : followT ops S.1 k = some S'.1 := by
          have := followQ_tab ops (S.1, q) k
          rw [hf] at this
          exact this.symm
        obtain ⟨g, hlow', _⟩ := followT_some ht hlow hks
        have hnew : ∀ j s', S'.1.getD j none = some s' → (∃ s0, S.1.getD j none = some s0) ∨ j ∈ S'.2 := by
          intro j s' hj
          unfold followQ at hf
          cases hgo : goes (ops.getD k op0) k (((S.1, q) : Tq).1.getD k none |>.getD ⟨0, 0⟩) with
          | none => rw [hgo] at hf; cases hf
          | some l =>
            rw [hgo] at hf
            exact leadsQ_new l (S.1, q) S' hf hlow j s' hj
        have hsub : ∀ j ∈ q, j ∈ S'.2 := by
          intro j hj
          unfold followQ at hf
          cases hgo : goes (ops.getD k op0) k (((S.1, q) : Tq).1.getD k none |>.getD ⟨0, 0⟩) with
          | none => rw [hgo] at hf; cases hf
          | some l =>
            rw [hgo] at hf
            have key : ∀ (l : List (Nat × Sd)) (A B : Tq), leadsQ A l = some B → ∀ j ∈ A.2, j ∈ B.2 := by
              intro l
              induction l with
              | nil => intro A B h j hj; cases h; exact hj
              | cons y l ih =>
                intro A B h j hj
                rw [leadsQ] at h
                cases h3 : leadQ A y with
                | none => rw [h3] at h; cases h
                | some A1 =>
                  rw [h3] at h
                  refine ih A1 B h j ?_
                  unfold leadQ at h3
                  split at h3
                  · cases h3
                  · cases h4 : A.1.getD y.1 none with
                    | some s => rw [h4] at h3; simp only at h3; split at h3
                                · cases h3; exact hj
                                · cases h3
                    | none => rw [h4] at h3; cases h3; exact List.mem_append_left _ hj
            exact key l (S.1, q) S' hf j hj
        have hd' : Done ops S'.1 (fun j => (∃ s, S'.1.getD j none = some s) ∧ j ∉ S'.2) := by
          refine Done.next (D := fun j => (∃ s, S.1.getD j none = some s) ∧ j ∉ S.2) hd ht hlow hks (fun j ⟨⟨s', hj⟩, hjn⟩ => ?_) (fun j hj => hj.1)
          rcases hnew j s' hj with h | h
          · by_cases e : j = k
            · exact Or.inr e
            · refine Or.inl ⟨h, ?_⟩
              rw [hS]
              intro hm
              rcases List.mem_cons.1 hm with h5 | h5
              · exact e h5
              · exact hjn (hsub j h5)
          · exact absurd h hjn
        obtain ⟨r1, r2⟩ := runQ_good n S' (p + 1) (g.1.trans hl) (by omega) (followQ_ok hf hq1) hlow' (g.2 _ _ h0) hd'
        refine ⟨r1, fun ⟨F, hG, hP⟩ => r2 ⟨F, hG, ?_⟩⟩
        obtain ⟨T', h1, _, h3⟩ := followT_part hG hl hP hks
        rw [ht] at h1
        cases h1
        exact h3
end Go.Proofs.YtlkbgmgnjkkfgaaDoor

