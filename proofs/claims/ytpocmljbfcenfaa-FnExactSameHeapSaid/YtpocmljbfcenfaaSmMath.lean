/-
  Cells that say the same, however deep one looks: what a walk over pairs that are held to be the same finds out. Mathematics; no program is named here.
-/
import Derived.Test.YtpocmljbfcenfaaWlMath
namespace Go.Proofs.Ytpocmljbfcenfaa

/-- Two words are the same as far as R goes. -/
def WW (R : Nat → Nat → Prop) (v w : Wd) : Prop := v.tag = w.tag ∧ (v.tag = 4 → R v.num.toNat w.num.toNat) ∧ (v.tag ≠ 4 → v.num = w.num)
/-- Places that R holds to be the same say the same, and lead to such. -/
def SmGood (x y : List Ce) (R : Nat → Nat → Prop) : Prop := ∀ a b, R a b → ∃ p q, x[a]? = some p ∧ y[b]? = some q ∧ p.kind = q.kind ∧ p.num = q.num ∧ WW R p.a q.a ∧ WW R p.b q.b
/-- Two words say the same. -/
def SameW (x y : List Ce) (v w : Wd) : Prop := ∃ R, SmGood x y R ∧ WW R v w
theorem WW.mono {R S : Nat → Nat → Prop} {v w : Wd} (h : WW R v w) (hm : ∀ a b, R a b → S a b) : WW S v w := ⟨h.1, fun e => hm _ _ (h.2.1 e), h.2.2⟩
/-- The same, as far as they are no places. -/
def wordsQ (v w : Wd) : Bool := v.tag == w.tag && (v.tag == 4 || v.num == w.num)
theorem WW.words {R : Nat → Nat → Prop} {v w : Wd} (h : WW R v w) : wordsQ v w = true := by
  obtain ⟨h1, _, h3⟩ := h
  unfold wordsQ
  rw [Bool.and_eq_true, Bool.or_eq_true, beq_iff_eq, beq_iff_eq, beq_iff_eq]
  refine ⟨h1, ?_⟩
  by_cases e : v.tag = 4
  · exact Or.inl e
  · exact Or.inr (h3 e)
abbrev Prs := List (Nat × Nat)
def inP (T : Prs) : Nat → Nat → Prop := fun a b => (a, b) ∈ T
def addP (T : Prs) (v w : Wd) : Prs := if v.tag = 4 then (if (v.num.toNat, w.num.toNat) ∈ T then T else T ++ [(v.num.toNat, w.num.toNat)]) else T
theorem addP_sub (T : Prs) (v w : Wd) : ∀ p ∈ T, p ∈ addP T v w := by
  intro p hp
  unfold addP
  split
  · split
    · exact hp
    · exact List.mem_append_left _ hp
  · exact hp
theorem addP_old (T : Prs) (v w : Wd) : ∃ l, addP T v w = T ++ l := by
  unfold addP
  split
  · split
    · exact ⟨[], by simp⟩
    · exact ⟨_, rfl⟩
  · exact ⟨[], by simp⟩
theorem addP_mem {T : Prs} {v w : Wd} {p : Nat × Nat} (h : p ∈ addP T v w) : p ∈ T ∨ (v.tag = 4 ∧ p = (v.num.toNat, w.num.toNat)) := by
  unfold addP at h
  split at h
  · rename_i e
    split at h
    · exact Or.inl h
    · rcases List.mem_append.1 h with h | h
      · exact Or.inl h
      · exact Or.inr ⟨e, by simpa using h⟩
  · exact Or.inl h
theorem addP_in {T : Prs} {v w : Wd} (h : wordsQ v w = true) : WW (inP (addP T v w)) v w := by
  unfold wordsQ at h
  rw [Bool.and_eq_true, Bool.or_eq_true, beq_iff_eq, beq_iff_eq, beq_iff_eq] at h
  obtain ⟨h1, h2⟩ := h
  refine ⟨h1, fun e => ?_, fun e => ?_⟩
  · unfold inP addP
    rw [if_pos e]
    split
    · assumption
    · simp
  · rcases h2 with h2 | h2
    · exact absurd h2 e
    · exact h2
theorem addP_nodup {T : Prs} {v w : Wd} (h : T.Nodup) : (addP T v w).Nodup := by
  unfold addP
  split
  · split
    · exact h
    · rename_i hn
      rw [List.nodup_append]
      refine ⟨h, by simp, fun a ha b hb => ?_⟩
      simp only [List.mem_cons, List.not_mem_nil, or_false] at hb
      rintro rfl
      exact hn (hb ▸ ha)
  · exact h
/-- What holds while pairs are gone through, those ahead of i being done. -/
structure SmInv (x y : List Ce) (v w : Wd) (T : Prs) (i : Nat) : Prop where
  forced : ∀ R, SmGood x y R → WW R v w → ∀ p ∈ T, R p.1 p.2
  closed : ∀ (j : Nat) (a b : Nat), j < i → T[j]? = some (a, b) → ∃ p q, x[a]? = some p ∧ y[b]? = some q ∧ p.kind = q.kind ∧ p.num = q.num ∧ WW (inP T) p.a q.a ∧ WW (inP T) p.b q.b
  root : WW (inP T) v w
  nodup : T.Nodup
  lt : ∀ p ∈ T, p.1 < x.length ∧ p.2 < y.length
section
variable {x y : List Ce} {v w : Wd} {T : Prs} {i a b : Nat} {p q : Ce}
theorem SmInv.done (h : SmInv x y v w T T.length) : SameW x y v w := by
  refine ⟨inP T, fun a b hab => ?_, h.root⟩
  obtain ⟨j, hj, e⟩ := List.getElem_of_mem hab
  exact h.closed j a b hj (by rw [List.getElem?_eq_getElem hj, e])
theorem SmInv.fail (h : SmInv x y v w T i) (ht : T[i]? = some (a, b)) (hp : x[a]? = some p) (hq : y[b]? = some q) (hn : ¬ (p.kind = q.kind ∧ p.num = q.num ∧ wordsQ p.a q.a = true ∧ wordsQ p.b q.b = true)) : ¬ SameW x y v w := by
  rintro ⟨R, hR, hw⟩
  obtain ⟨p', q', h1, h2, h3, h4, h5, h6⟩ := hR a b (h.forced R hR hw (a, b) (List.mem_of_getElem? ht))
  obtain rfl := Option.some.inj (hp.symm.trans h1)
  obtain rfl := Option.some.inj (hq.symm.trans h2)
  exact hn ⟨h3, h4, h5.words, h6.words⟩
theorem SmInv.start (h : wordsQ v w = true) (ht : v.tag = 4) (h1 : v.num.toNat < x.length) (h2 : w.num.toNat < y.length) : SmInv x y v w [(v.num.toNat, w.num.toNat)] 0 := by
  have e : addP [] v w = [(v.num.toNat, w.num.toNat)] := by unfold addP; rw [if_pos ht]; simp
  refine ⟨fun R _ hw p hp => ?_, fun j _ _ hj => absurd hj (by omega), by rw [← e]; exact addP_in h, by simp, fun p hp => ?_⟩
  · obtain rfl : p = (v.num.toNat, w.num.toNat) := by simpa using hp
    exact hw.2.1 ht
  · obtain rfl : p = (v.num.toNat, w.num.toNat) := by simpa using hp
    exact ⟨h1, h2⟩
theorem SmInv.step (h : SmInv x y v w T i) (hx : ∀ c ∈ x, refOk x.length c.a ∧ refOk x.length c.b) (hy : ∀ c ∈ y, refOk y.length c.a ∧ refOk y.length c.b) (ht : T[i]? = some (a, b)) (hp : x[a]? = some p) (hq : y[b]? = some q) (hk : p.kind = q.kind) (hn : p.num = q.num) (ha : wordsQ p.a q.a = true) (hb : wordsQ p.b q.b = true) : SmInv x y v w (addP (addP T p.a q.a) p.b q.b) (i + 1) := by
  have hs : ∀ r ∈ T, r ∈ addP (addP T p.a q.a) p.b q.b := fun r hr => addP_sub _ _ _ r (addP_sub _ _ _ r hr)
  have hm : ∀ c d, inP T c d → inP (addP (addP T p.a q.a) p.b q.b) c d := fun c d hcd => hs _ hcd
  have wa : WW (inP (addP (addP T p.a q.a) p.b q.b)) p.a q.a := (addP_in (T := T) ha).mono fun c d hcd => addP_sub _ _ _ _ hcd
  have wb : WW (inP (addP (addP T p.a q.a) p.b q.b)) p.b q.b := addP_in hb
  obtain ⟨l1, e1⟩ := addP_old T p.a q.a
  obtain ⟨l2, e2⟩ := addP_old (addP T p.a q.a) p.b q.b
  have e : addP (addP T p.a q.a) p.b q.b = T ++ (l1 ++ l2) := by rw [e2, e1, List.append_assoc]
  have hil : i < T.length := (List.getElem?_eq_some_iff.1 ht).1
  obtain ⟨xa, xb⟩ := hx p (List.mem_of_getElem? hp)
  obtain ⟨ya, yb⟩ := hy q (List.mem_of_getElem? hq)
  have ta : p.a.tag = 4 → p.a.num.toNat < x.length ∧ q.a.num.toNat < y.length := fun e4 => by
    have h1 := xa e4
    have h2 := ya (wa.1 ▸ e4)
    omega
  have tb : p.b.tag = 4 → p.b.num.toNat < x.length ∧ q.b.num.toNat < y.length := fun e4 => by
    have h1 := xb e4
    have h2 := yb (wb.1 ▸ e4)
    omega
  refine ⟨fun R hR hw r hr => ?_, fun j c d hj hjt => ?_, h.root.mono hm, addP_nodup (addP_nodup h.nodup), fun r hr => ?_⟩
  · obtain ⟨p', q', g1, g2, _, _, g5, g6⟩ := hR a b (h.forced R hR hw (a, b) (List.mem_of_getElem? ht))
    obtain rfl := Option.some.inj (hp.symm.trans g1)
    obtain rfl := Option.some.inj (hq.symm.trans g2)
    rcases addP_mem hr with hr | ⟨e4, rfl⟩
    · rcases addP_mem hr with hr | ⟨e4, rfl⟩
      · exact h.forced R hR hw r hr
      · exact g5.2.1 e4
    · exact g6.2.1 e4
  · rw [e, List.getElem?_append_left (by omega)] at hjt
    by_cases hji : j < i
    · obtain ⟨p', q', g1, g2, g3, g4, g5, g6⟩ := h.closed j c d hji hjt
      exact ⟨p', q', g1, g2, g3, g4, g5.mono hm, g6.mono hm⟩
    · obtain rfl : j = i := by omega
      obtain ⟨rfl, rfl⟩ : a = c ∧ b = d := by simpa using ht.symm.trans hjt
      exact ⟨p, q, hp, hq, hk, hn, wa, wb⟩
  · rcases addP_mem hr with hr | ⟨e4, rfl⟩
    · rcases addP_mem hr with hr | ⟨e4, rfl⟩
      · exact h.lt r hr
      · exact ta e4
    · exact tb e4
end
/-- As many different numbers below n are n at most. -/
theorem nodup_below : ∀ (n : Nat) (l : List Nat), l.Nodup → (∀ z ∈ l, z < n) → l.length ≤ n
  | 0, l, _, h => by
    cases l with
    | nil => simp
    | cons z _ => exact absurd (h z (by simp)) (by omega)
  | n + 1, l, hd, h => by
    by_cases hm : n ∈ l
    · have h1 := nodup_below n (l.erase n) (hd.erase n) (fun z hz => by
        have h2 := h z (List.mem_of_mem_erase hz)
        have h3 : z ≠ n := fun e => by subst e; exact (List.Nodup.not_mem_erase hd) hz
        omega)
      rw [List.length_erase_of_mem hm] at h1
      omega
    · have h1 := nodup_below n l hd (fun z hz => by
        have h2 := h z hz
        have h3 : z ≠ n := fun e => by subst e; exact hm hz
        omega)
      omega
/-- So there are no more pairs than places of both. -/
theorem SmInv.few {x y : List Ce} {v w : Wd} {T : Prs} {i : Nat} (h : SmInv x y v w T i) : T.length ≤ x.length * y.length := by
  have h1 := nodup_below (x.length * y.length) (T.map fun p => p.1 * y.length + p.2) ?_ ?_
  · simpa using h1
  · have hl := h.lt
    have hn := h.nodup
    clear h
    induction T with
    | nil => simp
    | cons p T ih =>
      rw [List.map_cons, List.nodup_cons]
      rw [List.nodup_cons] at hn
      refine ⟨fun hm => ?_, ih (fun r hr => hl r (by simp [hr])) hn.2⟩
      obtain ⟨r, hr, e⟩ := List.mem_map.1 hm
      have l1 := (hl p (by simp)).2
      have l2 := (hl r (by simp [hr])).2
      have e1 : r.2 = p.2 := by
        have := congrArg (· % y.length) e
        simpa [Nat.add_mod, Nat.mod_eq_of_lt l1, Nat.mod_eq_of_lt l2] using this
      have e2 : r.1 = p.1 := by
        rw [e1] at e
        exact Nat.eq_of_mul_eq_mul_right (by omega) (by omega : r.1 * y.length = p.1 * y.length)
      exact hn.1 (by rw [show p = r from Prod.ext e2.symm e1.symm]; exact hr)
  · intro z hz
    obtain ⟨r, hr, rfl⟩ := List.mem_map.1 hz
    obtain ⟨l1, l2⟩ := h.lt r hr
    have : (r.1 + 1) * y.length ≤ x.length * y.length := Nat.mul_le_mul_right _ l1
    rw [Nat.add_mul] at this
    omega
end Go.Proofs.Ytpocmljbfcenfaa
