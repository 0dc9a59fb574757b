/-
  A region that draws its order and ends, whatever the order, with one operation, which may wait for others by way of those for which it waits. No program is named here.
-/
import Derived.Test.YthikfinliiaecaaGreatDoorNtLast
namespace Go.Proofs.YthikfinliiaecaaGreatDoor
open Go

/-- The last operation waits for all others, at once or by one between, and is bound by no guard, and leaves nothing; each waits for elder ones alone. -/
def lastOk2 (ops : Array Oper) : Bool :=
  (match ops[ops.size - 1]? with
   | some o => o.guard.isNone && o.dst.isNone && (List.range (ops.size - 1)).all fun j => o.after.any fun e => Region.binds .any e && (e.on == j || (match ops[e.on]? with | some x => x.after.any fun f => f.on == j && Region.binds .any f | none => false))
   | none => false) &&
  (List.range ops.size).all fun i => match ops[i]? with
   | some o => o.after.all fun e => decide (e.on < i)
   | none => false
theorem last_spec2 {ops : Array Oper} (h : lastOk2 ops = true) : ∃ oL, ops[ops.size - 1]? = some oL ∧ oL.guard = none ∧ oL.dst = none ∧
    (∀ j, j < ops.size - 1 → ∃ e ∈ oL.after, Region.binds .any e = true ∧ (e.on = j ∨ ∃ x, ops[e.on]? = some x ∧ ∃ f ∈ x.after, f.on = j ∧ Region.binds .any f = true)) ∧
    ∀ (i : Nat) (o : Oper), ops[i]? = some o → ∀ e ∈ o.after, e.on < i := by
  unfold lastOk2 at h
  rw [Bool.and_eq_true] at h
  obtain ⟨h1, h2⟩ := h
  cases hL : ops[ops.size - 1]? with
  | none => rw [hL] at h1; cases h1
  | some oL =>
    rw [hL] at h1
    simp only [Bool.and_eq_true, Option.isNone_iff_eq_none, List.all_eq_true, List.mem_range] at h1
    refine ⟨oL, rfl, h1.1.1, h1.1.2, fun j hj => ?_, fun i o ho e he => ?_⟩
    · obtain ⟨e, he, hb⟩ := Array.any_eq_true'.1 (h1.2 j hj)
      simp only [Bool.and_eq_true, Bool.or_eq_true, beq_iff_eq] at hb
      refine ⟨e, he, hb.1, ?_⟩
      rcases hb.2 with h3 | h3
      · exact Or.inl h3
      · cases hx : ops[e.on]? with
        | none => rw [hx] at h3; cases h3
        | some x =>
          rw [hx] at h3
          obtain ⟨f, hf, hfb⟩ := Array.any_eq_true'.1 h3
          simp only [Bool.and_eq_true, beq_iff_eq] at hfb
          exact Or.inr ⟨x, rfl, f, hf, hfb.1, hfb.2⟩
    · have hi : i < ops.size := (Array.getElem?_eq_some_iff.1 ho).1
      have := (List.all_eq_true.1 h2) i (List.mem_range.2 hi)
      rw [ho] at this
      exact of_decide_eq_true (Array.all_eq_true_iff_forall_mem.1 this e he)
/-- What is listed waited for nothing that is not. -/
def ClosedL (ops : Array Oper) (listed : Array Bool) : Prop := ∀ (i : Nat) (o : Oper), ops[i]? = some o → listed.getD i false = true → ∀ e ∈ o.after, Region.binds .any e = true → listed.getD e.on false = true
theorem closed_new (ops : Array Oper) (n : Nat) : ClosedL ops (Array.replicate n false) := fun i o _ h => by
  simp [Array.getD] at h
theorem getD_set_true (l : Array Bool) (i j : Nat) (h : l.getD j false = true) : (l.setIfInBounds i true).getD j false = true := by
  by_cases e : i = j
  · subst e
    have hl : i < l.size := by
      apply Decidable.byContradiction
      intro hn
      simp [Array.getD, hn] at h
    simp [Array.getD, hl]
  · rw [getD_set_ne _ _ _ _ e]; exact h
theorem closed_next {ops : Array Oper} {listed : Array Bool} {i : Nat} (hc : ClosedL ops listed) (hi : i ∈ Region.ready .any ops listed) : ClosedL ops (listed.setIfInBounds i true) := fun j o ho hj e he hb => by
  obtain ⟨_, _, o', ho', h3⟩ := mem_ready.1 hi
  by_cases hij : i = j
  · subst hij
    obtain rfl := Option.some.inj (ho.symm.trans ho')
    exact getD_set_true _ _ _ (h3 e he hb)
  · rw [getD_set_ne _ _ _ _ hij] at hj
    exact getD_set_true _ _ _ (hc j o ho hj e he hb)

theorem ready_some2 {ops : Array Oper} (h : lastOk2 ops = true) {listed : Array Bool} (hs : listed.size = ops.size) (hu : listed.getD (ops.size - 1) true = false) : Region.ready .any ops listed ≠ [] := by
  obtain ⟨oL, hL, _, _, _, hfw⟩ := last_spec2 h
  have hpos : ops.size - 1 < ops.size := (Array.getElem?_eq_some_iff.1 hL).1
  have key : ∀ n, n < ops.size → listed.getD n true = false → ∃ i, i ∈ Region.ready .any ops listed := by
    intro n
    induction n using Nat.strongRecOn with
    | _ n ih =>
      intro hn hun
      by_cases hall : ∀ e ∈ (ops[n]).after, Region.binds .any e = true → listed.getD e.on false = true
      · exact ⟨n, mem_ready.2 ⟨hn, hun, ops[n], Array.getElem?_eq_getElem hn, hall⟩⟩
      · obtain ⟨e, he⟩ := Classical.not_forall.1 hall
        obtain ⟨he1, he2⟩ := Classical.not_imp.1 he
        obtain ⟨_, he3⟩ := Classical.not_imp.1 he2
        have hlt := hfw n ops[n] (Array.getElem?_eq_getElem hn) e he1
        refine ih e.on hlt (by omega) ?_
        rw [getD_any listed e.on (by omega) true false]
        simpa using he3
  obtain ⟨i, hi⟩ := key (ops.size - 1) hpos hu
  intro h0
  rw [h0] at hi
  simp at hi
theorem ready_none2 {ops : Array Oper} (h : lastOk2 ops = true) {listed : Array Bool} (hs : listed.size = ops.size) (hc : ClosedL ops listed) (hr : ops.size - 1 ∈ Region.ready .any ops listed) : Region.ready .any ops (listed.setIfInBounds (ops.size - 1) true) = [] := by
  obtain ⟨oL, hL, _, _, hall, _⟩ := last_spec2 h
  obtain ⟨h1, h2, o, ho, h3⟩ := mem_ready.1 hr
  obtain rfl := Option.some.inj (hL.symm.trans ho)
  apply List.eq_nil_iff_forall_not_mem.2
  intro i hi
  obtain ⟨hi1, hi2, _⟩ := mem_ready.1 hi
  by_cases he : i = ops.size - 1
  · subst he
    have hl : ops.size - 1 < listed.size := by omega
    simp [Array.getD, hl] at hi2
  · obtain ⟨e, he1, he3, he2⟩ := hall i (by omega)
    have h4 : listed.getD i false = true := by
      have h5 := h3 e he1 he3
      rcases he2 with rfl | ⟨x, hx, f, hf, rfl, hfb⟩
      · exact h5
      · exact hc e.on x hx h5 f hf hfb
    rw [getD_set_ne _ _ _ _ (by omega), getD_any listed i (by omega) true false, h4] at hi2
    cases hi2

theorem wpAny_last2 {P : Program} {ops : Array Oper} {oL : Oper} {Q : Exit → Act → World → Prop} (h : lastOk2 ops = true) (hL : ops[ops.size - 1]? = some oL) : ∀ (fuel : Nat) (listed : Array Bool) (a : Act) (w : World), listed.size = ops.size → ClosedL ops listed → listed.getD (ops.size - 1) true = false →
    wpAny P .any (killLast ops) (lastPost P oL Q) fuel listed a w → wpAny P .any ops Q fuel listed a w
  | 0, listed, a, w, hs, _, hu, hh => absurd ((kill_ready .any ops listed).symm.trans hh.1) (ready_some2 h hs hu)
  | fuel + 1, listed, a, w, hs, hc, hu, hh => by
    obtain ⟨oL', hL', hg, hd, _, _⟩ := last_spec2 h
    obtain rfl := Option.some.inj (hL.symm.trans hL')
    refine ⟨fun h0 => absurd h0 (ready_some2 h hs hu), fun i hi => ?_⟩
    have h1 := hh.2 i (by rw [kill_ready]; exact hi)
    obtain ⟨hi1, hi2, o, ho, _⟩ := mem_ready.1 hi
    by_cases he : i = ops.size - 1
    · subst he
      obtain rfl := Option.some.inj (hL.symm.trans ho)
      have hn := ready_none2 h hs hc hi
      have hk : (killLast ops)[ops.size - 1]? = some { oL with op := .move (.const (.bool true)) } := by rw [kill_get, if_pos rfl, hL]; rfl
      have hw : ∀ y, Region.wanted oL y = true := fun y => by simp [Region.wanted, hg]
      have hw' : ∀ y, Region.wanted { oL with op := .move (.const (.bool true)) } y = true := fun y => by simp [Region.wanted, hg]
      have h2 : wpAny P .any (killLast ops) (lastPost P oL Q) fuel (listed.setIfInBounds (ops.size - 1) true) a w := by
        unfold wpOp at h1
        rw [hk] at h1
        simp only [hw', if_true] at h1
        rcases h1 with h1 | ⟨h1, _⟩
        · have : ({ oL with op := .move (.const (.bool true)) } : Oper).wp P a w (wpAny P .any (killLast ops) (lastPost P oL Q) fuel (listed.setIfInBounds (ops.size - 1) true)) (lastPost P oL Q) = wpAny P .any (killLast ops) (lastPost P oL Q) fuel (listed.setIfInBounds (ops.size - 1) true) (a.put oL.dst (.bool true)) w := rfl
          rw [this, hd] at h1
          exact h1
        · exact absurd h1.1 (by show noRoomEvent ∉ (#[] : Array _); simp)
      have h3 : lastPost P oL Q .normal a w := by
        cases fuel with
        | zero => exact h2.2
        | succ n => exact h2.1 (by rw [kill_ready]; exact hn)
      unfold wpOp
      rw [hL]
      simp only [hw, if_true]
      exact Or.inl (Oper.wp_mono (fun a' w' hq => wpAny_done hn hq fuel) h3)
    · have hk : (killLast ops)[i]? = some o := by rw [kill_get, if_neg (fun e => he e.symm)]; exact ho
      have hu' : (listed.setIfInBounds i true).getD (ops.size - 1) true = false := by
        rw [getD_set_ne _ _ _ _ he]; exact hu
      have ih := fun a w => wpAny_last2 (P := P) (Q := Q) h hL fuel (listed.setIfInBounds i true) a w (by rw [Array.size_setIfInBounds]; exact hs) (closed_next hc hi) hu'
      unfold wpOp at h1 ⊢
      rw [hk, kill_yielded] at h1
      rw [ho]
      simp only at h1 ⊢
      split
      · rename_i hw
        rw [if_pos hw] at h1
        exact h1.imp (wp_last ih) (fun h => ⟨h.1, lets_last h.2⟩)
      · rename_i hw
        rw [if_neg hw] at h1
        exact ih _ _ h1

/-- The region, begun under S, its last operation told apart. -/
theorem wp_region_last2 {P : Program} {id : Nat} {ops : Array Oper} {oL : Oper} {Q : Exit → Act → World → Prop} {S : World → Prop} {a : Act} {w : World} (hm : P.follows .mixedOrders = true) (h : lastOk2 ops = true) (hL : ops[ops.size - 1]? = some oL) (hS : S w.drew)
    (hh : S w.drew → wpAnyH P .any (killLast ops) (lastPost P oL Q) S ops.size (Array.replicate ops.size false) a w.drew) : (Code.region id ops true).wp P Q a w := by
  have hpos : ops.size - 1 < ops.size := (Array.getElem?_eq_some_iff.1 hL).1
  refine wp_region_any hm (wpAny_last2 h hL _ _ _ _ (by simp) (closed_new _ _) ?_ (wpAny_of_held _ _ _ _ (hh hS)))
  simp [Array.getD, hpos]
end Go.Proofs.YthikfinliiaecaaGreatDoor

