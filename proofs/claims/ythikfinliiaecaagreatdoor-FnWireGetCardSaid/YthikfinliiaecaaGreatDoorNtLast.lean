/-
  A region that draws its order and ends, whatever the order, with one operation: that one is told apart. No program is named here.
-/
import Derived.Deep.RegionHeld3
namespace Go.Proofs.YthikfinliiaecaaGreatDoor
open Go

/-- The same, the last one doing nothing. -/
def killL : List Oper → List Oper
  | [] => []
  | [o] => [{ o with op := .move (.const (.bool true)) }]
  | o :: x :: r => o :: killL (x :: r)
/-- The operations, the last one doing nothing. -/
def killLast (ops : Array Oper) : Array Oper := (killL ops.toList).toArray
theorem killL_length : ∀ l : List Oper, (killL l).length = l.length
  | [] => rfl
  | [_] => rfl
  | _ :: x :: r => by rw [killL, List.length_cons, killL_length (x :: r)]; rfl
theorem killL_get : ∀ (l : List Oper) (i : Nat), (killL l)[i]? = if l.length - 1 = i then (l[i]?).map fun o => { o with op := .move (.const (.bool true)) } else l[i]?
  | [], i => by rw [killL]; simp
  | [o], i => by
    rw [killL]
    cases i with
    | zero => simp
    | succ i => simp
  | o :: x :: r, i => by
    rw [killL]
    cases i with
    | zero => simp
    | succ i =>
      rw [List.getElem?_cons_succ, killL_get (x :: r) i, List.getElem?_cons_succ]
      have h : ((o :: x :: r).length - 1 = i + 1) = ((x :: r).length - 1 = i) := by
        simp only [List.length_cons, eq_iff_iff]; omega
      simp only [h]
/-- The last operation waits for all others, and is bound by no guard, and leaves nothing; each waits for elder ones alone. -/
def lastOk (ops : Array Oper) : Bool :=
  (match ops[ops.size - 1]? with
   | some o => o.guard.isNone && o.dst.isNone && (List.range (ops.size - 1)).all fun j => o.after.any fun e => e.on == j && Region.binds .any e
   | none => false) &&
  (List.range ops.size).all fun i => match ops[i]? with
   | some o => o.after.all fun e => decide (e.on < i)
   | none => false
/-- What is asked behind all others: that the last operation leads where it should. -/
def lastPost (P : Program) (o : Oper) (Q : Exit → Act → World → Prop) : Exit → Act → World → Prop
  | .normal, a, w => o.wp P a w (fun a' w' => Q .normal a' w') Q
  | e, a, w => Q e a w

theorem kill_size (ops : Array Oper) : (killLast ops).size = ops.size := by
  rw [killLast, List.size_toArray, killL_length, Array.length_toList]
theorem kill_get (ops : Array Oper) (i : Nat) : (killLast ops)[i]? = if ops.size - 1 = i then (ops[i]?).map fun o => { o with op := .move (.const (.bool true)) } else ops[i]? := by
  rw [killLast, List.getElem?_toArray, killL_get, Array.length_toList, Array.getElem?_toList]
theorem kill_ready (md : Region.Mode) (ops : Array Oper) (listed : Array Bool) : Region.ready md (killLast ops) listed = Region.ready md ops listed := by
  unfold Region.ready
  rw [kill_size]
  refine List.filter_congr fun i _ => ?_
  rw [kill_get]
  split
  · cases ops[i]? <;> rfl
  · rfl
theorem kill_dst (ops : Array Oper) (j : Nat) : ((killLast ops)[j]?).bind (·.dst) = (ops[j]?).bind (·.dst) := by
  rw [kill_get]
  by_cases h : ops.size - 1 = j
  · rw [if_pos h]; cases ops[j]? <;> rfl
  · rw [if_neg h]
theorem kill_yielded (ops : Array Oper) (tmps : Array Value) : yielded (killLast ops) tmps = yielded ops tmps := by
  funext j
  unfold yielded
  rw [kill_dst]

theorem lets_last {P : Program} {o : Oper} {Q : Exit → Act → World → Prop} (h : LetsOut (lastPost P o Q)) : LetsOut Q := h
theorem wp_last {P : Program} {oL o : Oper} {Q : Exit → Act → World → Prop} {a : Act} {w : World} {K K' : Act → World → Prop} (h : ∀ a w, K a w → K' a w) (hh : o.wp P a w K (lastPost P oL Q)) : o.wp P a w K' Q := by
  unfold Oper.wp at *
  generalize (execOp a.eval o).run P w = r at *
  cases r with
  | ok n w' =>
    cases n with
    | value v => exact h _ _ hh
    | skip => exact h _ _ hh
    | defer d => exact h _ _ hh
    | enter f args =>
      refine Calls.mono hh fun e w'' he => ?_
      cases e with
      | returned v => exact h _ _ he
      | panicked c => exact he
      | outgrown => exact he
    | row row args => exact Rows.mono hh fun _ _ he => h _ _ he
    | _ => exact hh
  | halt x w' => cases x <;> exact hh

theorem getD_set_ne (l : Array Bool) (i j : Nat) (d : Bool) (h : i ≠ j) : (l.setIfInBounds i true).getD j d = l.getD j d := by
  rw [Array.getD_eq_getD_getElem?, Array.getD_eq_getD_getElem?, Array.getElem?_setIfInBounds_ne h]
theorem getD_any (l : Array Bool) (j : Nat) (h : j < l.size) (d d' : Bool) : l.getD j d = l.getD j d' := by simp [Array.getD, h]
/-- What is ready: not listed, and all that it waits for is. -/
theorem mem_ready {md : Region.Mode} {ops : Array Oper} {listed : Array Bool} {i : Nat} : i ∈ Region.ready md ops listed ↔ i < ops.size ∧ listed.getD i true = false ∧ ∃ o, ops[i]? = some o ∧ ∀ e ∈ o.after, Region.binds md e = true → listed.getD e.on false = true := by
  unfold Region.ready
  rw [List.mem_filter, List.mem_range]
  constructor
  · rintro ⟨h1, h2⟩
    rw [Bool.and_eq_true, Bool.not_eq_true'] at h2
    obtain ⟨h3, h4⟩ := h2
    refine ⟨h1, h3, ?_⟩
    cases ho : ops[i]? with
    | none => rw [ho] at h4; simp at h4
    | some o =>
      rw [ho] at h4
      simp only [Option.map_some, Option.getD_some] at h4
      refine ⟨o, rfl, fun e he hb => ?_⟩
      have := Array.all_eq_true_iff_forall_mem.1 h4 e he
      rw [hb] at this
      simpa using this
  · rintro ⟨h1, h2, o, ho, h3⟩
    refine ⟨h1, ?_⟩
    rw [ho, h2]
    simp only [Option.map_some, Option.getD_some, Bool.not_false, Bool.true_and]
    refine Array.all_eq_true_iff_forall_mem.2 fun e he => ?_
    cases hb : Region.binds md e
    · rfl
    · rw [h3 e he hb]; rfl

theorem last_spec {ops : Array Oper} (h : lastOk ops = true) : ∃ oL, ops[ops.size - 1]? = some oL ∧ oL.guard = none ∧ oL.dst = none ∧ (∀ j, j < ops.size - 1 → ∃ e ∈ oL.after, e.on = j ∧ Region.binds .any e = true) ∧
    ∀ (i : Nat) (o : Oper), ops[i]? = some o → ∀ e ∈ o.after, e.on < i := by
  unfold lastOk at h
  rw [Bool.and_eq_true] at h
  obtain ⟨h1, h2⟩ := h
  cases hL : ops[ops.size - 1]? with
  | none => rw [hL] at h1; cases h1
  | some oL =>
    rw [hL] at h1
    simp only [Bool.and_eq_true, Option.isNone_iff_eq_none, List.all_eq_true, List.mem_range] at h1
    refine ⟨oL, rfl, h1.1.1, h1.1.2, fun j hj => ?_, fun i o ho e he => ?_⟩
    · obtain ⟨e, he, hb⟩ := Array.any_eq_true'.1 (h1.2 j hj)
      simp only [Bool.and_eq_true, beq_iff_eq] at hb
      exact ⟨e, he, hb.1, hb.2⟩
    · have hi : i < ops.size := (Array.getElem?_eq_some_iff.1 ho).1
      have := (List.all_eq_true.1 h2) i (List.mem_range.2 hi)
      rw [ho] at this
      exact of_decide_eq_true (Array.all_eq_true_iff_forall_mem.1 this e he)

/-- As long as the last is not listed something is ready. -/
theorem ready_some {ops : Array Oper} (h : lastOk ops = true) {listed : Array Bool} (hs : listed.size = ops.size) (hu : listed.getD (ops.size - 1) true = false) : Region.ready .any ops listed ≠ [] := by
  obtain ⟨oL, hL, _, _, _, hfw⟩ := last_spec h
  have hpos : ops.size - 1 < ops.size := (Array.getElem?_eq_some_iff.1 hL).1
  -- the first that is not listed
  have key : ∀ n, n < ops.size → listed.getD n true = false → ∃ i, i ∈ Region.ready .any ops listed := by
    intro n
    induction n using Nat.strongRecOn with
    | _ n ih =>
      intro hn hun
      by_cases hall : ∀ e ∈ (ops[n]).after, Region.binds .any e = true → listed.getD e.on false = true
      · exact ⟨n, mem_ready.2 ⟨hn, hun, ops[n], Array.getElem?_eq_getElem hn, hall⟩⟩
      · obtain ⟨e, he⟩ := Classical.not_forall.1 hall
        obtain ⟨he1, he2⟩ := Classical.not_imp.1 he
        obtain ⟨_, he3⟩ := Classical.not_imp.1 he2
        have hlt := hfw n ops[n] (Array.getElem?_eq_getElem hn) e he1
        refine ih e.on hlt (by omega) ?_
        rw [getD_any listed e.on (by omega) true false]
        simpa using he3
  obtain ⟨i, hi⟩ := key (ops.size - 1) hpos hu
  intro h0
  rw [h0] at hi
  simp at hi
/-- Behind the last nothing is ready. -/
theorem ready_none {ops : Array Oper} (h : lastOk ops = true) {listed : Array Bool} (hs : listed.size = ops.size) (hr : ops.size - 1 ∈ Region.ready .any ops listed) : Region.ready .any ops (listed.setIfInBounds (ops.size - 1) true) = [] := by
  obtain ⟨oL, hL, _, _, hall, _⟩ := last_spec h
  obtain ⟨h1, h2, o, ho, h3⟩ := mem_ready.1 hr
  obtain rfl := Option.some.inj (hL.symm.trans ho)
  apply List.eq_nil_iff_forall_not_mem.2
  intro i hi
  obtain ⟨hi1, hi2, _⟩ := mem_ready.1 hi
  by_cases he : i = ops.size - 1
  · subst he
    have hl : ops.size - 1 < listed.size := by omega
    simp [Array.getD, hl] at hi2
  · obtain ⟨e, he1, he2, he3⟩ := hall i (by omega)
    have h4 := h3 e he1 he3
    rw [he2] at h4
    rw [getD_set_ne _ _ _ _ (by omega), getD_any listed i (by omega) true false, h4] at hi2
    cases hi2

theorem wpAny_last {P : Program} {ops : Array Oper} {oL : Oper} {Q : Exit → Act → World → Prop} (h : lastOk ops = true) (hL : ops[ops.size - 1]? = some oL) : ∀ (fuel : Nat) (listed : Array Bool) (a : Act) (w : World), listed.size = ops.size → listed.getD (ops.size - 1) true = false →
    wpAny P .any (killLast ops) (lastPost P oL Q) fuel listed a w → wpAny P .any ops Q fuel listed a w
  | 0, listed, a, w, hs, hu, hh => absurd ((kill_ready .any ops listed).symm.trans hh.1) (ready_some h hs hu)
  | fuel + 1, listed, a, w, hs, hu, hh => by
    obtain ⟨oL', hL', hg, hd, _, _⟩ := last_spec h
    obtain rfl := Option.some.inj (hL.symm.trans hL')
    refine ⟨fun h0 => absurd h0 (ready_some h hs hu), fun i hi => ?_⟩
    have h1 := hh.2 i (by rw [kill_ready]; exact hi)
    obtain ⟨hi1, hi2, o, ho, _⟩ := mem_ready.1 hi
    by_cases he : i = ops.size - 1
    · subst he
      obtain rfl := Option.some.inj (hL.symm.trans ho)
      have hn := ready_none h hs hi
      have hk : (killLast ops)[ops.size - 1]? = some { oL with op := .move (.const (.bool true)) } := by rw [kill_get, if_pos rfl, hL]; rfl
      have hw : ∀ y, Region.wanted oL y = true := fun y => by simp [Region.wanted, hg]
      have hw' : ∀ y, Region.wanted { oL with op := .move (.const (.bool true)) } y = true := fun y => by simp [Region.wanted, hg]
      have h2 : wpAny P .any (killLast ops) (lastPost P oL Q) fuel (listed.setIfInBounds (ops.size - 1) true) a w := by
        unfold wpOp at h1
        rw [hk] at h1
        simp only [hw', if_true] at h1
        rcases h1 with h1 | ⟨h1, _⟩
        · have : ({ oL with op := .move (.const (.bool true)) } : Oper).wp P a w (wpAny P .any (killLast ops) (lastPost P oL Q) fuel (listed.setIfInBounds (ops.size - 1) true)) (lastPost P oL Q) = wpAny P .any (killLast ops) (lastPost P oL Q) fuel (listed.setIfInBounds (ops.size - 1) true) (a.put oL.dst (.bool true)) w := rfl
          rw [this, hd] at h1
          exact h1
        · exact absurd h1.1 (by show noRoomEvent ∉ (#[] : Array _); simp)
      have h3 : lastPost P oL Q .normal a w := by
        cases fuel with
        | zero => exact h2.2
        | succ n => exact h2.1 (by rw [kill_ready]; exact hn)
      unfold wpOp
      rw [hL]
      simp only [hw, if_true]
      exact Or.inl (Oper.wp_mono (fun a' w' hq => wpAny_done hn hq fuel) h3)
    · have hk : (killLast ops)[i]? = some o := by rw [kill_get, if_neg (fun e => he e.symm)]; exact ho
      have hu' : (listed.setIfInBounds i true).getD (ops.size - 1) true = false := by
        rw [getD_set_ne _ _ _ _ he]; exact hu
      have ih := fun a w => wpAny_last (P := P) (Q := Q) h hL fuel (listed.setIfInBounds i true) a w (by rw [Array.size_setIfInBounds]; exact hs) hu'
      unfold wpOp at h1 ⊢
      rw [hk, kill_yielded] at h1
      rw [ho]
      simp only at h1 ⊢
      split
      · rename_i hw
        rw [if_pos hw] at h1
        exact h1.imp (wp_last ih) (fun h => ⟨h.1, lets_last h.2⟩)
      · rename_i hw
        rw [if_neg hw] at h1
        exact ih _ _ h1

/-- The region, begun under S, its last operation told apart. -/
theorem wp_region_last {P : Program} {id : Nat} {ops : Array Oper} {oL : Oper} {Q : Exit → Act → World → Prop} {S : World → Prop} {a : Act} {w : World} (hm : P.follows .mixedOrders = true) (h : lastOk ops = true) (hL : ops[ops.size - 1]? = some oL) (hS : S w.drew)
    (hh : S w.drew → wpAnyH P .any (killLast ops) (lastPost P oL Q) S ops.size (Array.replicate ops.size false) a w.drew) : (Code.region id ops true).wp P Q a w := by
  have hpos : ops.size - 1 < ops.size := (Array.getElem?_eq_some_iff.1 hL).1
  refine wp_region_any hm (wpAny_last h hL _ _ _ _ (by simp) ?_ (wpAny_of_held _ _ _ _ (hh hS)))
  simp [Array.getD, hpos]
end Go.Proofs.YthikfinliiaecaaGreatDoor

