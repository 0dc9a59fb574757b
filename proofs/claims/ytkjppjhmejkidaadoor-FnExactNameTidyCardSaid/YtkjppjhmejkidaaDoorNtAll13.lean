/-
  A region that draws its order and ends, whatever the order, with one operation: that one is told apart. No program is named here.
  Steps of a region that draws its order, by their operation alone.
  The specification's l3At.
  The specification's l3Tidy.
-/
import Derived.Deep.RegionHeld3
import Derived.Test.YtkjppjhmejkidaaDoorNtAll2
import Derived.Deep.AppendLies
import Derived.Test.YtkjppjhmejkidaaDoorNtAll1
import Derived.Test.YtkjppjhmejkidaaDoorNtAll12
import Derived.Test.YtkjppjhmejkidaaDoorNtAll11
namespace Go.Proofs.YtkjppjhmejkidaaDoor
open Go

/-- The same, the last one doing nothing. -/
def killL : List Oper → List Oper
  | [] => []
  | [o] => [{ o with op := .move (.const (.bool true)) }]
  | o :: x :: r => o :: killL (x :: r)
/-- The operations, the last one doing nothing. -/
def killLast (ops : Array Oper) : Array Oper := (killL ops.toList).toArray
theorem killL_length : ∀ l : List Oper, (killL l).length = l.length
  | [] => rfl
  | [_] => rfl
  | _ :: x :: r => by rw [killL, List.length_cons, killL_length (x :: r)]; rfl
theorem killL_get : ∀ (l : List Oper) (i : Nat), (killL l)[i]? = if l.length - 1 = i then (l[i]?).map fun o => { o with op := .move (.const (.bool true)) } else l[i]?
  | [], i => by rw [killL]; simp
  | [o], i => by
    rw [killL]
    cases i with
    | zero => simp
    | succ i => simp
  | o :: x :: r, i => by
    rw [killL]
    cases i with
    | zero => simp
    | succ i =>
      rw [List.getElem?_cons_succ, killL_get (x :: r) i, List.getElem?_cons_succ]
      have h : ((o :: x :: r).length - 1 = i + 1) = ((x :: r).length - 1 = i) := by
        simp only [List.length_cons, eq_iff_iff]; omega
      simp only [h]
/-- The last operation waits for all others, and is bound by no guard, and leaves nothing; each waits for elder ones alone. -/
def lastOk (ops : Array Oper) : Bool :=
  (match ops[ops.size - 1]? with
   | some o => o.guard.isNone && o.dst.isNone && (List.range (ops.size - 1)).all fun j => o.after.any fun e => e.on == j && Region.binds .any e
   | none => false) &&
  (List.range ops.size).all fun i => match ops[i]? with
   | some o => o.after.all fun e => decide (e.on < i)
   | none => false
/-- What is asked behind all others: that the last operation leads where it should. -/
def lastPost (P : Program) (o : Oper) (Q : Exit → Act → World → Prop) : Exit → Act → World → Prop
  | .normal, a, w => o.wp P a w (fun a' w' => Q .normal a' w') Q
  | e, a, w => Q e a w

theorem kill_size (ops : Array Oper) : (killLast ops).size = ops.size := by
  rw [killLast, List.size_toArray, killL_length, Array.length_toList]
theorem kill_get (ops : Array Oper) (i : Nat) : (killLast ops)[i]? = if ops.size - 1 = i then (ops[i]?).map fun o => { o with op := .move (.const (.bool true)) } else ops[i]? := by
  rw [killLast, List.getElem?_toArray, killL_get, Array.length_toList, Array.getElem?_toList]
theorem kill_ready (md : Region.Mode) (ops : Array Oper) (listed : Array Bool) : Region.ready md (killLast ops) listed = Region.ready md ops listed := by
  unfold Region.ready
  rw [kill_size]
  refine List.filter_congr fun i _ => ?_
  rw [kill_get]
  split
  · cases ops[i]? <;> rfl
  · rfl
theorem kill_dst (ops : Array Oper) (j : Nat) : ((killLast ops)[j]?).bind (·.dst) = (ops[j]?).bind (·.dst) := by
  rw [kill_get]
  by_cases h : ops.size - 1 = j
  · rw [if_pos h]; cases ops[j]? <;> rfl
  · rw [if_neg h]
theorem kill_yielded (ops : Array Oper) (tmps : Array Value) : yielded (killLast ops) tmps = yielded ops tmps := by
  funext j
  unfold yielded
  rw [kill_dst]

theorem lets_last {P : Program} {o : Oper} {Q : Exit → Act → World → Prop} (h : LetsOut (lastPost P o Q)) : LetsOut Q := h
theorem wp_last {P : Program} {oL o : Oper} {Q : Exit → Act → World → Prop} {a : Act} {w : World} {K K' : Act → World → Prop} (h : ∀ a w, K a w → K' a w) (hh : o.wp P a w K (lastPost P oL Q)) : o.wp P a w K' Q := by
  unfold Oper.wp at *
  generalize (execOp a.eval o).run P w = r at *
  cases r with
  | ok n w' =>
    cases n with
    | value v => exact h _ _ hh
    | skip => exact h _ _ hh
    | defer d => exact h _ _ hh
    | enter f args =>
      refine Calls.mono hh fun e w'' he => ?_
      cases e with
      | returned v => exact h _ _ he
      | panicked c => exact he
      | outgrown => exact he
    | row row args => exact Rows.mono hh fun _ _ he => h _ _ he
    | _ => exact hh
  | halt x w' => cases x <;> exact hh

theorem getD_set_ne (l : Array Bool) (i j : Nat) (d : Bool) (h : i ≠ j) : (l.setIfInBounds i true).getD j d = l.getD j d := by
  rw [Array.getD_eq_getD_getElem?, Array.getD_eq_getD_getElem?, Array.getElem?_setIfInBounds_ne h]
theorem getD_any (l : Array Bool) (j : Nat) (h : j < l.size) (d d' : Bool) : l.getD j d = l.getD j d' := by simp [Array.getD, h]
/-- What is ready: not listed, and all that it waits for is. -/
theorem mem_ready {md : Region.Mode} {ops : Array Oper} {listed : Array Bool} {i : Nat} : i ∈ Region.ready md ops listed ↔ i < ops.size ∧ listed.getD i true = false ∧ ∃ o, ops[i]? = some o ∧ ∀ e ∈ o.after, Region.binds md e = true → listed.getD e.on false = true := by
  unfold Region.ready
  rw [List.mem_filter, List.mem_range]
  constructor
  · rintro ⟨h1, h2⟩
    rw [Bool.and_eq_true, Bool.not_eq_true'] at h2
    obtain ⟨h3, h4⟩ := h2
    refine ⟨h1, h3, ?_⟩
    cases ho : ops[i]? with
    | none => rw [ho] at h4; simp at h4
    | some o =>
      rw [ho] at h4
      simp only [Option.map_some, Option.getD_some] at h4
      refine ⟨o, rfl, fun e he hb => ?_⟩
      have := Array.all_eq_true_iff_forall_mem.1 h4 e he
      rw [hb] at this
      simpa using this
  · rintro ⟨h1, h2, o, ho, h3⟩
    refine ⟨h1, ?_⟩
    rw [ho, h2]
    simp only [Option.map_some, Option.getD_some, Bool.not_false, Bool.true_and]
    refine Array.all_eq_true_iff_forall_mem.2 fun e he => ?_
    cases hb : Region.binds md e
    · rfl
    · rw [h3 e he hb]; rfl

theorem last_spec {ops : Array Oper} (h : lastOk ops = true) : ∃ oL, ops[ops.size - 1]? = some oL ∧ oL.guard = none ∧ oL.dst = none ∧ (∀ j, j < ops.size - 1 → ∃ e ∈ oL.after, e.on = j ∧ Region.binds .any e = true) ∧
    ∀ (i : Nat) (o : Oper), ops[i]? = some o → ∀ e ∈ o.after, e.on < i := by
  unfold lastOk at h
  rw [Bool.and_eq_true] at h
  obtain ⟨h1, h2⟩ := h
  cases hL : ops[ops.size - 1]? with
  | none => rw [hL] at h1; cases h1
  | some oL =>
    rw [hL] at h1
    simp only [Bool.and_eq_true, Option.isNone_iff_eq_none, List.all_eq_true, List.mem_range] at h1
    refine ⟨oL, rfl, h1.1.1, h1.1.2, fun j hj => ?_, fun i o ho e he => ?_⟩
    · obtain ⟨e, he, hb⟩ := Array.any_eq_true'.1 (h1.2 j hj)
      simp only [Bool.and_eq_true, beq_iff_eq] at hb
      exact ⟨e, he, hb.1, hb.2⟩
    · have hi : i < ops.size := (Array.getElem?_eq_some_iff.1 ho).1
      have := (List.all_eq_true.1 h2) i (List.mem_range.2 hi)
      rw [ho] at this
      exact of_decide_eq_true (Array.all_eq_true_iff_forall_mem.1 this e he)

/-- As long as the last is not listed something is ready. -/
theorem ready_some {ops : Array Oper} (h : lastOk ops = true) {listed : Array Bool} (hs : listed.size = ops.size) (hu : listed.getD (ops.size - 1) true = false) : Region.ready .any ops listed ≠ [] := by
  obtain ⟨oL, hL, _, _, _, hfw⟩ := last_spec h
  have hpos : ops.size - 1 < ops.size := (Array.getElem?_eq_some_iff.1 hL).1
  -- the first that is not listed
  have key : ∀ n, n < ops.size → listed.getD n true = false → ∃ i, i ∈ Region.ready .any ops listed := by
    intro n
    induction n using Nat.strongRecOn with
    | _ n ih =>
      intro hn hun
      by_cases hall : ∀ e ∈ (ops[n]).after, Region.binds .any e = true → listed.getD e.on false = true
      · exact ⟨n, mem_ready.2 ⟨hn, hun, ops[n], Array.getElem?_eq_getElem hn, hall⟩⟩
      · obtain ⟨e, he⟩ := Classical.not_forall.1 hall
        obtain ⟨he1, he2⟩ := Classical.not_imp.1 he
        obtain ⟨_, he3⟩ := Classical.not_imp.1 he2
        have hlt := hfw n ops[n] (Array.getElem?_eq_getElem hn) e he1
        refine ih e.on hlt (by omega) ?_
        rw [getD_any listed e.on (by omega) true false]
        simpa using he3
  obtain ⟨i, hi⟩ := key (ops.size - 1) hpos hu
  intro h0
  rw [h0] at hi
  simp at hi
/-- Behind the last nothing is ready. -/
theorem ready_none {ops : Array Oper} (h : lastOk ops = true) {listed : Array Bool} (hs : listed.size = ops.size) (hr : ops.size - 1 ∈ Region.ready .any ops listed) : Region.ready .any ops (listed.setIfInBounds (ops.size - 1) true) = [] := by
  obtain ⟨oL, hL, _, _, hall, _⟩ := last_spec h
  obtain ⟨h1, h2, o, ho, h3⟩ := mem_ready.1 hr
  obtain rfl := Option.some.inj (hL.symm.trans ho)
  apply List.eq_nil_iff_forall_not_mem.2
  intro i hi
  obtain ⟨hi1, hi2, _⟩ := mem_ready.1 hi
  by_cases he : i = ops.size - 1
  · subst he
    have hl : ops.size - 1 < listed.size := by omega
    simp [Array.getD, hl] at hi2
  · obtain ⟨e, he1, he2, he3⟩ := hall i (by omega)
    have h4 := h3 e he1 he3
    rw [he2] at h4
    rw [getD_set_ne _ _ _ _ (by omega), getD_any listed i (by omega) true false, h4] at hi2
    cases hi2

theorem wpAny_last {P : Program} {ops : Array Oper} {oL : Oper} {Q : Exit → Act → World → Prop} (h : lastOk ops = true) (hL : ops[ops.size - 1]? = some oL) : ∀ (fuel : Nat) (listed : Array Bool) (a : Act) (w : World), listed.size = ops.size → listed.getD (ops.size - 1) true = false →
    wpAny P .any (killLast ops) (lastPost P oL Q) fuel listed a w → wpAny P .any ops Q fuel listed a w
  | 0, listed, a, w, hs, hu, hh => absurd ((kill_ready .any ops listed).symm.trans hh.1) (ready_some h hs hu)
  | fuel + 1, listed, a, w, hs, hu, hh => by
    obtain ⟨oL', hL', hg, hd, _, _⟩ := last_spec h
    obtain rfl := Option.some.inj (hL.symm.trans hL')
    refine ⟨fun h0 => absurd h0 (ready_some h hs hu), fun i hi => ?_⟩
    have h1 := hh.2 i (by rw [kill_ready]; exact hi)
    obtain ⟨hi1, hi2, o, ho, _⟩ := mem_ready.1 hi
    by_cases he : i = ops.size - 1
    · subst he
      obtain rfl := Option.some.inj (hL.symm.trans ho)
      have hn := ready_none h hs hi
      have hk : (killLast ops)[ops.size - 1]? = some { oL with op := .move (.const (.bool true)) } := by rw [kill_get, if_pos rfl, hL]; rfl
      have hw : ∀ y, Region.wanted oL y = true := fun y => by simp [Region.wanted, hg]
      have hw' : ∀ y, Region.wanted { oL with op := .move (.const (.bool true)) } y = true := fun y => by simp [Region.wanted, hg]
      have h2 : wpAny P .any (killLast ops) (lastPost P oL Q) fuel (listed.setIfInBounds (ops.size - 1) true) a w := by
        unfold wpOp at h1
        rw [hk] at h1
        simp only [hw', if_true] at h1
        rcases h1 with h1 | ⟨h1, _⟩
        · have : ({ oL with op := .move (.const (.bool true)) } : Oper).wp P a w (wpAny P .any (killLast ops) (lastPost P oL Q) fuel (listed.setIfInBounds (ops.size - 1) true)) (lastPost P oL Q) = wpAny P .any (killLast ops) (lastPost P oL Q) fuel (listed.setIfInBounds (ops.size - 1) true) (a.put oL.dst (.bool true)) w := rfl
          rw [this, hd] at h1
          exact h1
        · exact absurd h1.1 (by show noRoomEvent ∉ (#[] : Array _); simp)
      have h3 : lastPost P oL Q .normal a w := by
        cases fuel with
        | zero => exact h2.2
        | succ n => exact h2.1 (by rw [kill_ready]; exact hn)
      unfold wpOp
      rw [hL]
      simp only [hw, if_true]
      exact Or.inl (Oper.wp_mono (fun a' w' hq => wpAny_done hn hq fuel) h3)
    · have hk : (killLast ops)[i]? = some o := by rw [kill_get, if_neg (fun e => he e.symm)]; exact ho
      have hu' : (listed.setIfInBounds i true).getD (ops.size - 1) true = false := by
        rw [getD_set_ne _ _ _ _ he]; exact hu
      have ih := fun a w => wpAny_last (P := P) (Q := Q) h hL fuel (listed.setIfInBounds i true) a w (by rw [Array.size_setIfInBounds]; exact hs) hu'
      unfold wpOp at h1 ⊢
      rw [hk, kill_yielded] at h1
      rw [ho]
      simp only at h1 ⊢
      split
      · rename_i hw
        rw [if_pos hw] at h1
        exact h1.imp (wp_last ih) (fun h => ⟨h.1, lets_last h.2⟩)
      · rename_i hw
        rw [if_neg hw] at h1
        exact ih _ _ h1

/-- The region, begun under S, its last operation told apart. -/
theorem wp_region_last {P : Program} {id : Nat} {ops : Array Oper} {oL : Oper} {Q : Exit → Act → World → Prop} {S : World → Prop} {a : Act} {w : World} (hm : P.follows .mixedOrders = true) (h : lastOk ops = true) (hL : ops[ops.size - 1]? = some oL) (hS : S w.drew)
    (hh : S w.drew → wpAnyH P .any (killLast ops) (lastPost P oL Q) S ops.size (Array.replicate ops.size false) a w.drew) : (Code.region id ops true).wp P Q a w := by
  have hpos : ops.size - 1 < ops.size := (Array.getElem?_eq_some_iff.1 hL).1
  refine wp_region_any hm (wpAny_last h hL _ _ _ _ (by simp) ?_ (wpAny_of_held _ _ _ _ (hh hS)))
  simp [Array.getD, hpos]
end Go.Proofs.YtkjppjhmejkidaaDoor

namespace Go.Proofs.YtkjppjhmejkidaaDoor
open Go.RowKit

theorem step_any {P : Program} {o : Oper} {y : Nat → Option Bool} {a : Act} {w : World} {K : Act → World → Prop} {Q : Exit → Act → World → Prop} {E : Prop} (hg : o.guard = none) (h : Oper.wp P o a w K Q) : if Region.wanted o y = true then Oper.wp P o a w K Q else E := by
  rw [if_pos (by simp [Region.wanted, hg])]; exact h
theorem wp_append_app {o : Oper} {a : Act} {w : World} {K : Act → World → Prop} {Q : Exit → Act → World → Prop}
    (hg : o.guard = none) (s x : Operand) (hop : o.op = Op.call { callee := Callee.builtin Builtin.append, args := #[s, x], argTypes := #[37, 37] })
    (B : Nat) (l m : List ByteArray) (v y : Value) (hs : a.eval s = v) (hx : a.eval x = y) (hv : App w B l v) (hy : Env w m y) (hl : l.length ≤ 1000) (hm : m.length ≤ 1000) (hB : B ≤ w.heap.size)
    (hK : ∀ v' w', App w' B (l ++ m) v' → Below B w w' → K (a.put o.dst v') w') : Oper.wp Tryd.prog o a w K Q := by
  have := step_append_app (ops := #[]) (E := False) (Q := Q) hg s x hop B l m v y hs hx hv hy hl hm hB hK
  rwa [if_pos (by simp [Region.wanted, hg])] at this
end Go.Proofs.YtkjppjhmejkidaaDoor

namespace Go.Proofs.YtkjppjhmejkidaaDoor
open Go.RowKit

set_option maxHeartbeats 400000 in
theorem spec_l3At (l : List ByteArray) (s : ByteArray) (v : Value) (w : World) (hl : l.length ≤ 1000000) (hv : Env w l v) :
    Calls Tryd.prog 24 #[v, .string s] w fun r w' => r = .returned (.int .i64 (atB l s)) ∧ w = w' := by
  obtain ⟨a, cap, rfl, hcell⟩ := hv.open
  go_enter Tryd.func24, Tryd.ntmps24
  go_wp2_with fail
  go_loop [5] (fun i => ∃ k : Nat, k ≤ l.length ∧ i = .int .i64 ((k : Int) - 1) ∧ Hid (lastTo l s l.length = lastTo l s k)) (fun i => (intOf i + 1).toNat)
  case atStart => exact ⟨l.length, Nat.le_refl _, rfl, rfl⟩
  case round =>
    obtain ⟨k, hk, rfl, HK⟩ := hrel
    by_cases hz : k = 0
    · subst hz
      go_wp2_with fail
      go_ret
      exact ⟨ret_int (by rw [atB, HK.out]; rfl), rfl⟩
    · obtain ⟨j, rfl⟩ : ∃ j, k = j + 1 := ⟨k - 1, by omega⟩
      obtain ⟨g, rfl, hc⟩ := hcell j (by omega)
      have hj : ((j + 1 : Nat) : Int) - 1 = (j : Int) := by omega
      rw [hj]
      go_wp2_with fail
      · go_ret
        exact ⟨ret_int (by rw [atB, HK.out, lastTo_yes l s j (by omega) ‹_›, if_neg (by omega)]), rfl⟩
      · go_round
        case rel => exact ⟨j, by omega, rfl, by show _ = _; rw [HK.out, lastTo_no l s j (by omega) ‹_›]⟩
        case measure => simp [intOf]
end Go.Proofs.YtkjppjhmejkidaaDoor

namespace Go.Proofs.YtkjppjhmejkidaaDoor
open Go.RowKit Go.Maps Go.WideMaps

/-- How l3Tidy ends. -/
def MadeL (w w' : World) (e : Ex) (r : Ending) : Prop := ∃ s', r = .returned (e.val s') ∧ Lies w' (fun b => w.heap.size ≤ b ∧ b < w'.heap.size) e.kids s' ∧ Below w.heap.size w w'
/-- The names are those that l3Next tells. -/
def NextIs (ns fl : List ByteArray) : Prop := ∀ (j : Nat) (hj : j < ns.length) (w : World) (v : Value), Env w fl v → Calls Tryd.prog 25 #[v, .int .i64 j] w fun r w' => r = .returned (.string ns[j]) ∧ Below w.heap.size w w'
/-- What l3Tidy does with an expression. -/
def SpecTidy (ns fl : List ByteArray) (e : Ex) : Prop := ∀ (w : World) (s vf v vt : Value) (l : List ByteArray) (d : Int), e.Wee → Lies w (· < w.heap.size) e.kids s → Env w fl vf → Env w l v → Env w (ns.take l.length) vt → sizeM e d ≤ 60 → 1 ≤ d → (l.length : Int) ≤ 2 * (d - 1) →
  Calls Tryd.prog 13 #[e.val s, vf, v, vt] w fun r w' => MadeL w w' (tidyM ns e l) r

theorem cells_new (w : World) (e : Ex) (s : Value) : ∀ j u, (e.cells s)[j]? = some u → (w.alloc (.cells #[.int .i64 e.kind, .string e.name, .string e.tail, .int .i64 e.num, s] 28)).cell? ((⟨w.heap.size, 0, none⟩ : Addr).add j) = some u := fun j u hj => by
  rw [Addr.add_mid]
  have hb : (w.alloc (.cells #[.int .i64 e.kind, .string e.name, .string e.tail, .int .i64 e.num, s] 28)).heap[w.heap.size]? = some (.cells #[.int .i64 e.kind, .string e.name, .string e.tail, .int .i64 e.num, s] 28) := heap_alloc_new _ _
  rw [cell_of_row _ _ _ _ _ _ hb]
  simpa [Ex.cells] using hj
theorem cells_one (e : Ex) (a : Option Addr) (n cap : Nat) : ∀ u ∈ e.cells (.slice a n cap), u.oneCell' = true := fun u hu => by
  simp only [Ex.cells, List.mem_cons, List.not_mem_nil, or_false] at hu
  rcases hu with rfl | rfl | rfl | rfl | rfl <;> rfl
theorem exprInfo : ∃ i, Tryd.prog.info? 28 = some i ∧ i.zero = some (.agg #[.int .i64 0, .string ⟨#[]⟩, .string ⟨#[]⟩, .int .i64 0, .slice none 0 0]) ∧ i.size = 5 ∧ i.bytes = 72 := by
  have hinfo : (Tryd.prog.info? 28).map (fun i => (i.zero, i.size, i.bytes)) = some (some (.agg #[.int .i64 0, .string ⟨#[]⟩, .string ⟨#[]⟩, .int .i64 0, .slice none 0 0]), 5, 72) := by kernel_rfl
  obtain ⟨i, hi, hz⟩ := Option.map_eq_some_iff.1 hinfo
  simp only [Prod.mk.injEq] at hz
  exact ⟨i, hi, hz.1, hz.2.1, hz.2.2⟩
theorem grow_next {w0 wr w8 : World} {o j : Nat} {v : Value} (hG : w0.grownBy wr (some o)) (hc : Below (o + 1) wr w8) (ho : w0.heap.size ≤ o) : w0.grownBy (w8.setCell ⟨o, j, none⟩ v) (some o) := by
  have h : w0.grownBy w8 (some o) := ⟨hc.os.trans hG.os, hc.tape.trans hG.tape, hc.output.trans hG.output, Nat.le_trans hG.size hc.size, fun x hx hne => (hc.block x (by omega)).trans (hG.block x hx hne)⟩
  exact h.trans (but_one w8 o j v)

set_option maxRecDepth 100000 in
set_option maxHeartbeats 1000000 in
theorem spec_var (ns fl : List ByteArray) (hns : ns.length = 28) (e : Ex) (h3 : e.kind = 3) : SpecTidy ns fl e := by
  intro w s vf v vt l d hw hv hfv hl hto hsz hd1 hld
  obtain ⟨hd14, hkl, hbare⟩ := ok_has e d hsz
  have h0 := kids_none _ _ hkl h3
  obtain ⟨a, cap, rfl⟩ := hv.slice
  have hl26 : l.length ≤ 26 := by omega
  have hll : (ns.take l.length).length = l.length := by simp; omega
  obtain ⟨at0, capt, rfl, htc⟩ := hto.open
  have h3' : (e.kind == 3) = true := by simpa using h3
  have hat := fun (w' : World) hw' => spec_l3At l e.name v w' (by omega) (hl.keep hw')
  have hbd := lastTo_bd l e.name l.length
  have hBW : ∀ o1 o2 o3, Below w.heap.size w (((w.alloc o1).alloc o2).alloc o3) := fun o1 o2 o3 => below_al (below_two w o1 o2)
  rw [h0]
  by_cases hge : 0 ≤ lastTo l e.name l.length
  · obtain ⟨p, hp⟩ : ∃ p : Nat, lastTo l e.name l.length = (p : Int) := ⟨(lastTo l e.name l.length).toNat, by omega⟩
    have hpl : p < l.length := by omega
    have hAt : atB l e.name = (l.length : Int) - 1 - p := by rw [atB, if_neg (by omega), hp]
    obtain ⟨nm, hnm⟩ : ∃ x, x = ns[p] := ⟨_, rfl⟩
    obtain ⟨gt, rfl, hcn⟩ := htc p (by omega)
    have hgt : gt < w.heap.size := by
      apply Decidable.byContradiction
      intro hg
      have : w.heap[gt]? = none := Array.getElem?_eq_none (by omega)
      unfold World.cell? at hcn
      simp [this] at hcn
    rw [List.getElem_take, ← hnm] at hcn
    have HT : Hid (tidyM ns e l = .mk e.kind nm e.tail e.num []) := by
      show _ = _
      rw [tidyM_eq, newName, if_pos h3, if_pos (by omega), newTail, if_neg (by omega), List.length_eq_zero_iff.1 ((tidyKids_length ns e l).trans h0), hp, Int.toNat_natCast, getD_of ns p (by omega), hnm]
    rw [hAt] at hat
    rw [hll]
    have hge2 : 0 ≤ (l.length : Int) - 1 - p := by omega
    have hidx : (l.length : Int) - 1 - ((l.length : Int) - 1 - p) = (p : Int) := by omega
    have hpi : (p : Int) < (l.length : Int) := by omega
    have hple : (p : Int) ≤ (l.length : Int) - 1 := by omega
    have hcn3 : ∀ o1 o2 o3, (((w.alloc o1).alloc o2).alloc o3).cell? ⟨gt, p, none⟩ = some (.string nm) := fun o1 o2 o3 => by rw [(hBW o1 o2 o3).cell hgt]; exact hcn
    clear hbd hp hnm h3 hAt hge htc hsz hkl hbare
    go_enter Tryd.func13, Tryd.ntmps13
    go_wp2_with (go_at_call 24; refine (hat _ (hBW _ _ _)).mono ?_; rintro r w2 ⟨rfl, rfl⟩)
    refine bodyPost_ret (v := .agg #[.int .i64 e.kind, .string nm, .string e.tail, .int .i64 e.num, .slice none 0 0]) (by simp [results, Tryd.results13, go_sem]) rfl ⟨.slice none 0 0, by rw [HT.out]; rfl, by rw [HT.out]; exact .none _ _, hBW _ _ _⟩
  · have HT : Hid (tidyM ns e l = .mk e.kind e.name e.tail e.num []) := by
      show _ = _
      rw [tidyM_eq, newName, if_pos h3, if_neg hge, newTail, if_neg (by omega), List.length_eq_zero_iff.1 ((tidyKids_length ns e l).trans h0)]
    have hAt : atB l e.name = -1 := by rw [atB, if_pos (by omega)]
    rw [hAt] at hat
    clear hbd h3 hAt hge hsz hkl hbare htc
    go_enter Tryd.func13, Tryd.ntmps13
    go_wp2_with (go_at_call 24; refine (hat _ (hBW _ _ _)).mono ?_; rintro r w2 ⟨rfl, rfl⟩)
    refine bodyPost_ret (v := .agg #[.int .i64 e.kind, .string e.name, .string e.tail, .int .i64 e.num, .slice none 0 0]) (by simp [results, Tryd.results13, go_sem]) rfl ⟨.slice none 0 0, by rw [HT.out]; rfl, by rw [HT.out]; exact .none _ _, hBW _ _ _⟩
end Go.Proofs.YtkjppjhmejkidaaDoor

