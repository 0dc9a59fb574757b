/-
  How deep words lead, level by level: mathematics of the program's SameDeep.
-/
import Derived.Test.YthcifgpkiclkiaaDoorDpTop
import Derived.Test.YthcifgpkiclkiaaDoorBtLed
namespace Go.Proofs.YthcifgpkiclkiaaDoor
open Go.RowKit

/-- How deep some words lead, so deep at most. -/
def deepL (cs : List Ce) (m : Nat) (ws : List Wd) : Nat := ws.foldr (fun d n => max (deepM cs m d) n) 0
theorem deepL_le {cs : List Ce} {m n : Nat} {ws : List Wd} : deepL cs m ws ≤ n ↔ ∀ d ∈ ws, deepM cs m d ≤ n := by
  induction ws with
  | nil => simp [deepL]
  | cons d r ih =>
    have e : deepL cs m (d :: r) = max (deepM cs m d) (deepL cs m r) := rfl
    rw [e, Nat.max_le, ih]
    simp
theorem deepL_one (cs : List Ce) (m : Nat) (d : Wd) : deepL cs m [d] = deepM cs m d := by simp [deepL]
/-- What stands in the cells at some places. -/
def nextW (cs : List Ce) (l : List Nat) : List Wd := l.flatMap fun p => match cs[p]? with | some c => [c.a, c.b] | none => []
theorem nextW_snoc {cs : List Ce} {l : List Nat} {p : Nat} (hp : p < cs.length) : nextW cs (l ++ [p]) = nextW cs l ++ [cs[p].a, cs[p].b] := by
  simp [nextW, hp]
theorem nextW_mem {cs : List Ce} {l : List Nat} {d : Wd} : d ∈ nextW cs l ↔ ∃ p ∈ l, ∃ c, cs[p]? = some c ∧ (d = c.a ∨ d = c.b) := by
  unfold nextW
  rw [List.mem_flatMap]
  constructor
  · rintro ⟨p, hp, hd⟩
    split at hd
    · rename_i c hc
      exact ⟨p, hp, c, hc, by simpa using hd⟩
    · simp at hd
  · rintro ⟨p, hp, c, hc, hd⟩
    refine ⟨p, hp, ?_⟩
    rw [hc]
    simpa using hd
theorem nextW_len (cs : List Ce) (l : List Nat) : (nextW cs l).length ≤ 2 * l.length := by
  induction l with
  | nil => simp [nextW]
  | cons p r ih =>
    have e : nextW cs (p :: r) = (match cs[p]? with | some c => [c.a, c.b] | none => []) ++ nextW cs r := by simp [nextW]
    rw [e, List.length_append]
    have : (match cs[p]? with | some c => [c.a, c.b] | none => ([] : List Wd)).length ≤ 2 := by split <;> simp
    simp only [List.length_cons]
    omega
theorem nextW_ok {cs : List Ce} (hrefs : ∀ c ∈ cs, refOk cs.length c.a ∧ refOk cs.length c.b) {l : List Nat} : ∀ d ∈ nextW cs l, refOk cs.length d := by
  intro d hd
  obtain ⟨p, _, c, hc, h⟩ := nextW_mem.1 hd
  obtain ⟨h1, h2⟩ := hrefs c (List.mem_of_getElem? hc)
  rcases h with rfl | rfl
  · exact h1
  · exact h2
theorem ref_small {n : Nat} (hn : n ≤ 120) {d : Wd} (h : refOk n d) (ht : d.tag = 4) : 0 ≤ d.num ∧ d.num < 256 := by
  have := h ht
  omega
theorem led_places {n : Nat} (hn : n ≤ 120) {ws : List Wd} (hws : ∀ d ∈ ws, refOk n d) {q : Nat} : q ∈ (ledM ws).places ↔ ∃ d ∈ ws, d.tag = 4 ∧ d.num = q := by
  rw [Mks.mem_places]
  constructor
  · rintro ⟨h1, h2⟩
    exact (ledM_has ws (fun d hd ht => ref_small hn (hws d hd) ht) q h1).1 h2
  · rintro ⟨d, hd, ht, he⟩
    have := ref_small hn (hws d hd) ht
    have hq : q < 256 := by omega
    exact ⟨hq, (ledM_has ws (fun d hd ht => ref_small hn (hws d hd) ht) q hq).2 ⟨d, hd, ht, he⟩⟩
theorem places_lt {n : Nat} (hn : n ≤ 120) {ws : List Wd} (hws : ∀ d ∈ ws, refOk n d) : ∀ q ∈ (ledM ws).places, q < n := by
  intro q hq
  obtain ⟨d, hd, ht, he⟩ := (led_places hn hws).1 hq
  have := hws d hd ht
  omega
theorem deep_end {cs : List Ce} {m n : Nat} (hn : n ≤ 120) {ws : List Wd} (hws : ∀ d ∈ ws, refOk n d) (he : (ledM ws).places = []) : deepL cs m ws = 0 := by
  apply Nat.le_zero.1
  rw [deepL_le]
  intro d hd
  by_cases ht : d.tag = 4
  · exfalso
    have := hws d hd ht
    have hq : d.num.toNat ∈ (ledM ws).places := (led_places hn hws).2 ⟨d, hd, ht, by omega⟩
    rw [he] at hq
    simp at hq
  · rw [deep_no ht]
    exact Nat.le_refl _
theorem deep_refS {cs : List Ce} {m : Nat} {d : Wd} (ht : d.tag = 4) {c : Ce} (hc : cs[d.num.toNat]? = some c) : deepM cs (m + 1) d = max (deepM cs m c.a) (deepM cs m c.b) + 1 := by
  rw [deepM, if_pos ht, hc]
theorem deep_round {cs : List Ce} {m : Nat} (hn : cs.length ≤ 120) {ws : List Wd} (hws : ∀ d ∈ ws, refOk cs.length d) (he : (ledM ws).places ≠ []) : deepL cs (m + 1) ws = deepL cs m (nextW cs (ledM ws).places) + 1 := by
  have up : ∀ p ∈ (ledM ws).places, ∃ c, cs[p]? = some c ∧ max (deepM cs m c.a) (deepM cs m c.b) + 1 ≤ deepL cs (m + 1) ws := by
    intro p hp
    obtain ⟨d, hd, ht, e⟩ := (led_places hn hws).1 hp
    have hlt := places_lt hn hws p hp
    have hpe : d.num.toNat = p := by omega
    refine ⟨cs[p], List.getElem?_eq_getElem hlt, ?_⟩
    rw [← deep_refS ht (c := cs[p]) (by rw [hpe]; exact List.getElem?_eq_getElem hlt)]
    exact deepL_le.1 (Nat.le_refl _) d hd
  apply Nat.le_antisymm
  · rw [deepL_le]
    intro d hd
    by_cases ht : d.tag = 4
    · have hr := hws d hd ht
      have hp : d.num.toNat ∈ (ledM ws).places := (led_places hn hws).2 ⟨d, hd, ht, by omega⟩
      have hc : cs[d.num.toNat]? = some (cs[d.num.toNat]'(by omega)) := List.getElem?_eq_getElem (by omega)
      rw [deep_refS ht hc]
      have ha := deepL_le.1 (Nat.le_refl (deepL cs m (nextW cs (ledM ws).places))) _ (nextW_mem.2 ⟨_, hp, _, hc, Or.inl rfl⟩)
      have hb := deepL_le.1 (Nat.le_refl (deepL cs m (nextW cs (ledM ws).places))) _ (nextW_mem.2 ⟨_, hp, _, hc, Or.inr rfl⟩)
      omega
    · rw [deep_no ht]
      omega
  · obtain ⟨p, hp⟩ := List.exists_mem_of_ne_nil _ he
    obtain ⟨c, _, h1⟩ := up p hp
    have : deepL cs m (nextW cs (ledM ws).places) ≤ deepL cs (m + 1) ws - 1 := by
      rw [deepL_le]
      intro d hd
      obtain ⟨q, hq, c2, hc2, hx⟩ := nextW_mem.1 hd
      obtain ⟨c3, hc3, h3⟩ := up q hq
      obtain rfl : c2 = c3 := by rw [hc2] at hc3; exact Option.some.inj hc3
      rcases hx with rfl | rfl <;> omega
    omega

/-- append, as a step of a region that draws its order: to a row of the call's own. -/
theorem step_append_own {ops : Array Oper} {o : Oper} {a : Act} {w : World} {K : Act → World → Prop} {Q : Exit → Act → World → Prop} {E : Prop}
    (hg : o.guard = none) (s x : Operand) (t : TypeId) (hop : o.op = Op.call { callee := Callee.builtin Builtin.append, args := #[s, x], argTypes := #[t, t] })
    (base : Nat) (e : TypeId) (i : TypeInfo) (z : Value) (size bytes : Nat) (ht : Tryd.prog.underlying t = some (.slice e)) (hi : Tryd.prog.info? e = some i) (hz : i.zero = some z)
    (hsize : i.size = size) (hby : i.bytes = bytes) (hzs : z.cells.size = size) (hsz : 0 < size)
    (v : Value) (n : Nat) (xs : List Value) (hs : a.eval s = v) (hown : w.ownsRow base e size v n xs)
    (ad : Addr) (m c : Nat) (news : List Value) (hx : a.eval x = .slice (some ad) m c) (hl : news.length = m * size) (hnews : ∀ j u, news[j]? = some u → w.cell? (ad.add j) = some u) (h1 : ∀ u ∈ news, u.oneCell' = true)
    (h63 : n + m ≤ maxLen) (hbytes : (n + m) * bytes ≤ 140737488355328) (hbase : base ≤ w.heap.size)
    (hK : ∀ v' w', w'.ownsRow base e size v' (n + m) (xs ++ news) → w.grownBy w' v.ownBlock → K (a.put o.dst v') w') :
    if Region.wanted o (yielded ops a.tmps) = true then Oper.wp Tryd.prog o a w K Q else E := by
  have hw : Region.wanted o (yielded ops a.tmps) = true := by simp [Region.wanted, hg]
  rw [if_pos hw]
  obtain ⟨v', w', hrun, r1, r2, _⟩ := run_append_own (P := Tryd.prog) w base t o.type e i z size bytes ht hi hz hsize hby hzs hsz v n xs hown ad m c news hl hnews h1 h63 hbytes hbase
  unfold Oper.wp
  simp [execOp, hop, resolve, invoke, builtin, hs, hx, hrun, Result.andThen]
  exact hK v' w' r1 r2
end Go.Proofs.YthcifgpkiclkiaaDoor
