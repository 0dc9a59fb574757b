/-
  Ops to which something leads: mathematics; two ways of finding them.
-/
import Derived.Test.YtlkbgmgnjkkfgaaDoorLvAll16
import Derived.Test.YtlkbgmgnjkkfgaaDoorCkRnd
import Derived.Test.YtlkbgmgnjkkfgaaDoorBtMath
namespace Go.Proofs.YtlkbgmgnjkkfgaaDoor

/-- Has an op a place? -/
def hasP (op : Wd) : Bool := decide (op.tag = 4 ∨ op.tag = 5 ∨ op.tag = 9 ∨ op.tag = 10 ∨ op.tag = 16)
/-- Does an op lead to the next one? -/
def onP (op : Wd) : Bool := decide (op.tag ≠ 10 ∧ op.tag ≠ 24)
/-- An op leads to a place. -/
def LeadsTo (ops : List Wd) (p q : Nat) : Prop := ∃ op, ops[p]? = some op ∧ (onP op = true ∧ q = p + 1 ∨ hasP op = true ∧ q = op.num.toNat)
inductive Live (ops : List Wd) : Nat → Prop where
  | first : Live ops 0
  | next (p q : Nat) (hp : Live ops p) (h : LeadsTo ops p q) : Live ops q
theorem code_good {ops : List Wd} (h : codeM ops = true) : ∃ F, Good ops F := by
  unfold codeM at h
  rw [Bool.and_eq_true, Bool.and_eq_true] at h
  have hl := of_decide_eq_true h.1
  obtain ⟨hqo, _, hln⟩ := start_ok ops hl.1
  have h0 : (startQ ops).1.getD 0 none = some ⟨0, 0⟩ := by
    have hs := start_lead ops hl.1
    have ht := leadQ_tab (List.replicate ops.length none, []) (0, ⟨0, 0⟩)
    rw [hs] at ht
    exact (leadT_some ht.symm (fun k s h => by rw [start_getD] at h; cases h)).2.2.2.1
  exact (runQ_good (ops := ops) ops.length (startQ ops) 0 hln (by omega) hqo (fun k s h => by obtain ⟨_, rfl⟩ := start_at ops hl.1 k s h; exact Int.le_refl _) h0 (fun k s hk h => by
    obtain ⟨rfl, _⟩ := start_at ops hl.1 k s h
    exact absurd (by simp [startQ]) hk.2)).1 h.2.2
theorem code_len {ops : List Wd} (h : codeM ops = true) : 1 ≤ ops.length ∧ ops.length ≤ 200 := by
  unfold codeM at h
  rw [Bool.and_eq_true] at h
  exact of_decide_eq_true h.1
theorem code_fit {ops : List Wd} (h : codeM ops = true) {k : Nat} (hk : k < ops.length) : fitsM ops[k] ops.length = true := by
  unfold codeM at h
  rw [Bool.and_eq_true, Bool.and_eq_true] at h
  exact List.all_eq_true.1 h.2.1 _ (List.getElem_mem hk)
theorem code_kind {ops : List Wd} (h : codeM ops = true) {k : Nat} (hk : k < ops.length) : 1 ≤ ops[k].tag ∧ ops[k].tag ≤ 24 := by
  have := code_fit h hk
  unfold fitsM at this
  have := of_decide_eq_true this
  omega
theorem code_num {ops : List Wd} (h : codeM ops = true) {k : Nat} (hk : k < ops.length) (hp : hasP ops[k] = true) : 0 ≤ ops[k].num ∧ ops[k].num < ops.length := by
  have h1 := code_fit h hk
  unfold fitsM at h1
  have h2 := of_decide_eq_true h1
  have h3 := of_decide_eq_true hp
  have e1 : mostM ops[k].tag ops.length = (ops.length : Int) - 1 := by
    unfold mostM
    rcases h3 with e | e | e | e | e <;> simp [e]
  have e2 : leastM ops[k].tag = 0 := by
    unfold leastM
    rcases h3 with e | e | e | e | e <;> simp [e]
  rw [e1, e2] at h2
  omega
/-- Where something leads there is an op. -/
theorem live_some {ops : List Wd} {F : Nat → Option Sd} (hF : Good ops F) {p : Nat} (h : Live ops p) : ∃ s, F p = some s := by
  induction h with
  | first => exact ⟨_, hF.start⟩
  | next p q _ hl ih =>
    obtain ⟨s, hs⟩ := ih
    obtain ⟨hp, _, l, hg, hx⟩ := hF.each p s hs
    rw [getD_at ops p hp] at hg
    obtain ⟨op, hop, hq⟩ := hl
    rw [List.getElem?_eq_getElem hp] at hop
    obtain rfl := Option.some.inj hop
    unfold goes at hg
    split at hg
    · cases hg
    · split at hg
      · cases hg
      · split at hg
        · rename_i e24
          rcases hq with ⟨h1, _⟩ | ⟨h1, _⟩
          · exact absurd e24 (of_decide_eq_true h1).2
          · have := of_decide_eq_true h1
            omega
        · have hA : hasP ops[p] = true → ∃ s', (ops[p].num.toNat, s') ∈ aside ops[p] s := by
            intro h1
            unfold aside
            rcases of_decide_eq_true h1 with e | e | e | e | e <;> simp [e]
          split at hg
          · rename_i e10
            obtain rfl := Option.some.inj hg
            rcases hq with ⟨h1, _⟩ | ⟨h1, rfl⟩
            · exact absurd e10 (of_decide_eq_true h1).1
            · obtain ⟨s', hs'⟩ := hA h1
              exact ⟨s', hx _ hs'⟩
          · obtain rfl := Option.some.inj hg
            rcases hq with ⟨_, rfl⟩ | ⟨h1, rfl⟩
            · exact ⟨_, hx _ (List.mem_append_right _ (List.mem_singleton.2 rfl))⟩
            · obtain ⟨s', hs'⟩ := hA h1
              exact ⟨s', hx _ (List.mem_append_left _ hs')⟩
theorem live_lt {ops : List Wd} (h : codeM ops = true) {p : Nat} (hp : Live ops p) : p < ops.length := by
  obtain ⟨F, hF⟩ := code_good h
  obtain ⟨s, hs⟩ := live_some hF hp
  exact (hF.each p s hs).1
theorem live_next {ops : List Wd} (h : codeM ops = true) {p : Nat} (hp : Live ops p) (ho : onP (ops[p]'(live_lt h hp)) = true) : p + 1 < ops.length :=
  live_lt h (.next p (p + 1) hp ⟨_, List.getElem?_eq_getElem (live_lt h hp), Or.inl ⟨ho, rfl⟩⟩)
open Classical in
/-- All to which something leads, ascending. -/
noncomputable def liveL (ops : List Wd) : List Nat := (List.range ops.length).filter fun p => decide (Live ops p)
open Classical in
theorem liveL_mem {ops : List Wd} {p : Nat} : p ∈ liveL ops ↔ p < ops.length ∧ Live ops p := by
  unfold liveL
  rw [List.mem_filter, List.mem_range, decide_eq_true_eq]
theorem liveL_len (ops : List Wd) : (liveL ops).length ≤ ops.length := by
  unfold liveL
  have := List.length_filter_le (fun p => @decide (Live ops p) (Classical.propDecidable _)) (List.range ops.length)
  simpa using this
open Classical in
/-- Marks that are just those. -/
theorem live_places {ops : List Wd} (h : codeM ops = true) {m : Mks} (hm : ∀ q, q < 256 → (m.has q = true ↔ Live ops q)) : m.places = liveL ops := by
  obtain ⟨_, h200⟩ := code_len h
  rw [Mks.places_eq]
  unfold liveL
  have e : List.range 256 = List.range ops.length ++ (List.range (256 - ops.length)).map (fun i => ops.length + i) := by
    rw [← List.range_add]
    congr 1
    omega
  rw [e, List.filter_append]
  have e2 : ((List.range (256 - ops.length)).map (fun i => ops.length + i)).filter m.has = [] := by
    rw [List.filter_eq_nil_iff]
    intro q hq
    obtain ⟨i, hi, rfl⟩ := List.mem_map.1 hq
    rw [List.mem_range] at hi
    intro hc
    have := live_lt h ((hm _ (by omega)).1 hc)
    omega
  rw [e2, List.append_nil]
  apply List.filter_congr
  intro q hq
  rw [List.mem_range] at hq
  rw [Bool.eq_iff_iff, hm q (by omega), decide_eq_true_eq]

/-- What holds while the places of some marks are gone through. -/
structure LvIn (ops : List Wd) (b m : Mks) (l : List Nat) : Prop where
  ok : m.ok
  sound : ∀ q, q < 256 → m.has q = true → Live ops q
  sub : ∀ q, q < 256 → b.has q = true → m.has q = true
  done : ∀ p ∈ l, ∀ q, q < 256 → LeadsTo ops p q → m.has q = true
  zero : m.has 0 = true
theorem LvIn.start {ops : List Wd} : LvIn ops Mks.zero (Mks.zero.add 0) [] :=
  ⟨Mks.ok_add ⟨by decide, by decide, by decide, by decide⟩ 0, fun q hq h => by
    rw [Mks.has_add (by omega) hq, Mks.has_zero] at h
    have : 0 = q := by simpa using h
    subst this
    exact .first, fun q _ h => by (rw [Mks.has_zero] at h; cases h), fun p hp => by simp at hp, by decide +kernel⟩
theorem LvIn.again {ops : List Wd} {b m : Mks} {l : List Nat} (h : LvIn ops b m l) : LvIn ops m m [] := ⟨h.ok, h.sound, fun _ _ h => h, fun p hp => by simp at hp, h.zero⟩
theorem LvIn.add {ops : List Wd} {b m : Mks} {l : List Nat} (h : LvIn ops b m l) {q : Nat} (hq : q < 256) (hl : Live ops q) : LvIn ops b (m.add q) l :=
  ⟨Mks.ok_add h.ok q, fun r hr hh => by
    rw [Mks.has_add hq hr, Bool.or_eq_true, decide_eq_true_eq] at hh
    rcases hh with rfl | hh
    · exact hl
    · exact h.sound r hr hh, fun r hr hh => by rw [Mks.has_add hq hr, h.sub r hr hh, Bool.or_true], fun p hp r hr hlr => by rw [Mks.has_add hq hr, h.done p hp r hr hlr, Bool.or_true], by rw [Mks.has_add hq (by omega), h.zero, Bool.or_true]⟩
/-- One op's own place is put in. -/
def putM (op : Wd) (m : Mks) : Mks := if hasP op = true then m.add op.num.toNat else m
/-- And the next one. -/
def stepM (op : Wd) (p : Nat) (m : Mks) : Mks := if onP op = true then (putM op m).add (p + 1) else putM op m
theorem LvIn.put {ops : List Wd} (hc : codeM ops = true) {b m : Mks} {l : List Nat} (h : LvIn ops b m l) {p : Nat} (hp : p < ops.length) (hl : Live ops p) : LvIn ops b (putM ops[p] m) l := by
  unfold putM
  split
  · rename_i e
    have hn := code_num hc hp e
    have hz := (code_len hc).2
    exact h.add (by omega) (.next p _ hl ⟨_, List.getElem?_eq_getElem hp, Or.inr ⟨e, rfl⟩⟩)
  · exact h
theorem LvIn.step {ops : List Wd} (hc : codeM ops = true) {b m : Mks} {l : List Nat} (h : LvIn ops b m l) {p : Nat} (hp : p < ops.length) (hl : Live ops p) : LvIn ops b (stepM ops[p] p m) (l ++ [p]) := by
  have hz := (code_len hc).2
  have h1 := h.put hc hp hl
  have hput : hasP ops[p] = true → (putM ops[p] m).has ops[p].num.toNat = true := fun e => by
    have hn := code_num hc hp e
    unfold putM
    rw [if_pos e, Mks.has_add (by omega) (by omega)]
    simp
  have h2 : LvIn ops b (stepM ops[p] p m) l ∧ (onP ops[p] = true → (stepM ops[p] p m).has (p + 1) = true) ∧ (hasP ops[p] = true → (stepM ops[p] p m).has ops[p].num.toNat = true) := by
    unfold stepM
    split
    · rename_i e
      have hx := live_lt hc (.next p (p + 1) hl ⟨_, List.getElem?_eq_getElem hp, Or.inl ⟨e, rfl⟩⟩)
      refine ⟨h1.add (by omega) (.next p _ hl ⟨_, List.getElem?_eq_getElem hp, Or.inl ⟨e, rfl⟩⟩), fun _ => ?_, fun e2 => ?_⟩
      · rw [Mks.has_add (by omega) (by omega)]
        simp
      · have hn := code_num hc hp e2
        rw [Mks.has_add (by omega) (by omega), hput e2, Bool.or_true]
    · rename_i e
      exact ⟨h1, fun e2 => absurd e2 e, hput⟩
  obtain ⟨g, g1, g2⟩ := h2
  refine ⟨g.ok, g.sound, g.sub, fun r hr q hq hlq => ?_, g.zero⟩
  rcases List.mem_append.1 hr with hr | hr
  · exact g.done r hr q hq hlq
  · obtain rfl : r = p := by simpa using hr
    obtain ⟨op, hop, hx⟩ := hlq
    rw [List.getElem?_eq_getElem hp] at hop
    obtain rfl := Option.some.inj hop
    rcases hx with ⟨e, rfl⟩ | ⟨e, rfl⟩
    · exact g1 e
    · exact g2 e
/-- Marks with the same places are the same. -/
theorem Mks.ext_has {a b : Mks} (ha : a.ok) (hb : b.ok) (h : ∀ q, q < 256 → a.has q = b.has q) : a = b := by
  have key : ∀ i, i < 4 → a.get i = b.get i := fun i hi => by
    apply Nat.eq_of_testBit_eq
    intro j
    by_cases hj : j < 64
    · have := h (i * 64 + j) (by omega)
      have h1 : (i * 64 + j) / 64 = i := by omega
      have h2 : (i * 64 + j) % 64 = j := by omega
      simpa [Mks.has, h1, h2] using this
    · rw [Nat.testBit_lt_two_pow (Nat.lt_of_lt_of_le (Mks.get_lt ha i) (show 2 ^ 64 ≤ 2 ^ j from Nat.pow_le_pow_right (by decide) (by omega))), Nat.testBit_lt_two_pow (Nat.lt_of_lt_of_le (Mks.get_lt hb i) (show 2 ^ 64 ≤ 2 ^ j from Nat.pow_le_pow_right (by decide) (by omega)))]
  have h0 := key 0 (by omega)
  have h1 := key 1 (by omega)
  have h2 := key 2 (by omega)
  have h3 := key 3 (by omega)
  cases a
  cases b
  simp only [Mks.get] at h0 h1 h2 h3
  subst h0 h1 h2 h3
  rfl
theorem places_less {b m : Mks} (hb : b.ok) (hm : m.ok) (hs : ∀ q, q < 256 → b.has q = true → m.has q = true) (hne : b ≠ m) : b.places.length < m.places.length := by
  have e : b.places = m.places.filter b.has := by
    rw [Mks.places_eq, Mks.places_eq, List.filter_filter]
    apply List.filter_congr
    intro q hq
    rw [List.mem_range] at hq
    cases hbq : b.has q
    · rfl
    · rw [hs q hq hbq]
      rfl
  rw [e]
  have hle := List.length_filter_le b.has m.places
  apply Nat.lt_of_le_of_ne hle
  intro he
  rw [List.length_filter_eq_length_iff] at he
  refine hne (Mks.ext_has hb hm fun q hq => ?_)
  cases hbq : b.has q
  · cases hmq : m.has q
    · rfl
    · have := he q (Mks.mem_places.2 ⟨hq, hmq⟩)
      rw [hbq] at this
      cases this
  · rw [hs q hq hbq]
theorem places_len (m : Mks) : m.places.length ≤ 256 := m.upto_len 4
/-- When nothing has come in, all are in. -/
theorem LvIn.all {ops : List Wd} (hc : codeM ops = true) {m : Mks} (h : LvIn ops m m m.places) : ∀ q, q < 256 → (m.has q = true ↔ Live ops q) := by
  have hz := (code_len hc).2
  have key : ∀ q, Live ops q → m.has q = true := by
    intro q hq
    induction hq with
    | first => exact h.zero
    | next p q hp hl ih =>
      have h1 := live_lt hc hp
      have h2 := live_lt hc (.next p q hp hl)
      exact h.done p (Mks.mem_places.2 ⟨by omega, ih⟩) q (by omega) hl
  exact fun q hq => ⟨h.sound q hq, key q⟩
end Go.Proofs.YtlkbgmgnjkkfgaaDoor

