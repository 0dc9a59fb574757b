/-
  How deep cells lead: a cell that leads back to itself leads as deep as is looked; a cell leads one deeper than what it leads to.
-/
import Derived.Test.YtndpioniobhbmaaDpSpec
import Derived.Test.YtndpioniobhbmaaReMath
namespace Go.Proofs.Ytndpioniobhbmaa
open Go.RowKit

theorem Leads.uncons {cs : List Ce} {x : Wd} {q : Nat} (h : Leads cs [x] q) : x.tag = 4 ∧ (x.num.toNat = q ∨ ∃ c, cs[x.num.toNat]? = some c ∧ Leads cs [c.a, c.b] q) := by
  generalize hw : [x] = ws at h
  induction h with
  | first y hy ht =>
    subst hw
    obtain rfl : y = x := by simpa using hy
    exact ⟨ht, Or.inl rfl⟩
  | next p c _ hc y hy ht ih =>
    obtain ⟨h1, h2⟩ := ih
    refine ⟨h1, Or.inr ?_⟩
    rcases h2 with e | ⟨c', hc', hl⟩
    · rw [e]
      refine ⟨c, hc, Leads.first y ?_ ht⟩
      rcases hy with rfl | rfl <;> simp
    · exact ⟨c', hc', Leads.next p c hl hc y hy ht⟩
theorem deep_ref {cs : List Ce} {m : Nat} {d : Wd} {c : Ce} (ht : d.tag = 4) (hc : cs[d.num.toNat]? = some c) : deepM cs (m + 1) d = max (deepM cs m c.a) (deepM cs m c.b) + 1 := by
  rw [deepM, if_pos ht, hc]
/-- What leads to a cell that leads back to itself leads as deep as is looked. -/
theorem ring_deep {cs : List Ce} {k : Nat} {c : Ce} (hc : cs[k]? = some c) (hr : Leads cs [c.a, c.b] k) : ∀ (m : Nat) (d : Wd), d.tag = 4 → (d.num.toNat = k ∨ ∃ c', cs[d.num.toNat]? = some c' ∧ Leads cs [c'.a, c'.b] k) → deepM cs m d = m
  | 0, _, _, _ => rfl
  | m + 1, d, ht, ho => by
    obtain ⟨c', hc', hl⟩ : ∃ c', cs[d.num.toNat]? = some c' ∧ Leads cs [c'.a, c'.b] k := by
      rcases ho with e | h
      · exact ⟨c, by rw [e]; exact hc, hr⟩
      · exact h
    obtain ⟨x, hx, hxl⟩ := hl.one
    obtain ⟨xt, xo⟩ := hxl.uncons
    have e := ring_deep hc hr m x xt xo
    rw [deep_ref ht hc']
    have l1 := deep_le cs m c'.a
    have l2 := deep_le cs m c'.b
    simp only [List.mem_cons, List.not_mem_nil, or_false] at hx
    rcases hx with rfl | rfl <;> omega
theorem deep_min {cs : List Ce} : ∀ (m : Nat) (d : Wd), deepM cs m d = min m (deepM cs (m + 1) d)
  | 0, d => by rw [Nat.zero_min]; rfl
  | m + 1, d => by
    by_cases ht : d.tag = 4
    · cases hc : cs[d.num.toNat]? with
      | some c =>
        have h1 := deep_min (cs := cs) m c.a
        have h2 := deep_min (cs := cs) m c.b
        rw [deep_ref ht hc, deep_ref ht hc]
        omega
      | none =>
        have e : ∀ j, deepM cs (j + 1) d = 1 := fun j => by rw [deepM, if_pos ht, hc]
        rw [e, e]
        omega
    · rw [deep_no ht, deep_no ht]
      omega
/-- One deeper than what it leads to, or as deep as is looked. -/
theorem deep_step {cs : List Ce} {m : Nat} {d : Wd} {c : Ce} (ht : d.tag = 4) (hc : cs[d.num.toNat]? = some c) : deepM cs (m + 1) d = max (deepM cs (m + 1) c.a) (deepM cs (m + 1) c.b) + 1 ∨ (deepM cs (m + 1) d = m + 1 ∧ max (deepM cs (m + 1) c.a) (deepM cs (m + 1) c.b) = m + 1) := by
  have h1 := deep_min (cs := cs) m c.a
  have h2 := deep_min (cs := cs) m c.b
  have h3 := deep_le cs (m + 1) c.a
  have h4 := deep_le cs (m + 1) c.b
  rw [deep_ref ht hc]
  omega
/-- In an order in which each leads to earlier ones alone, words that lead to what is ahead of a place lead to nothing else. -/
theorem leads_down {cs : List Ce} {ws : List Wd} {i q : Nat} (hd : ∀ (p : Nat) (c : Ce), cs[p]? = some c → ∀ x, (x = c.a ∨ x = c.b) → x.tag = 4 → x.num.toNat < p) (hw : ∀ x ∈ ws, x.tag = 4 → x.num.toNat < i) (h : Leads cs ws q) : q < i := by
  induction h with
  | first x hx ht => exact hw x hx ht
  | next p c _ hc x hx ht ih =>
    have := hd p c hc x hx ht
    omega
end Go.Proofs.Ytndpioniobhbmaa
