/-
  Marks in memory: the places to which words lead at once.
  Marks held against none: '=='.
-/
import Derived.Test.YtlkbgmgnjkkfgaaDoorLvAll22
import Derived.Laws.StructEq
import Derived.Laws.Tables
import Derived.Laws.Cover2
namespace Go.Proofs.YtlkbgmgnjkkfgaaDoor
open Go.RowKit

/-- The places to which words lead. -/
def ledM (ws : List Wd) : Mks := ws.foldl (fun m d => if d.tag = 4 then m.add d.num.toNat else m) Mks.zero
theorem ledM_snoc (l : List Wd) (d : Wd) : ledM (l ++ [d]) = if d.tag = 4 then (ledM l).add d.num.toNat else ledM l := by
  simp [ledM]
theorem ledM_ok (l : List Wd) : (ledM l).ok := by
  suffices h : ∀ (l : List Wd) (m : Mks), m.ok → (l.foldl (fun m d => if d.tag = 4 then m.add d.num.toNat else m) m).ok from h l _ ⟨by decide, by decide, by decide, by decide⟩
  intro l
  induction l with
  | nil => exact fun _ h => h
  | cons d r ih =>
    intro m hm
    rw [List.foldl_cons]
    apply ih
    split
    · exact Mks.ok_add hm _
    · exact hm
theorem ledM_has (l : List Wd) (hl : ∀ d ∈ l, d.tag = 4 → 0 ≤ d.num ∧ d.num < 256) (q : Nat) (hq : q < 256) : (ledM l).has q = true ↔ ∃ d ∈ l, d.tag = 4 ∧ d.num = q := by
  suffices h : ∀ (l : List Wd) (m : Mks), (∀ d ∈ l, d.tag = 4 → 0 ≤ d.num ∧ d.num < 256) → ((l.foldl (fun m d => if d.tag = 4 then m.add d.num.toNat else m) m).has q = true ↔ m.has q = true ∨ ∃ d ∈ l, d.tag = 4 ∧ d.num = q) by
    have := h l Mks.zero hl
    rw [Mks.has_zero] at this
    simpa [ledM] using this
  intro l
  induction l with
  | nil => intro m _; simp
  | cons d r ih =>
    intro m hd
    rw [List.foldl_cons, ih _ (fun x hx => hd x (List.mem_cons_of_mem _ hx))]
    by_cases ht : d.tag = 4
    · obtain ⟨h0, h1⟩ := hd d List.mem_cons_self ht
      rw [if_pos ht, Mks.has_add (by omega) hq]
      simp only [Bool.or_eq_true, decide_eq_true_eq, List.mem_cons, exists_eq_or_imp]
      constructor
      · rintro ((h | h) | h)
        · exact Or.inr (Or.inl ⟨ht, by omega⟩)
        · exact Or.inl h
        · exact Or.inr (Or.inr h)
      · rintro (h | ⟨_, h⟩ | h)
        · exact Or.inl (Or.inr h)
        · exact Or.inl (Or.inl (by omega))
        · exact Or.inr h
    · rw [if_neg ht]
      simp only [List.mem_cons, exists_eq_or_imp]
      constructor
      · rintro (h | h)
        · exact Or.inl h
        · exact Or.inr (Or.inr h)
      · rintro (h | ⟨h, _⟩ | h)
        · exact Or.inl h
        · exact absurd h ht
        · exact Or.inr h

/-- Marks as a value. -/
def mkV (m : Mks) : Value := .agg #[.int .u64 m.a, .int .u64 m.b, .int .u64 m.c, .int .u64 m.d]
theorem bt_new (w : World) (o : Obj) : Below w.heap.size w (w.alloc o) := (Below.refl _ _).alloc (Nat.le_refl _) o

end Go.Proofs.YtlkbgmgnjkkfgaaDoor

namespace Go.Proofs.YtlkbgmgnjkkfgaaDoor
open Go.RowKit

theorem bt_eq (a b c d x y z u : Int) (w : World) : (Op.equalIn 10000 42 (.agg #[.int .u64 a, .int .u64 b, .int .u64 c, .int .u64 d]) (.agg #[.int .u64 x, .int .u64 y, .int .u64 z, .int .u64 u])).run Tryd.prog w = .ok (a == x && b == y && c == z && d == u) w := by
  have u3 := Tryd.underlying40
  have a3 := Tryd.isAgg40
  have z3 := Tryd.sizeOf40
  rw [show (10000 : Nat) = 9999 + 1 from rfl, Op.equalIn]
  simp only [Sem.run_bind, run_underlying Tryd.underlying42, Result.andThen_ok]
  simp only [Std.Legacy.Range.forIn_eq_forIn_range', Std.Legacy.Range.size, Nat.sub_zero, Nat.add_sub_cancel, Nat.div_one, List.range'_succ, List.range'_zero, List.forIn_cons, List.forIn_nil]
  go_simp
  by_cases h1 : a = x <;> by_cases h2 : b = y <;> by_cases h3 : c = z <;> by_cases h4 : d = u <;> simp [h1, h2, h3, h4]
theorem Mks.eq_of_get {m : Mks} (h : ∀ i, i < 4 → m.get i = 0) : m = Mks.zero := by
  have h0 := h 0 (by omega)
  have h1 := h 1 (by omega)
  have h2 := h 2 (by omega)
  have h3 := h 3 (by omega)
  cases m
  simp only [Mks.get] at h0 h1 h2 h3
  subst h0 h1 h2 h3
  rfl
theorem bt_none (m : Mks) (h : m = Mks.zero) (w : World) : (Op.equalIn 10000 42 (.agg #[.int .u64 (m.get 0 : Nat), .int .u64 (m.get 1 : Nat), .int .u64 (m.get 2 : Nat), .int .u64 (m.get 3 : Nat)]) (.agg #[.int .u64 0, .int .u64 0, .int .u64 0, .int .u64 0])).run Tryd.prog w = .ok true w := by
  rw [bt_eq]
  subst h
  rfl
theorem bt_some (m : Mks) (h : m ≠ Mks.zero) (w : World) : (Op.equalIn 10000 42 (.agg #[.int .u64 (m.get 0 : Nat), .int .u64 (m.get 1 : Nat), .int .u64 (m.get 2 : Nat), .int .u64 (m.get 3 : Nat)]) (.agg #[.int .u64 0, .int .u64 0, .int .u64 0, .int .u64 0])).run Tryd.prog w = .ok false w := by
  rw [bt_eq]
  cases e : ((m.get 0 : Int) == 0 && (m.get 1 : Int) == 0 && (m.get 2 : Int) == 0 && (m.get 3 : Int) == 0)
  · rfl
  · exfalso
    simp only [Bool.and_eq_true, beq_iff_eq] at e
    obtain ⟨⟨⟨e0, e1⟩, e2⟩, e3⟩ := e
    refine h (Mks.eq_of_get fun i hi => ?_)
    match i, hi with
    | 0, _ => omega
    | 1, _ => omega
    | 2, _ => omega
    | 3, _ => omega
theorem bt_same (b m : Mks) (h : b = m) (w : World) : (Op.equalIn 10000 42 (.agg #[.int .u64 (b.get 0 : Nat), .int .u64 (b.get 1 : Nat), .int .u64 (b.get 2 : Nat), .int .u64 (b.get 3 : Nat)]) (.agg #[.int .u64 (m.get 0 : Nat), .int .u64 (m.get 1 : Nat), .int .u64 (m.get 2 : Nat), .int .u64 (m.get 3 : Nat)])).run Tryd.prog w = .ok true w := by
  rw [bt_eq]
  subst h
  simp
theorem bt_diff (b m : Mks) (h : b ≠ m) (w : World) : (Op.equalIn 10000 42 (.agg #[.int .u64 (b.get 0 : Nat), .int .u64 (b.get 1 : Nat), .int .u64 (b.get 2 : Nat), .int .u64 (b.get 3 : Nat)]) (.agg #[.int .u64 (m.get 0 : Nat), .int .u64 (m.get 1 : Nat), .int .u64 (m.get 2 : Nat), .int .u64 (m.get 3 : Nat)])).run Tryd.prog w = .ok false w := by
  rw [bt_eq]
  cases e : ((b.get 0 : Int) == (m.get 0 : Int) && (b.get 1 : Int) == (m.get 1 : Int) && (b.get 2 : Int) == (m.get 2 : Int) && (b.get 3 : Int) == (m.get 3 : Int))
  · rfl
  · exfalso
    simp only [Bool.and_eq_true, beq_iff_eq] at e
    obtain ⟨⟨⟨e0, e1⟩, e2⟩, e3⟩ := e
    refine h ?_
    cases b
    cases m
    simp only [Mks.get] at e0 e1 e2 e3
    simp only [Mks.mk.injEq]
    omega
theorem Mks.places_zero : Mks.zero.places = [] := by decide +kernel
end Go.Proofs.YtlkbgmgnjkkfgaaDoor

