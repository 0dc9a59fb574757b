/-
  Marks held against none: '=='.
-/
import Derived.Test.YthcifgpkiclkiaaDoorBtLed
import Derived.Laws.StructEq
import Derived.Laws.Tables
import Derived.Laws.Cover2
namespace Go.Proofs.YthcifgpkiclkiaaDoor
open Go.RowKit

theorem bt_eq (a b c d x y z u : Int) (w : World) : (Op.equalIn 10000 38 (.agg #[.int .u64 a, .int .u64 b, .int .u64 c, .int .u64 d]) (.agg #[.int .u64 x, .int .u64 y, .int .u64 z, .int .u64 u])).run Tryd.prog w = .ok (a == x && b == y && c == z && d == u) w := by
  have u3 := Tryd.underlying36
  have a3 := Tryd.isAgg36
  have z3 := Tryd.sizeOf36
  rw [show (10000 : Nat) = 9999 + 1 from rfl, Op.equalIn]
  simp only [Sem.run_bind, run_underlying Tryd.underlying38, Result.andThen_ok]
  simp only [Std.Legacy.Range.forIn_eq_forIn_range', Std.Legacy.Range.size, Nat.sub_zero, Nat.add_sub_cancel, Nat.div_one, List.range'_succ, List.range'_zero, List.forIn_cons, List.forIn_nil]
  go_simp
  by_cases h1 : a = x <;> by_cases h2 : b = y <;> by_cases h3 : c = z <;> by_cases h4 : d = u <;> simp [h1, h2, h3, h4]
theorem Mks.eq_of_get {m : Mks} (h : ∀ i, i < 4 → m.get i = 0) : m = Mks.zero := by
  have h0 := h 0 (by omega)
  have h1 := h 1 (by omega)
  have h2 := h 2 (by omega)
  have h3 := h 3 (by omega)
  cases m
  simp only [Mks.get] at h0 h1 h2 h3
  subst h0 h1 h2 h3
  rfl
theorem bt_none (m : Mks) (h : m = Mks.zero) (w : World) : (Op.equalIn 10000 38 (.agg #[.int .u64 (m.get 0 : Nat), .int .u64 (m.get 1 : Nat), .int .u64 (m.get 2 : Nat), .int .u64 (m.get 3 : Nat)]) (.agg #[.int .u64 0, .int .u64 0, .int .u64 0, .int .u64 0])).run Tryd.prog w = .ok true w := by
  rw [bt_eq]
  subst h
  rfl
theorem bt_some (m : Mks) (h : m ≠ Mks.zero) (w : World) : (Op.equalIn 10000 38 (.agg #[.int .u64 (m.get 0 : Nat), .int .u64 (m.get 1 : Nat), .int .u64 (m.get 2 : Nat), .int .u64 (m.get 3 : Nat)]) (.agg #[.int .u64 0, .int .u64 0, .int .u64 0, .int .u64 0])).run Tryd.prog w = .ok false w := by
  rw [bt_eq]
  cases e : ((m.get 0 : Int) == 0 && (m.get 1 : Int) == 0 && (m.get 2 : Int) == 0 && (m.get 3 : Int) == 0)
  · rfl
  · exfalso
    simp only [Bool.and_eq_true, beq_iff_eq] at e
    obtain ⟨⟨⟨e0, e1⟩, e2⟩, e3⟩ := e
    refine h (Mks.eq_of_get fun i hi => ?_)
    match i, hi with
    | 0, _ => omega
    | 1, _ => omega
    | 2, _ => omega
    | 3, _ => omega
theorem Mks.places_zero : Mks.zero.places = [] := by decide +kernel
end Go.Proofs.YthcifgpkiclkiaaDoor
