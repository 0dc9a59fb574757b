/-
  Marks: four numbers of 64 bits, their places ascending. Mathematics; no program is named here.
-/
import Derived.Test.YtlkbgmgnjkkfgaaDoorLvAll0
import Derived.Lib.TrailingZeros
namespace Go.Proofs.YtlkbgmgnjkkfgaaDoor

/-- The places of the bits of a number, below n, ascending. -/
def bitsN (n x : Nat) : List Nat := (List.range n).filter x.testBit
theorem bitsN_succ (n x : Nat) : bitsN (n + 1) x = (if x % 2 = 1 then [0] else []) ++ (bitsN n (x / 2)).map (· + 1) := by
  unfold bitsN
  rw [List.range_succ_eq_map, List.filter_cons]
  have h0 : x.testBit 0 = decide (x % 2 = 1) := Nat.testBit_zero x
  have h1 : (List.map Nat.succ (List.range n)).filter x.testBit = ((List.range n).filter (x / 2).testBit).map (· + 1) := by
    rw [List.filter_map]
    congr 1
    apply List.filter_congr
    intro i _
    simp [Nat.testBit_succ]
  rw [h1, h0]
  by_cases h : x % 2 = 1 <;> simp [h]
theorem and_low (x : Nat) : (x &&& (x - 1)) % 2 = 0 := by
  have h := Nat.testBit_and x (x - 1) 0
  rw [Nat.testBit_zero, Nat.testBit_zero, Nat.testBit_zero] at h
  rcases Nat.mod_two_eq_zero_or_one (x &&& (x - 1)) with e | e
  · exact e
  · rw [decide_eq_true e] at h
    have h2 := h.symm
    rw [Bool.and_eq_true, decide_eq_true_eq, decide_eq_true_eq] at h2
    omega
theorem and_half (x : Nat) : (x &&& (x - 1)) / 2 = x / 2 &&& (x - 1) / 2 := by
  apply Nat.eq_of_testBit_eq
  intro i
  rw [← Nat.testBit_succ, Nat.testBit_and, Nat.testBit_and, Nat.testBit_succ, Nat.testBit_succ]
theorem bitsN_lowest : ∀ (n x : Nat), x ≠ 0 → x < 2 ^ n → bitsN n x = Lib.ctzFrom n x :: bitsN n (x &&& (x - 1))
  | 0, x, h0, h => by simp at h; omega
  | n + 1, x, h0, h => by
    rw [bitsN_succ, bitsN_succ n (x &&& (x - 1)), and_half, and_low, Lib.ctzFrom]
    by_cases hx : x % 2 = 1
    · have : (x - 1) / 2 = x / 2 := by omega
      simp [hx, this]
    · have e : (x - 1) / 2 = x / 2 - 1 := by omega
      have hh : x / 2 < 2 ^ n := by rw [Nat.pow_succ] at h; omega
      have ih := bitsN_lowest n (x / 2) (by omega) hh
      simp only [hx, if_false, List.nil_append, e]
      rw [ih]
      simp only [List.map_cons]
      simp [Nat.add_comm]
theorem bitsN_next {x : Nat} (h0 : x ≠ 0) (h : x < 18446744073709551616) : bitsN 64 x = Lib.ctz 64 x :: bitsN 64 (x &&& (x - 1)) := by
  rw [Lib.ctz, if_neg h0]
  exact bitsN_lowest 64 x h0 (by simpa using h)
theorem bitsN_zero (n : Nat) : bitsN n 0 = [] := by simp [bitsN]
theorem bitsN_len (n x : Nat) : (bitsN n x).length ≤ n := by
  have := List.length_filter_le x.testBit (List.range n)
  simpa [bitsN] using this
theorem and_lt (x : Nat) (h0 : x ≠ 0) : x &&& (x - 1) < x := Nat.lt_of_le_of_lt Nat.and_le_right (by omega)

/-- Marks: four numbers of 64 bits each. -/
structure Mks where
  (a b c d : Nat)
deriving DecidableEq
def Mks.get (m : Mks) : Nat → Nat | 0 => m.a | 1 => m.b | 2 => m.c | _ => m.d
def Mks.put (m : Mks) : Nat → Nat → Mks | 0, x => { m with a := x } | 1, x => { m with b := x } | 2, x => { m with c := x } | _, x => { m with d := x }
def Mks.zero : Mks := ⟨0, 0, 0, 0⟩
def Mks.ok (m : Mks) : Prop := m.a < 18446744073709551616 ∧ m.b < 18446744073709551616 ∧ m.c < 18446744073709551616 ∧ m.d < 18446744073709551616
theorem Mks.get_lt {m : Mks} (h : m.ok) (i : Nat) : m.get i < 18446744073709551616 := by
  obtain ⟨h1, h2, h3, h4⟩ := h
  unfold Mks.get
  split <;> assumption
/-- Is a place in? -/
def Mks.has (m : Mks) (p : Nat) : Bool := (m.get (p / 64)).testBit (p % 64)
def Mks.add (m : Mks) (p : Nat) : Mks := m.put (p / 64) (m.get (p / 64) ||| 2 ^ (p % 64))
theorem Mks.get_put {m : Mks} {i j x : Nat} (hi : i < 4) (hj : j < 4) : (m.put i x).get j = if i = j then x else m.get j := by
  match i, j, hi, hj with
  | 0, 0, _, _ => rfl
  | 0, 1, _, _ => rfl
  | 0, 2, _, _ => rfl
  | 0, 3, _, _ => rfl
  | 1, 0, _, _ => rfl
  | 1, 1, _, _ => rfl
  | 1, 2, _, _ => rfl
  | 1, 3, _, _ => rfl
  | 2, 0, _, _ => rfl
  | 2, 1, _, _ => rfl
  | 2, 2, _, _ => rfl
  | 2, 3, _, _ => rfl
  | 3, 0, _, _ => rfl
  | 3, 1, _, _ => rfl
  | 3, 2, _, _ => rfl
  | 3, 3, _, _ => rfl
theorem Mks.ok_put {m : Mks} (h : m.ok) (i x : Nat) (hx : x < 18446744073709551616) : (m.put i x).ok := by
  obtain ⟨h1, h2, h3, h4⟩ := h
  unfold Mks.put
  split <;> exact ⟨by assumption, by assumption, by assumption, by assumption⟩
theorem Mks.ok_add {m : Mks} (h : m.ok) (p : Nat) : (m.add p).ok := by
  apply Mks.ok_put h
  have h1 := Mks.get_lt h (p / 64)
  have h2 : (2 : Nat) ^ (p % 64) < 2 ^ 64 := Nat.pow_lt_pow_right (by decide) (by omega)
  exact Nat.or_lt_two_pow (n := 64) h1 h2
theorem Mks.has_add {m : Mks} {p q : Nat} (hp : p < 256) (hq : q < 256) : (m.add p).has q = (decide (p = q) || m.has q) := by
  unfold Mks.has Mks.add
  rw [Mks.get_put (by omega) (by omega)]
  by_cases h : p / 64 = q / 64
  · rw [if_pos h, Nat.testBit_or, Nat.testBit_two_pow, h]
    by_cases hm : p % 64 = q % 64
    · have : p = q := by omega
      simp [this]
    · have : p ≠ q := by intro e; subst e; exact hm rfl
      simp [hm, this]
  · have : p ≠ q := by intro e; subst e; exact h rfl
    rw [if_neg h]
    simp [this]
theorem Mks.has_zero (q : Nat) : Mks.zero.has q = false := by
  unfold Mks.has Mks.get Mks.zero
  split <;> simp
/-- All that are in, ascending, of the first n words. -/
def Mks.upto (m : Mks) (n : Nat) : List Nat := (List.range n).flatMap fun i => (bitsN 64 (m.get i)).map fun b => i * 64 + b
def Mks.places (m : Mks) : List Nat := m.upto 4
theorem Mks.upto_succ (m : Mks) (n : Nat) : m.upto (n + 1) = m.upto n ++ (bitsN 64 (m.get n)).map fun b => n * 64 + b := by
  simp [Mks.upto, List.range_succ]
theorem Mks.upto_len (m : Mks) (n : Nat) : (m.upto n).length ≤ n * 64 := by
  induction n with
  | zero => simp [Mks.upto]
  | succ n ih =>
    rw [Mks.upto_succ, List.length_append, List.length_map]
    have := bitsN_len 64 (m.get n)
    omega
theorem Mks.places_eq (m : Mks) : m.places = (List.range 256).filter m.has := by
  have e : List.range 256 = (List.range 4).flatMap fun i => (List.range 64).map fun b => i * 64 + b := by decide +kernel
  rw [e, List.filter_flatMap]
  unfold Mks.places Mks.upto
  congr 1
  funext i
  rw [List.filter_map, bitsN]
  congr 1
  apply List.filter_congr
  intro b hb
  rw [List.mem_range] at hb
  have h1 : (i * 64 + b) / 64 = i := by omega
  have h2 : (i * 64 + b) % 64 = b := by omega
  simp [Mks.has, h1, h2]
theorem Mks.mem_places {m : Mks} {q : Nat} : q ∈ m.places ↔ q < 256 ∧ m.has q = true := by
  rw [Mks.places_eq, List.mem_filter, List.mem_range]
theorem Mks.none_of {m : Mks} (h : m.ok) (he : m.places = []) : m = Mks.zero := by
  have key : ∀ i, i < 4 → m.get i = 0 := fun i hi => by
    apply Nat.eq_of_testBit_eq
    intro b
    rw [Nat.zero_testBit]
    by_cases hb : b < 64
    · have hn : ¬ (i * 64 + b) ∈ m.places := by rw [he]; simp
      rw [Mks.mem_places] at hn
      have h1 : (i * 64 + b) / 64 = i := by omega
      have h2 : (i * 64 + b) % 64 = b := by omega
      simp only [Mks.has, h1, h2] at hn
      have := fun e => hn ⟨by omega, e⟩
      simpa using this
    · exact Nat.testBit_lt_two_pow (Nat.lt_of_lt_of_le (Mks.get_lt h i) (by
        show 2 ^ 64 ≤ _
        exact Nat.pow_le_pow_right (by decide) (by omega)))
  have h0 := key 0 (by omega)
  have h1 := key 1 (by omega)
  have h2 := key 2 (by omega)
  have h3 := key 3 (by omega)
  cases m
  simp only [Mks.get] at h0 h1 h2 h3
  subst h0 h1 h2 h3
  rfl
end Go.Proofs.YtlkbgmgnjkkfgaaDoor

