/-
  A blank in a text, a newline behind it. Mathematics; no program is named here.
  The library's strings.Cut, strings.TrimSuffix, strconv.Atoi at this program.
-/
import Derived.Test.YthikfinliiaecaaGreatDoorFgAll33
import Derived.Lib.Strings
import Derived.Lib.CutLaws
import Derived.Test.YthikfinliiaecaaGreatDoorFgAll14
import Derived.Shelf.Strings.Cut
import Derived.Shelf.Strings.Prefix
import Derived.Shelf.Strconv.AtoiAll
import Derived.Shelf.Lay
import Derived.Ground.NamesProg
namespace Go.Proofs.YthikfinliiaecaaGreatDoor
open Go.RowKit

theorem itoa_nat {n : Int} (h : 0 ≤ n) : Lib.itoa n = Lib.decDigits n.toNat := by
  rw [← Lib.itoa_nonneg, Int.toNat_of_nonneg h]
theorem trim_word (l : List UInt8) : Lib.trimSuffix (l ++ [10]) [10] = l := by
  unfold Lib.trimSuffix
  have : Lib.hasSuffix (l ++ [10]) [10] = true := by
    unfold Lib.hasSuffix
    rw [List.isSuffixOf_iff_suffix]
    exact ⟨l, rfl⟩
  rw [if_pos this]
  simp
theorem pre_blank (c : UInt8) (l : List UInt8) : ([32] : List UInt8).isPrefixOf (c :: l) = (32 == c) := by
  simp [List.isPrefixOf]
theorem cut_blank : ∀ (p q : List UInt8), (32 : UInt8) ∉ p → Lib.index (p ++ 32 :: q) [32] = (p.length : Int)
  | [], q, _ => by
    rw [List.nil_append, Lib.index, pre_blank]
    rfl
  | c :: p, q, h => by
    have h1 : ¬ ((32 == c) = true) := by
      intro e
      exact h (by rw [beq_iff_eq] at e; rw [e]; simp)
    have h2 := cut_blank p q (fun e => h (by simp [e]))
    rw [List.cons_append, Lib.index, pre_blank, if_neg h1, h2, if_neg (by rw [beq_iff_eq]; omega), List.length_cons]
    omega
theorem no_blank : ∀ (p : List UInt8), (32 : UInt8) ∉ p → Lib.index p [32] = -1
  | [], _ => rfl
  | c :: p, h => by
    have h1 : ¬ ((32 == c) = true) := by
      intro e
      exact h (by rw [beq_iff_eq] at e; rw [e]; simp)
    rw [Lib.index, pre_blank, if_neg h1, no_blank p (fun e => h (by simp [e]))]
    rfl
theorem cutLine_own : ∀ (p q : List UInt8), (10 : UInt8) ∉ p → cutLine (p ++ 10 :: q) = (p ++ [10], q)
  | [], q, _ => rfl
  | c :: p, q, h => by
    rw [List.cons_append, cutLine, if_neg (fun e => h (by simp [e])), cutLine_own p q (fun e => h (by simp [e]))]
    rfl
end Go.Proofs.YthikfinliiaecaaGreatDoor

namespace Go.Proofs.YthikfinliiaecaaGreatDoor
open Go.RowKit Go.Shelf

shelf_lay Lays.n102 Nm 102 at Tryz as lays102
shelf_lay Lays.n145 Nm 145 at Tryz as lays145
shelf_lay LaysC.n172 Nm 172 at Tryz as lays172

/-- What the library's reading of texts asks of the world: where its own variables lie something is. -/
structure RTab (w : World) : Prop where
  most : ∃ m : Int, w.cell? ⟨1, 0, none⟩ = some (.int .i64 m)
  odd : ∃ ev, w.cell? ⟨2, 0, none⟩ = some ev ∧ (ev = .nilIface ∨ ∃ te pe, ev = .iface te pe)
  far : ∃ ev, w.cell? ⟨3, 0, none⟩ = some ev ∧ (ev = .nilIface ∨ ∃ te pe, ev = .iface te pe)
theorem cell_lt {w : World} {a : Addr} {v : Value} (h : w.cell? a = some v) : a.block < w.heap.size := by
  apply Decidable.byContradiction
  intro hn
  unfold World.cell? at h
  rw [Array.getElem?_eq_none (by omega)] at h
  cases h
theorem RTab.keep {w w' : World} (h : RTab w) (hb : Below w.heap.size w w') : RTab w' := by
  obtain ⟨⟨m, h1⟩, ⟨e1, h2, h3⟩, ⟨e2, h4, h5⟩⟩ := h
  exact ⟨⟨m, by rw [hb.cell (cell_lt h1)]; exact h1⟩, ⟨e1, by rw [hb.cell (cell_lt h2)]; exact h2, h3⟩, ⟨e2, by rw [hb.cell (cell_lt h4)]; exact h4, h5⟩⟩
theorem trim_suffix (l p : List UInt8) (hl : l.length ≤ 1048576) (w : World) : Calls Tryz.prog 20 #[.string (bx l), .string (bx p)] w fun e w' => e = .returned (.string (bx (Lib.trimSuffix l p))) ∧ w' = w :=
  Any.strings_TrimSuffix lays102 (bx l) (bx p) w (by rw [bx_size]; omega)
theorem drewN_below (w : World) : ∀ n, Below w.heap.size w (w.drewN n) := fun _ => ⟨rfl, rfl, rfl, Nat.le_refl _, fun _ _ => rfl⟩
theorem str_cut (l p : List UInt8) (hl : l.length ≤ 1048576) (w : World) (h : RTab w) : Calls Tryz.prog 16 #[.string (bx l), .string (bx p)] w fun e w' => e = .returned (.tuple #[.string (bx (Lib.cut l p).1), .string (bx (Lib.cut l p).2.1), .bool (Lib.cut l p).2.2]) ∧ Below w.heap.size w w' := by
  obtain ⟨m, hm⟩ := h.most
  refine (Any.strings_Cut lays145 (bx l) (bx p) m w (by rw [bx_size]; omega) hm).mono ?_
  rintro e w' ⟨rfl, n, rfl⟩
  exact ⟨rfl, drewN_below w n⟩
/-- What strconv.Atoi answers, and whether it was a number. -/
def atoiV (l : List UInt8) : Int × Bool := match Lib.atoiAll l with
  | .ok v => (v, true)
  | .range => (Lib.atoiSat l, false)
  | .«syntax» => (0, false)
theorem str_atoi (l : List UInt8) (hl : l.length ≤ 1048576) (w : World) (h : RTab w) : Calls Tryz.prog 73 #[.string (bx l)] w fun e w' => (∃ ev, e = .returned (.tuple #[.int .i64 (atoiV l).1, ev]) ∧ ((atoiV l).2 = true → ev = .nilIface) ∧ ((atoiV l).2 = false → ∃ te pe, ev = .iface te pe)) ∧ Below w.heap.size w w' := by
  obtain ⟨_, ⟨e1, h2, h3⟩, ⟨e2, h4, h5⟩⟩ := h
  unfold atoiV
  cases ha : Lib.atoiAll l with
  | ok v =>
    refine (Any.strconv_Atoi_ok lays172 (bx l) (by rw [bx_size]; omega) v ha w).mono ?_
    rintro e w' ⟨rfl, hw⟩
    refine ⟨⟨_, rfl, fun _ => rfl, fun h => by cases h⟩, ?_⟩
    rcases hw with rfl | ⟨t, rfl⟩
    · exact Below.refl _ _
    · exact Lib.bytesWorld_below _ _ _
  | range =>
    refine (Any.strconv_Atoi_range lays172 (bx l) (by rw [bx_size]; omega) ha e2 w h4 h5).mono ?_
    rintro e w' ⟨N, rfl, _, _, hb⟩
    exact ⟨⟨_, rfl, fun h => (by cases h), fun _ => ⟨_, _, rfl⟩⟩, hb⟩
  | «syntax» =>
    refine (Any.strconv_Atoi_syntax lays172 (bx l) (by rw [bx_size]; omega) ha e1 w h2 h3).mono ?_
    rintro e w' ⟨N, rfl, _, _, hb⟩
    exact ⟨⟨_, rfl, fun h => (by cases h), fun _ => ⟨_, _, rfl⟩⟩, hb⟩
end Go.Proofs.YthikfinliiaecaaGreatDoor

