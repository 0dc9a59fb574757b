/-
  What can be read as a row of plain things lies there as one. No type of the program is named here.
-/
import Derived.Test.YtpocmljbfcenfaaRows
import Derived.Test.YtpocmljbfcenfaaRwRow
import Derived.ProofKit
import Derived.OpenShut
import Derived.Deep.Slices
namespace Go.Proofs.Ytpocmljbfcenfaa
open Go.RowKit

theorem rw_range {w : World} {base b off n : Nat} {cs : List Value} (h : w.cells? base ⟨b, off, none⟩ n = some cs) : w.rangeAt b off cs := by
  intro j v hj
  obtain ⟨_, hl, hc⟩ := World.cells?_some h
  have hlt := (List.getElem?_eq_some_iff.1 hj).1
  have := hc j (by omega)
  rw [Addr.add_mid] at this
  rw [this, hj]
theorem rw_map {α : Type} {f : Nat → α} {len i : Nat} {x : α} (h : ((List.range len).map f)[i]? = some x) : i < len ∧ f i = x := by
  obtain ⟨hi, hx⟩ := List.getElem?_eq_some_iff.1 h
  simp at hi hx
  exact ⟨hi, hx⟩

/-- A slice of things that can be read, each n cells of which the first is an int. -/
theorem open_row {α : Type} [Inhabited α] {f : α → List Value} {n : Nat} {H : Type} {enc : TypeId × Value → H} {w : World} {base : Nat} {sp : Nat → Bool} {held : Bool} {T E : TypeId} (hT : Try.prog.underlying T = some (.slice E)) (hE : Try.prog.cellsOf E = n) (hn : 0 < n)
    (hfirst : ∀ x, ∃ (k : Int) (r : List Value), f x = .int .i64 k :: r) (hopen : ∀ (fuel : Nat) (cs : List Value) (x : DataW H × List MemPlace), DataW.trod enc Try.prog w base sp held fuel E cs = some x → ∃ y : α, cs = f y)
    {fuel : Nat} {cs : List Value} {x : DataW H × List MemPlace} (h : DataW.trod enc Try.prog w base sp held fuel T cs = some x) :
    ∃ (l : List α) (s : Value), cs = [s] ∧ RowOf n f w (· < w.heap.size) l s ∧ l.length ≤ maxLen := by
  rcases DataW.trod_slice hT h with ⟨hnil, _⟩ | ⟨ad, len, cap, elems, rest, m, hm, hsl, _, hbb, hlc, hcap, hel, helem, _, _⟩
  · exact ⟨[], _, hnil, RowOf.nil _ _, Nat.zero_le _⟩
  · rw [hE] at helem
    have key : ∀ i, i < len → ∃ q : α, w.cells? base (ad.add (i * n)) n = some (f q) := fun i hi => by
      have := helem i hi
      rw [List.getElem?_eq_getElem (by omega)] at this
      obtain ⟨cs', hc1, hc2⟩ := Option.bind_eq_some_iff.1 this
      obtain ⟨y, rfl⟩ := hopen m cs' _ hc2
      exact ⟨y, hc1⟩
    obtain ⟨g, hg⟩ := Go.Deep.choose_lt key
    refine ⟨(List.range len).map g, .slice (some ad) len cap, hsl, ?_, by simp; omega⟩
    by_cases hz : len = 0
    · subst hz; exact RowOf.nil _ _
    · obtain ⟨b0, off, spot⟩ := ad
      have hs0 := (World.cells?_some (hg 0 (by omega))).2.2 0 (by omega)
      obtain ⟨k0, r0, hk0⟩ := hfirst (g 0)
      have hspot : spot = none := by simpa [Addr.add] using World.cell?_spot (v := .int .i64 k0) (by simpa [hk0, Addr.add] using hs0)
      subst hspot
      have hblk : b0 < w.heap.size := by simpa [Addr.add] using World.cells?_block (hg 0 (by omega)) (by omega)
      refine ⟨some ⟨b0, off, none⟩, cap, by simp, fun i y hy => ⟨b0, off, hblk, rfl, ?_⟩⟩
      obtain ⟨hi, rfl⟩ := rw_map hy
      have := hg i hi
      rw [Addr.add_mid] at this
      exact rw_range this
end Go.Proofs.Ytpocmljbfcenfaa
