/-
  What can be read as an expression is one, and lies in memory.
-/
import Derived.Test.YtdghblpaccaaiaaDoorRows
import Derived.Test.YtdghblpaccaaiaaDoorExLies
import Derived.ProofKit
import Derived.OpenShut
import Derived.Deep.Slices
namespace Go.Proofs.YtdghblpaccaaiaaDoor
open Go.RowKit

instance : Inhabited Ex := ⟨.mk 0 ⟨#[]⟩ ⟨#[]⟩ 0 []⟩

theorem cellsInt : Tryd.prog.cellsOf 3 = 1 := by kernel_rfl
theorem cellsStr : Tryd.prog.cellsOf 9 = 1 := by kernel_rfl
theorem cellsLaw : Tryd.prog.cellsOf 24 = 5 := by kernel_rfl
theorem cellsLawS : Tryd.prog.cellsOf 22 = 1 := by kernel_rfl

theorem one_of_take {cs : List Value} {i : Nat} {v : Value} (hlt : i < cs.length) (h : (cs.drop i).take 1 = [v]) : cs[i] = v := by
  rw [List.drop_eq_getElem_cons hlt, List.take_succ_cons] at h
  exact (List.cons.inj h).1

/-- The cells of a value that can be read, from an address on. -/
theorem range_of_cells {w : World} {base b off n : Nat} {cs : List Value} (h : w.cells? base ⟨b, off, none⟩ n = some cs) : w.rangeAt b off cs := by
  intro j v hj
  obtain ⟨_, hl, hc⟩ := World.cells?_some h
  have hlt := (List.getElem?_eq_some_iff.1 hj).1
  have := hc j (by omega)
  rw [Addr.add_mid] at this
  rw [this, hj]

theorem range_map {α : Type} {f : Nat → α} {len i : Nat} {x : α} (h : ((List.range len).map f)[i]? = some x) : i < len ∧ f i = x := by
  obtain ⟨hi, hx⟩ := List.getElem?_eq_some_iff.1 h
  simp at hi hx
  exact ⟨hi, hx⟩
theorem five_list {cs : List Value} (h : cs.length = 5) : cs = [cs[0], cs[1], cs[2], cs[3], cs[4]] := by
  match cs, h with
  | [_, _, _, _, _], _ => rfl

theorem open_expr {H : Type} {enc : TypeId × Value → H} {w : World} {base : Nat} {sp : Nat → Bool} {held : Bool} : ∀ (fuel : Nat) (cs : List Value) (x : DataW H × List MemPlace),
    DataW.trod enc Tryd.prog w base sp held fuel 24 cs = some x → ∃ e s, cs = Ex.cells e s ∧ Lies w (· < w.heap.size) e.kids s ∧ e.Fit := by
  intro fuel
  induction fuel using Nat.strongRecOn with
  | _ fuel ih =>
    intro cs x h
    obtain ⟨xs, n, rfl, _, hlen, hxs, hat⟩ := DataW.trod_struct Tryd.underlying24 h
    rw [cellsLaw] at hlen
    have h0 := hat 0 _ rfl
    have h1 := hat 1 _ rfl
    have h2 := hat 2 _ rfl
    have h3 := hat 3 _ rfl
    have h4 := hat 4 _ rfl
    have hxs' : xs.length = 5 := hxs
    rw [List.getElem?_eq_getElem (by omega)] at h0 h1 h2 h3 h4
    obtain ⟨k, e0, _, _⟩ := DataW.trod_int Tryd.underlying3 h0
    obtain ⟨a, e1, _, ha⟩ := DataW.trod_string Tryd.underlying9 h1
    obtain ⟨b, e2, _, hb⟩ := DataW.trod_string Tryd.underlying9 h2
    obtain ⟨u, e3, _, _⟩ := DataW.trod_int Tryd.underlying3 h3
    have e0 : (cs.drop 0).take (Tryd.prog.cellsOf 3) = [.int .i64 k] := e0
    have e1 : (cs.drop 1).take (Tryd.prog.cellsOf 9) = [.string a] := e1
    have e2 : (cs.drop 2).take (Tryd.prog.cellsOf 9) = [.string b] := e2
    have e3 : (cs.drop 3).take (Tryd.prog.cellsOf 3) = [.int .i64 u] := e3
    rw [cellsInt] at e0 e3
    rw [cellsStr] at e1 e2
    have c0 := one_of_take (by omega) e0
    have c1 := one_of_take (by omega) e1
    have c2 := one_of_take (by omega) e2
    have c3 := one_of_take (by omega) e3
    obtain ⟨es, s, e4, hlies, hkl, hkf⟩ : ∃ (es : List Ex) (s : Value), (cs.drop 4).take 1 = [s] ∧ Lies w (· < w.heap.size) es s ∧ es.length ≤ maxLen ∧ ∀ x ∈ es, x.Fit := by
      have h4 : DataW.trod enc Tryd.prog w base sp held n 22 ((cs.drop 4).take (Tryd.prog.cellsOf 22)) = some xs[4] := h4
      rw [cellsLawS] at h4
      rcases DataW.trod_slice Tryd.underlying22 h4 with ⟨hnil, _⟩ | ⟨ad, len, cap, elems, rest, m, hm, hsl, _, hbb, hlc, hcap, hel, helem, _, _⟩
      · exact ⟨[], _, hnil, .none _ _, Nat.zero_le _, by simp⟩
      · rw [cellsLaw] at helem
        have key : ∀ i, i < len → ∃ q : Ex × Value, w.cells? base (ad.add (i * 5)) 5 = some (q.1.cells q.2) ∧ Lies w (· < w.heap.size) q.1.kids q.2 ∧ q.1.Fit := fun i hi => by
          have := helem i hi
          rw [List.getElem?_eq_getElem (by omega)] at this
          obtain ⟨cs', hc1, hc2⟩ := Option.bind_eq_some_iff.1 this
          obtain ⟨e, s, rfl, hl, hf⟩ := ih m (by omega) cs' _ hc2
          exact ⟨(e, s), hc1, hl, hf⟩
        obtain ⟨f, hf⟩ := Go.Deep.choose_lt key
        refine ⟨(List.range len).map fun i => (f i).1, .slice (some ad) len cap, hsl, ?_, by simp; omega, ?_⟩
        · by_cases hz : len = 0
          · subst hz; exact .none _ _
          · obtain ⟨b0, off, spot⟩ := ad
            have hs0 := (World.cells?_some (hf 0 (by omega)).1).2.2 0 (by omega)
            have hspot : spot = none := by simpa [Addr.add, Ex.cells] using World.cell?_spot (v := .int .i64 (f 0).1.kind) (by simpa [Ex.cells, Addr.add] using hs0)
            subst hspot
            have hblk : b0 < w.heap.size := by simpa [Addr.add] using World.cells?_block (hf 0 (by omega)).1 (by omega)
            have := Lies.some (w := w) (S := (· < w.heap.size)) b0 off cap ((List.range len).map fun i => (f i).1) ((List.range len).map fun i => (f i).2) hblk (by simp) ?_ ?_
            · simpa using this
            · intro i e s he hs
              obtain ⟨hi, rfl⟩ := range_map he
              obtain ⟨_, rfl⟩ := range_map hs
              have := (hf i hi).1
              rw [Addr.add_mid] at this
              exact range_of_cells this
            · intro i e s he hs
              obtain ⟨hi, rfl⟩ := range_map he
              obtain ⟨_, rfl⟩ := range_map hs
              exact (hf i hi).2.1
        · intro x hx
          obtain ⟨i, hi, rfl⟩ := List.mem_map.1 hx
          exact (hf i (by simpa using hi)).2.2
    have c4 := one_of_take (by omega) e4
    refine ⟨.mk k a b u es, s, ?_, hlies, .mk _ ha hb hkl hkf⟩
    rw [five_list hlen, c0, c1, c2, c3, c4]
    rfl
end Go.Proofs.YtdghblpaccaaiaaDoor
