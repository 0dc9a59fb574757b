/-
  A table of texts off a row's list. (NmMath has the same, beside names: not for texts that import LsNum.)
-/
import Derived.LaidLaws
import Derived.ChangeArms
import Derived.OpenShut
namespace Go.Proofs.YtkollpgacheeoaaGreatDoor

/-- Two texts of the same bytes are the same. -/
theorem text_ext {x y : ByteArray} (h : x.data.toList = y.data.toList) : x = y := by
  cases x; cases y; simp at h; simp [h]

/-- If an array of texts reads as a list of texts, its cells are these texts. -/
theorem cells_of_strs {H : Type} {enc : TypeId × Value → H} {P : Program} {w : World} {base : Nat} {sp : Nat → Bool} {held : Bool} {fuel : Nat} {t e : TypeId} {n : Nat} {cs : List Value} {zs : List ByteArray} {p : List MemPlace}
    (ht : P.underlying t = some (.array n e)) (he : P.underlying e = some .string) (hce : P.cellsOf e = 1) (hct : P.cellsOf t = n)
    (h : DataW.trod enc P w base sp held fuel t cs = some (.agg (zs.map fun z => .lit (.string z.data.toList)), p)) : cs = zs.map fun z => Value.string z := by
  obtain ⟨xs, m, _, hx, hlen, hxn, hat⟩ := DataW.trod_array ht h
  simp only [Prod.mk.injEq, DataW.agg.injEq] at hx
  have hzn : zs.length = n := by
    have := congrArg List.length hx.1
    simp at this; omega
  refine List.ext_getElem (by simp; omega) fun i h1 h2 => ?_
  have hi : i < n := by omega
  have hr := hat i hi
  rw [hce, Nat.mul_one, List.getElem?_eq_getElem (by omega)] at hr
  obtain ⟨s, hs, hy, _⟩ := DataW.trod_string he hr
  have hd : (List.map (·.1) xs)[i]'(by simp; omega) = DataW.lit (.string s.data.toList) := by simp [hy]
  have hz : s = zs[i] := by
    have := List.getElem_of_eq hx.1.symm (i := i) (by simp; omega)
    rw [hd] at this
    simp only [List.getElem_map, DataW.lit.injEq, Lit.string.injEq] at this
    exact text_ext this
  have hc : cs[i] = .string s := by
    rw [List.drop_eq_getElem_cons h1, List.take_succ_cons] at hs
    exact (List.cons.inj hs).1
  simp [hc, hz]

/-- FROM A ROW's CONDITION TO WHAT THE VARIABLE HOLDS: a table of texts that stands FIRST on the list. -/
theorem strs_of_head {P : Program} {W : World} {name : String} {zs : List ByteArray} {rest : List (String × DataW Unit)} {g : Nat} {t e : TypeId} {n : Nat}
    (hg : P.globalNamed name = some g) (hty : (P.globals[g]?).map (·.type) = some t) (ht : P.underlying t = some (.array n e)) (he : P.underlying e = some .string) (hce : P.cellsOf e = 1) (hct : P.cellsOf t = n)
    (h : laidMet P ((name, .agg (zs.map fun z => .lit (.string z.data.toList))) :: rest) W) : W.var? P name = some (zs.map fun z => Value.string z).toArray := by
  obtain ⟨ps, ⟨g', t', cs, fuel, p, q, hg', ht', hvar, hd, _, _⟩, _⟩ := h
  obtain rfl := Option.some.inj (hg.symm.trans hg')
  obtain rfl := Option.some.inj (hty.symm.trans ht')
  rw [hvar, ← cells_of_strs ht he hce hct hd]

end Go.Proofs.YtkollpgacheeoaaGreatDoor

