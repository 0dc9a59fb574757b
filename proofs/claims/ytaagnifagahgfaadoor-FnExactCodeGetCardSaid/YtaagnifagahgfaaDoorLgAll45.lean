/-
  The law of CodeGet.
  A table of texts off a row's list. (NmMath has the same, beside names: not for texts that import LsNum.)
-/
import Derived.Test.YtaagnifagahgfaaDoorLsGet
import Derived.Test.YtaagnifagahgfaaDoorLgAll44
import Derived.LaidLaws
import Derived.ChangeArms
import Derived.OpenShut
namespace Go.Proofs.YtaagnifagahgfaaDoor
open Go.RowKit

/-- What was read, as a row of the call's own. -/
theorem got_row {w w' : World} {o : Option (List Wd)} {r : Ending} (h : GotOps w w' o r) : ∃ v, r = .returned (.tuple #[v, .bool o.isSome]) ∧ OwnR 2 Wd.cells 33 w' w.heap.size (o.getD []) v ∧ Below w.heap.size w w' := by
  cases o with
  | none =>
    obtain ⟨rfl, h⟩ := h
    exact ⟨_, rfl, OwnR.nil, h⟩
  | some ops =>
    obtain ⟨⟨v, rfl, h1⟩, h⟩ := h
    exact ⟨v, rfl, h1, h⟩
theorem lg_row {w : World} {B : Nat} {l : List Wd} {v : Value} (h : OwnR 2 Wd.cells 33 w B l v) : Words w (· < w.heap.size) l v := (h.row (fun _ => rfl)).same fun _ hb => ⟨rfl, hb.2⟩
theorem lg_but {w w' : World} {B C : Nat} {l : List Wd} {v1 v2 : Value} (h : OwnR 2 Wd.cells 33 w B l v1) (hg : w.grownBy w' v2.ownBlock) (h1 : ∀ b, v1.ownBlock = some b → b < C) (h2 : ∀ b, v2.ownBlock = some b → C ≤ b) : OwnR 2 Wd.cells 33 w' B l v1 := by
  refine World.ownsRow.kept h hg ?_
  cases hv : v1.ownBlock with
  | none => exact Or.inl rfl
  | some k => exact Or.inr fun e => by have := h1 k hv; have := h2 k e.symm; omega
theorem got_len {l : List UInt8} : ((getM l).getD []).length ≤ 200 := by
  cases h : getM l with
  | none => simp
  | some X =>
    have := (codeM_fine (get_some h).1).1
    exact this
set_option maxRecDepth 100000 in
set_option maxHeartbeats 2000000 in
theorem law_CodeGet (l : List UInt8) (w : World) (hT : PowTab w) (hC : OTab w) (hR : RTab w) :
    Calls Tryd.prog 3 #[.string (bx l)] w fun r w' => r = .returned (.bool true) ∧ Below w.heap.size w w' := by
  have hsz : (bx l).size = l.length := bx_size l
  by_cases hbig : 1048576 < l.length
  · have hb' : (1048576 : Int) < ((bx l).size : Int) := by omega
    generalize bx l = t at *
    go_enter Tryd.func3, Tryd.ntmps3
    go_wp2_with fail
    go_ret
    exact ⟨rfl, Below.refl _ _⟩
  have hb' : ¬ (1048576 : Int) < ((bx l).size : Int) := by omega
  have HI : ∀ w, PowTab w → OTab w → RTab w → Calls Tryd.prog 5 #[.string (bx l)] w fun r w' => ∃ v, r = .returned (.tuple #[v, .bool (getM l).isSome]) ∧ OwnR 2 Wd.cells 33 w' w.heap.size ((getM l).getD []) v ∧ Below w.heap.size w w' := fun w h1 h2 h3 => (impl_CodeGet l (by omega) w h1 h2 h3).mono fun r w' h => got_row h
  have HS : ∀ w, Calls Tryd.prog 4 #[.string (bx l)] w fun r w' => ∃ v, r = .returned (.tuple #[v, .bool (getM l).isSome]) ∧ OwnR 2 Wd.cells 33 w' w.heap.size ((getM l).getD []) v ∧ Below w.heap.size w w' := fun w => (spec_CodeGet l (by omega) w).mono fun r w' h => got_row h
  have hn := got_len (l := l)
  generalize (getM l).isSome = ok at HI HS
  generalize (getM l).getD [] = ops at HI HS hn
  generalize bx l = t at *
  have hl : ops.length ≤ 1048576 := by omega
  obtain ⟨n, hN⟩ : ∃ n, n = ops.length := ⟨_, rfl⟩
  have HN : Hid (n = ops.length) := hN
  have hn2 : n ≤ 200 := by omega
  have e2 : ∀ {w : World} {B : Nat} {v : Value}, OwnR 2 Wd.cells 33 w B ops v → w.ownsRow B 33 2 v n (ops.flatMap Wd.cells) := fun h => by unfold OwnR at h; rw [HN.out]; exact h
  clear hN hsz hbig
  have HTT : Hid (PowTab w ∧ OTab w ∧ RTab w) := ⟨hT, hC, hR⟩
  have hI1 : ∀ w', Below w.heap.size w w' → Calls Tryd.prog 5 #[.string t] w' fun r w'' => ∃ v, r = .returned (.tuple #[v, .bool ok]) ∧ OwnR 2 Wd.cells 33 w'' w'.heap.size ops v ∧ Below w'.heap.size w' w'' := fun w' h => HI w' (HTT.out.1.keep h) (HTT.out.2.1.keep h) (HTT.out.2.2.keep h)
  clear HI hT hC hR
  go_enter Tryd.func3, Tryd.ntmps3
  go_upto_region 7 with (first
    | (go_at_call 4; refine (HS _).mono ?_; rintro e w1 ⟨v1, rfl, hO1, hB1⟩)
    | (go_at_call 5; refine (hI1 _ hB1).mono ?_; rintro e w2 ⟨v2, rfl, hO2, hB2⟩; have hB12 := cw_next hB1 hB2; have hO12 := hO1.keep hB2)
    | (go_at_call 6; refine (law_eqOpS ops hl _ _ _ (lg_row hO2) (lg_row hO12)).mono ?_; rintro e w3 ⟨rfl, hB3⟩; have hB13 := cw_next hB12 hB3; have hO13 := hO12.keep hB3; have hO23 := e2 (hO2.keep hB3); have hz := Nat.le_trans hB1.size (Nat.le_refl w1.heap.size)))
  have hlt1 : ∀ b, v1.ownBlock = some b → b < w1.heap.size := fun b hb => (hO1.lt b hb).2
  have hge2 : ∀ b, v2.ownBlock = some b → w1.heap.size ≤ b := fun b hb => (hO2.lt b hb).1
  have hz3 := Nat.le_trans hB2.size hB3.size
  clear hO1 hB1 hO2 hB2 hB12 hO12 hB3
  go_upto_region 15 with (first
    | (go_at_call 7; refine (law_markOpS n _ _ _ w1.heap.size 1 (by omega) (by omega) hO23).mono ?_; rintro e w4 ⟨rfl, hO24, hG4⟩; have hB14 := hB13.grown hG4 hB13.size (fun b hb => Nat.le_trans hz (hge2 b hb)); have hO14 := lg_but hO13 hG4 hlt1 hge2; rw [show ((1 + n * 2 : Nat) : Int) = 1 + (n : Int) * 2 by omega])
    | (go_at_call 8; refine (law_heldOpS n 1 _ _ w1.heap.size (by omega) (by omega) hO24).mono ?_; rintro e w5 ⟨rfl, hB5⟩; have hB15 := cw_next hB14 hB5; have hO15 := hO14.keep hB5; have hO25 := ow_keep hO24 hB5; rw [show ((1 + n * 2 : Nat) : Int) = 1 + (n : Int) * 2 by omega]))
  clear hO13 hB13 hO23 hO24 hG4 hB14 hO14 hB5 hlt1 hge2 hz hz3
  go_upto_region 18 with (first
    | (go_at_call 5; refine (hI1 _ hB15).mono ?_; rintro e w6 ⟨v6, rfl, hO6, hB6⟩; have hB16 := cw_next hB15 hB6; have hO16 := hO15.keep hB6; have hO26 := ow_keep hO25 hB6)
    | (go_at_call 6; refine (law_eqOpS ops hl _ _ _ (lg_row hO6) (lg_row hO16)).mono ?_; rintro e w7 ⟨rfl, hB7⟩; have hB17 := cw_next hB16 hB7; have hO27 := ow_keep hO26 hB7))
  clear hO15 hB15 hO25 hO6 hB6 hB16 hO16 hO26 hB7
  go_wp2_with (go_at_call 8; refine (law_heldOpS n 1 _ _ w1.heap.size (by omega) (by omega) hO27).mono ?_; rintro e w8 ⟨rfl, hB8⟩; have hB18 := cw_next hB17 hB8; rw [show ((1 + n * 2 : Nat) : Int) = 1 + (n : Int) * 2 by omega])
  go_ret
  exact ⟨rfl, hB18⟩
end Go.Proofs.YtaagnifagahgfaaDoor

namespace Go.Proofs.YtaagnifagahgfaaDoor

/-- Two texts of the same bytes are the same. -/
theorem text_ext {x y : ByteArray} (h : x.data.toList = y.data.toList) : x = y := by
  cases x; cases y; simp at h; simp [h]

/-- If an array of texts reads as a list of texts, its cells are these texts. -/
theorem cells_of_strs {H : Type} {enc : TypeId × Value → H} {P : Program} {w : World} {base : Nat} {sp : Nat → Bool} {held : Bool} {fuel : Nat} {t e : TypeId} {n : Nat} {cs : List Value} {zs : List ByteArray} {p : List MemPlace}
    (ht : P.underlying t = some (.array n e)) (he : P.underlying e = some .string) (hce : P.cellsOf e = 1) (hct : P.cellsOf t = n)
    (h : DataW.trod enc P w base sp held fuel t cs = some (.agg (zs.map fun z => .lit (.string z.data.toList)), p)) : cs = zs.map fun z => Value.string z := by
  obtain ⟨xs, m, _, hx, hlen, hxn, hat⟩ := DataW.trod_array ht h
  simp only [Prod.mk.injEq, DataW.agg.injEq] at hx
  have hzn : zs.length = n := by
    have := congrArg List.length hx.1
    simp at this; omega
  refine List.ext_getElem (by simp; omega) fun i h1 h2 => ?_
  have hi : i < n := by omega
  have hr := hat i hi
  rw [hce, Nat.mul_one, List.getElem?_eq_getElem (by omega)] at hr
  obtain ⟨s, hs, hy, _⟩ := DataW.trod_string he hr
  have hd : (List.map (·.1) xs)[i]'(by simp; omega) = DataW.lit (.string s.data.toList) := by simp [hy]
  have hz : s = zs[i] := by
    have := List.getElem_of_eq hx.1.symm (i := i) (by simp; omega)
    rw [hd] at this
    simp only [List.getElem_map, DataW.lit.injEq, Lit.string.injEq] at this
    exact text_ext this
  have hc : cs[i] = .string s := by
    rw [List.drop_eq_getElem_cons h1, List.take_succ_cons] at hs
    exact (List.cons.inj hs).1
  simp [hc, hz]

/-- FROM A ROW's CONDITION TO WHAT THE VARIABLE HOLDS: a table of texts that stands FIRST on the list. -/
theorem strs_of_head {P : Program} {W : World} {name : String} {zs : List ByteArray} {rest : List (String × DataW Unit)} {g : Nat} {t e : TypeId} {n : Nat}
    (hg : P.globalNamed name = some g) (hty : (P.globals[g]?).map (·.type) = some t) (ht : P.underlying t = some (.array n e)) (he : P.underlying e = some .string) (hce : P.cellsOf e = 1) (hct : P.cellsOf t = n)
    (h : laidMet P ((name, .agg (zs.map fun z => .lit (.string z.data.toList))) :: rest) W) : W.var? P name = some (zs.map fun z => Value.string z).toArray := by
  obtain ⟨ps, ⟨g', t', cs, fuel, p, q, hg', ht', hvar, hd, _, _⟩, _⟩ := h
  obtain rfl := Option.some.inj (hg.symm.trans hg')
  obtain rfl := Option.some.inj (hty.symm.trans ht')
  rw [hvar, ← cells_of_strs ht he hce hct hd]

end Go.Proofs.YtaagnifagahgfaaDoor

