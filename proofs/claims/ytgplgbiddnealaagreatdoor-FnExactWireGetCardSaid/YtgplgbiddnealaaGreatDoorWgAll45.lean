/-
  The law of WireGet.
  A table of texts off a row's list. (NmMath has the same, beside names: not for texts that import LsNum.)
-/
import Derived.Test.YtgplgbiddnealaaGreatDoorWgSpec
import Derived.Test.YtgplgbiddnealaaGreatDoorWgAll44
import Derived.LaidLaws
import Derived.ChangeArms
import Derived.OpenShut
namespace Go.Proofs.YtgplgbiddnealaaGreatDoor
open Go.RowKit

/-- The word, the cells that were read. -/
def wdO : Option (List Ce × Wd) → Wd
  | none => ⟨0, 0⟩
  | some q => q.2
def csO : Option (List Ce × Wd) → List Ce
  | none => []
  | some q => q.1
/-- What was read, as a row of the call's own. -/
theorem gotw_row {w w' : World} {o : Option (List Ce × Wd)} {r : Ending} (h : GotW w w' o r) : ∃ v, r = .returned (.tuple #[v, .agg #[.int .i64 (wdO o).tag, .int .i64 (wdO o).num], .bool o.isSome]) ∧ OwnR 6 Ce.cells 36 w' w.heap.size (csO o) v ∧ Below w.heap.size w w' := by
  cases o with
  | none =>
    obtain ⟨rfl, h⟩ := h
    exact ⟨_, rfl, OwnR.nil, h⟩
  | some q =>
    obtain ⟨cs, d⟩ := q
    obtain ⟨⟨v, rfl, h1⟩, h⟩ := h
    exact ⟨v, rfl, h1, h⟩
theorem wg_row {w : World} {B : Nat} {l : List Ce} {v : Value} (h : OwnR 6 Ce.cells 36 w B l v) : Cells w (· < w.heap.size) l v := (h.row (fun _ => rfl)).same fun _ hb => ⟨rfl, hb.2⟩
theorem wg_but {w w' : World} {B C : Nat} {l : List Ce} {v1 v2 : Value} (h : OwnR 6 Ce.cells 36 w B l v1) (hg : w.grownBy w' v2.ownBlock) (h1 : ∀ b, v1.ownBlock = some b → b < C) (h2 : ∀ b, v2.ownBlock = some b → C ≤ b) : OwnR 6 Ce.cells 36 w' B l v1 := by
  refine World.ownsRow.kept h hg ?_
  cases hv : v1.ownBlock with
  | none => exact Or.inl rfl
  | some k => exact Or.inr fun e => by have := h1 k hv; have := h2 k e.symm; omega
theorem gotw_len {l : List UInt8} : (csO (getW l)).length ≤ 200 := by
  cases h : getW l with
  | none => exact Nat.zero_le _
  | some q =>
    obtain ⟨X, d⟩ := q
    have := (heap_sound (getW_some h).2.2.2.1).1
    show X.length ≤ 200
    omega
theorem boxW_keep {w w' : World} {b : Nat} {d : Wd} (h : w.heap[b]? = some (boxW d)) (hb : Below w.heap.size w w') : w'.heap[b]? = some (boxW d) := (hb.block b (Array.getElem?_eq_some_iff.1 h).1).trans h
set_option maxRecDepth 100000 in
set_option maxHeartbeats 4000000 in
theorem law_WireGet (l : List UInt8) (w : World) (hT : PowTab w) (hC : CTab w) (hR : RTab w) :
    Calls Tryz.prog 3 #[.string (bx l)] w fun r w' => r = .returned (.bool true) ∧ Below w.heap.size w w' := by
  have hsz : (bx l).size = l.length := bx_size l
  by_cases hbig : 1048576 < l.length
  · have hb' : (1048576 : Int) < ((bx l).size : Int) := by omega
    generalize bx l = t at *
    go_enter Tryz.func3, Tryz.ntmps3
    go_wp2_with fail
    go_ret
    exact ⟨rfl, Below.refl _ _⟩
  have hb' : ¬ (1048576 : Int) < ((bx l).size : Int) := by omega
  have HI := fun w h1 h2 h3 => (impl_WireGet l (by omega) w h1 h2 h3).mono fun r w' h => gotw_row h
  have HS := fun w => (spec_WireGet l (by omega) w).mono fun r w' h => gotw_row h
  have hn := gotw_len (l := l)
  generalize (getW l).isSome = ok at HI HS
  generalize csO (getW l) = cs at HI HS hn
  generalize wdO (getW l) = d at HI HS
  generalize bx l = t at *
  have hl : cs.length ≤ 1048576 := by omega
  obtain ⟨n, hN⟩ : ∃ n, n = cs.length := ⟨_, rfl⟩
  have HN : Hid (n = cs.length) := hN
  have hn2 : n ≤ 200 := by omega
  have e2 : ∀ {w : World} {B : Nat} {v : Value}, OwnR 6 Ce.cells 36 w B cs v → w.ownsRow B 36 6 v n (cs.flatMap Ce.cells) := fun h => by unfold OwnR at h; rw [HN.out]; exact h
  clear hN hsz hbig
  have HTT : Hid (PowTab w ∧ CTab w ∧ RTab w) := ⟨hT, hC, hR⟩
  have hI1 := fun (w' : World) (h : Below w.heap.size w w') => HI w' (HTT.out.1.keep h) (HTT.out.2.1.below h HTT.out.2.1.pos) (HTT.out.2.2.keep h)
  clear HI hT hC hR
  go_enter Tryz.func3, Tryz.ntmps3
  go_upto_region 4 with (go_at_call 4; refine (HS _).mono ?_; rintro e w1 ⟨v1, rfl, hO1, hB1⟩)
  have hz1 : w.heap.size ≤ w1.heap.size := hB1.size
  have hlt1 : ∀ b, v1.ownBlock = some b → b < w1.heap.size := fun b hb => (hO1.lt b hb).2
  have hW1 : (w1.alloc (boxW d)).heap[w1.heap.size]? = some (boxW d) := heap_alloc_new w1 _
  have hO11 := hO1.keep (wg_new w1 (boxW d))
  have hB11 : Below w.heap.size w (w1.alloc (boxW d)) := wi_next hB1 (wg_new _ _)
  have hz11 : w1.heap.size < (w1.alloc (boxW d)).heap.size := by simp
  clear hO1 hB1 HS
  generalize w1.alloc (boxW d) = W1 at *
  go_upto_region 5 with (go_at_call 5; refine (hI1 _ hB11).mono ?_; rintro e w2 ⟨v2, rfl, hO2, hB2⟩)
  have hz2 : W1.heap.size ≤ w2.heap.size := hB2.size
  have hge2 : ∀ b, v2.ownBlock = some b → W1.heap.size ≤ b := fun b hb => (hO2.lt b hb).1
  have hW2 : (w2.alloc (boxW d)).heap[w2.heap.size]? = some (boxW d) := heap_alloc_new w2 _
  have hW12 : (w2.alloc (boxW d)).heap[w1.heap.size]? = some (boxW d) := boxW_keep (boxW_keep hW1 hB2) (wg_new _ _)
  have hO12 := (hO11.keep hB2).keep (wg_new w2 (boxW d))
  have hO22 := hO2.keep (wg_new w2 (boxW d))
  have hB12 : Below w.heap.size w (w2.alloc (boxW d)) := wi_next (wi_next hB11 hB2) (wg_new _ _)
  have hz22 : W1.heap.size ≤ (w2.alloc (boxW d)).heap.size := by simp; omega
  clear hO11 hB11 hO2 hB2 hW1 hz2
  generalize w2.alloc (boxW d) = W2 at *
  go_upto_region 7 with (first
    | (go_at_call 6; refine (law_eqCellS cs hl _ _ _ (wg_row hO22) (wg_row hO12)).mono ?_; rintro e w3 ⟨rfl, hB3⟩; (obtain ⟨c0, c1⟩ := boxW_two (boxW_keep hW2 hB3)); (obtain ⟨c2, c3⟩ := boxW_two (boxW_keep hW12 hB3)))
    | (go_at_call 7; refine (law_eqWord d.tag d.num _).mono ?_; rintro e w4 ⟨rfl, hB4⟩))
  have hB34 : Below W2.heap.size W2 w4 := wi_next hB3 hB4
  have hO14 := hO12.keep hB34
  have hO24 := e2 (hO22.keep hB34)
  have hB14 := wi_next hB12 hB34
  have hW4 := boxW_keep hW12 hB34
  have hz4 := Nat.le_trans hz22 hB34.size
  clear hO12 hO22 hB12 hW12 hW2 hB3 hB4 hB34 c0 c1 c2 c3 hz22
  go_upto_region 15 with (first
    | (go_at_call 8; refine (law_markCellS n _ _ _ W1.heap.size 1 (by omega) (by omega) hO24).mono ?_; rintro e w5 ⟨rfl, hO25, hG5⟩; have hB15 := hB14.grown hG5 hB14.size (fun b hb => Nat.le_trans (Nat.le_trans hz1 (Nat.le_of_lt hz11)) (hge2 b hb)); have hO15 := wg_but hO14 hG5 hlt1 (fun b hb => Nat.le_trans (Nat.le_of_lt hz11) (hge2 b hb)); have hW5 : w5.heap[w1.heap.size]? = some (boxW d) := (hG5.block _ (Array.getElem?_eq_some_iff.1 hW4).1 (fun e => by have := hge2 _ e.symm; omega)).trans hW4; rw [show ((1 + n * 6 : Nat) : Int) = 1 + (n : Int) * 6 by omega])
    | (go_at_call 9; refine (law_heldCellS n 1 _ _ W1.heap.size (by omega) (by omega) hO25).mono ?_; rintro e w6 ⟨rfl, hw6⟩; rw [show ((1 + n * 6 : Nat) : Int) = 1 + (n : Int) * 6 by omega]))
  clear hO14 hB14 hO24 hG5 hW4 hlt1 hge2 hz1 hz11 hz4
  subst hw6
  go_upto_region 16 with (go_at_call 5; refine (hI1 _ hB15).mono ?_; rintro e w7 ⟨v7, rfl, hO7, hB7⟩)
  have hW77 : (w7.alloc (boxW d)).heap[w7.heap.size]? = some (boxW d) := heap_alloc_new w7 _
  have hB77 : Below w6.heap.size w6 (w7.alloc (boxW d)) := wi_next hB7 (wg_new _ _)
  have hW17 := boxW_keep hW5 hB77
  have hO17 := hO15.keep hB77
  have hO27 := ow_keep hO25 hB77
  have hO77 := hO7.keep (wg_new w7 (boxW d))
  have hB17 := wi_next hB15 hB77
  clear hO15 hB15 hO25 hO7 hB7 hB77 hW5
  generalize w7.alloc (boxW d) = W7 at *
  go_upto_region 18 with (first
    | (go_at_call 6; refine (law_eqCellS cs hl _ _ _ (wg_row hO77) (wg_row hO17)).mono ?_; rintro e w8 ⟨rfl, hB8⟩; (obtain ⟨c0, c1⟩ := boxW_two (boxW_keep hW77 hB8)); (obtain ⟨c2, c3⟩ := boxW_two (boxW_keep hW17 hB8)))
    | (go_at_call 7; refine (law_eqWord d.tag d.num _).mono ?_; rintro e w9 ⟨rfl, hB9⟩))
  have hB79 : Below W7.heap.size W7 w9 := wi_next hB8 hB9
  have hO29 := ow_keep hO27 hB79
  have hB19 := wi_next hB17 hB79
  clear hO17 hO77 hO27 hB17 hB8 hB9 hB79 hW17 hW77 c0 c1 c2 c3
  go_wp2_with (go_at_call 9; refine (law_heldCellS n 1 _ _ W1.heap.size (by omega) (by omega) hO29).mono ?_; rintro e w10 ⟨rfl, rfl⟩; rw [show ((1 + n * 6 : Nat) : Int) = 1 + (n : Int) * 6 by omega])
  go_ret
  exact ⟨rfl, hB19⟩
end Go.Proofs.YtgplgbiddnealaaGreatDoor

namespace Go.Proofs.YtgplgbiddnealaaGreatDoor

/-- Two texts of the same bytes are the same. -/
theorem text_ext {x y : ByteArray} (h : x.data.toList = y.data.toList) : x = y := by
  cases x; cases y; simp at h; simp [h]

/-- If an array of texts reads as a list of texts, its cells are these texts. -/
theorem cells_of_strs {H : Type} {enc : TypeId × Value → H} {P : Program} {w : World} {base : Nat} {sp : Nat → Bool} {held : Bool} {fuel : Nat} {t e : TypeId} {n : Nat} {cs : List Value} {zs : List ByteArray} {p : List MemPlace}
    (ht : P.underlying t = some (.array n e)) (he : P.underlying e = some .string) (hce : P.cellsOf e = 1) (hct : P.cellsOf t = n)
    (h : DataW.trod enc P w base sp held fuel t cs = some (.agg (zs.map fun z => .lit (.string z.data.toList)), p)) : cs = zs.map fun z => Value.string z := by
  obtain ⟨xs, m, _, hx, hlen, hxn, hat⟩ := DataW.trod_array ht h
  simp only [Prod.mk.injEq, DataW.agg.injEq] at hx
  have hzn : zs.length = n := by
    have := congrArg List.length hx.1
    simp at this; omega
  refine List.ext_getElem (by simp; omega) fun i h1 h2 => ?_
  have hi : i < n := by omega
  have hr := hat i hi
  rw [hce, Nat.mul_one, List.getElem?_eq_getElem (by omega)] at hr
  obtain ⟨s, hs, hy, _⟩ := DataW.trod_string he hr
  have hd : (List.map (·.1) xs)[i]'(by simp; omega) = DataW.lit (.string s.data.toList) := by simp [hy]
  have hz : s = zs[i] := by
    have := List.getElem_of_eq hx.1.symm (i := i) (by simp; omega)
    rw [hd] at this
    simp only [List.getElem_map, DataW.lit.injEq, Lit.string.injEq] at this
    exact text_ext this
  have hc : cs[i] = .string s := by
    rw [List.drop_eq_getElem_cons h1, List.take_succ_cons] at hs
    exact (List.cons.inj hs).1
  simp [hc, hz]

/-- FROM A ROW's CONDITION TO WHAT THE VARIABLE HOLDS: a table of texts that stands FIRST on the list. -/
theorem strs_of_head {P : Program} {W : World} {name : String} {zs : List ByteArray} {rest : List (String × DataW Unit)} {g : Nat} {t e : TypeId} {n : Nat}
    (hg : P.globalNamed name = some g) (hty : (P.globals[g]?).map (·.type) = some t) (ht : P.underlying t = some (.array n e)) (he : P.underlying e = some .string) (hce : P.cellsOf e = 1) (hct : P.cellsOf t = n)
    (h : laidMet P ((name, .agg (zs.map fun z => .lit (.string z.data.toList))) :: rest) W) : W.var? P name = some (zs.map fun z => Value.string z).toArray := by
  obtain ⟨ps, ⟨g', t', cs, fuel, p, q, hg', ht', hvar, hd, _, _⟩, _⟩ := h
  obtain rfl := Option.some.inj (hg.symm.trans hg')
  obtain rfl := Option.some.inj (hty.symm.trans ht')
  rw [hvar, ← cells_of_strs ht he hce hct hd]

end Go.Proofs.YtgplgbiddnealaaGreatDoor

