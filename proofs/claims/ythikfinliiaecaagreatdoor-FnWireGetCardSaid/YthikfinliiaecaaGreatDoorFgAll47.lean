/-
  The laws' own enCells.
  The law FnWireGet.
  A table of texts off a row's list. (NmMath has the same, beside names: not for texts that import LsNum.)
-/
import Derived.Test.YthikfinliiaecaaGreatDoorRows
import Derived.Test.YthikfinliiaecaaGreatDoorFgAll2
import Derived.WalkKit
import Derived.WalkSpells
import Derived.WalkLawsBesides
import Derived.RowKit3
import Derived.Deep.QuietTactic
import Derived.BigQuiet
import Derived.Deep.LoopGhost
import Derived.Test.YthikfinliiaecaaGreatDoorFgAll36
import Derived.Test.YthikfinliiaecaaGreatDoorWgSpec
import Derived.Test.YthikfinliiaecaaGreatDoorFgAll24
import Derived.LaidLaws
import Derived.ChangeArms
import Derived.OpenShut
namespace Go.Proofs.YthikfinliiaecaaGreatDoor
open Go.RowKit

set_option maxHeartbeats 1000000 in
theorem law_enCells (l : List Ce) (hl : l.length ≤ 1000000) (v1 v2 : Value) (w : World) (S1 S2 : Nat → Prop) (h1 : Cells w S1 l v1) (h2 : Cells w S2 l v2) :
    Calls Tryz.prog 7 #[v1, v2] w fun r w' => r = .returned (.bool true) ∧ Below w.heap.size w w' := by
  obtain ⟨a1, cap1, rfl⟩ := h1.slice
  obtain ⟨a2, cap2, rfl⟩ := h2.slice
  go_enter Tryz.func7, Tryz.ntmps7
  go_wp2_with fail
  go_loopg [5] l.length (fun g i wr => ∃ k : Nat, k + g = l.length ∧ i = .int .i64 k ∧ ∃ n, wr = w.drewN n)
  case atStart => exact ⟨0, by omega, rfl, 0, rfl⟩
  case round =>
    obtain ⟨k, hk, rfl, n, rfl⟩ := hrel
    by_cases hlt : k < l.length
    · obtain ⟨b1, o1, _, rfl, r1⟩ := h1.at k hlt
      obtain ⟨b2, o2, _, rfl, r2⟩ := h2.at k hlt
      have hi : (k : Int) < (l.length : Int) := by omega
      generalize l[k] = c at r1 r2
      obtain ⟨c0, c1, c2, c3, c4, c5⟩ := Ce.six r1
      obtain ⟨d0, d1, d2, d3, d4, d5⟩ := Ce.six r2
      clear r1 r2
      go_wp2_with fail
      go_quiet (fail)
      go_wp2_with fail
      go_roundg (l.length - (k + 1))
      case measure => omega
      case rel => exact ⟨k + 1, by omega, by go_num, n + _, rfl⟩
    · obtain rfl : k = l.length := by omega
      have hi : ¬ (l.length : Int) < (l.length : Int) := by omega
      go_wp2_with fail
      go_ret
      exact ⟨rfl, ⟨rfl, rfl, rfl, Nat.le_refl _, fun _ _ => rfl⟩⟩
end Go.Proofs.YthikfinliiaecaaGreatDoor

namespace Go.Proofs.YthikfinliiaecaaGreatDoor
open Go.RowKit

/-- What is read is clean: what its word leads to is all of it. -/
theorem read_all {l : List UInt8} {X : List Ce} {d : Wd} (h : getW l = some (X, d)) : (reachM X [d]).length = X.length := by
  obtain ⟨h1, h2, h3, h4, h5, h6, h7⟩ := getW_some h
  obtain ⟨x, ex, hheap, hwp⟩ := wire_yes h1
  have e3 : wireM X d = wireT (cleanC X [d]) x := by rw [wireM, if_pos h1, ex]; rfl
  obtain ⟨p1, _⟩ := prog_own hheap hwp
  obtain ⟨q1, _⟩ := prog_own h4 h5
  rw [← e3, h2] at p1
  rw [h3] at q1
  have e4 : cleanC X [d] = X := p1.symm.trans q1
  have e5 : cleanC X [d] = (copyS X [] [d]).to := by rw [cleanC]; exact if_pos h1
  have e6 := copy_len (tl := []) h1.1 h1.2
  rw [← e5, e4] at e6
  simpa using e6.symm
theorem fg_keepW {w w' : World} {b : Nat} {d : Wd} (h : w.heap[b]? = some (boxV d)) (hb : Below w.heap.size w w') : w'.heap[b]? = some (boxV d) := (hb.block b (Array.getElem?_eq_some_iff.1 h).1).trans h
set_option maxRecDepth 100000 in
set_option maxHeartbeats 1000000 in
theorem law_FnWireGet (len : Nat) (w : World) (v : Value) (hv : Bytes w w.heap.size len v) (hT : PowTab w) (hC : CTab w) (hR : RTab w) :
    Calls Tryz.prog 3 #[v] w fun e w' => e = .returned (.bool true) ∧ Below w.heap.size w w' := by
  have hv0 := hv
  obtain ⟨a, cap, rfl, h1, h2, h3⟩ := hv
  clear h3
  unfold maxLen at h2
  by_cases hbig : 1048576 < len
  · have hi : (1048576 : Int) < (len : Int) := by omega
    go_enter Tryz.func3, Tryz.ntmps3
    go_wp2_with fail
    go_ret
    exact ⟨rfl, Below.refl _ _⟩
  have hi : ¬ (1048576 : Int) < (len : Int) := by omega
  go_enter Tryz.func3, Tryz.ntmps3
  go_upto_region 4 with (go_at_call 4; refine (spec_DrawWireGet _ len _ hv0).mono ?_; rintro e w1 ⟨t, rfl, ht, hB1⟩)
  clear hv0 hi h1 h2 hbig
  obtain ⟨l, rfl⟩ : ∃ l, t = bx l := ⟨t.data.toList, rfl⟩
  have hl : l.length ≤ 1048576 := by rw [bx_size] at ht; omega
  have KB : Hid (∀ w', Below w1.heap.size w1 w' → (PowTab w' ∧ CTab w' ∧ RTab w' ∧ Below w.heap.size w w')) := fun w' h =>
    ⟨hT.keep (wi_next hB1 h), hC.below (wi_next hB1 h) hC.pos, hR.keep (wi_next hB1 h), wi_next hB1 h⟩
  have hr : Below w1.heap.size w1 w1 := Below.refl _ _
  have HI := fun w' (h : Below w1.heap.size w1 w') => impl_WireGet l hl w' (KB.out w' h).1 (KB.out w' h).2.1 (KB.out w' h).2.2.1
  have HS := fun w' => spec_WireGet l hl w'
  clear hB1 hT hC hR ht
  cases hg : getW l with
  | none =>
    rw [hg] at HI HS
    clear hg
    generalize bx l = tl at *
    go_upto_region 5 with (go_at_call 5; refine (HI _ hr).mono ?_; rintro e w2 ⟨rfl, hb2⟩; have hE2 := wi_next hr hb2)
    have hW2 : (w2.alloc (boxV ⟨0, 0⟩)).heap[w2.heap.size]? = some (boxV ⟨0, 0⟩) := heap_alloc_new w2 _
    have hE3 : Below w1.heap.size w1 (w2.alloc (boxV ⟨0, 0⟩)) := wi_next hE2 (below_new _ _)
    clear hb2 hE2 HI
    change Code.wp _ _ _ _ (w2.alloc (boxV ⟨0, 0⟩))
    generalize w2.alloc (boxV ⟨0, 0⟩) = W2 at *
    go_upto_region 6 with (go_at_call 6; refine (HS _).mono ?_; rintro e w3 ⟨rfl, hb3⟩)
    have hW3 : (w3.alloc (boxV ⟨0, 0⟩)).heap[w3.heap.size]? = some (boxV ⟨0, 0⟩) := heap_alloc_new w3 _
    have hW23 : (w3.alloc (boxV ⟨0, 0⟩)).heap[w2.heap.size]? = some (boxV ⟨0, 0⟩) := fg_keepW (fg_keepW hW2 hb3) (below_new _ _)
    have hE4 : Below w1.heap.size w1 (w3.alloc (boxV ⟨0, 0⟩)) := wi_next (wi_next hE3 hb3) (below_new _ _)
    clear hb3 hE3 HS hW2
    change Code.wp _ _ _ _ (w3.alloc (boxV ⟨0, 0⟩))
    generalize w3.alloc (boxV ⟨0, 0⟩) = W3 at *
    have KW : Hid (∀ w', Below W3.heap.size W3 w' → (w'.cell? ⟨w2.heap.size, 0, none⟩ = some (.int .i64 0) ∧ w'.cell? ⟨w2.heap.size, 1, none⟩ = some (.int .i64 0)) ∧ (w'.cell? ⟨w3.heap.size, 0, none⟩ = some (.int .i64 0) ∧ w'.cell? ⟨w3.heap.size, 1, none⟩ = some (.int .i64 0))) := fun w' h => ⟨(boxV_two (fg_keepW hW23 h)).1, (boxV_two (fg_keepW hW3 h)).1⟩
    have hr3 : Below W3.heap.size W3 W3 := Below.refl _ _
    have HEn := fun (w' : World) => law_enCells [] (by simp) (.slice none 0 0) (.slice none 0 0) w' (· < w'.heap.size) (· < w'.heap.size) (RowOf.nil _ _) (RowOf.nil _ _)
    obtain ⟨⟨c0, c1⟩, c2, c3⟩ := KW.out _ hr3
    clear hW3 hW23
    go_wp2_with (go_at_call 7; first
      | (refine (HEn _).mono ?_; rintro e w5 ⟨rfl, hb5⟩; have hF5 := wi_next hF4 hb5)
      | (refine (HEn _).mono ?_; rintro e w4 ⟨rfl, hb4⟩; have hF4 := wi_next hr3 hb4; clear c0 c1 c2 c3; (obtain ⟨⟨c0, c1⟩, c2, c3⟩ := KW.out _ hF4)))
    go_ret
    exact ⟨rfl, (KB.out _ (wi_next hE4 hF5)).2.2.2⟩
  | some q =>
    obtain ⟨X, d⟩ := q
    rw [hg] at HI HS
    have hra := read_all hg
    obtain ⟨_, hwl, _, hh, hwp, _, _⟩ := getW_some hg
    have hX : X.length ≤ 120 := (heap_refs hh).1
    have HWP := fun (w' : World) (vv : Value) (hc : Cells w' (· < w'.heap.size) X vv) (h1 : PowTab w') (h2 : CTab w') => impl_WirePut X (by omega) d vv w' hc h1 h2
    have HRe := fun (w' : World) (vv vw : Value) (hc : Cells w' (· < w'.heap.size) X vv) (hw : Words w' (· < w'.heap.size) [d] vw) => impl_HeapReach X (by omega) [d] (by simp) vv vw w' hc hw
    rw [hwl] at HWP
    clear hg hh hwp hwl
    have hqq : ((bx l).toList == (bx l).toList) = true := by simp
    generalize bx l = tl at *
    go_upto_region 5 with (go_at_call 5; refine (HI _ hr).mono ?_; rintro e w2 ⟨⟨v2, rfl, hO2⟩, hb2⟩; have hE2 := wi_next hr hb2)
    have hW2 : (w2.alloc (boxV d)).heap[w2.heap.size]? = some (boxV d) := heap_alloc_new w2 _
    have hE3 : Below w1.heap.size w1 (w2.alloc (boxV d)) := wi_next hE2 (below_new _ _)
    have hC2 : Cells (w2.alloc (boxV d)) (· < (w2.alloc (boxV d)).heap.size) X v2 := (wi_cells hO2).keep (below_new _ _) (by simp)
    obtain ⟨a2, cap2, rfl⟩ := (wi_cells hO2).slice
    clear hb2 hE2 HI hO2
    change Code.wp _ _ _ _ (w2.alloc (boxV d))
    generalize w2.alloc (boxV d) = W2 at *
    go_upto_region 6 with (go_at_call 6; refine (HS _).mono ?_; rintro e w3 ⟨⟨v3, rfl, hO3⟩, hb3⟩)
    have hW3 : (w3.alloc (boxV d)).heap[w3.heap.size]? = some (boxV d) := heap_alloc_new w3 _
    have hW23 : (w3.alloc (boxV d)).heap[w2.heap.size]? = some (boxV d) := fg_keepW (fg_keepW hW2 hb3) (below_new _ _)
    have hE4 : Below w1.heap.size w1 (w3.alloc (boxV d)) := wi_next (wi_next hE3 hb3) (below_new _ _)
    have hC3 : Cells (w3.alloc (boxV d)) (· < (w3.alloc (boxV d)).heap.size) X v3 := (wi_cells hO3).keep (below_new _ _) (by simp)
    have hC23 : Cells (w3.alloc (boxV d)) (· < (w3.alloc (boxV d)).heap.size) X (.slice a2 X.length cap2) := (hC2.keep hb3 hb3.size).keep (below_new _ _) (by simp)
    obtain ⟨a3, cap3, rfl⟩ := (wi_cells hO3).slice
    clear hb3 hE3 HS hW2 hC2 hO3
    change Code.wp _ _ _ _ (w3.alloc (boxV d))
    generalize w3.alloc (boxV d) = W3 at *
    have KW : Hid (∀ w', Below W3.heap.size W3 w' → ((w'.cell? ⟨w2.heap.size, 0, none⟩ = some (.int .i64 d.tag) ∧ w'.cell? ⟨w2.heap.size, 1, none⟩ = some (.int .i64 d.num)) ∧ (w'.cell? ⟨w3.heap.size, 0, none⟩ = some (.int .i64 d.tag) ∧ w'.cell? ⟨w3.heap.size, 1, none⟩ = some (.int .i64 d.num))) ∧ Cells w' (· < w'.heap.size) X (.slice a2 X.length cap2) ∧ Cells w' (· < w'.heap.size) X (.slice a3 X.length cap3) ∧ PowTab w' ∧ CTab w' ∧ Below w.heap.size w w') := fun w' h =>
      ⟨⟨(boxV_two (fg_keepW hW23 h)).1, (boxV_two (fg_keepW hW3 h)).1⟩, hC23.keep h h.size, hC3.keep h h.size, (KB.out _ (wi_next hE4 h)).1, (KB.out _ (wi_next hE4 h)).2.1, (KB.out _ (wi_next hE4 h)).2.2.2⟩
    have hr3 : Below W3.heap.size W3 W3 := Below.refl _ _
    have HEn := fun w' (h : Below W3.heap.size W3 w') => law_enCells X (by omega) _ _ w' _ _ (KW.out _ h).2.1 (KW.out _ h).2.2.1
    have HP := fun w' (h : Below W3.heap.size W3 w') => HWP w' _ (KW.out _ h).2.1 (KW.out _ h).2.2.2.1 (KW.out _ h).2.2.2.2.1
    have HR8 := fun w' (h : Below W3.heap.size W3 w') => HRe _ _ _ (KW.out _ (wi_next h (below_new w' (.cells #[.int .i64 d.tag, .int .i64 d.num] 26)))).2.1 (wi_lit w' d)
    obtain ⟨⟨⟨c0, c1⟩, c2, c3⟩, _⟩ := KW.out _ hr3
    clear hW3 hW23 hC3 hC23 HWP HRe hr hE4 KB hl
    go_upto_region 8 with (go_at_call 7; refine (HEn _ hr3).mono ?_; rintro e w4 ⟨rfl, hb4⟩; have hF4 := wi_next hr3 hb4; clear c0 c1 c2 c3; (obtain ⟨⟨⟨c0, c1⟩, c2, c3⟩, _⟩ := KW.out _ hF4))
    go_wp2_with (first
      | (go_at_call 8; refine (HP _ hF4).mono ?_; rintro e w5 ⟨rfl, hb5⟩; have hF5 := wi_next hF4 hb5; clear c0 c1 c2 c3; (obtain ⟨⟨⟨c0, c1⟩, c2, c3⟩, _⟩ := KW.out _ hF5))
      | (go_at_call 9; refine (HR8 _ hF5).mono ?_; rintro e w6 ⟨v6, rfl, hO6, hb6⟩; have hF6 := wi_next (wi_next hF5 (below_new _ _)) hb6; rw [hra] at hO6; (obtain ⟨a6, cap6, rfl⟩ := own_slice hO6)))
    go_ret
    exact ⟨rfl, (KW.out _ hF6).2.2.2.2.2⟩
end Go.Proofs.YthikfinliiaecaaGreatDoor

namespace Go.Proofs.YthikfinliiaecaaGreatDoor

/-- Two texts of the same bytes are the same. -/
theorem text_ext {x y : ByteArray} (h : x.data.toList = y.data.toList) : x = y := by
  cases x; cases y; simp at h; simp [h]

/-- If an array of texts reads as a list of texts, its cells are these texts. -/
theorem cells_of_strs {H : Type} {enc : TypeId × Value → H} {P : Program} {w : World} {base : Nat} {sp : Nat → Bool} {held : Bool} {fuel : Nat} {t e : TypeId} {n : Nat} {cs : List Value} {zs : List ByteArray} {p : List MemPlace}
    (ht : P.underlying t = some (.array n e)) (he : P.underlying e = some .string) (hce : P.cellsOf e = 1) (hct : P.cellsOf t = n)
    (h : DataW.trod enc P w base sp held fuel t cs = some (.agg (zs.map fun z => .lit (.string z.data.toList)), p)) : cs = zs.map fun z => Value.string z := by
  obtain ⟨xs, m, _, hx, hlen, hxn, hat⟩ := DataW.trod_array ht h
  simp only [Prod.mk.injEq, DataW.agg.injEq] at hx
  have hzn : zs.length = n := by
    have := congrArg List.length hx.1
    simp at this; omega
  refine List.ext_getElem (by simp; omega) fun i h1 h2 => ?_
  have hi : i < n := by omega
  have hr := hat i hi
  rw [hce, Nat.mul_one, List.getElem?_eq_getElem (by omega)] at hr
  obtain ⟨s, hs, hy, _⟩ := DataW.trod_string he hr
  have hd : (List.map (·.1) xs)[i]'(by simp; omega) = DataW.lit (.string s.data.toList) := by simp [hy]
  have hz : s = zs[i] := by
    have := List.getElem_of_eq hx.1.symm (i := i) (by simp; omega)
    rw [hd] at this
    simp only [List.getElem_map, DataW.lit.injEq, Lit.string.injEq] at this
    exact text_ext this
  have hc : cs[i] = .string s := by
    rw [List.drop_eq_getElem_cons h1, List.take_succ_cons] at hs
    exact (List.cons.inj hs).1
  simp [hc, hz]

/-- FROM A ROW's CONDITION TO WHAT THE VARIABLE HOLDS: a table of texts that stands FIRST on the list. -/
theorem strs_of_head {P : Program} {W : World} {name : String} {zs : List ByteArray} {rest : List (String × DataW Unit)} {g : Nat} {t e : TypeId} {n : Nat}
    (hg : P.globalNamed name = some g) (hty : (P.globals[g]?).map (·.type) = some t) (ht : P.underlying t = some (.array n e)) (he : P.underlying e = some .string) (hce : P.cellsOf e = 1) (hct : P.cellsOf t = n)
    (h : laidMet P ((name, .agg (zs.map fun z => .lit (.string z.data.toList))) :: rest) W) : W.var? P name = some (zs.map fun z => Value.string z).toArray := by
  obtain ⟨ps, ⟨g', t', cs, fuel, p, q, hg', ht', hvar, hd, _, _⟩, _⟩ := h
  obtain rfl := Option.some.inj (hg.symm.trans hg')
  obtain rfl := Option.some.inj (hty.symm.trans ht')
  rw [hvar, ← cells_of_strs ht he hce hct hd]

end Go.Proofs.YthikfinliiaecaaGreatDoor

