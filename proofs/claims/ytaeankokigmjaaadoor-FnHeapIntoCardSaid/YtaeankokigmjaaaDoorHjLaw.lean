/-
  The law FnHeapInto.
-/
import Derived.Test.YtaeankokigmjaaaDoorRdInto
import Derived.Test.YtaeankokigmjaaaDoorHjMath
import Derived.Test.YtaeankokigmjaaaDoorMeCells
import Derived.Deep.RegionHeld3
namespace Go.Proofs.YtaeankokigmjaaaDoor
open Go.RowKit

theorem box2_at {w w' : World} {a b : Value} {t : TypeId} (h : Below (w.alloc (.cells #[a, b] t)).heap.size (w.alloc (.cells #[a, b] t)) w') : w'.cell? ⟨w.heap.size, 0, none⟩ = some a ∧ w'.cell? ⟨w.heap.size, 1, none⟩ = some b := by
  have key : ∀ j, (w.alloc (.cells #[a, b] t)).cell? ⟨w.heap.size, j, none⟩ = (#[a, b] : Array Value)[j]? := fun j => cell_of_row _ _ _ _ _ _ (heap_alloc_new w _)
  exact ⟨by rw [h.cell (p := ⟨w.heap.size, 0, none⟩) (by simp)]; exact key 0, by rw [h.cell (p := ⟨w.heap.size, 1, none⟩) (by simp)]; exact key 1⟩
theorem pow_alloc {w : World} (h : PowTab w) (o : Obj) : PowTab (w.alloc o) := h.keep (below_new w o)
theorem row_take {w : World} {S : Nat → Prop} {l k : List Ce} {a : Option Addr} {n cap : Nat} (h : Cells w S l (.slice a l.length cap)) (hk : l.take n = k) (hn : n = k.length) : Cells w S k (.slice a n cap) := by
  subst hk
  obtain ⟨a', cap', e, h⟩ := h
  obtain ⟨rfl, rfl⟩ : a = a' ∧ cap = cap' := by simpa using e
  refine ⟨a, cap, by rw [← hn], fun i x hi => ?_⟩
  rw [List.getElem?_take] at hi
  split at hi
  · exact h i x hi
  · cases hi
theorem own_cells {w : World} {B : Nat} {l : List Ce} {v : Value} (h : w.ownsRow B 43 6 v l.length (l.flatMap Ce.cells)) : Cells w (· < w.heap.size) l v := (OwnR.row (α := Ce) (f := Ce.cells) h ce_len).same fun _ hb => ⟨rfl, hb.2⟩

theorem own_slice {w : World} {B n s : Nat} {e : TypeId} {v : Value} {xs : List Value} (h : w.ownsRow B e s v n xs) : ∃ a c, v = .slice a n c := by
  rcases h.2 with ⟨rfl, hn⟩ | ⟨g, c, cur, rfl, _⟩
  · rw [hn]; exact ⟨none, 0, rfl⟩
  · exact ⟨_, c, rfl⟩

set_option maxRecDepth 100000 in
set_option maxHeartbeats 4000000 in
theorem law_FnHeapInto (len : Nat) (w : World) (v : Value) (hv : Bytes w w.heap.size len v) (hT : PowTab w) :
    Calls Tryd.prog 3 #[v] w fun e w' => e = .returned (.bool true) ∧ Below w.heap.size w w' := by
  have hv0 := hv
  obtain ⟨a, cap, rfl, h1, h2, h3⟩ := hv
  clear h3
  unfold maxLen at h2
  by_cases hbig : 1048576 < len
  · have hi : (1048576 : Int) < (len : Int) := by omega
    go_enter Tryd.func3, Tryd.ntmps3
    go_wp2_with fail
    go_ret
    exact ⟨rfl, Below.refl _ _⟩
  have hi : ¬ (1048576 : Int) < (len : Int) := by omega
  go_enter Tryd.func3, Tryd.ntmps3
  go_upto_region 4 with (go_at_call 4; refine (spec_DrawHeapInto _ len _ hv0).mono ?_; rintro e w1 ⟨cs, tl, d, vc, vt, rfl, hcl, htl, hC, hL, hB1⟩)
  clear hv0 hi
  obtain ⟨ca, ccap, rfl⟩ := hC.slice
  obtain ⟨ta, tcap, rfl⟩ := hL.slice
  have hT1 : PowTab w1 := hT.keep hB1
  have hCl := @into_len cs tl d hcl htl
  have HI : ∀ w' (hc : Cells w' (· < w'.heap.size) cs (.slice ca cs.length ccap)) (hl : Cells w' (· < w'.heap.size) tl (.slice ta tl.length tcap)), _ := fun w' hc hl => impl_HeapInto cs (by omega) d tl (by omega) _ _ w' hc hl
  have HS : ∀ w' (hc : Cells w' (· < w'.heap.size) cs (.slice ca cs.length ccap)) (hl : Cells w' (· < w'.heap.size) tl (.slice ta tl.length tcap)), _ := fun w' hc hl => spec_HeapInto cs (by omega) d tl (by omega) _ _ w' hc hl
  have hk1 : ∀ o, Below w1.heap.size w1 (w1.alloc o) := fun o => below_new w1 o
  have FT := @into_true cs tl d
  have FF := @into_false cs tl d
  generalize intoC cs d tl = C at *
  generalize intoW cs d tl = X at *
  generalize intoB cs d tl = bb at *
  go_upto_if 50 with (first
    | (go_at_call 5; refine (HI _ (hC.keep (hk1 _) (hk1 _).size) (hL.keep (hk1 _) (hk1 _).size)).mono ?_; rintro e w2 ⟨v2, rfl, hO2, hb2⟩; (obtain ⟨x0, x1⟩ := box2_at hb2); have hE2 := hc_next (hk1 _) hb2; have hk2 := hc_next hE2 (below_new w2 (.cells #[.int .i64 X.tag, .int .i64 X.num] 25)); have hl12 : w1.heap.size < w2.heap.size := (by have := hb2.size; simp at this; omega))
    | (go_at_call 6; refine (HS _ (hC.keep hk2 hk2.size) (hL.keep hk2 hk2.size)).mono ?_; rintro e w3 ⟨v3, rfl, hO3, hb3⟩; (obtain ⟨z0, z1⟩ := box2_at hb3); (obtain ⟨n0, n1⟩ := two_keep x0 x1 (below_new w2 (.cells #[.int .i64 X.tag, .int .i64 X.num] 25))); (obtain ⟨y0, y1⟩ := two_keep n0 n1 hb3); have hl23 : w2.heap.size < w3.heap.size := (by have := hb3.size; simp at this; omega); have hE3 := hc_next hk2 hb3; have hk3 := hc_next hE3 (below_new w3 (.cells #[.int .i64 X.tag, .int .i64 X.num] 25)); have hO23 := ow_keep (ow_keep (ow_keep hO2 (below_new w2 (.cells #[.int .i64 X.tag, .int .i64 X.num] 25))) hb3) (below_new w3 (.cells #[.int .i64 X.tag, .int .i64 X.num] 25)); have hO33 := ow_keep hO3 (below_new w3 (.cells #[.int .i64 X.tag, .int .i64 X.num] 25)))
    | (go_at_call 7; refine (law_enCells C (by omega) _ _ _ _ _ (own_cells hO23) (own_cells hO33)).mono ?_; rintro e w4 ⟨rfl, hb4⟩; have hE4 := hc_next hk3 hb4))
  obtain ⟨y2, y3⟩ := two_keep y0 y1 (below_new w3 (.cells #[.int .i64 X.tag, .int .i64 X.num] 25))
  obtain ⟨y4, y5⟩ := two_keep y2 y3 hb4
  obtain ⟨z2, z3⟩ := two_keep z0 z1 (below_new w3 (.cells #[.int .i64 X.tag, .int .i64 X.num] 25))
  obtain ⟨z4, z5⟩ := two_keep z2 z3 hb4
  have hO4 := ow_keep hO23 hb4
  have hB4 := hc_next hB1 hE4
  have hC4 := hC.keep hE4 hE4.size
  have hL4 := hL.keep hE4 hE4.size
  have hT4 := hT1.keep hE4
  have hl14 : w1.heap.size < w4.heap.size := by have := hb4.size; simp at this; omega
  have hl24 : w2.heap.size < w4.heap.size := by have := hb4.size; simp at this; omega
  clear x0 x1 y0 y1 y2 y3 z0 z1 z2 z3 n0 n1 hO2 hO3 hO23 hO33 hb2 hb3 hb4 hE2 hE3 hE4 hk1 hk2 hk3 HI HS hC hL hT1 hB1 hT
  obtain ⟨ra, rcap, rfl, hcc⟩ : ∃ a c, v2 = .slice a C.length c ∧ C.length ≤ c := by
    rcases hO4.2 with ⟨rfl, hn⟩ | ⟨g, c, cur, rfl, _, _, hc, _⟩
    · rw [hn]; exact ⟨none, 0, rfl, Nat.le_refl _⟩
    · exact ⟨_, c, rfl, hc⟩
  cases bb
  · rcases FF rfl with rfl | rfl
    · go_wp2_with fail
      go_ret
      exact ⟨rfl, hB4⟩
    · rcases Nat.eq_zero_or_pos C.length with hz | hz
      · rw [hz]
        go_wp2_with fail
        go_ret
        exact ⟨rfl, hB4⟩
      · have hzi : ((C.length : Int) == 0) = false := by rw [beq_eq_false_iff_ne]; omega
        go_wp2_with (go_at_call 7; refine (law_enCells C (by omega) _ _ _ _ _ (own_cells hO4) hL4).mono ?_; rintro e w5 ⟨rfl, hb5⟩)
        go_ret
        exact ⟨rfl, hc_next hB4 hb5⟩
  · obtain ⟨hh, htk, hwr, hln⟩ := FT rfl
    have HK : Hid (∀ w', Below w4.heap.size w4 w' → (w'.cell? ⟨w1.heap.size, 0, none⟩ = some (.int .i64 d.tag) ∧ w'.cell? ⟨w1.heap.size, 1, none⟩ = some (.int .i64 d.num) ∧ w'.cell? ⟨w2.heap.size, 0, none⟩ = some (.int .i64 X.tag) ∧ w'.cell? ⟨w2.heap.size, 1, none⟩ = some (.int .i64 X.num))) := fun w' h => by
      obtain ⟨p0, p1⟩ := two_keep y4 y5 h
      obtain ⟨p2, p3⟩ := two_keep z4 z5 h
      exact ⟨p0, p1, p2, p3⟩
    have KC : Hid (∀ w', Below w4.heap.size w4 w' → Cells w' (· < w'.heap.size) C (.slice ra C.length rcap)) := fun w' h => own_cells (ow_keep hO4 h)
    have Kc : Hid (∀ w', Below w4.heap.size w4 w' → Cells w' (· < w'.heap.size) cs (.slice ca cs.length ccap)) := fun w' h => hC4.keep h h.size
    have Kt : Hid (∀ w', Below w4.heap.size w4 w' → Cells w' (· < w'.heap.size) tl (.slice ta tl.length tcap)) := fun w' h => hL4.keep h h.size
    have KP : Hid (∀ w', Below w4.heap.size w4 w' → PowTab w') := fun w' h => hT4.keep h
    have hD : Below w4.heap.size w4 w4.drew := (Below.refl _ _).drew
    have hti : (tl.length : Int) ≤ (rcap : Int) := by omega
    have hrl := @into_len cs tl d hcl htl
    have hre : (reachM cs [d]).length ≤ 137 := by omega
    have HN : Hid ((C.length : Int) = (tl.length : Int) + ((reachM cs [d]).length : Int)) := by show (_ : Int) = _; omega
    clear hln hrl
    clear hO4 hC4 hL4 hT4 FT FF
    go_upto_region 10 with fail
    go_region_held3 (fun w' => w'.cell? ⟨w1.heap.size, 0, none⟩ = some (.int .i64 d.tag) ∧ w'.cell? ⟨w1.heap.size, 1, none⟩ = some (.int .i64 d.num) ∧ w'.cell? ⟨w2.heap.size, 0, none⟩ = some (.int .i64 X.tag) ∧ w'.cell? ⟨w2.heap.size, 1, none⟩ = some (.int .i64 X.num)) (first | exact HK.out _ hE9 | exact HK.out _ hE8 | exact HK.out _ hE7 | exact HK.out _ hE6 | exact HK.out _ hE5 | exact ⟨y4, y5, z4, z5⟩ | exact HK.out _ hD | go_keep) (first
      | (go_at_call 8; refine (impl_HeapOk C (by omega) _ _ (KC.out _ hD)).mono ?_; rintro e w5 ⟨rfl, hb5⟩; rw [hh]; have hE5 : Below w4.heap.size w4 w5 := hc_next hD hb5)
      | (go_at_call 7; refine (law_enCells tl (by omega) _ _ _ _ _ (row_take (KC.out _ hE5) htk rfl) (Kt.out _ hE5)).mono ?_; rintro e w6 ⟨rfl, hb6⟩; have hE6 : Below w4.heap.size w4 w6 := hc_next hE5 hb6)
      | (go_at_call_of 9 X.tag; refine (impl_HeapText C (by omega) _ X.tag X.num _ (KC.out _ hE6) (KP.out _ hE6)).mono ?_; rintro e w7 ⟨rfl, hb7⟩; rw [hwr]; have hE7 : Below w4.heap.size w4 w7 := hc_next hE6 hb7)
      | (go_at_call_of 9 d.tag; refine (impl_HeapText cs (by omega) _ d.tag d.num _ (Kc.out _ hE7) (KP.out _ hE7)).mono ?_; rintro e w8 ⟨rfl, hb8⟩; have hE8 : Below w4.heap.size w4 w8 := hc_next hE7 hb8)
      | (go_at_call 10; refine (impl_HeapReach cs (by omega) [d] (by simp) _ _ _ (Kc.out _ (hc_next hE8 (below_new _ _))) ((words_lit w8 d).same fun _ hb => ⟨rfl, by subst hb; simp⟩)).mono ?_; rintro e w9 ⟨v9, rfl, hO9, hb9⟩; have hE9 : Below w4.heap.size w4 w9 := hc_next (hc_next hE8 (below_new _ _)) hb9; (obtain ⟨a9, cap9, rfl⟩ := own_slice hO9)))
    have hE : ((C.length : Int) == IntKind.i64.wrap ((tl.length : Int) + ((reachM cs [d]).length : Int))) = true := by
      rw [wr64 _ (by omega) (by omega), HN.out]
      exact beq_self_eq_true _
    have HE : Hid (((C.length : Int) == IntKind.i64.wrap ((tl.length : Int) + ((reachM cs [d]).length : Int))) = true) := hE
    clear hE
    go_wp2_with fail
    go_ret
    exact ⟨congrArg (fun b => Ending.returned (.bool b)) HE.out, hc_next hB4 hE9⟩
end Go.Proofs.YtaeankokigmjaaaDoor
