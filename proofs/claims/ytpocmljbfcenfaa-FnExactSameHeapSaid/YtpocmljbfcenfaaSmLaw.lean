/-
  The law of SameHeap.
-/
import Derived.Test.YtpocmljbfcenfaaCeRow
import Derived.Test.YtpocmljbfcenfaaPmTop
import Derived.Test.YtpocmljbfcenfaaSmTop
import Derived.Test.YtpocmljbfcenfaaCeLeft
import Derived.Deep.RegionHeld3
import Derived.Deep.Cut
namespace Go.Proofs.Ytpocmljbfcenfaa
open Go.RowKit

theorem sl_lt {w : World} {B : Nat} {cs : List Ce} {v : Value} (h : Cells w (fun b => B ≤ b ∧ b < w.heap.size) cs v) : Cells w (· < w.heap.size) cs v := h.same fun _ hb => ⟨rfl, hb.2⟩
abbrev lwBox (d : Wd) : Obj := .cells #[.int .i64 d.tag, .int .i64 d.num] 24
theorem sl_boxes {w : World} {d u : Wd} {xa ya : Option Addr} {xcap ycap : Nat} {x y : List Ce} (hvx : Cells w (· < w.heap.size) x (.slice xa x.length xcap)) (hvy : Cells w (· < w.heap.size) y (.slice ya y.length ycap)) (w' : World)
    (h : Below ((w.alloc (lwBox d)).alloc (lwBox u)).heap.size ((w.alloc (lwBox d)).alloc (lwBox u)) w') :
    ((w'.cell? ⟨w.heap.size, 0, none⟩ = some (.int .i64 d.tag) ∧ w'.cell? ⟨w.heap.size, 1, none⟩ = some (.int .i64 d.num)) ∧ (w'.cell? ⟨w.heap.size + 1, 0, none⟩ = some (.int .i64 u.tag) ∧ w'.cell? ⟨w.heap.size + 1, 1, none⟩ = some (.int .i64 u.num))) ∧ (Cells w' (· < w'.heap.size) x (.slice xa x.length xcap) ∧ Cells w' (· < w'.heap.size) y (.slice ya y.length ycap)) ∧ Below w.heap.size w w' := by
  have hz : (w.alloc (lwBox d)).heap.size = w.heap.size + 1 := World.size_alloc w _
  have hz2 : ((w.alloc (lwBox d)).alloc (lwBox u)).heap.size = w.heap.size + 1 + 1 := by rw [World.size_alloc, hz]
  have hb := sm_two w (lwBox d) (lwBox u)
  have hbw := hc_next hb h
  have h1 : w'.heap[w.heap.size]? = some (lwBox d) := (h.block _ (by omega)).trans (((bt_sm (w.alloc (lwBox d)) (lwBox u)).block w.heap.size (by omega)).trans (heap_alloc_new w _))
  have h2 : w'.heap[w.heap.size + 1]? = some (lwBox u) := (h.block _ (by omega)).trans (by have := heap_alloc_new (w.alloc (lwBox d)) (lwBox u); rw [hz] at this; exact this)
  exact ⟨⟨⟨cell_of_row _ _ 0 _ _ _ h1, cell_of_row _ _ 1 _ _ _ h1⟩, ⟨cell_of_row _ _ 0 _ _ _ h2, cell_of_row _ _ 1 _ _ _ h2⟩⟩, ⟨hvx.keep hbw hbw.size, hvy.keep hbw hbw.size⟩, hbw⟩

set_option maxRecDepth 100000 in
set_option maxHeartbeats 4000000 in
theorem law_SameHeap (x y : List Ce) (hlx : x.length ≤ maxLen) (hly : y.length ≤ maxLen) (d u : Wd) (w : World) (vx vy : Value) (hvx : Cells w (· < w.heap.size) x vx) (hvy : Cells w (· < w.heap.size) y vy) :
    Calls Try.prog 3 #[vx, .agg #[.int .i64 d.tag, .int .i64 d.num], vy, .agg #[.int .i64 u.tag, .int .i64 u.num]] w fun r w' => r = .returned (.bool true) ∧ Below w.heap.size w w' := by
  obtain ⟨xa, xcap, rfl⟩ := hvx.slice
  obtain ⟨ya, ycap, rfl⟩ := hvy.slice
  have hK : Hid (∀ w', Below ((w.alloc (lwBox d)).alloc (lwBox u)).heap.size ((w.alloc (lwBox d)).alloc (lwBox u)) w' → ((w'.cell? ⟨w.heap.size, 0, none⟩ = some (.int .i64 d.tag) ∧ w'.cell? ⟨w.heap.size, 1, none⟩ = some (.int .i64 d.num)) ∧ (w'.cell? ⟨w.heap.size + 1, 0, none⟩ = some (.int .i64 u.tag) ∧ w'.cell? ⟨w.heap.size + 1, 1, none⟩ = some (.int .i64 u.num))) ∧ (Cells w' (· < w'.heap.size) x (.slice xa x.length xcap) ∧ Cells w' (· < w'.heap.size) y (.slice ya y.length ycap)) ∧ Below w.heap.size w w') := sl_boxes hvx hvy
  clear hvx hvy
  go_enter Try.func3, Try.ntmps3
  go_upto_region 1 with fail
  change Code.wp _ _ _ _ ((w.alloc (lwBox d)).alloc (lwBox u))
  generalize (w.alloc (lwBox d)).alloc (lwBox u) = W0 at *
  have hr0 : Below W0.heap.size W0 W0 := Below.refl _ _
  go_upto_region 5 with (go_at_call_of 4 xcap; refine (law_szCellL x hlx _ xa xcap 1048576 (by omega)).mono ?_; rintro r w2 ⟨⟨n, rfl, hn1, hn2⟩, hww⟩; have hw2 := hww.symm; clear hww; subst hw2; have hwee : Hid (0 ≤ n → x.length ≤ 1048576) := hn2; clear hn2)
  · go_ret
    exact ⟨rfl, (hK.out _ hr0).2.2⟩
  have hl := hwee.out (by omega)
  clear hwee
  obtain ⟨n', rfl⟩ : ∃ n' : Nat, n = (n' : Int) := ⟨n.toNat, by omega⟩
  have hszo := fun w => law_szCellL y hly w ya ycap n' (by omega)
  go_upto_region 8 with (go_at_call_of 4 ycap; refine (hszo _).mono ?_; rintro r w2 ⟨⟨m, rfl, hm1, hm2⟩, hww⟩; have hw2 := hww.symm; clear hww; subst hw2; have hwee : Hid (0 ≤ m → y.length ≤ n') := hm2; clear hm2)
  · go_ret
    exact ⟨rfl, (hK.out _ hr0).2.2⟩
  have htl : y.length ≤ 1048576 := by have := hwee.out (by omega); omega
  clear hwee hszo
  obtain ⟨B, hB⟩ : ∃ B : Bool, (B = true ↔ Whole x y d u) := by
    by_cases h : Whole x y d u
    · exact ⟨true, fun _ => h, fun _ => rfl⟩
    · exact ⟨false, fun e => (by cases e), fun e => absurd e h⟩
  have hS := fun w' v1 v2 h1 h2 => (spec_SameHeap x y hl htl d u v1 v2 w' h1 h2).mono (R' := fun r w'' => r = .returned (.bool B) ∧ Below w'.heap.size w' w'') (by
    rintro r w'' ⟨b, rfl, hb, hbb⟩
    exact ⟨by rw [Bool.eq_iff_iff.2 (hb.trans hB.symm)], hbb⟩)
  have hI := fun w' v1 v2 h1 h2 => (impl_SameHeap x y hl htl d u v1 v2 w' h1 h2).mono (R' := fun r w'' => r = .returned (.bool B) ∧ Below w'.heap.size w' w'') (by
    rintro r w'' ⟨b, rfl, hb, hbb⟩
    exact ⟨by rw [Bool.eq_iff_iff.2 (hb.trans hB.symm)], hbb⟩)
  clear hB
  have hD0 : Below W0.heap.size W0 W0.drew := hr0.drew
  go_region_held3 (fun w' => (w'.cell? ⟨w.heap.size, 0, none⟩ = some (.int .i64 d.tag) ∧ w'.cell? ⟨w.heap.size, 1, none⟩ = some (.int .i64 d.num)) ∧ (w'.cell? ⟨w.heap.size + 1, 0, none⟩ = some (.int .i64 u.tag) ∧ w'.cell? ⟨w.heap.size + 1, 1, none⟩ = some (.int .i64 u.num)))
    (first | exact (hK.out _ hc5).1 | exact (hK.out _ hc4).1 | exact (hK.out _ hc3).1 | exact (hK.out _ hc2).1 | exact (hK.out _ hc1).1 | exact (hK.out _ hD0).1 | exact (hK.out _ hr0).1)
    (first
      | (go_at_call_of 6 xcap; refine (law_toCellS x hl _ _ (hK.out _ hD0).2.1.1).mono ?_; rintro e w1 ⟨v1, rfl, h1, hb1⟩; obtain ⟨a1, cap1, rfl⟩ := h1.slice; have hc1 := hc_next hD0 hb1)
      | (go_at_call_of 7 d; refine (law_toWord d.tag d.num _).mono ?_; rintro e w2 ⟨rfl, hb2⟩; have hc2 := hc_next hc1 hb2; have h12 := (sl_lt h1).keep hb2 hb2.size)
      | (go_at_call_of 6 ycap; refine (law_toCellS y htl _ _ (hK.out _ hc2).2.1.2).mono ?_; rintro e w3 ⟨v3, rfl, h3, hb3⟩; obtain ⟨a3, cap3, rfl⟩ := h3.slice; have hc3 := hc_next hc2 hb3; have h13 := h12.keep hb3 hb3.size)
      | (go_at_call_of 7 u; refine (law_toWord u.tag u.num _).mono ?_; rintro e w4 ⟨rfl, hb4⟩; have hc4 := hc_next hc3 hb4; have h14 := h13.keep hb4 hb4.size; have h34 := (sl_lt h3).keep hb4 hb4.size)
      | (go_at_call 5; refine (hS _ _ _ h14 h34).mono ?_; rintro e w5 ⟨rfl, hb5⟩; have hc5 := hc_next hc4 hb5))
  clear h1 h3 h12 h13 h14 h34 hc1 hc2 hc3 hc4 hb1 hb2 hb3 hb4 hb5 hD0 hr0 hS
  go_upto_region 11 with (first
    | (go_at_call_of 6 xcap; refine (law_toCellS x hl _ _ (hK.out _ hc5).2.1.1).mono ?_; rintro e w6 ⟨v6, rfl, h6, hb6⟩; obtain ⟨a6, cap6, rfl⟩ := h6.slice; have hc6 := hc_next hc5 hb6)
    | (go_at_call_of 6 ycap; refine (law_toCellS y htl _ _ (hK.out _ hc6).2.1.2).mono ?_; rintro e w7 ⟨v7, rfl, h7, hb7⟩; obtain ⟨a7, cap7, rfl⟩ := h7.slice; have hc7 := hc_next hc6 hb7; have h67 := (sl_lt h6).keep hb7 hb7.size))
  have hD7 : Below W0.heap.size W0 w7.drew := hc7.drew
  have hR7 : Below w7.heap.size w7 w7.drew := (Below.refl _ _).drew
  go_region_held3 (fun w' => (w'.cell? ⟨w.heap.size, 0, none⟩ = some (.int .i64 d.tag) ∧ w'.cell? ⟨w.heap.size, 1, none⟩ = some (.int .i64 d.num)) ∧ (w'.cell? ⟨w.heap.size + 1, 0, none⟩ = some (.int .i64 u.tag) ∧ w'.cell? ⟨w.heap.size + 1, 1, none⟩ = some (.int .i64 u.num)))
    (first | exact (hK.out _ hc10).1 | exact (hK.out _ hc9).1 | exact (hK.out _ hc8).1 | exact (hK.out _ hD7).1 | exact (hK.out _ hc7).1)
    (first
      | (go_at_call_of 7 d; refine (law_toWord d.tag d.num _).mono ?_; rintro e w8 ⟨rfl, hb8⟩; have hc8 := hc_next hD7 hb8; have hw8 := hc_next hR7 hb8; have h68 := h67.keep hw8 hw8.size; have h78 := (sl_lt h7).keep hw8 hw8.size)
      | (go_at_call_of 7 u; refine (law_toWord u.tag u.num _).mono ?_; rintro e w9 ⟨rfl, hb9⟩; have hc9 := hc_next hc8 hb9; have h69 := h68.keep hb9 hb9.size; have h79 := h78.keep hb9 hb9.size)
      | (go_at_call 8; refine (hI _ _ _ h69 h79).mono ?_; rintro e w10 ⟨rfl, hb10⟩; have hc10 := hc_next hc9 hb10; have h610 := h69.keep hb10 hb10.size; have h710 := h79.keep hb10 hb10.size))
  clear h6 h7 h67 h68 h78 h69 h79 hc5 hc6 hc7 hc8 hc9 hD7 hR7 hb6 hb7 hb8 hb9 hb10 hw8 hI
  go_wp2_with (first
    | (go_at_call_of 6 xcap; refine (law_toCellS x hl _ _ (hK.out _ hc10).2.1.1).mono ?_; rintro e w11 ⟨v11, rfl, h11, hb11⟩; have hc11 := hc_next hc10 hb11)
    | (go_at_call_of 9 cap6; refine (law_eqCellS x hl _ _ _ (h610.keep hb11 hb11.size) (sl_lt h11)).mono ?_; rintro e w12 ⟨rfl, hb12⟩; have hc12 := hc_next hc11 hb12; have hx12 := hc_next hb11 hb12)
    | (go_at_call_of 6 ycap; refine (law_toCellS y htl _ _ (hK.out _ hc12).2.1.2).mono ?_; rintro e w13 ⟨v13, rfl, h13, hb13⟩; have hc13 := hc_next hc12 hb13; have hx13 := hc_next hx12 hb13)
    | (go_at_call_of 9 cap7; refine (law_eqCellS y htl _ _ _ (h710.keep hx13 hx13.size) (sl_lt h13)).mono ?_; rintro e w14 ⟨rfl, hb14⟩; have hc14 := hc_next hc13 hb14))
  go_ret
  exact ⟨rfl, (hK.out _ hc14).2.2⟩
end Go.Proofs.Ytpocmljbfcenfaa
